/-
  The law FnTimesOf, in company (written by ch5laws.py).
-/
import Derived.Test.YtlglokbakmbpdaaPtL
import Derived.Test.YtlglokbakmbpdaaPtD
import Derived.Test.YtlglokbakmbpdaaPdL
import Derived.Test.YtlglokbakmbpdaaPtF2
import Derived.Test.YtlglokbakmbpdaaDraw5
import Derived.Test.YtlglokbakmbpdaaT1
namespace Go.Proofs.Ytlglokbakmbpdaa
open Go Go.Conc Go.RowKit
set_option linter.unusedVariables false

theorem drawTimesOf_b (v : Value) (n : Nat) (w : World) (h : RdB w v n) : BCalls Try.prog 11 #[v] w (BDrew2 3 w) :=
  bcalls_of_calls noinit (callees [11, 43, 44, 48, 64, 49] (by kernel_rfl)) Try.func11 rfl (by kernel_rfl) (by kernel_rfl) (fun w r w' => BDrew2 3 w r w') (bdrew2_blind _)
    fun τ d => (drawTimesOf_any v n (reT w τ d) h).mono fun e w' ⟨u, v, xs, ys, h1, h2⟩ => ⟨_, h1, u, v, xs, ys, rfl, h2⟩

set_option maxRecDepth 100000 in
set_option maxHeartbeats 40000000 in
theorem lawTimesOf_b (v : Value) (n : Nat) (w : World) (h : RdB w v n) :
    BCalls Try.prog 3 #[v] w (BSays true w) := by
  intro cs
  have h0 := h
  obtain ⟨ca, cap, hv, h2, -, -⟩ := h0
  rw [enter_at _ Try.func3 rfl]
  simp only [Try.f3, List.size_toArray, List.length_cons, List.length_nil, Nat.reduceAdd, Nat.reduceSub, Array.replicate_succ, Array.replicate_zero, List.push_toArray, List.append_toArray, List.nil_append, List.cons_append]
  have hF : Sm w w := Sm.refl w
  subst hv
  by_cases hb1 : n ≤ 1048576
  · have i1 : ¬ ((1048576 : Int) < (n : Int)) := by omega
    have bb := Below.refl w.heap.size w
    refine beside_by (n := 400) ?_
    repeat (first | a_ctl hF Sm.trans D0.nil | (refine Goes.step rfl (fun _ h₁ => ?_); replace hF := Sm.trans hF h₁; clear h₁; refine goes_oper_k rfl rfl (by decide) (fun K hK => ?_); go_simp; refine hK _ _ ⟨still_listed rfl, ?_⟩; clear hK K) | (refine Goes.step rfl (fun _ h₁ => ?_); rw [stepG_unwanted rfl rfl]; simp only [goes_go]; refine ⟨D0.nil, ?_⟩; replace hF := Sm.trans hF h₁; clear h₁; walk_nrm))
    a_cond false hF Sm.trans D0.nil
    refine Goes.stop fun w₁ h₁ => ?_
    replace hF := Sm.trans hF h₁
    clear h₁
    refine beside_by (n := 400) ?_
    repeat (first | a_ctl hF Sm.trans D0.nil | (refine Goes.step rfl (fun _ h₁ => ?_); replace hF := Sm.trans hF h₁; clear h₁; refine goes_oper_k rfl rfl (by decide) (fun K hK => ?_); go_simp; refine hK _ _ ⟨still_listed rfl, ?_⟩; clear hK K) | (refine Goes.step rfl (fun _ h₁ => ?_); rw [stepG_unwanted rfl rfl]; simp only [goes_go]; refine ⟨D0.nil, ?_⟩; replace hF := Sm.trans hF h₁; clear h₁; walk_nrm))
    refine Goes.stop fun w₁ h₁ => ?_
    replace hF := Sm.trans hF h₁
    clear h₁
    refine beside_call rfl rfl (by decide) rfl Try.func11 rfl rfl (by kernel_rfl) (show _ = (#[.slice ca n cap] : Array Value) from by walk_nrm) (fun d => bdrew2_sm (hF.trans ⟨d, rfl⟩) (drawTimesOf_b _ n _ (h.sm (hF.trans ⟨d, rfl⟩)))) ?_
    rintro r w1 ⟨u1, u2, xs, ys, rfl, oa, ob, hl1, hl2, hw1, hw2, b1⟩
    clear hF
    have bb := b1
    have ra := oa.rd
    have rb := ob.rd
    clear oa ob hw1 hw2 b1 h
    have hm1 := Own.max64 hl1
    have hm2 := Own.max64 hl2
    have hb1 : xs.length ≤ 1048576 := by omega
    have hb2 : ys.length ≤ 1048576 := by omega
    obtain ⟨zs, hz⟩ : ∃ zs, zs = timF xs ys := ⟨_, rfl⟩
    have HY := Lib.hid hz
    have hzl : zs.length ≤ 64 := by rw [hz]; exact timF_len64 xs ys
    have hzm := Own.max64 hzl
    have hzb : zs.length ≤ 1048576 := by omega
    clear hz
    have hF := Sm.refl w1
    walk_nrm
    refine beside_by (n := 400) ?_
    repeat (first | a_ctl hF Sm.trans D0.nil | (refine Goes.step rfl (fun _ h₁ => ?_); replace hF := Sm.trans hF h₁; clear h₁; refine goes_oper_k rfl rfl (by decide) (fun K hK => ?_); go_simp; refine hK _ _ ⟨still_listed rfl, ?_⟩; clear hK K) | (refine Goes.step rfl (fun _ h₁ => ?_); rw [stepG_unwanted rfl rfl]; simp only [goes_go]; refine ⟨D0.nil, ?_⟩; replace hF := Sm.trans hF h₁; clear h₁; walk_nrm))
    refine Goes.stop fun w₁ h₁ => ?_
    replace hF := Sm.trans hF h₁
    clear h₁
    refine beside_call rfl rfl (by decide) rfl Try.func12 rfl rfl (by kernel_rfl) (show _ = (#[u1, u2] : Array Value) from by walk_nrm) (fun d => bmade_sm (hF.trans ⟨d, rfl⟩) (implTimesOf_b _ _ xs ys _ (ra.sm (hF.trans ⟨d, rfl⟩)) (rb.sm (hF.trans ⟨d, rfl⟩)) hb1 hb2)) ?_
    rintro v1 w2 ⟨ov1, b2⟩
    clear hF
    have ra := ra.below b2 (Nat.le_refl _)
    have rb := rb.below b2 (Nat.le_refl _)
    have bb := bel_nxt bb b2
    have rv1 := ov1.rd
    clear ov1
    have hF := Sm.refl w2
    walk_nrm
    rw [← HY.out] at rv1
    refine beside_by (n := 400) ?_
    repeat (first | a_ctl hF Sm.trans D0.nil | (refine Goes.step rfl (fun _ h₁ => ?_); replace hF := Sm.trans hF h₁; clear h₁; refine goes_oper_k rfl rfl (by decide) (fun K hK => ?_); go_simp; refine hK _ _ ⟨still_listed rfl, ?_⟩; clear hK K) | (refine Goes.step rfl (fun _ h₁ => ?_); rw [stepG_unwanted rfl rfl]; simp only [goes_go]; refine ⟨D0.nil, ?_⟩; replace hF := Sm.trans hF h₁; clear h₁; walk_nrm))
    refine Goes.stop fun w₁ h₁ => ?_
    replace hF := Sm.trans hF h₁
    clear h₁
    refine beside_call rfl rfl (by decide) rfl Try.func14 rfl rfl (by kernel_rfl) (show _ = (#[u1, u2] : Array Value) from by walk_nrm) (fun d => bmade_sm (hF.trans ⟨d, rfl⟩) (specTimesOf_b _ _ xs ys _ (ra.sm (hF.trans ⟨d, rfl⟩)) (rb.sm (hF.trans ⟨d, rfl⟩)) hm1 hm2)) ?_
    rintro v2 w3 ⟨ov2, b3⟩
    clear hF
    have ra := ra.below b3 (Nat.le_refl _)
    have rb := rb.below b3 (Nat.le_refl _)
    have rv1 := rv1.below b3 (Nat.le_refl _)
    have bb := bel_nxt bb b3
    have rv2 := ov2.rd
    clear ov2
    have hF := Sm.refl w3
    walk_nrm
    rw [← HY.out] at rv2
    refine beside_by (n := 400) ?_
    repeat (first | a_ctl hF Sm.trans D0.nil | (refine Goes.step rfl (fun _ h₁ => ?_); replace hF := Sm.trans hF h₁; clear h₁; refine goes_oper_k rfl rfl (by decide) (fun K hK => ?_); go_simp; refine hK _ _ ⟨still_listed rfl, ?_⟩; clear hK K) | (refine Goes.step rfl (fun _ h₁ => ?_); rw [stepG_unwanted rfl rfl]; simp only [goes_go]; refine ⟨D0.nil, ?_⟩; replace hF := Sm.trans hF h₁; clear h₁; walk_nrm))
    refine Goes.stop fun w₁ h₁ => ?_
    replace hF := Sm.trans hF h₁
    clear h₁
    refine beside_call rfl rfl (by decide) rfl Try.func13 rfl rfl (by kernel_rfl) (show _ = (#[v1, v2] : Array Value) from by walk_nrm) (fun d => bsays_sm (hF.trans ⟨d, rfl⟩) (equalInts_b _ _ zs zs _ (rv1.sm (hF.trans ⟨d, rfl⟩)) (rv2.sm (hF.trans ⟨d, rfl⟩)) hzm hzm)) ?_
    rintro r w4 ⟨rfl, b4⟩
    clear hF
    have ra := ra.below b4 (Nat.le_refl _)
    have rb := rb.below b4 (Nat.le_refl _)
    have rv1 := rv1.below b4 (Nat.le_refl _)
    have rv2 := rv2.below b4 (Nat.le_refl _)
    have bb := bel_nxt bb b4
    have hF := Sm.refl w4
    walk_nrm
    rw [eqB_self]
    obtain ⟨a1, c1, hv1, -⟩ := id rv1
    obtain ⟨a2, c2, hv2, -⟩ := id ra
    obtain ⟨a3, c3, hv3, -⟩ := id rb
    subst hv1 hv2 hv3
    by_cases hz0 : zs.length = 0
    · rw [hz0] at rv1
      rw [hz0]
      clear hz0 hzl hzb
      refine beside_by (n := 400) ?_
      repeat (first | a_ctl hF Sm.trans D0.nil | (refine Goes.step rfl (fun _ h₁ => ?_); replace hF := Sm.trans hF h₁; clear h₁; refine goes_oper_k rfl rfl (by decide) (fun K hK => ?_); go_simp; refine hK _ _ ⟨still_listed rfl, ?_⟩; clear hK K) | (refine Goes.step rfl (fun _ h₁ => ?_); rw [stepG_unwanted rfl rfl]; simp only [goes_go]; refine ⟨D0.nil, ?_⟩; replace hF := Sm.trans hF h₁; clear h₁; walk_nrm))
      a_cond true hF Sm.trans D0.nil
      refine Goes.stop fun w₁ h₁ => ?_
      replace hF := Sm.trans hF h₁
      clear h₁
      refine beside_by (n := 400) ?_
      repeat (first | a_ctl hF Sm.trans D0.nil | (refine Goes.step rfl (fun _ h₁ => ?_); replace hF := Sm.trans hF h₁; clear h₁; refine goes_oper_k rfl rfl (by decide) (fun K hK => ?_); go_simp; refine hK _ _ ⟨still_listed rfl, ?_⟩; clear hK K) | (refine Goes.step rfl (fun _ h₁ => ?_); rw [stepG_unwanted rfl rfl]; simp only [goes_go]; refine ⟨D0.nil, ?_⟩; replace hF := Sm.trans hF h₁; clear h₁; walk_nrm))
      refine Goes.stop fun w₁ h₁ => ?_
      replace hF := Sm.trans hF h₁
      clear h₁
      refine beside_call rfl rfl (by decide) rfl Try.func14 rfl rfl (by kernel_rfl) (show _ = (#[.slice a2 xs.length c2, .slice a3 ys.length c3] : Array Value) from by walk_nrm) (fun d => bmade_sm (hF.trans ⟨d, rfl⟩) (specTimesOf_b _ _ xs ys _ (ra.sm (hF.trans ⟨d, rfl⟩)) (rb.sm (hF.trans ⟨d, rfl⟩)) hm1 hm2)) ?_
      rintro v3 w5 ⟨ov3, b5⟩
      clear hF
      have ra := ra.below b5 (Nat.le_refl _)
      have rb := rb.below b5 (Nat.le_refl _)
      have rv1 := rv1.below b5 (Nat.le_refl _)
      have rv2 := rv2.below b5 (Nat.le_refl _)
      have bb := bel_nxt bb b5
      have rv3 := ov3.rd
      clear ov3
      have hF := Sm.refl w5
      walk_nrm
      rw [← HY.out] at rv3
      refine beside_by (n := 400) ?_
      repeat (first | a_ctl hF Sm.trans D0.nil | (refine Goes.step rfl (fun _ h₁ => ?_); replace hF := Sm.trans hF h₁; clear h₁; refine goes_oper_k rfl rfl (by decide) (fun K hK => ?_); go_simp; refine hK _ _ ⟨still_listed rfl, ?_⟩; clear hK K) | (refine Goes.step rfl (fun _ h₁ => ?_); rw [stepG_unwanted rfl rfl]; simp only [goes_go]; refine ⟨D0.nil, ?_⟩; replace hF := Sm.trans hF h₁; clear h₁; walk_nrm))
      refine Goes.stop fun w₁ h₁ => ?_
      replace hF := Sm.trans hF h₁
      clear h₁
      refine beside_call rfl rfl (by decide) rfl Try.func13 rfl rfl (by kernel_rfl) (show _ = (#[.slice a1 0 c1, v3] : Array Value) from by walk_nrm) (fun d => bsays_sm (hF.trans ⟨d, rfl⟩) (equalInts_b _ _ zs zs _ (rv1.sm (hF.trans ⟨d, rfl⟩)) (rv3.sm (hF.trans ⟨d, rfl⟩)) hzm hzm)) ?_
      rintro r w6 ⟨rfl, b6⟩
      clear hF
      have ra := ra.below b6 (Nat.le_refl _)
      have rb := rb.below b6 (Nat.le_refl _)
      have rv1 := rv1.below b6 (Nat.le_refl _)
      have rv2 := rv2.below b6 (Nat.le_refl _)
      have rv3 := rv3.below b6 (Nat.le_refl _)
      have bb := bel_nxt bb b6
      have hF := Sm.refl w6
      walk_nrm
      rw [eqB_self]
      refine beside_by (n := 400) ?_
      repeat (first | a_ctl hF Sm.trans D0.nil | (refine Goes.step rfl (fun _ h₁ => ?_); replace hF := Sm.trans hF h₁; clear h₁; refine goes_oper_k rfl rfl (by decide) (fun K hK => ?_); go_simp; refine hK _ _ ⟨still_listed rfl, ?_⟩; clear hK K) | (refine Goes.step rfl (fun _ h₁ => ?_); rw [stepG_unwanted rfl rfl]; simp only [goes_go]; refine ⟨D0.nil, ?_⟩; replace hF := Sm.trans hF h₁; clear h₁; walk_nrm))
      refine Goes.step rfl (fun _ h₁ => ?_)
      rw [stepG_ret']
      simp only [goes_go]
      refine ⟨D0.nil, ?_⟩
      refine Goes.stop fun w₁ h₂ => .at0 fun d => ?_
      have hF := (Sm.trans hF h₁).trans (h₂.trans ⟨d, rfl⟩)
      exact leave1 Try.func3 rfl (R := BSays true w) ⟨rfl, bb.sm hF⟩
    · have i5 : ((zs.length : Int) == 0) = false := by rw [beq_eq_false_iff_ne]; omega
      have hz1 : (timF xs ys).length ≠ 0 := by rw [← HY.out]; exact hz0
      have HYS : Hid (zs = timF ys xs) := Lib.hid (by rw [tim_sym]; exact HY.out)
      have HYT : Hid (turnedL zs = timF (turnedL xs) (turnedL ys)) := Lib.hid (by rw [tim_turned hz1, HY.out])
      obtain ⟨_, _, n1, n2, hen⟩ := tim_some hz1
      have htot := tim_total hz1
      rw [← HY.out] at htot hen
      have hlen : zs.length = xs.length + ys.length - 1 := by rw [hen, len_tab]
      obtain ⟨p, hp⟩ : ∃ p, p = wrap64 (sumN (ix xs) xs.length) := ⟨_, rfl⟩
      obtain ⟨q, hq⟩ : ∃ q, q = wrap64 (sumN (ix ys) ys.length) := ⟨_, rfl⟩
      obtain ⟨z, hz⟩ : ∃ z, z = wrap64 (sumN (ix zs) zs.length) := ⟨_, rfl⟩
      have HP := Lib.hid hp
      have HQ := Lib.hid hq
      have HZ := Lib.hid hz
      have i6 : IntKind.i64.wrap (p * q) = z := by rw [hz, htot, ← hp, ← hq, IntKind.wrap_i64]; unfold wrap64; rfl
      have i7 : IntKind.i64.wrap ((xs.length : Int) + (ys.length : Int)) = (xs.length : Int) + (ys.length : Int) := IntWalk.i64_in _ (by omega)
      have i8 : IntKind.i64.wrap ((xs.length : Int) + (ys.length : Int) - 1) = (zs.length : Int) := by rw [IntWalk.i64_in _ (by omega)]; omega
      have ht1 : (turnedL xs).length ≤ 1048576 := by rw [len_turned5]; exact hb1
      have ht2 : (turnedL ys).length ≤ 1048576 := by rw [len_turned5]; exact hb2
      have ht3 : (turnedL zs).length ≤ maxLen := by rw [len_turned5]; exact hzm
      clear hp hq hz hen htot hlen n1 n2 hz0 hz1
      refine beside_by (n := 400) ?_
      repeat (first | a_ctl hF Sm.trans D0.nil | (refine Goes.step rfl (fun _ h₁ => ?_); replace hF := Sm.trans hF h₁; clear h₁; refine goes_oper_k rfl rfl (by decide) (fun K hK => ?_); go_simp; refine hK _ _ ⟨still_listed rfl, ?_⟩; clear hK K) | (refine Goes.step rfl (fun _ h₁ => ?_); rw [stepG_unwanted rfl rfl]; simp only [goes_go]; refine ⟨D0.nil, ?_⟩; replace hF := Sm.trans hF h₁; clear h₁; walk_nrm))
      a_cond false hF Sm.trans D0.nil
      refine Goes.stop fun w₁ h₁ => ?_
      replace hF := Sm.trans hF h₁
      clear h₁
      refine beside_by (n := 400) ?_
      repeat (first | a_ctl hF Sm.trans D0.nil | (refine Goes.step rfl (fun _ h₁ => ?_); replace hF := Sm.trans hF h₁; clear h₁; refine goes_oper_k rfl rfl (by decide) (fun K hK => ?_); go_simp; refine hK _ _ ⟨still_listed rfl, ?_⟩; clear hK K) | (refine Goes.step rfl (fun _ h₁ => ?_); rw [stepG_unwanted rfl rfl]; simp only [goes_go]; refine ⟨D0.nil, ?_⟩; replace hF := Sm.trans hF h₁; clear h₁; walk_nrm))
      refine Goes.stop fun w₁ h₁ => ?_
      replace hF := Sm.trans hF h₁
      clear h₁
      refine beside_call rfl rfl (by decide) rfl Try.func12 rfl rfl (by kernel_rfl) (show _ = (#[.slice a3 ys.length c3, .slice a2 xs.length c2] : Array Value) from by walk_nrm) (fun d => bmade_sm (hF.trans ⟨d, rfl⟩) (implTimesOf_b _ _ ys xs _ (rb.sm (hF.trans ⟨d, rfl⟩)) (ra.sm (hF.trans ⟨d, rfl⟩)) hb2 hb1)) ?_
      rintro v4 w5 ⟨ov4, b5⟩
      clear hF
      have ra := ra.below b5 (Nat.le_refl _)
      have rb := rb.below b5 (Nat.le_refl _)
      have rv1 := rv1.below b5 (Nat.le_refl _)
      have rv2 := rv2.below b5 (Nat.le_refl _)
      have bb := bel_nxt bb b5
      have rv4 := ov4.rd
      clear ov4
      have hF := Sm.refl w5
      walk_nrm
      rw [← HYS.out] at rv4
      refine beside_by (n := 400) ?_
      repeat (first | a_ctl hF Sm.trans D0.nil | (refine Goes.step rfl (fun _ h₁ => ?_); replace hF := Sm.trans hF h₁; clear h₁; refine goes_oper_k rfl rfl (by decide) (fun K hK => ?_); go_simp; refine hK _ _ ⟨still_listed rfl, ?_⟩; clear hK K) | (refine Goes.step rfl (fun _ h₁ => ?_); rw [stepG_unwanted rfl rfl]; simp only [goes_go]; refine ⟨D0.nil, ?_⟩; replace hF := Sm.trans hF h₁; clear h₁; walk_nrm))
      refine Goes.stop fun w₁ h₁ => ?_
      replace hF := Sm.trans hF h₁
      clear h₁
      refine beside_call rfl rfl (by decide) rfl Try.func13 rfl rfl (by kernel_rfl) (show _ = (#[v4, .slice a1 zs.length c1] : Array Value) from by walk_nrm) (fun d => bsays_sm (hF.trans ⟨d, rfl⟩) (equalInts_b _ _ zs zs _ (rv4.sm (hF.trans ⟨d, rfl⟩)) (rv1.sm (hF.trans ⟨d, rfl⟩)) hzm hzm)) ?_
      rintro r w6 ⟨rfl, b6⟩
      clear hF
      have ra := ra.below b6 (Nat.le_refl _)
      have rb := rb.below b6 (Nat.le_refl _)
      have rv1 := rv1.below b6 (Nat.le_refl _)
      have rv2 := rv2.below b6 (Nat.le_refl _)
      have rv4 := rv4.below b6 (Nat.le_refl _)
      have bb := bel_nxt bb b6
      have hF := Sm.refl w6
      walk_nrm
      rw [eqB_self]
      refine beside_by (n := 400) ?_
      repeat (first | a_ctl hF Sm.trans D0.nil | (refine Goes.step rfl (fun _ h₁ => ?_); replace hF := Sm.trans hF h₁; clear h₁; refine goes_oper_k rfl rfl (by decide) (fun K hK => ?_); go_simp; refine hK _ _ ⟨still_listed rfl, ?_⟩; clear hK K) | (refine Goes.step rfl (fun _ h₁ => ?_); rw [stepG_unwanted rfl rfl]; simp only [goes_go]; refine ⟨D0.nil, ?_⟩; replace hF := Sm.trans hF h₁; clear h₁; walk_nrm))
      refine Goes.stop fun w₁ h₁ => ?_
      replace hF := Sm.trans hF h₁
      clear h₁
      refine beside_call rfl rfl (by decide) rfl Try.func15 rfl rfl (by kernel_rfl) (show _ = (#[.slice a1 zs.length c1] : Array Value) from by walk_nrm) (fun d => btells_sm (hF.trans ⟨d, rfl⟩) (total_b _ zs _ (rv1.sm (hF.trans ⟨d, rfl⟩)) hzb)) ?_
      rintro r w7 ⟨rfl, b7⟩
      clear hF
      have ra := ra.below b7 (Nat.le_refl _)
      have rb := rb.below b7 (Nat.le_refl _)
      have rv1 := rv1.below b7 (Nat.le_refl _)
      have rv2 := rv2.below b7 (Nat.le_refl _)
      have rv4 := rv4.below b7 (Nat.le_refl _)
      have bb := bel_nxt bb b7
      have hF := Sm.refl w7
      walk_nrm
      rw [← HZ.out]
      refine beside_by (n := 400) ?_
      repeat (first | a_ctl hF Sm.trans D0.nil | (refine Goes.step rfl (fun _ h₁ => ?_); replace hF := Sm.trans hF h₁; clear h₁; refine goes_oper_k rfl rfl (by decide) (fun K hK => ?_); go_simp; refine hK _ _ ⟨still_listed rfl, ?_⟩; clear hK K) | (refine Goes.step rfl (fun _ h₁ => ?_); rw [stepG_unwanted rfl rfl]; simp only [goes_go]; refine ⟨D0.nil, ?_⟩; replace hF := Sm.trans hF h₁; clear h₁; walk_nrm))
      refine Goes.stop fun w₁ h₁ => ?_
      replace hF := Sm.trans hF h₁
      clear h₁
      refine beside_call rfl rfl (by decide) rfl Try.func15 rfl rfl (by kernel_rfl) (show _ = (#[.slice a2 xs.length c2] : Array Value) from by walk_nrm) (fun d => btells_sm (hF.trans ⟨d, rfl⟩) (total_b _ xs _ (ra.sm (hF.trans ⟨d, rfl⟩)) hb1)) ?_
      rintro r w8 ⟨rfl, b8⟩
      clear hF
      have ra := ra.below b8 (Nat.le_refl _)
      have rb := rb.below b8 (Nat.le_refl _)
      have rv1 := rv1.below b8 (Nat.le_refl _)
      have rv2 := rv2.below b8 (Nat.le_refl _)
      have rv4 := rv4.below b8 (Nat.le_refl _)
      have bb := bel_nxt bb b8
      have hF := Sm.refl w8
      walk_nrm
      rw [← HP.out]
      refine beside_by (n := 400) ?_
      repeat (first | a_ctl hF Sm.trans D0.nil | (refine Goes.step rfl (fun _ h₁ => ?_); replace hF := Sm.trans hF h₁; clear h₁; refine goes_oper_k rfl rfl (by decide) (fun K hK => ?_); go_simp; refine hK _ _ ⟨still_listed rfl, ?_⟩; clear hK K) | (refine Goes.step rfl (fun _ h₁ => ?_); rw [stepG_unwanted rfl rfl]; simp only [goes_go]; refine ⟨D0.nil, ?_⟩; replace hF := Sm.trans hF h₁; clear h₁; walk_nrm))
      refine Goes.stop fun w₁ h₁ => ?_
      replace hF := Sm.trans hF h₁
      clear h₁
      refine beside_call rfl rfl (by decide) rfl Try.func15 rfl rfl (by kernel_rfl) (show _ = (#[.slice a3 ys.length c3] : Array Value) from by walk_nrm) (fun d => btells_sm (hF.trans ⟨d, rfl⟩) (total_b _ ys _ (rb.sm (hF.trans ⟨d, rfl⟩)) hb2)) ?_
      rintro r w9 ⟨rfl, b9⟩
      clear hF
      have ra := ra.below b9 (Nat.le_refl _)
      have rb := rb.below b9 (Nat.le_refl _)
      have rv1 := rv1.below b9 (Nat.le_refl _)
      have rv2 := rv2.below b9 (Nat.le_refl _)
      have rv4 := rv4.below b9 (Nat.le_refl _)
      have bb := bel_nxt bb b9
      have hF := Sm.refl w9
      walk_nrm
      rw [← HQ.out]
      refine beside_by (n := 400) ?_
      repeat (first | a_ctl hF Sm.trans D0.nil | (refine Goes.step rfl (fun _ h₁ => ?_); replace hF := Sm.trans hF h₁; clear h₁; refine goes_oper_k rfl rfl (by decide) (fun K hK => ?_); go_simp; refine hK _ _ ⟨still_listed rfl, ?_⟩; clear hK K) | (refine Goes.step rfl (fun _ h₁ => ?_); rw [stepG_unwanted rfl rfl]; simp only [goes_go]; refine ⟨D0.nil, ?_⟩; replace hF := Sm.trans hF h₁; clear h₁; walk_nrm))
      refine Goes.stop fun w₁ h₁ => ?_
      replace hF := Sm.trans hF h₁
      clear h₁
      refine beside_call rfl rfl (by decide) rfl Try.func16 rfl rfl (by kernel_rfl) (show _ = (#[.slice a2 xs.length c2] : Array Value) from by walk_nrm) (fun d => bmade_sm (hF.trans ⟨d, rfl⟩) (turned_b _ xs _ (ra.sm (hF.trans ⟨d, rfl⟩)) hb1)) ?_
      rintro v5 w10 ⟨ov5, b10⟩
      clear hF
      have ra := ra.below b10 (Nat.le_refl _)
      have rb := rb.below b10 (Nat.le_refl _)
      have rv1 := rv1.below b10 (Nat.le_refl _)
      have rv2 := rv2.below b10 (Nat.le_refl _)
      have rv4 := rv4.below b10 (Nat.le_refl _)
      have bb := bel_nxt bb b10
      have rv5 := ov5.rd
      clear ov5
      have hF := Sm.refl w10
      walk_nrm
      refine beside_by (n := 400) ?_
      repeat (first | a_ctl hF Sm.trans D0.nil | (refine Goes.step rfl (fun _ h₁ => ?_); replace hF := Sm.trans hF h₁; clear h₁; refine goes_oper_k rfl rfl (by decide) (fun K hK => ?_); go_simp; refine hK _ _ ⟨still_listed rfl, ?_⟩; clear hK K) | (refine Goes.step rfl (fun _ h₁ => ?_); rw [stepG_unwanted rfl rfl]; simp only [goes_go]; refine ⟨D0.nil, ?_⟩; replace hF := Sm.trans hF h₁; clear h₁; walk_nrm))
      refine Goes.stop fun w₁ h₁ => ?_
      replace hF := Sm.trans hF h₁
      clear h₁
      refine beside_call rfl rfl (by decide) rfl Try.func16 rfl rfl (by kernel_rfl) (show _ = (#[.slice a3 ys.length c3] : Array Value) from by walk_nrm) (fun d => bmade_sm (hF.trans ⟨d, rfl⟩) (turned_b _ ys _ (rb.sm (hF.trans ⟨d, rfl⟩)) hb2)) ?_
      rintro v6 w11 ⟨ov6, b11⟩
      clear hF
      have ra := ra.below b11 (Nat.le_refl _)
      have rb := rb.below b11 (Nat.le_refl _)
      have rv1 := rv1.below b11 (Nat.le_refl _)
      have rv2 := rv2.below b11 (Nat.le_refl _)
      have rv4 := rv4.below b11 (Nat.le_refl _)
      have rv5 := rv5.below b11 (Nat.le_refl _)
      have bb := bel_nxt bb b11
      have rv6 := ov6.rd
      clear ov6
      have hF := Sm.refl w11
      walk_nrm
      refine beside_by (n := 400) ?_
      repeat (first | a_ctl hF Sm.trans D0.nil | (refine Goes.step rfl (fun _ h₁ => ?_); replace hF := Sm.trans hF h₁; clear h₁; refine goes_oper_k rfl rfl (by decide) (fun K hK => ?_); go_simp; refine hK _ _ ⟨still_listed rfl, ?_⟩; clear hK K) | (refine Goes.step rfl (fun _ h₁ => ?_); rw [stepG_unwanted rfl rfl]; simp only [goes_go]; refine ⟨D0.nil, ?_⟩; replace hF := Sm.trans hF h₁; clear h₁; walk_nrm))
      refine Goes.stop fun w₁ h₁ => ?_
      replace hF := Sm.trans hF h₁
      clear h₁
      refine beside_call rfl rfl (by decide) rfl Try.func12 rfl rfl (by kernel_rfl) (show _ = (#[v5, v6] : Array Value) from by walk_nrm) (fun d => bmade_sm (hF.trans ⟨d, rfl⟩) (implTimesOf_b _ _ (turnedL xs) (turnedL ys) _ (rv5.sm (hF.trans ⟨d, rfl⟩)) (rv6.sm (hF.trans ⟨d, rfl⟩)) ht1 ht2)) ?_
      rintro v7 w12 ⟨ov7, b12⟩
      clear hF
      have ra := ra.below b12 (Nat.le_refl _)
      have rb := rb.below b12 (Nat.le_refl _)
      have rv1 := rv1.below b12 (Nat.le_refl _)
      have rv2 := rv2.below b12 (Nat.le_refl _)
      have rv4 := rv4.below b12 (Nat.le_refl _)
      have rv5 := rv5.below b12 (Nat.le_refl _)
      have rv6 := rv6.below b12 (Nat.le_refl _)
      have bb := bel_nxt bb b12
      have rv7 := ov7.rd
      clear ov7
      have hF := Sm.refl w12
      walk_nrm
      rw [← HYT.out] at rv7
      refine beside_by (n := 400) ?_
      repeat (first | a_ctl hF Sm.trans D0.nil | (refine Goes.step rfl (fun _ h₁ => ?_); replace hF := Sm.trans hF h₁; clear h₁; refine goes_oper_k rfl rfl (by decide) (fun K hK => ?_); go_simp; refine hK _ _ ⟨still_listed rfl, ?_⟩; clear hK K) | (refine Goes.step rfl (fun _ h₁ => ?_); rw [stepG_unwanted rfl rfl]; simp only [goes_go]; refine ⟨D0.nil, ?_⟩; replace hF := Sm.trans hF h₁; clear h₁; walk_nrm))
      refine Goes.stop fun w₁ h₁ => ?_
      replace hF := Sm.trans hF h₁
      clear h₁
      refine beside_call rfl rfl (by decide) rfl Try.func16 rfl rfl (by kernel_rfl) (show _ = (#[.slice a1 zs.length c1] : Array Value) from by walk_nrm) (fun d => bmade_sm (hF.trans ⟨d, rfl⟩) (turned_b _ zs _ (rv1.sm (hF.trans ⟨d, rfl⟩)) hzb)) ?_
      rintro v8 w13 ⟨ov8, b13⟩
      clear hF
      have ra := ra.below b13 (Nat.le_refl _)
      have rb := rb.below b13 (Nat.le_refl _)
      have rv1 := rv1.below b13 (Nat.le_refl _)
      have rv2 := rv2.below b13 (Nat.le_refl _)
      have rv4 := rv4.below b13 (Nat.le_refl _)
      have rv5 := rv5.below b13 (Nat.le_refl _)
      have rv6 := rv6.below b13 (Nat.le_refl _)
      have rv7 := rv7.below b13 (Nat.le_refl _)
      have bb := bel_nxt bb b13
      have rv8 := ov8.rd
      clear ov8
      have hF := Sm.refl w13
      walk_nrm
      refine beside_by (n := 400) ?_
      repeat (first | a_ctl hF Sm.trans D0.nil | (refine Goes.step rfl (fun _ h₁ => ?_); replace hF := Sm.trans hF h₁; clear h₁; refine goes_oper_k rfl rfl (by decide) (fun K hK => ?_); go_simp; refine hK _ _ ⟨still_listed rfl, ?_⟩; clear hK K) | (refine Goes.step rfl (fun _ h₁ => ?_); rw [stepG_unwanted rfl rfl]; simp only [goes_go]; refine ⟨D0.nil, ?_⟩; replace hF := Sm.trans hF h₁; clear h₁; walk_nrm))
      refine Goes.stop fun w₁ h₁ => ?_
      replace hF := Sm.trans hF h₁
      clear h₁
      refine beside_call rfl rfl (by decide) rfl Try.func13 rfl rfl (by kernel_rfl) (show _ = (#[v7, v8] : Array Value) from by walk_nrm) (fun d => bsays_sm (hF.trans ⟨d, rfl⟩) (equalInts_b _ _ (turnedL zs) (turnedL zs) _ (rv7.sm (hF.trans ⟨d, rfl⟩)) (rv8.sm (hF.trans ⟨d, rfl⟩)) ht3 ht3)) ?_
      rintro r w14 ⟨rfl, b14⟩
      clear hF
      have ra := ra.below b14 (Nat.le_refl _)
      have rb := rb.below b14 (Nat.le_refl _)
      have rv1 := rv1.below b14 (Nat.le_refl _)
      have rv2 := rv2.below b14 (Nat.le_refl _)
      have rv4 := rv4.below b14 (Nat.le_refl _)
      have rv5 := rv5.below b14 (Nat.le_refl _)
      have rv6 := rv6.below b14 (Nat.le_refl _)
      have rv7 := rv7.below b14 (Nat.le_refl _)
      have rv8 := rv8.below b14 (Nat.le_refl _)
      have bb := bel_nxt bb b14
      have hF := Sm.refl w14
      walk_nrm
      rw [eqB_self]
      refine beside_by (n := 400) ?_
      repeat (first | a_ctl hF Sm.trans D0.nil | (refine Goes.step rfl (fun _ h₁ => ?_); replace hF := Sm.trans hF h₁; clear h₁; refine goes_oper_k rfl rfl (by decide) (fun K hK => ?_); go_simp; refine hK _ _ ⟨still_listed rfl, ?_⟩; clear hK K) | (refine Goes.step rfl (fun _ h₁ => ?_); rw [stepG_unwanted rfl rfl]; simp only [goes_go]; refine ⟨D0.nil, ?_⟩; replace hF := Sm.trans hF h₁; clear h₁; walk_nrm))
      refine Goes.step rfl (fun _ h₁ => ?_)
      rw [stepG_ret']
      simp only [goes_go]
      refine ⟨D0.nil, ?_⟩
      refine Goes.stop fun w₁ h₂ => .at0 fun d => ?_
      have hF := (Sm.trans hF h₁).trans (h₂.trans ⟨d, rfl⟩)
      exact leave1 Try.func3 rfl (R := BSays true w) ⟨rfl, bb.sm hF⟩
  · have i1 : ((1048576 : Int) < (n : Int)) := by omega
    refine beside_by (n := 400) ?_
    repeat (first | a_ctl hF Sm.trans D0.nil | (refine Goes.step rfl (fun _ h₁ => ?_); replace hF := Sm.trans hF h₁; clear h₁; refine goes_oper_k rfl rfl (by decide) (fun K hK => ?_); go_simp; refine hK _ _ ⟨still_listed rfl, ?_⟩; clear hK K) | (refine Goes.step rfl (fun _ h₁ => ?_); rw [stepG_unwanted rfl rfl]; simp only [goes_go]; refine ⟨D0.nil, ?_⟩; replace hF := Sm.trans hF h₁; clear h₁; walk_nrm))
    a_cond true hF Sm.trans D0.nil
    repeat (first | a_ctl hF Sm.trans D0.nil | (refine Goes.step rfl (fun _ h₁ => ?_); replace hF := Sm.trans hF h₁; clear h₁; refine goes_oper_k rfl rfl (by decide) (fun K hK => ?_); go_simp; refine hK _ _ ⟨still_listed rfl, ?_⟩; clear hK K) | (refine Goes.step rfl (fun _ h₁ => ?_); rw [stepG_unwanted rfl rfl]; simp only [goes_go]; refine ⟨D0.nil, ?_⟩; replace hF := Sm.trans hF h₁; clear h₁; walk_nrm))
    refine Goes.step rfl (fun _ h₁ => ?_)
    rw [stepG_ret']
    simp only [goes_go]
    refine ⟨D0.nil, ?_⟩
    refine Goes.stop fun w₁ h₂ => .at0 fun d => ?_
    have hF := (Sm.trans hF h₁).trans (h₂.trans ⟨d, rfl⟩)
    exact leave1 Try.func3 rfl (R := BSays true w) ⟨rfl, (Below.refl w.heap.size w).sm hF⟩

end Go.Proofs.Ytlglokbakmbpdaa
