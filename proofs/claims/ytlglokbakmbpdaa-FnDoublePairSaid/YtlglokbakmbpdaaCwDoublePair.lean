/-
  The law FnDoublePair, in company (written by ch5un2.py).
-/
import Derived.Test.YtlglokbakmbpdaaPtL
import Derived.Test.YtlglokbakmbpdaaDbP
import Derived.Test.YtlglokbakmbpdaaPdQ
import Derived.Test.YtlglokbakmbpdaaDraw7
namespace Go.Proofs.Ytlglokbakmbpdaa
open Go Go.Conc Go.RowKit
set_option linter.unusedVariables false

theorem drawDoublePair_b (v : Value) (n : Nat) (w : World) (h : RdB w v n) : BCalls Try.prog 40 #[v] w (BDrew2 3 w) :=
  bcalls_of_calls noinit (callees [40, 43, 69, 65, 42, 70, 68, 46, 60, 55, 64, 49] (by kernel_rfl)) Try.func40 rfl (by kernel_rfl) (by kernel_rfl) (fun w r w' => BDrew2 3 w r w') (bdrew2_blind _)
    fun τ d => (drawDoublePair_any v n (reT w τ d) h).mono fun e w' ⟨u, v, xs, ys, h1, h2⟩ => ⟨_, h1, u, v, xs, ys, rfl, h2⟩

set_option maxRecDepth 100000 in
set_option maxHeartbeats 40000000 in
theorem lawDoublePair_b (v : Value) (n : Nat) (w : World) (h : RdB w v n) :
    BCalls Try.prog 10 #[v] w (BSays true w) := by
  intro cs
  have h0 := h
  obtain ⟨ca, cap, hv, h2, -, -⟩ := h0
  rw [enter_at _ Try.func10 rfl]
  simp only [Try.f10, List.size_toArray, List.length_cons, List.length_nil, Nat.reduceAdd, Nat.reduceSub, Array.replicate_succ, Array.replicate_zero, List.push_toArray, List.append_toArray, List.nil_append, List.cons_append]
  have hF : Sm w w := Sm.refl w
  subst hv
  by_cases hb1 : n ≤ 1048576
  · have i1 : ¬ ((1048576 : Int) < (n : Int)) := by omega
    have bb := Below.refl w.heap.size w
    refine beside_by (n := 400) ?_
    repeat (first | a_ctl hF Sm.trans D0.nil | (refine Goes.step rfl (fun _ h₁ => ?_); replace hF := Sm.trans hF h₁; clear h₁; refine goes_oper_k rfl rfl (by decide) (fun K hK => ?_); go_simp; refine hK _ _ ⟨still_listed rfl, ?_⟩; clear hK K) | (refine Goes.step rfl (fun _ h₁ => ?_); rw [stepG_unwanted rfl rfl]; simp only [goes_go]; refine ⟨D0.nil, ?_⟩; replace hF := Sm.trans hF h₁; clear h₁; walk_nrm))
    a_cond false hF Sm.trans D0.nil
    refine Goes.stop fun w₁ h₁ => ?_
    replace hF := Sm.trans hF h₁
    clear h₁
    refine beside_by (n := 400) ?_
    repeat (first | a_ctl hF Sm.trans D0.nil | (refine Goes.step rfl (fun _ h₁ => ?_); replace hF := Sm.trans hF h₁; clear h₁; refine goes_oper_k rfl rfl (by decide) (fun K hK => ?_); go_simp; refine hK _ _ ⟨still_listed rfl, ?_⟩; clear hK K) | (refine Goes.step rfl (fun _ h₁ => ?_); rw [stepG_unwanted rfl rfl]; simp only [goes_go]; refine ⟨D0.nil, ?_⟩; replace hF := Sm.trans hF h₁; clear h₁; walk_nrm))
    refine Goes.stop fun w₁ h₁ => ?_
    replace hF := Sm.trans hF h₁
    clear h₁
    refine beside_call rfl rfl (by decide) rfl Try.func40 rfl rfl (by kernel_rfl) (show _ = (#[.slice ca n cap] : Array Value) from by walk_nrm) (fun d => bdrew2_sm (hF.trans ⟨d, rfl⟩) (drawDoublePair_b _ n _ (h.sm (hF.trans ⟨d, rfl⟩)))) ?_
    rintro r w1 ⟨u1, u2, xs, ys, rfl, oa, ob, hl1, hl2, hw1, hw2, b1⟩
    clear hF
    have bb := b1
    have ra := oa.rd
    have rb := ob.rd
    clear oa ob hw1 hw2 b1 h
    have hm1 := Own.max64 hl1
    have hm2 := Own.max64 hl2
    obtain ⟨a1, c1, hv1, -⟩ := id ra
    obtain ⟨a2, c2, hv2, -⟩ := id rb
    subst hv1 hv2
    obtain ⟨zs, hzs⟩ : ∃ zs, zs = dp1 xs ys := ⟨_, rfl⟩
    obtain ⟨rs, hrs⟩ : ∃ rs, rs = dp2 xs ys := ⟨_, rfl⟩
    have HZ1 := Lib.hid hzs
    have HZ2 := Lib.hid hrs
    have hz1 : zs.length ≤ 64 := by rw [hzs]; have := dp1_len xs ys; omega
    have hz2 : rs.length ≤ 64 := by rw [hrs]; have := dp2_len xs ys; omega
    have hzm := Own.max64 hz1
    have hrm := Own.max64 hz2
    clear hzs hrs
    have hF := Sm.refl w1
    walk_nrm
    cases hq : okD xs ys with
    | false =>
      have HQ := Lib.hid hq
      clear hq
      refine beside_by (n := 400) ?_
      repeat (first | a_ctl hF Sm.trans D0.nil | (refine Goes.step rfl (fun _ h₁ => ?_); replace hF := Sm.trans hF h₁; clear h₁; refine goes_oper_k rfl rfl (by decide) (fun K hK => ?_); go_simp; refine hK _ _ ⟨still_listed rfl, ?_⟩; clear hK K) | (refine Goes.step rfl (fun _ h₁ => ?_); rw [stepG_unwanted rfl rfl]; simp only [goes_go]; refine ⟨D0.nil, ?_⟩; replace hF := Sm.trans hF h₁; clear h₁; walk_nrm))
      refine Goes.stop fun w₁ h₁ => ?_
      replace hF := Sm.trans hF h₁
      clear h₁
      refine beside_call rfl rfl (by decide) rfl Try.func41 rfl rfl (by kernel_rfl) (show _ = (#[.slice a1 xs.length c1, .slice a2 ys.length c2] : Array Value) from by walk_nrm) (fun d => madeT_sm (hF.trans ⟨d, rfl⟩) (implDoublePair_b _ _ xs ys _ (ra.sm (hF.trans ⟨d, rfl⟩)) (rb.sm (hF.trans ⟨d, rfl⟩)) hm1 hm2)) ?_
      rintro r w2 ⟨p2, q2, rfl, op2, oq2, -, b2⟩
      clear hF
      have ra := ra.below b2 (Nat.le_refl _)
      have rb := rb.below b2 (Nat.le_refl _)
      have bb := bel_nxt bb b2
      have rp2 := op2.rd
      have rq2 := oq2.rd
      clear op2 oq2
      rw [← HZ1.out] at rp2
      rw [← HZ2.out] at rq2
      rw [HQ.out]
      have hF := Sm.refl w2
      walk_nrm
      refine beside_by (n := 400) ?_
      repeat (first | a_ctl hF Sm.trans D0.nil | (refine Goes.step rfl (fun _ h₁ => ?_); replace hF := Sm.trans hF h₁; clear h₁; refine goes_oper_k rfl rfl (by decide) (fun K hK => ?_); go_simp; refine hK _ _ ⟨still_listed rfl, ?_⟩; clear hK K) | (refine Goes.step rfl (fun _ h₁ => ?_); rw [stepG_unwanted rfl rfl]; simp only [goes_go]; refine ⟨D0.nil, ?_⟩; replace hF := Sm.trans hF h₁; clear h₁; walk_nrm))
      refine Goes.stop fun w₁ h₁ => ?_
      replace hF := Sm.trans hF h₁
      clear h₁
      refine beside_call rfl rfl (by decide) rfl Try.func42 rfl rfl (by kernel_rfl) (show _ = (#[.slice a1 xs.length c1, .slice a2 ys.length c2] : Array Value) from by walk_nrm) (fun d => madeT_sm (hF.trans ⟨d, rfl⟩) (specDoublePair_b _ _ xs ys _ (ra.sm (hF.trans ⟨d, rfl⟩)) (rb.sm (hF.trans ⟨d, rfl⟩)) hm1 hm2)) ?_
      rintro r w3 ⟨p3, q3, rfl, op3, oq3, -, b3⟩
      clear hF
      have ra := ra.below b3 (Nat.le_refl _)
      have rb := rb.below b3 (Nat.le_refl _)
      have rp2 := rp2.below b3 (Nat.le_refl _)
      have rq2 := rq2.below b3 (Nat.le_refl _)
      have bb := bel_nxt bb b3
      have rp3 := op3.rd
      have rq3 := oq3.rd
      clear op3 oq3
      rw [← HZ1.out] at rp3
      rw [← HZ2.out] at rq3
      rw [HQ.out]
      have hF := Sm.refl w3
      walk_nrm
      refine beside_by (n := 400) ?_
      repeat (first | a_ctl hF Sm.trans D0.nil | (refine Goes.step rfl (fun _ h₁ => ?_); replace hF := Sm.trans hF h₁; clear h₁; refine goes_oper_k rfl rfl (by decide) (fun K hK => ?_); go_simp; refine hK _ _ ⟨still_listed rfl, ?_⟩; clear hK K) | (refine Goes.step rfl (fun _ h₁ => ?_); rw [stepG_unwanted rfl rfl]; simp only [goes_go]; refine ⟨D0.nil, ?_⟩; replace hF := Sm.trans hF h₁; clear h₁; walk_nrm))
      refine Goes.stop fun w₁ h₁ => ?_
      replace hF := Sm.trans hF h₁
      clear h₁
      refine beside_call rfl rfl (by decide) rfl Try.func13 rfl rfl (by kernel_rfl) (show _ = (#[p2, p3] : Array Value) from by walk_nrm) (fun d => bsays_sm (hF.trans ⟨d, rfl⟩) (equalInts_b _ _ zs zs _ (rp2.sm (hF.trans ⟨d, rfl⟩)) (rp3.sm (hF.trans ⟨d, rfl⟩)) hzm hzm)) ?_
      rintro r w4 ⟨rfl, b4⟩
      clear hF
      have ra := ra.below b4 (Nat.le_refl _)
      have rb := rb.below b4 (Nat.le_refl _)
      have rp2 := rp2.below b4 (Nat.le_refl _)
      have rq2 := rq2.below b4 (Nat.le_refl _)
      have rp3 := rp3.below b4 (Nat.le_refl _)
      have rq3 := rq3.below b4 (Nat.le_refl _)
      have bb := bel_nxt bb b4
      have hF := Sm.refl w4
      walk_nrm
      rw [eqB_self]
      refine beside_by (n := 400) ?_
      repeat (first | a_ctl hF Sm.trans D0.nil | (refine Goes.step rfl (fun _ h₁ => ?_); replace hF := Sm.trans hF h₁; clear h₁; refine goes_oper_k rfl rfl (by decide) (fun K hK => ?_); go_simp; refine hK _ _ ⟨still_listed rfl, ?_⟩; clear hK K) | (refine Goes.step rfl (fun _ h₁ => ?_); rw [stepG_unwanted rfl rfl]; simp only [goes_go]; refine ⟨D0.nil, ?_⟩; replace hF := Sm.trans hF h₁; clear h₁; walk_nrm))
      refine Goes.stop fun w₁ h₁ => ?_
      replace hF := Sm.trans hF h₁
      clear h₁
      refine beside_call rfl rfl (by decide) rfl Try.func13 rfl rfl (by kernel_rfl) (show _ = (#[q2, q3] : Array Value) from by walk_nrm) (fun d => bsays_sm (hF.trans ⟨d, rfl⟩) (equalInts_b _ _ rs rs _ (rq2.sm (hF.trans ⟨d, rfl⟩)) (rq3.sm (hF.trans ⟨d, rfl⟩)) hrm hrm)) ?_
      rintro r w5 ⟨rfl, b5⟩
      clear hF
      have ra := ra.below b5 (Nat.le_refl _)
      have rb := rb.below b5 (Nat.le_refl _)
      have rp2 := rp2.below b5 (Nat.le_refl _)
      have rq2 := rq2.below b5 (Nat.le_refl _)
      have rp3 := rp3.below b5 (Nat.le_refl _)
      have rq3 := rq3.below b5 (Nat.le_refl _)
      have bb := bel_nxt bb b5
      have hF := Sm.refl w5
      walk_nrm
      rw [eqB_self]
      refine beside_by (n := 400) ?_
      repeat (first | a_ctl hF Sm.trans D0.nil | (refine Goes.step rfl (fun _ h₁ => ?_); replace hF := Sm.trans hF h₁; clear h₁; refine goes_oper_k rfl rfl (by decide) (fun K hK => ?_); go_simp; refine hK _ _ ⟨still_listed rfl, ?_⟩; clear hK K) | (refine Goes.step rfl (fun _ h₁ => ?_); rw [stepG_unwanted rfl rfl]; simp only [goes_go]; refine ⟨D0.nil, ?_⟩; replace hF := Sm.trans hF h₁; clear h₁; walk_nrm))
      a_cond true hF Sm.trans D0.nil
      refine Goes.stop fun w₁ h₁ => ?_
      replace hF := Sm.trans hF h₁
      clear h₁
      refine beside_by (n := 400) ?_
      repeat (first | a_ctl hF Sm.trans D0.nil | (refine Goes.step rfl (fun _ h₁ => ?_); replace hF := Sm.trans hF h₁; clear h₁; refine goes_oper_k rfl rfl (by decide) (fun K hK => ?_); go_simp; refine hK _ _ ⟨still_listed rfl, ?_⟩; clear hK K) | (refine Goes.step rfl (fun _ h₁ => ?_); rw [stepG_unwanted rfl rfl]; simp only [goes_go]; refine ⟨D0.nil, ?_⟩; replace hF := Sm.trans hF h₁; clear h₁; walk_nrm))
      refine Goes.stop fun w₁ h₁ => ?_
      replace hF := Sm.trans hF h₁
      clear h₁
      refine beside_call rfl rfl (by decide) rfl Try.func13 rfl rfl (by kernel_rfl) (show _ = (#[p2, p3] : Array Value) from by walk_nrm) (fun d => bsays_sm (hF.trans ⟨d, rfl⟩) (equalInts_b _ _ zs zs _ (rp2.sm (hF.trans ⟨d, rfl⟩)) (rp3.sm (hF.trans ⟨d, rfl⟩)) hzm hzm)) ?_
      rintro r w6 ⟨rfl, b6⟩
      clear hF
      have ra := ra.below b6 (Nat.le_refl _)
      have rb := rb.below b6 (Nat.le_refl _)
      have rp2 := rp2.below b6 (Nat.le_refl _)
      have rq2 := rq2.below b6 (Nat.le_refl _)
      have rp3 := rp3.below b6 (Nat.le_refl _)
      have rq3 := rq3.below b6 (Nat.le_refl _)
      have bb := bel_nxt bb b6
      have hF := Sm.refl w6
      walk_nrm
      rw [eqB_self]
      refine beside_by (n := 400) ?_
      repeat (first | a_ctl hF Sm.trans D0.nil | (refine Goes.step rfl (fun _ h₁ => ?_); replace hF := Sm.trans hF h₁; clear h₁; refine goes_oper_k rfl rfl (by decide) (fun K hK => ?_); go_simp; refine hK _ _ ⟨still_listed rfl, ?_⟩; clear hK K) | (refine Goes.step rfl (fun _ h₁ => ?_); rw [stepG_unwanted rfl rfl]; simp only [goes_go]; refine ⟨D0.nil, ?_⟩; replace hF := Sm.trans hF h₁; clear h₁; walk_nrm))
      refine Goes.stop fun w₁ h₁ => ?_
      replace hF := Sm.trans hF h₁
      clear h₁
      refine beside_call rfl rfl (by decide) rfl Try.func13 rfl rfl (by kernel_rfl) (show _ = (#[q2, q3] : Array Value) from by walk_nrm) (fun d => bsays_sm (hF.trans ⟨d, rfl⟩) (equalInts_b _ _ rs rs _ (rq2.sm (hF.trans ⟨d, rfl⟩)) (rq3.sm (hF.trans ⟨d, rfl⟩)) hrm hrm)) ?_
      rintro r w7 ⟨rfl, b7⟩
      clear hF
      have ra := ra.below b7 (Nat.le_refl _)
      have rb := rb.below b7 (Nat.le_refl _)
      have rp2 := rp2.below b7 (Nat.le_refl _)
      have rq2 := rq2.below b7 (Nat.le_refl _)
      have rp3 := rp3.below b7 (Nat.le_refl _)
      have rq3 := rq3.below b7 (Nat.le_refl _)
      have bb := bel_nxt bb b7
      have hF := Sm.refl w7
      walk_nrm
      rw [eqB_self]
      refine beside_by (n := 400) ?_
      repeat (first | a_ctl hF Sm.trans D0.nil | (refine Goes.step rfl (fun _ h₁ => ?_); replace hF := Sm.trans hF h₁; clear h₁; refine goes_oper_k rfl rfl (by decide) (fun K hK => ?_); go_simp; refine hK _ _ ⟨still_listed rfl, ?_⟩; clear hK K) | (refine Goes.step rfl (fun _ h₁ => ?_); rw [stepG_unwanted rfl rfl]; simp only [goes_go]; refine ⟨D0.nil, ?_⟩; replace hF := Sm.trans hF h₁; clear h₁; walk_nrm))
      refine Goes.step rfl (fun _ h₁ => ?_)
      rw [stepG_ret']
      simp only [goes_go]
      refine ⟨D0.nil, ?_⟩
      refine Goes.stop fun w₁ h₂ => .at0 fun d => ?_
      have hF := (Sm.trans hF h₁).trans (h₂.trans ⟨d, rfl⟩)
      exact leave1 Try.func10 rfl (R := BSays true w) ⟨rfl, bb.sm hF⟩
    | true =>
      have HQ := Lib.hid hq
      have HK : paB zs rs = true ∧ zs.length = 2 * xs.length ∧ xs.length ≤ 8 := by
        obtain ⟨h1, h2⟩ := okD_of hq
        have h3 := okD_yes h1 h2
        have hl := (paB_of h1).2.2.1
        have e : negL ys = ngL ys := rfl
        refine ⟨by rw [HZ1.out, HZ2.out, h3.2.1, h3.2.2, ← e]; exact pa_double h1 (by omega), by rw [HZ1.out, h3.2.1, List.length_append]; omega, by omega⟩
      have HP := Lib.hid HK.1
      have HL := Lib.hid HK.2.1
      have hx8 := HK.2.2
      have j1 : IntKind.i64.wrap (2 * (xs.length : Int)) = (zs.length : Int) := by rw [IntWalk.i64_in _ (by omega)]; have := HK.2.1; omega
      clear hq HK
      refine beside_by (n := 400) ?_
      repeat (first | a_ctl hF Sm.trans D0.nil | (refine Goes.step rfl (fun _ h₁ => ?_); replace hF := Sm.trans hF h₁; clear h₁; refine goes_oper_k rfl rfl (by decide) (fun K hK => ?_); go_simp; refine hK _ _ ⟨still_listed rfl, ?_⟩; clear hK K) | (refine Goes.step rfl (fun _ h₁ => ?_); rw [stepG_unwanted rfl rfl]; simp only [goes_go]; refine ⟨D0.nil, ?_⟩; replace hF := Sm.trans hF h₁; clear h₁; walk_nrm))
      refine Goes.stop fun w₁ h₁ => ?_
      replace hF := Sm.trans hF h₁
      clear h₁
      refine beside_call rfl rfl (by decide) rfl Try.func41 rfl rfl (by kernel_rfl) (show _ = (#[.slice a1 xs.length c1, .slice a2 ys.length c2] : Array Value) from by walk_nrm) (fun d => madeT_sm (hF.trans ⟨d, rfl⟩) (implDoublePair_b _ _ xs ys _ (ra.sm (hF.trans ⟨d, rfl⟩)) (rb.sm (hF.trans ⟨d, rfl⟩)) hm1 hm2)) ?_
      rintro r w2 ⟨p2, q2, rfl, op2, oq2, -, b2⟩
      clear hF
      have ra := ra.below b2 (Nat.le_refl _)
      have rb := rb.below b2 (Nat.le_refl _)
      have bb := bel_nxt bb b2
      have rp2 := op2.rd
      have rq2 := oq2.rd
      clear op2 oq2
      rw [← HZ1.out] at rp2
      rw [← HZ2.out] at rq2
      rw [HQ.out]
      have hF := Sm.refl w2
      walk_nrm
      obtain ⟨a5, c5, hv5, -⟩ := id rp2
      obtain ⟨a6, c6, hv6, -⟩ := id rq2
      subst hv5 hv6
      refine beside_by (n := 400) ?_
      repeat (first | a_ctl hF Sm.trans D0.nil | (refine Goes.step rfl (fun _ h₁ => ?_); replace hF := Sm.trans hF h₁; clear h₁; refine goes_oper_k rfl rfl (by decide) (fun K hK => ?_); go_simp; refine hK _ _ ⟨still_listed rfl, ?_⟩; clear hK K) | (refine Goes.step rfl (fun _ h₁ => ?_); rw [stepG_unwanted rfl rfl]; simp only [goes_go]; refine ⟨D0.nil, ?_⟩; replace hF := Sm.trans hF h₁; clear h₁; walk_nrm))
      refine Goes.stop fun w₁ h₁ => ?_
      replace hF := Sm.trans hF h₁
      clear h₁
      refine beside_call rfl rfl (by decide) rfl Try.func42 rfl rfl (by kernel_rfl) (show _ = (#[.slice a1 xs.length c1, .slice a2 ys.length c2] : Array Value) from by walk_nrm) (fun d => madeT_sm (hF.trans ⟨d, rfl⟩) (specDoublePair_b _ _ xs ys _ (ra.sm (hF.trans ⟨d, rfl⟩)) (rb.sm (hF.trans ⟨d, rfl⟩)) hm1 hm2)) ?_
      rintro r w3 ⟨p3, q3, rfl, op3, oq3, -, b3⟩
      clear hF
      have ra := ra.below b3 (Nat.le_refl _)
      have rb := rb.below b3 (Nat.le_refl _)
      have rp2 := rp2.below b3 (Nat.le_refl _)
      have rq2 := rq2.below b3 (Nat.le_refl _)
      have bb := bel_nxt bb b3
      have rp3 := op3.rd
      have rq3 := oq3.rd
      clear op3 oq3
      rw [← HZ1.out] at rp3
      rw [← HZ2.out] at rq3
      rw [HQ.out]
      have hF := Sm.refl w3
      walk_nrm
      refine beside_by (n := 400) ?_
      repeat (first | a_ctl hF Sm.trans D0.nil | (refine Goes.step rfl (fun _ h₁ => ?_); replace hF := Sm.trans hF h₁; clear h₁; refine goes_oper_k rfl rfl (by decide) (fun K hK => ?_); go_simp; refine hK _ _ ⟨still_listed rfl, ?_⟩; clear hK K) | (refine Goes.step rfl (fun _ h₁ => ?_); rw [stepG_unwanted rfl rfl]; simp only [goes_go]; refine ⟨D0.nil, ?_⟩; replace hF := Sm.trans hF h₁; clear h₁; walk_nrm))
      refine Goes.stop fun w₁ h₁ => ?_
      replace hF := Sm.trans hF h₁
      clear h₁
      refine beside_call rfl rfl (by decide) rfl Try.func13 rfl rfl (by kernel_rfl) (show _ = (#[.slice a5 zs.length c5, p3] : Array Value) from by walk_nrm) (fun d => bsays_sm (hF.trans ⟨d, rfl⟩) (equalInts_b _ _ zs zs _ (rp2.sm (hF.trans ⟨d, rfl⟩)) (rp3.sm (hF.trans ⟨d, rfl⟩)) hzm hzm)) ?_
      rintro r w4 ⟨rfl, b4⟩
      clear hF
      have ra := ra.below b4 (Nat.le_refl _)
      have rb := rb.below b4 (Nat.le_refl _)
      have rp2 := rp2.below b4 (Nat.le_refl _)
      have rq2 := rq2.below b4 (Nat.le_refl _)
      have rp3 := rp3.below b4 (Nat.le_refl _)
      have rq3 := rq3.below b4 (Nat.le_refl _)
      have bb := bel_nxt bb b4
      have hF := Sm.refl w4
      walk_nrm
      rw [eqB_self]
      refine beside_by (n := 400) ?_
      repeat (first | a_ctl hF Sm.trans D0.nil | (refine Goes.step rfl (fun _ h₁ => ?_); replace hF := Sm.trans hF h₁; clear h₁; refine goes_oper_k rfl rfl (by decide) (fun K hK => ?_); go_simp; refine hK _ _ ⟨still_listed rfl, ?_⟩; clear hK K) | (refine Goes.step rfl (fun _ h₁ => ?_); rw [stepG_unwanted rfl rfl]; simp only [goes_go]; refine ⟨D0.nil, ?_⟩; replace hF := Sm.trans hF h₁; clear h₁; walk_nrm))
      refine Goes.stop fun w₁ h₁ => ?_
      replace hF := Sm.trans hF h₁
      clear h₁
      refine beside_call rfl rfl (by decide) rfl Try.func13 rfl rfl (by kernel_rfl) (show _ = (#[.slice a6 rs.length c6, q3] : Array Value) from by walk_nrm) (fun d => bsays_sm (hF.trans ⟨d, rfl⟩) (equalInts_b _ _ rs rs _ (rq2.sm (hF.trans ⟨d, rfl⟩)) (rq3.sm (hF.trans ⟨d, rfl⟩)) hrm hrm)) ?_
      rintro r w5 ⟨rfl, b5⟩
      clear hF
      have ra := ra.below b5 (Nat.le_refl _)
      have rb := rb.below b5 (Nat.le_refl _)
      have rp2 := rp2.below b5 (Nat.le_refl _)
      have rq2 := rq2.below b5 (Nat.le_refl _)
      have rp3 := rp3.below b5 (Nat.le_refl _)
      have rq3 := rq3.below b5 (Nat.le_refl _)
      have bb := bel_nxt bb b5
      have hF := Sm.refl w5
      walk_nrm
      rw [eqB_self]
      refine beside_by (n := 400) ?_
      repeat (first | a_ctl hF Sm.trans D0.nil | (refine Goes.step rfl (fun _ h₁ => ?_); replace hF := Sm.trans hF h₁; clear h₁; refine goes_oper_k rfl rfl (by decide) (fun K hK => ?_); go_simp; refine hK _ _ ⟨still_listed rfl, ?_⟩; clear hK K) | (refine Goes.step rfl (fun _ h₁ => ?_); rw [stepG_unwanted rfl rfl]; simp only [goes_go]; refine ⟨D0.nil, ?_⟩; replace hF := Sm.trans hF h₁; clear h₁; walk_nrm))
      a_cond false hF Sm.trans D0.nil
      refine Goes.stop fun w₁ h₁ => ?_
      replace hF := Sm.trans hF h₁
      clear h₁
      refine beside_by (n := 400) ?_
      repeat (first | a_ctl hF Sm.trans D0.nil | (refine Goes.step rfl (fun _ h₁ => ?_); replace hF := Sm.trans hF h₁; clear h₁; refine goes_oper_k rfl rfl (by decide) (fun K hK => ?_); go_simp; refine hK _ _ ⟨still_listed rfl, ?_⟩; clear hK K) | (refine Goes.step rfl (fun _ h₁ => ?_); rw [stepG_unwanted rfl rfl]; simp only [goes_go]; refine ⟨D0.nil, ?_⟩; replace hF := Sm.trans hF h₁; clear h₁; walk_nrm))
      refine Goes.stop fun w₁ h₁ => ?_
      replace hF := Sm.trans hF h₁
      clear h₁
      refine beside_call rfl rfl (by decide) rfl Try.func38 rfl rfl (by kernel_rfl) (show _ = (#[.slice a5 zs.length c5, .slice a6 rs.length c6] : Array Value) from by walk_nrm) (fun d => bsays_sm (hF.trans ⟨d, rfl⟩) (implArePaired_b _ _ zs rs _ (rp2.sm (hF.trans ⟨d, rfl⟩)) (rq2.sm (hF.trans ⟨d, rfl⟩)) hzm hrm)) ?_
      rintro r w6 ⟨rfl, b6⟩
      clear hF
      have ra := ra.below b6 (Nat.le_refl _)
      have rb := rb.below b6 (Nat.le_refl _)
      have rp2 := rp2.below b6 (Nat.le_refl _)
      have rq2 := rq2.below b6 (Nat.le_refl _)
      have rp3 := rp3.below b6 (Nat.le_refl _)
      have rq3 := rq3.below b6 (Nat.le_refl _)
      have bb := bel_nxt bb b6
      have hF := Sm.refl w6
      walk_nrm
      rw [HP.out]
      refine beside_by (n := 400) ?_
      repeat (first | a_ctl hF Sm.trans D0.nil | (refine Goes.step rfl (fun _ h₁ => ?_); replace hF := Sm.trans hF h₁; clear h₁; refine goes_oper_k rfl rfl (by decide) (fun K hK => ?_); go_simp; refine hK _ _ ⟨still_listed rfl, ?_⟩; clear hK K) | (refine Goes.step rfl (fun _ h₁ => ?_); rw [stepG_unwanted rfl rfl]; simp only [goes_go]; refine ⟨D0.nil, ?_⟩; replace hF := Sm.trans hF h₁; clear h₁; walk_nrm))
      refine Goes.step rfl (fun _ h₁ => ?_)
      rw [stepG_ret']
      simp only [goes_go]
      refine ⟨D0.nil, ?_⟩
      refine Goes.stop fun w₁ h₂ => .at0 fun d => ?_
      have hF := (Sm.trans hF h₁).trans (h₂.trans ⟨d, rfl⟩)
      exact leave1 Try.func10 rfl (R := BSays true w) ⟨rfl, bb.sm hF⟩
  · have i1 : ((1048576 : Int) < (n : Int)) := by omega
    refine beside_by (n := 400) ?_
    repeat (first | a_ctl hF Sm.trans D0.nil | (refine Goes.step rfl (fun _ h₁ => ?_); replace hF := Sm.trans hF h₁; clear h₁; refine goes_oper_k rfl rfl (by decide) (fun K hK => ?_); go_simp; refine hK _ _ ⟨still_listed rfl, ?_⟩; clear hK K) | (refine Goes.step rfl (fun _ h₁ => ?_); rw [stepG_unwanted rfl rfl]; simp only [goes_go]; refine ⟨D0.nil, ?_⟩; replace hF := Sm.trans hF h₁; clear h₁; walk_nrm))
    a_cond true hF Sm.trans D0.nil
    repeat (first | a_ctl hF Sm.trans D0.nil | (refine Goes.step rfl (fun _ h₁ => ?_); replace hF := Sm.trans hF h₁; clear h₁; refine goes_oper_k rfl rfl (by decide) (fun K hK => ?_); go_simp; refine hK _ _ ⟨still_listed rfl, ?_⟩; clear hK K) | (refine Goes.step rfl (fun _ h₁ => ?_); rw [stepG_unwanted rfl rfl]; simp only [goes_go]; refine ⟨D0.nil, ?_⟩; replace hF := Sm.trans hF h₁; clear h₁; walk_nrm))
    refine Goes.step rfl (fun _ h₁ => ?_)
    rw [stepG_ret']
    simp only [goes_go]
    refine ⟨D0.nil, ?_⟩
    refine Goes.stop fun w₁ h₂ => .at0 fun d => ?_
    have hF := (Sm.trans hF h₁).trans (h₂.trans ⟨d, rfl⟩)
    exact leave1 Try.func10 rfl (R := BSays true w) ⟨rfl, (Below.refl w.heap.size w).sm hF⟩

end Go.Proofs.Ytlglokbakmbpdaa
