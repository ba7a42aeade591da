/-
  The law FnIsQuiet, in company (written by ch5un2.py).
-/
import Derived.Test.YtlglokbakmbpdaaPtL
import Derived.Test.YtlglokbakmbpdaaUq
import Derived.Test.YtlglokbakmbpdaaUp
import Derived.Test.YtlglokbakmbpdaaPdQ
import Derived.Test.YtlglokbakmbpdaaDraw6
namespace Go.Proofs.Ytlglokbakmbpdaa
open Go Go.Conc Go.RowKit
set_option linter.unusedVariables false

theorem scaled_b (v : Value) (xs : List Int) (c : Int) (w : World) (h : Rd w v xs) (hl : xs.length ≤ 1048576) : BCalls Try.prog 36 #[v, .int .i64 c] w (BMade 3 w (scaledL c xs)) :=
  bmade_of [36] (by kernel_rfl) Try.func36 rfl (by kernel_rfl) (by kernel_rfl) fun τ d => scaled_any v xs c (reT w τ d) h hl

theorem drawIsQuiet_b (v : Value) (n : Nat) (w : World) (h : RdB w v n) : BCalls Try.prog 33 #[v] w (BDrew1 3 w) :=
  bcalls_of_calls noinit (callees [33, 43, 65, 64, 49] (by kernel_rfl)) Try.func33 rfl (by kernel_rfl) (by kernel_rfl) (fun w r w' => BDrew1 3 w r w') (bdrew1_blind _)
    fun τ d => (drawIsQuiet_any v n (reT w τ d) h).mono fun e w' ⟨u, xs, h1, h2⟩ => ⟨_, h1, xs, h2⟩

set_option maxRecDepth 100000 in
set_option maxHeartbeats 40000000 in
theorem lawIsQuiet_b (v : Value) (n : Nat) (w : World) (h : RdB w v n) :
    BCalls Try.prog 8 #[v] w (BSays true w) := by
  intro cs
  have h0 := h
  obtain ⟨ca, cap, hv, h2, -, -⟩ := h0
  rw [enter_at _ Try.func8 rfl]
  simp only [Try.f8, List.size_toArray, List.length_cons, List.length_nil, Nat.reduceAdd, Nat.reduceSub, Array.replicate_succ, Array.replicate_zero, List.push_toArray, List.append_toArray, List.nil_append, List.cons_append]
  have hF : Sm w w := Sm.refl w
  subst hv
  by_cases hb1 : n ≤ 1048576
  · have i1 : ¬ ((1048576 : Int) < (n : Int)) := by omega
    have bb := Below.refl w.heap.size w
    refine beside_by (n := 400) ?_
    repeat (first | a_ctl hF Sm.trans D0.nil | (refine Goes.step rfl (fun _ h₁ => ?_); replace hF := Sm.trans hF h₁; clear h₁; refine goes_oper_k rfl rfl (by decide) (fun K hK => ?_); go_simp; refine hK _ _ ⟨still_listed rfl, ?_⟩; clear hK K) | (refine Goes.step rfl (fun _ h₁ => ?_); rw [stepG_unwanted rfl rfl]; simp only [goes_go]; refine ⟨D0.nil, ?_⟩; replace hF := Sm.trans hF h₁; clear h₁; walk_nrm))
    a_cond false hF Sm.trans D0.nil
    refine Goes.stop fun w₁ h₁ => ?_
    replace hF := Sm.trans hF h₁
    clear h₁
    refine beside_by (n := 400) ?_
    repeat (first | a_ctl hF Sm.trans D0.nil | (refine Goes.step rfl (fun _ h₁ => ?_); replace hF := Sm.trans hF h₁; clear h₁; refine goes_oper_k rfl rfl (by decide) (fun K hK => ?_); go_simp; refine hK _ _ ⟨still_listed rfl, ?_⟩; clear hK K) | (refine Goes.step rfl (fun _ h₁ => ?_); rw [stepG_unwanted rfl rfl]; simp only [goes_go]; refine ⟨D0.nil, ?_⟩; replace hF := Sm.trans hF h₁; clear h₁; walk_nrm))
    refine Goes.stop fun w₁ h₁ => ?_
    replace hF := Sm.trans hF h₁
    clear h₁
    refine beside_call rfl rfl (by decide) rfl Try.func33 rfl rfl (by kernel_rfl) (show _ = (#[.slice ca n cap] : Array Value) from by walk_nrm) (fun d => bdrew1_sm (hF.trans ⟨d, rfl⟩) (drawIsQuiet_b _ n _ (h.sm (hF.trans ⟨d, rfl⟩)))) ?_
    rintro u1 w1 ⟨xs, oa, hl1, hw1, b1⟩
    clear hF
    have bb := b1
    have ra := oa.rd
    clear oa hw1 b1 h
    have hm1 := Own.max64 hl1
    have hx1 : xs.length ≤ 1048576 := by omega
    obtain ⟨a1, c1, hv1, -⟩ := id ra
    subst hv1
    have hF := Sm.refl w1
    walk_nrm
    cases hq : quB xs with
    | false =>
      have HQ := Lib.hid hq
      clear hq
      refine beside_by (n := 400) ?_
      repeat (first | a_ctl hF Sm.trans D0.nil | (refine Goes.step rfl (fun _ h₁ => ?_); replace hF := Sm.trans hF h₁; clear h₁; refine goes_oper_k rfl rfl (by decide) (fun K hK => ?_); go_simp; refine hK _ _ ⟨still_listed rfl, ?_⟩; clear hK K) | (refine Goes.step rfl (fun _ h₁ => ?_); rw [stepG_unwanted rfl rfl]; simp only [goes_go]; refine ⟨D0.nil, ?_⟩; replace hF := Sm.trans hF h₁; clear h₁; walk_nrm))
      refine Goes.stop fun w₁ h₁ => ?_
      replace hF := Sm.trans hF h₁
      clear h₁
      refine beside_call rfl rfl (by decide) rfl Try.func34 rfl rfl (by kernel_rfl) (show _ = (#[.slice a1 xs.length c1] : Array Value) from by walk_nrm) (fun d => bsays_sm (hF.trans ⟨d, rfl⟩) (implIsQuiet_b _ xs _ (ra.sm (hF.trans ⟨d, rfl⟩)) hm1)) ?_
      rintro r w2 ⟨rfl, b2⟩
      clear hF
      have ra := ra.below b2 (Nat.le_refl _)
      have bb := bel_nxt bb b2
      have hF := Sm.refl w2
      walk_nrm
      rw [HQ.out]
      refine beside_by (n := 400) ?_
      repeat (first | a_ctl hF Sm.trans D0.nil | (refine Goes.step rfl (fun _ h₁ => ?_); replace hF := Sm.trans hF h₁; clear h₁; refine goes_oper_k rfl rfl (by decide) (fun K hK => ?_); go_simp; refine hK _ _ ⟨still_listed rfl, ?_⟩; clear hK K) | (refine Goes.step rfl (fun _ h₁ => ?_); rw [stepG_unwanted rfl rfl]; simp only [goes_go]; refine ⟨D0.nil, ?_⟩; replace hF := Sm.trans hF h₁; clear h₁; walk_nrm))
      refine Goes.stop fun w₁ h₁ => ?_
      replace hF := Sm.trans hF h₁
      clear h₁
      refine beside_call rfl rfl (by decide) rfl Try.func35 rfl rfl (by kernel_rfl) (show _ = (#[.slice a1 xs.length c1] : Array Value) from by walk_nrm) (fun d => bsays_sm (hF.trans ⟨d, rfl⟩) (specIsQuiet_b _ xs _ (ra.sm (hF.trans ⟨d, rfl⟩)) hm1)) ?_
      rintro r w3 ⟨rfl, b3⟩
      clear hF
      have ra := ra.below b3 (Nat.le_refl _)
      have bb := bel_nxt bb b3
      have hF := Sm.refl w3
      walk_nrm
      rw [HQ.out]
      refine beside_by (n := 400) ?_
      repeat (first | a_ctl hF Sm.trans D0.nil | (refine Goes.step rfl (fun _ h₁ => ?_); replace hF := Sm.trans hF h₁; clear h₁; refine goes_oper_k rfl rfl (by decide) (fun K hK => ?_); go_simp; refine hK _ _ ⟨still_listed rfl, ?_⟩; clear hK K) | (refine Goes.step rfl (fun _ h₁ => ?_); rw [stepG_unwanted rfl rfl]; simp only [goes_go]; refine ⟨D0.nil, ?_⟩; replace hF := Sm.trans hF h₁; clear h₁; walk_nrm))
      a_cond true hF Sm.trans D0.nil
      refine Goes.stop fun w₁ h₁ => ?_
      replace hF := Sm.trans hF h₁
      clear h₁
      refine beside_by (n := 400) ?_
      repeat (first | a_ctl hF Sm.trans D0.nil | (refine Goes.step rfl (fun _ h₁ => ?_); replace hF := Sm.trans hF h₁; clear h₁; refine goes_oper_k rfl rfl (by decide) (fun K hK => ?_); go_simp; refine hK _ _ ⟨still_listed rfl, ?_⟩; clear hK K) | (refine Goes.step rfl (fun _ h₁ => ?_); rw [stepG_unwanted rfl rfl]; simp only [goes_go]; refine ⟨D0.nil, ?_⟩; replace hF := Sm.trans hF h₁; clear h₁; walk_nrm))
      refine Goes.stop fun w₁ h₁ => ?_
      replace hF := Sm.trans hF h₁
      clear h₁
      refine beside_call rfl rfl (by decide) rfl Try.func35 rfl rfl (by kernel_rfl) (show _ = (#[.slice a1 xs.length c1] : Array Value) from by walk_nrm) (fun d => bsays_sm (hF.trans ⟨d, rfl⟩) (specIsQuiet_b _ xs _ (ra.sm (hF.trans ⟨d, rfl⟩)) hm1)) ?_
      rintro r w4 ⟨rfl, b4⟩
      clear hF
      have ra := ra.below b4 (Nat.le_refl _)
      have bb := bel_nxt bb b4
      have hF := Sm.refl w4
      walk_nrm
      rw [HQ.out]
      refine beside_by (n := 400) ?_
      repeat (first | a_ctl hF Sm.trans D0.nil | (refine Goes.step rfl (fun _ h₁ => ?_); replace hF := Sm.trans hF h₁; clear h₁; refine goes_oper_k rfl rfl (by decide) (fun K hK => ?_); go_simp; refine hK _ _ ⟨still_listed rfl, ?_⟩; clear hK K) | (refine Goes.step rfl (fun _ h₁ => ?_); rw [stepG_unwanted rfl rfl]; simp only [goes_go]; refine ⟨D0.nil, ?_⟩; replace hF := Sm.trans hF h₁; clear h₁; walk_nrm))
      refine Goes.step rfl (fun _ h₁ => ?_)
      rw [stepG_ret']
      simp only [goes_go]
      refine ⟨D0.nil, ?_⟩
      refine Goes.stop fun w₁ h₂ => .at0 fun d => ?_
      have hF := (Sm.trans hF h₁).trans (h₂.trans ⟨d, rfl⟩)
      exact leave1 Try.func8 rfl (R := BSays true w) ⟨rfl, bb.sm hF⟩
    | true =>
      have HQ := Lib.hid hq
      have HT := Lib.hid (qu_turned hq)
      have HS := Lib.hid (qu_neg hq)
      have ht : (turnedL xs).length ≤ maxLen := by rw [len_turned5]; exact hm1
      have hs : (scaledL (-1) xs).length ≤ maxLen := by rw [len_scaled]; exact hm1
      clear hq
      refine beside_by (n := 400) ?_
      repeat (first | a_ctl hF Sm.trans D0.nil | (refine Goes.step rfl (fun _ h₁ => ?_); replace hF := Sm.trans hF h₁; clear h₁; refine goes_oper_k rfl rfl (by decide) (fun K hK => ?_); go_simp; refine hK _ _ ⟨still_listed rfl, ?_⟩; clear hK K) | (refine Goes.step rfl (fun _ h₁ => ?_); rw [stepG_unwanted rfl rfl]; simp only [goes_go]; refine ⟨D0.nil, ?_⟩; replace hF := Sm.trans hF h₁; clear h₁; walk_nrm))
      refine Goes.stop fun w₁ h₁ => ?_
      replace hF := Sm.trans hF h₁
      clear h₁
      refine beside_call rfl rfl (by decide) rfl Try.func34 rfl rfl (by kernel_rfl) (show _ = (#[.slice a1 xs.length c1] : Array Value) from by walk_nrm) (fun d => bsays_sm (hF.trans ⟨d, rfl⟩) (implIsQuiet_b _ xs _ (ra.sm (hF.trans ⟨d, rfl⟩)) hm1)) ?_
      rintro r w2 ⟨rfl, b2⟩
      clear hF
      have ra := ra.below b2 (Nat.le_refl _)
      have bb := bel_nxt bb b2
      have hF := Sm.refl w2
      walk_nrm
      rw [HQ.out]
      refine beside_by (n := 400) ?_
      repeat (first | a_ctl hF Sm.trans D0.nil | (refine Goes.step rfl (fun _ h₁ => ?_); replace hF := Sm.trans hF h₁; clear h₁; refine goes_oper_k rfl rfl (by decide) (fun K hK => ?_); go_simp; refine hK _ _ ⟨still_listed rfl, ?_⟩; clear hK K) | (refine Goes.step rfl (fun _ h₁ => ?_); rw [stepG_unwanted rfl rfl]; simp only [goes_go]; refine ⟨D0.nil, ?_⟩; replace hF := Sm.trans hF h₁; clear h₁; walk_nrm))
      refine Goes.stop fun w₁ h₁ => ?_
      replace hF := Sm.trans hF h₁
      clear h₁
      refine beside_call rfl rfl (by decide) rfl Try.func35 rfl rfl (by kernel_rfl) (show _ = (#[.slice a1 xs.length c1] : Array Value) from by walk_nrm) (fun d => bsays_sm (hF.trans ⟨d, rfl⟩) (specIsQuiet_b _ xs _ (ra.sm (hF.trans ⟨d, rfl⟩)) hm1)) ?_
      rintro r w3 ⟨rfl, b3⟩
      clear hF
      have ra := ra.below b3 (Nat.le_refl _)
      have bb := bel_nxt bb b3
      have hF := Sm.refl w3
      walk_nrm
      rw [HQ.out]
      refine beside_by (n := 400) ?_
      repeat (first | a_ctl hF Sm.trans D0.nil | (refine Goes.step rfl (fun _ h₁ => ?_); replace hF := Sm.trans hF h₁; clear h₁; refine goes_oper_k rfl rfl (by decide) (fun K hK => ?_); go_simp; refine hK _ _ ⟨still_listed rfl, ?_⟩; clear hK K) | (refine Goes.step rfl (fun _ h₁ => ?_); rw [stepG_unwanted rfl rfl]; simp only [goes_go]; refine ⟨D0.nil, ?_⟩; replace hF := Sm.trans hF h₁; clear h₁; walk_nrm))
      a_cond false hF Sm.trans D0.nil
      refine Goes.stop fun w₁ h₁ => ?_
      replace hF := Sm.trans hF h₁
      clear h₁
      refine beside_by (n := 400) ?_
      repeat (first | a_ctl hF Sm.trans D0.nil | (refine Goes.step rfl (fun _ h₁ => ?_); replace hF := Sm.trans hF h₁; clear h₁; refine goes_oper_k rfl rfl (by decide) (fun K hK => ?_); go_simp; refine hK _ _ ⟨still_listed rfl, ?_⟩; clear hK K) | (refine Goes.step rfl (fun _ h₁ => ?_); rw [stepG_unwanted rfl rfl]; simp only [goes_go]; refine ⟨D0.nil, ?_⟩; replace hF := Sm.trans hF h₁; clear h₁; walk_nrm))
      refine Goes.stop fun w₁ h₁ => ?_
      replace hF := Sm.trans hF h₁
      clear h₁
      refine beside_call rfl rfl (by decide) rfl Try.func16 rfl rfl (by kernel_rfl) (show _ = (#[.slice a1 xs.length c1] : Array Value) from by walk_nrm) (fun d => bmade_sm (hF.trans ⟨d, rfl⟩) (turned_b _ xs _ (ra.sm (hF.trans ⟨d, rfl⟩)) hx1)) ?_
      rintro v5 w4 ⟨ov5, b4⟩
      clear hF
      have ra := ra.below b4 (Nat.le_refl _)
      have bb := bel_nxt bb b4
      have rv5 := ov5.rd
      clear ov5
      have hF := Sm.refl w4
      walk_nrm
      refine beside_by (n := 400) ?_
      repeat (first | a_ctl hF Sm.trans D0.nil | (refine Goes.step rfl (fun _ h₁ => ?_); replace hF := Sm.trans hF h₁; clear h₁; refine goes_oper_k rfl rfl (by decide) (fun K hK => ?_); go_simp; refine hK _ _ ⟨still_listed rfl, ?_⟩; clear hK K) | (refine Goes.step rfl (fun _ h₁ => ?_); rw [stepG_unwanted rfl rfl]; simp only [goes_go]; refine ⟨D0.nil, ?_⟩; replace hF := Sm.trans hF h₁; clear h₁; walk_nrm))
      refine Goes.stop fun w₁ h₁ => ?_
      replace hF := Sm.trans hF h₁
      clear h₁
      refine beside_call rfl rfl (by decide) rfl Try.func34 rfl rfl (by kernel_rfl) (show _ = (#[v5] : Array Value) from by walk_nrm) (fun d => bsays_sm (hF.trans ⟨d, rfl⟩) (implIsQuiet_b _ (turnedL xs) _ (rv5.sm (hF.trans ⟨d, rfl⟩)) ht)) ?_
      rintro r w5 ⟨rfl, b5⟩
      clear hF
      have ra := ra.below b5 (Nat.le_refl _)
      have rv5 := rv5.below b5 (Nat.le_refl _)
      have bb := bel_nxt bb b5
      have hF := Sm.refl w5
      walk_nrm
      rw [HT.out]
      refine beside_by (n := 400) ?_
      repeat (first | a_ctl hF Sm.trans D0.nil | (refine Goes.step rfl (fun _ h₁ => ?_); replace hF := Sm.trans hF h₁; clear h₁; refine goes_oper_k rfl rfl (by decide) (fun K hK => ?_); go_simp; refine hK _ _ ⟨still_listed rfl, ?_⟩; clear hK K) | (refine Goes.step rfl (fun _ h₁ => ?_); rw [stepG_unwanted rfl rfl]; simp only [goes_go]; refine ⟨D0.nil, ?_⟩; replace hF := Sm.trans hF h₁; clear h₁; walk_nrm))
      refine Goes.stop fun w₁ h₁ => ?_
      replace hF := Sm.trans hF h₁
      clear h₁
      refine beside_call rfl rfl (by decide) rfl Try.func36 rfl rfl (by kernel_rfl) (show _ = (#[.slice a1 xs.length c1, .int .i64 (-1)] : Array Value) from by walk_nrm) (fun d => bmade_sm (hF.trans ⟨d, rfl⟩) (scaled_b _ xs (-1) _ (ra.sm (hF.trans ⟨d, rfl⟩)) hx1)) ?_
      rintro v6 w6 ⟨ov6, b6⟩
      clear hF
      have ra := ra.below b6 (Nat.le_refl _)
      have rv5 := rv5.below b6 (Nat.le_refl _)
      have bb := bel_nxt bb b6
      have rv6 := ov6.rd
      clear ov6
      have hF := Sm.refl w6
      walk_nrm
      refine beside_by (n := 400) ?_
      repeat (first | a_ctl hF Sm.trans D0.nil | (refine Goes.step rfl (fun _ h₁ => ?_); replace hF := Sm.trans hF h₁; clear h₁; refine goes_oper_k rfl rfl (by decide) (fun K hK => ?_); go_simp; refine hK _ _ ⟨still_listed rfl, ?_⟩; clear hK K) | (refine Goes.step rfl (fun _ h₁ => ?_); rw [stepG_unwanted rfl rfl]; simp only [goes_go]; refine ⟨D0.nil, ?_⟩; replace hF := Sm.trans hF h₁; clear h₁; walk_nrm))
      refine Goes.stop fun w₁ h₁ => ?_
      replace hF := Sm.trans hF h₁
      clear h₁
      refine beside_call rfl rfl (by decide) rfl Try.func34 rfl rfl (by kernel_rfl) (show _ = (#[v6] : Array Value) from by walk_nrm) (fun d => bsays_sm (hF.trans ⟨d, rfl⟩) (implIsQuiet_b _ (scaledL (-1) xs) _ (rv6.sm (hF.trans ⟨d, rfl⟩)) hs)) ?_
      rintro r w7 ⟨rfl, b7⟩
      clear hF
      have ra := ra.below b7 (Nat.le_refl _)
      have rv5 := rv5.below b7 (Nat.le_refl _)
      have rv6 := rv6.below b7 (Nat.le_refl _)
      have bb := bel_nxt bb b7
      have hF := Sm.refl w7
      walk_nrm
      rw [HS.out]
      refine beside_by (n := 400) ?_
      repeat (first | a_ctl hF Sm.trans D0.nil | (refine Goes.step rfl (fun _ h₁ => ?_); replace hF := Sm.trans hF h₁; clear h₁; refine goes_oper_k rfl rfl (by decide) (fun K hK => ?_); go_simp; refine hK _ _ ⟨still_listed rfl, ?_⟩; clear hK K) | (refine Goes.step rfl (fun _ h₁ => ?_); rw [stepG_unwanted rfl rfl]; simp only [goes_go]; refine ⟨D0.nil, ?_⟩; replace hF := Sm.trans hF h₁; clear h₁; walk_nrm))
      refine Goes.step rfl (fun _ h₁ => ?_)
      rw [stepG_ret']
      simp only [goes_go]
      refine ⟨D0.nil, ?_⟩
      refine Goes.stop fun w₁ h₂ => .at0 fun d => ?_
      have hF := (Sm.trans hF h₁).trans (h₂.trans ⟨d, rfl⟩)
      exact leave1 Try.func8 rfl (R := BSays true w) ⟨rfl, bb.sm hF⟩
  · have i1 : ((1048576 : Int) < (n : Int)) := by omega
    refine beside_by (n := 400) ?_
    repeat (first | a_ctl hF Sm.trans D0.nil | (refine Goes.step rfl (fun _ h₁ => ?_); replace hF := Sm.trans hF h₁; clear h₁; refine goes_oper_k rfl rfl (by decide) (fun K hK => ?_); go_simp; refine hK _ _ ⟨still_listed rfl, ?_⟩; clear hK K) | (refine Goes.step rfl (fun _ h₁ => ?_); rw [stepG_unwanted rfl rfl]; simp only [goes_go]; refine ⟨D0.nil, ?_⟩; replace hF := Sm.trans hF h₁; clear h₁; walk_nrm))
    a_cond true hF Sm.trans D0.nil
    repeat (first | a_ctl hF Sm.trans D0.nil | (refine Goes.step rfl (fun _ h₁ => ?_); replace hF := Sm.trans hF h₁; clear h₁; refine goes_oper_k rfl rfl (by decide) (fun K hK => ?_); go_simp; refine hK _ _ ⟨still_listed rfl, ?_⟩; clear hK K) | (refine Goes.step rfl (fun _ h₁ => ?_); rw [stepG_unwanted rfl rfl]; simp only [goes_go]; refine ⟨D0.nil, ?_⟩; replace hF := Sm.trans hF h₁; clear h₁; walk_nrm))
    refine Goes.step rfl (fun _ h₁ => ?_)
    rw [stepG_ret']
    simp only [goes_go]
    refine ⟨D0.nil, ?_⟩
    refine Goes.stop fun w₁ h₂ => .at0 fun d => ?_
    have hF := (Sm.trans hF h₁).trans (h₂.trans ⟨d, rfl⟩)
    exact leave1 Try.func8 rfl (R := BSays true w) ⟨rfl, (Below.refl w.heap.size w).sm hF⟩

end Go.Proofs.Ytlglokbakmbpdaa
