/-
  The law FnArePaired, in company (written by ch5pair.py).
-/
import Derived.Test.YtagncoahobghpacPtL
import Derived.Test.YtagncoahobghpacUr
import Derived.Test.YtagncoahobghpacUnS
import Derived.Test.YtagncoahobghpacPdQ
import Derived.Test.YtagncoahobghpacDraw7
import Derived.Test.YtagncoahobghpacEnB
namespace Go.Proofs.Ytagncoahobghpac
open Go Go.Conc Go.RowKit
set_option linter.unusedVariables false

theorem scaledP_b (v : Value) (xs : List Int) (c : Int) (w : World) (h : Rd w v xs) (hl : xs.length ≤ 1048576) : BCalls Try.prog 21 #[v, .int .i64 c] w (BMade 3 w (scaledL c xs)) :=
  bmade_of [21] (by kernel_rfl) Try.func21 rfl (by kernel_rfl) (by kernel_rfl) fun τ d => scaled_any v xs c (reT w τ d) h hl

theorem specArePairedP_b (u v : Value) (xs ys : List Int) (w : World) (hx : Rd w u xs) (hy : Rd w v ys) (hl1 : xs.length ≤ maxLen) (hl2 : ys.length ≤ maxLen) : BCalls Try.prog 20 #[u, v] w (BSays (paB xs ys) w) :=
  bsays_of [20, 39, 51, 29, 32, 41] (by kernel_rfl) Try.func20 rfl (by kernel_rfl) (by kernel_rfl) fun τ d => specArePaired_any u v xs ys (reT w τ d) hx hy hl1 hl2

theorem en_signs {xs : List Int} (h : sgnB xs = true) : energyF xs = xs.length := by
  have h1 := sgnB_of h
  have h2 := (vrB_of h1.1).1
  unfold energyF
  rw [if_pos h1.1, sq_signs (pmB_of h1.2)]
  exact w64_id (by omega)

theorem drawArePaired_b (v : Value) (n : Nat) (w : World) (h : RdB w v n) : BCalls Try.prog 18 #[v] w (BDrew2 3 w) :=
  bcalls_of_calls noinit (callees [18, 22, 36, 46, 45, 39, 51, 29, 32, 41, 40, 24] (by kernel_rfl)) Try.func18 rfl (by kernel_rfl) (by kernel_rfl) (fun w r w' => BDrew2 3 w r w') (bdrew2_blind _)
    fun τ d => (drawArePaired_any v n (reT w τ d) h).mono fun e w' ⟨u, v, xs, ys, h1, h2⟩ => ⟨_, h1, u, v, xs, ys, rfl, h2⟩

set_option maxRecDepth 100000 in
set_option maxHeartbeats 40000000 in
theorem lawArePaired_b (v : Value) (n : Nat) (w : World) (h : RdB w v n) :
    BCalls Try.prog 5 #[v] w (BSays true w) := by
  intro cs
  have h0 := h
  obtain ⟨ca, cap, hv, h2, -, -⟩ := h0
  rw [enter_at _ Try.func5 rfl]
  simp only [Try.f5, List.size_toArray, List.length_cons, List.length_nil, Nat.reduceAdd, Nat.reduceSub, Array.replicate_succ, Array.replicate_zero, List.push_toArray, List.append_toArray, List.nil_append, List.cons_append]
  have hF : Sm w w := Sm.refl w
  subst hv
  by_cases hb1 : n ≤ 1048576
  · have i1 : ¬ ((1048576 : Int) < (n : Int)) := by omega
    have bb := Below.refl w.heap.size w
    refine beside_by (n := 400) ?_
    repeat (first | a_ctl hF Sm.trans D0.nil | (refine Goes.step rfl (fun _ h₁ => ?_); replace hF := Sm.trans hF h₁; clear h₁; refine goes_oper_k rfl rfl (by decide) (fun K hK => ?_); go_simp; refine hK _ _ ⟨still_listed rfl, ?_⟩; clear hK K) | (refine Goes.step rfl (fun _ h₁ => ?_); rw [stepG_unwanted rfl rfl]; simp only [goes_go]; refine ⟨D0.nil, ?_⟩; replace hF := Sm.trans hF h₁; clear h₁; walk_nrm))
    a_cond false hF Sm.trans D0.nil
    refine Goes.stop fun w₁ h₁ => ?_
    replace hF := Sm.trans hF h₁
    clear h₁
    refine beside_by (n := 400) ?_
    repeat (first | a_ctl hF Sm.trans D0.nil | (refine Goes.step rfl (fun _ h₁ => ?_); replace hF := Sm.trans hF h₁; clear h₁; refine goes_oper_k rfl rfl (by decide) (fun K hK => ?_); go_simp; refine hK _ _ ⟨still_listed rfl, ?_⟩; clear hK K) | (refine Goes.step rfl (fun _ h₁ => ?_); rw [stepG_unwanted rfl rfl]; simp only [goes_go]; refine ⟨D0.nil, ?_⟩; replace hF := Sm.trans hF h₁; clear h₁; walk_nrm))
    refine Goes.stop fun w₁ h₁ => ?_
    replace hF := Sm.trans hF h₁
    clear h₁
    refine beside_call rfl rfl (by decide) rfl Try.func18 rfl rfl (by kernel_rfl) (show _ = (#[.slice ca n cap] : Array Value) from by walk_nrm) (fun d => bdrew2_sm (hF.trans ⟨d, rfl⟩) (drawArePaired_b _ n _ (h.sm (hF.trans ⟨d, rfl⟩)))) ?_
    rintro r w1 ⟨u1, u2, xs, ys, rfl, oa, ob, hl1, hl2, hw1, hw2, b1⟩
    clear hF
    have bb := b1
    have ra := oa.rd
    have rb := ob.rd
    clear oa ob hw1 hw2 b1 h
    have hm1 := Own.max64 hl1
    have hm2 := Own.max64 hl2
    have hx1 : xs.length ≤ 1048576 := by omega
    have hx2 : ys.length ≤ 1048576 := by omega
    obtain ⟨a1, c1, hv1, -⟩ := id ra
    obtain ⟨a2, c2, hv2, -⟩ := id rb
    subst hv1 hv2
    have hF := Sm.refl w1
    walk_nrm
    cases hq : paB xs ys with
    | false =>
      have HQ := Lib.hid hq
      clear hq
      refine beside_by (n := 400) ?_
      repeat (first | a_ctl hF Sm.trans D0.nil | (refine Goes.step rfl (fun _ h₁ => ?_); replace hF := Sm.trans hF h₁; clear h₁; refine goes_oper_k rfl rfl (by decide) (fun K hK => ?_); go_simp; refine hK _ _ ⟨still_listed rfl, ?_⟩; clear hK K) | (refine Goes.step rfl (fun _ h₁ => ?_); rw [stepG_unwanted rfl rfl]; simp only [goes_go]; refine ⟨D0.nil, ?_⟩; replace hF := Sm.trans hF h₁; clear h₁; walk_nrm))
      refine Goes.stop fun w₁ h₁ => ?_
      replace hF := Sm.trans hF h₁
      clear h₁
      refine beside_call rfl rfl (by decide) rfl Try.func19 rfl rfl (by kernel_rfl) (show _ = (#[.slice a1 xs.length c1, .slice a2 ys.length c2] : Array Value) from by walk_nrm) (fun d => bsays_sm (hF.trans ⟨d, rfl⟩) (implArePaired_b _ _ xs ys _ (ra.sm (hF.trans ⟨d, rfl⟩)) (rb.sm (hF.trans ⟨d, rfl⟩)) hm1 hm2)) ?_
      rintro r w2 ⟨rfl, b2⟩
      clear hF
      have ra := ra.below b2 (Nat.le_refl _)
      have rb := rb.below b2 (Nat.le_refl _)
      have bb := bel_nxt bb b2
      have hF := Sm.refl w2
      walk_nrm
      rw [HQ.out]
      refine beside_by (n := 400) ?_
      repeat (first | a_ctl hF Sm.trans D0.nil | (refine Goes.step rfl (fun _ h₁ => ?_); replace hF := Sm.trans hF h₁; clear h₁; refine goes_oper_k rfl rfl (by decide) (fun K hK => ?_); go_simp; refine hK _ _ ⟨still_listed rfl, ?_⟩; clear hK K) | (refine Goes.step rfl (fun _ h₁ => ?_); rw [stepG_unwanted rfl rfl]; simp only [goes_go]; refine ⟨D0.nil, ?_⟩; replace hF := Sm.trans hF h₁; clear h₁; walk_nrm))
      refine Goes.stop fun w₁ h₁ => ?_
      replace hF := Sm.trans hF h₁
      clear h₁
      refine beside_call rfl rfl (by decide) rfl Try.func20 rfl rfl (by kernel_rfl) (show _ = (#[.slice a1 xs.length c1, .slice a2 ys.length c2] : Array Value) from by walk_nrm) (fun d => bsays_sm (hF.trans ⟨d, rfl⟩) (specArePairedP_b _ _ xs ys _ (ra.sm (hF.trans ⟨d, rfl⟩)) (rb.sm (hF.trans ⟨d, rfl⟩)) hm1 hm2)) ?_
      rintro r w3 ⟨rfl, b3⟩
      clear hF
      have ra := ra.below b3 (Nat.le_refl _)
      have rb := rb.below b3 (Nat.le_refl _)
      have bb := bel_nxt bb b3
      have hF := Sm.refl w3
      walk_nrm
      rw [HQ.out]
      refine beside_by (n := 400) ?_
      repeat (first | a_ctl hF Sm.trans D0.nil | (refine Goes.step rfl (fun _ h₁ => ?_); replace hF := Sm.trans hF h₁; clear h₁; refine goes_oper_k rfl rfl (by decide) (fun K hK => ?_); go_simp; refine hK _ _ ⟨still_listed rfl, ?_⟩; clear hK K) | (refine Goes.step rfl (fun _ h₁ => ?_); rw [stepG_unwanted rfl rfl]; simp only [goes_go]; refine ⟨D0.nil, ?_⟩; replace hF := Sm.trans hF h₁; clear h₁; walk_nrm))
      a_cond true hF Sm.trans D0.nil
      refine Goes.stop fun w₁ h₁ => ?_
      replace hF := Sm.trans hF h₁
      clear h₁
      refine beside_by (n := 400) ?_
      repeat (first | a_ctl hF Sm.trans D0.nil | (refine Goes.step rfl (fun _ h₁ => ?_); replace hF := Sm.trans hF h₁; clear h₁; refine goes_oper_k rfl rfl (by decide) (fun K hK => ?_); go_simp; refine hK _ _ ⟨still_listed rfl, ?_⟩; clear hK K) | (refine Goes.step rfl (fun _ h₁ => ?_); rw [stepG_unwanted rfl rfl]; simp only [goes_go]; refine ⟨D0.nil, ?_⟩; replace hF := Sm.trans hF h₁; clear h₁; walk_nrm))
      refine Goes.stop fun w₁ h₁ => ?_
      replace hF := Sm.trans hF h₁
      clear h₁
      refine beside_call rfl rfl (by decide) rfl Try.func20 rfl rfl (by kernel_rfl) (show _ = (#[.slice a1 xs.length c1, .slice a2 ys.length c2] : Array Value) from by walk_nrm) (fun d => bsays_sm (hF.trans ⟨d, rfl⟩) (specArePairedP_b _ _ xs ys _ (ra.sm (hF.trans ⟨d, rfl⟩)) (rb.sm (hF.trans ⟨d, rfl⟩)) hm1 hm2)) ?_
      rintro r w4 ⟨rfl, b4⟩
      clear hF
      have ra := ra.below b4 (Nat.le_refl _)
      have rb := rb.below b4 (Nat.le_refl _)
      have bb := bel_nxt bb b4
      have hF := Sm.refl w4
      walk_nrm
      rw [HQ.out]
      refine beside_by (n := 400) ?_
      repeat (first | a_ctl hF Sm.trans D0.nil | (refine Goes.step rfl (fun _ h₁ => ?_); replace hF := Sm.trans hF h₁; clear h₁; refine goes_oper_k rfl rfl (by decide) (fun K hK => ?_); go_simp; refine hK _ _ ⟨still_listed rfl, ?_⟩; clear hK K) | (refine Goes.step rfl (fun _ h₁ => ?_); rw [stepG_unwanted rfl rfl]; simp only [goes_go]; refine ⟨D0.nil, ?_⟩; replace hF := Sm.trans hF h₁; clear h₁; walk_nrm))
      refine Goes.step rfl (fun _ h₁ => ?_)
      rw [stepG_ret']
      simp only [goes_go]
      refine ⟨D0.nil, ?_⟩
      refine Goes.stop fun w₁ h₂ => .at0 fun d => ?_
      have hF := (Sm.trans hF h₁).trans (h₂.trans ⟨d, rfl⟩)
      exact leave1 Try.func5 rfl (R := BSays true w) ⟨rfl, bb.sm hF⟩
    | true =>
      have HQ := Lib.hid hq
      have H1 := Lib.hid (pa_sym hq)
      have H2 := Lib.hid (pa_turned hq)
      have H3 := Lib.hid (pa_neg hq)
      have hp := paB_of hq
      have hle := (vrB_of (sgnB_of hp.1).1).1
      have HE1 : Hid (energyF xs = (xs.length : Int)) := Lib.hid (en_signs hp.1)
      have HE2 : Hid (energyF ys = (xs.length : Int)) := Lib.hid (by rw [hp.2.2.1]; exact en_signs hp.2.1)
      have ht : (turnedL xs).length ≤ maxLen := by rw [len_turned5]; exact hm1
      have hs : (scaledL (-1) ys).length ≤ maxLen := by rw [len_scaled]; exact hm2
      have i6 : IntKind.i64.wrap ((xs.length : Int) + (xs.length : Int)) = 2 * (xs.length : Int) := by rw [IntWalk.i64_in _ (by omega)]; omega
      have i7 : IntKind.i64.wrap (2 * (xs.length : Int)) = 2 * (xs.length : Int) := IntWalk.i64_in _ (by omega)
      clear hq hp hle
      refine beside_by (n := 400) ?_
      repeat (first | a_ctl hF Sm.trans D0.nil | (refine Goes.step rfl (fun _ h₁ => ?_); replace hF := Sm.trans hF h₁; clear h₁; refine goes_oper_k rfl rfl (by decide) (fun K hK => ?_); go_simp; refine hK _ _ ⟨still_listed rfl, ?_⟩; clear hK K) | (refine Goes.step rfl (fun _ h₁ => ?_); rw [stepG_unwanted rfl rfl]; simp only [goes_go]; refine ⟨D0.nil, ?_⟩; replace hF := Sm.trans hF h₁; clear h₁; walk_nrm))
      refine Goes.stop fun w₁ h₁ => ?_
      replace hF := Sm.trans hF h₁
      clear h₁
      refine beside_call rfl rfl (by decide) rfl Try.func19 rfl rfl (by kernel_rfl) (show _ = (#[.slice a1 xs.length c1, .slice a2 ys.length c2] : Array Value) from by walk_nrm) (fun d => bsays_sm (hF.trans ⟨d, rfl⟩) (implArePaired_b _ _ xs ys _ (ra.sm (hF.trans ⟨d, rfl⟩)) (rb.sm (hF.trans ⟨d, rfl⟩)) hm1 hm2)) ?_
      rintro r w2 ⟨rfl, b2⟩
      clear hF
      have ra := ra.below b2 (Nat.le_refl _)
      have rb := rb.below b2 (Nat.le_refl _)
      have bb := bel_nxt bb b2
      have hF := Sm.refl w2
      walk_nrm
      rw [HQ.out]
      refine beside_by (n := 400) ?_
      repeat (first | a_ctl hF Sm.trans D0.nil | (refine Goes.step rfl (fun _ h₁ => ?_); replace hF := Sm.trans hF h₁; clear h₁; refine goes_oper_k rfl rfl (by decide) (fun K hK => ?_); go_simp; refine hK _ _ ⟨still_listed rfl, ?_⟩; clear hK K) | (refine Goes.step rfl (fun _ h₁ => ?_); rw [stepG_unwanted rfl rfl]; simp only [goes_go]; refine ⟨D0.nil, ?_⟩; replace hF := Sm.trans hF h₁; clear h₁; walk_nrm))
      refine Goes.stop fun w₁ h₁ => ?_
      replace hF := Sm.trans hF h₁
      clear h₁
      refine beside_call rfl rfl (by decide) rfl Try.func20 rfl rfl (by kernel_rfl) (show _ = (#[.slice a1 xs.length c1, .slice a2 ys.length c2] : Array Value) from by walk_nrm) (fun d => bsays_sm (hF.trans ⟨d, rfl⟩) (specArePairedP_b _ _ xs ys _ (ra.sm (hF.trans ⟨d, rfl⟩)) (rb.sm (hF.trans ⟨d, rfl⟩)) hm1 hm2)) ?_
      rintro r w3 ⟨rfl, b3⟩
      clear hF
      have ra := ra.below b3 (Nat.le_refl _)
      have rb := rb.below b3 (Nat.le_refl _)
      have bb := bel_nxt bb b3
      have hF := Sm.refl w3
      walk_nrm
      rw [HQ.out]
      refine beside_by (n := 400) ?_
      repeat (first | a_ctl hF Sm.trans D0.nil | (refine Goes.step rfl (fun _ h₁ => ?_); replace hF := Sm.trans hF h₁; clear h₁; refine goes_oper_k rfl rfl (by decide) (fun K hK => ?_); go_simp; refine hK _ _ ⟨still_listed rfl, ?_⟩; clear hK K) | (refine Goes.step rfl (fun _ h₁ => ?_); rw [stepG_unwanted rfl rfl]; simp only [goes_go]; refine ⟨D0.nil, ?_⟩; replace hF := Sm.trans hF h₁; clear h₁; walk_nrm))
      a_cond false hF Sm.trans D0.nil
      refine Goes.stop fun w₁ h₁ => ?_
      replace hF := Sm.trans hF h₁
      clear h₁
      refine beside_by (n := 400) ?_
      repeat (first | a_ctl hF Sm.trans D0.nil | (refine Goes.step rfl (fun _ h₁ => ?_); replace hF := Sm.trans hF h₁; clear h₁; refine goes_oper_k rfl rfl (by decide) (fun K hK => ?_); go_simp; refine hK _ _ ⟨still_listed rfl, ?_⟩; clear hK K) | (refine Goes.step rfl (fun _ h₁ => ?_); rw [stepG_unwanted rfl rfl]; simp only [goes_go]; refine ⟨D0.nil, ?_⟩; replace hF := Sm.trans hF h₁; clear h₁; walk_nrm))
      refine Goes.stop fun w₁ h₁ => ?_
      replace hF := Sm.trans hF h₁
      clear h₁
      refine beside_call rfl rfl (by decide) rfl Try.func19 rfl rfl (by kernel_rfl) (show _ = (#[.slice a2 ys.length c2, .slice a1 xs.length c1] : Array Value) from by walk_nrm) (fun d => bsays_sm (hF.trans ⟨d, rfl⟩) (implArePaired_b _ _ ys xs _ (rb.sm (hF.trans ⟨d, rfl⟩)) (ra.sm (hF.trans ⟨d, rfl⟩)) hm2 hm1)) ?_
      rintro r w4 ⟨rfl, b4⟩
      clear hF
      have ra := ra.below b4 (Nat.le_refl _)
      have rb := rb.below b4 (Nat.le_refl _)
      have bb := bel_nxt bb b4
      have hF := Sm.refl w4
      walk_nrm
      rw [H1.out]
      refine beside_by (n := 400) ?_
      repeat (first | a_ctl hF Sm.trans D0.nil | (refine Goes.step rfl (fun _ h₁ => ?_); replace hF := Sm.trans hF h₁; clear h₁; refine goes_oper_k rfl rfl (by decide) (fun K hK => ?_); go_simp; refine hK _ _ ⟨still_listed rfl, ?_⟩; clear hK K) | (refine Goes.step rfl (fun _ h₁ => ?_); rw [stepG_unwanted rfl rfl]; simp only [goes_go]; refine ⟨D0.nil, ?_⟩; replace hF := Sm.trans hF h₁; clear h₁; walk_nrm))
      refine Goes.stop fun w₁ h₁ => ?_
      replace hF := Sm.trans hF h₁
      clear h₁
      refine beside_call rfl rfl (by decide) rfl Try.func15 rfl rfl (by kernel_rfl) (show _ = (#[.slice a1 xs.length c1] : Array Value) from by walk_nrm) (fun d => bmade_sm (hF.trans ⟨d, rfl⟩) (turned_b _ xs _ (ra.sm (hF.trans ⟨d, rfl⟩)) hx1)) ?_
      rintro v5 w5 ⟨ov5, b5⟩
      clear hF
      have ra := ra.below b5 (Nat.le_refl _)
      have rb := rb.below b5 (Nat.le_refl _)
      have bb := bel_nxt bb b5
      have rv5 := ov5.rd
      clear ov5
      have hF := Sm.refl w5
      walk_nrm
      refine beside_by (n := 400) ?_
      repeat (first | a_ctl hF Sm.trans D0.nil | (refine Goes.step rfl (fun _ h₁ => ?_); replace hF := Sm.trans hF h₁; clear h₁; refine goes_oper_k rfl rfl (by decide) (fun K hK => ?_); go_simp; refine hK _ _ ⟨still_listed rfl, ?_⟩; clear hK K) | (refine Goes.step rfl (fun _ h₁ => ?_); rw [stepG_unwanted rfl rfl]; simp only [goes_go]; refine ⟨D0.nil, ?_⟩; replace hF := Sm.trans hF h₁; clear h₁; walk_nrm))
      refine Goes.stop fun w₁ h₁ => ?_
      replace hF := Sm.trans hF h₁
      clear h₁
      refine beside_call rfl rfl (by decide) rfl Try.func19 rfl rfl (by kernel_rfl) (show _ = (#[v5, .slice a2 ys.length c2] : Array Value) from by walk_nrm) (fun d => bsays_sm (hF.trans ⟨d, rfl⟩) (implArePaired_b _ _ (turnedL xs) ys _ (rv5.sm (hF.trans ⟨d, rfl⟩)) (rb.sm (hF.trans ⟨d, rfl⟩)) ht hm2)) ?_
      rintro r w6 ⟨rfl, b6⟩
      clear hF
      have ra := ra.below b6 (Nat.le_refl _)
      have rb := rb.below b6 (Nat.le_refl _)
      have rv5 := rv5.below b6 (Nat.le_refl _)
      have bb := bel_nxt bb b6
      have hF := Sm.refl w6
      walk_nrm
      rw [H2.out]
      refine beside_by (n := 400) ?_
      repeat (first | a_ctl hF Sm.trans D0.nil | (refine Goes.step rfl (fun _ h₁ => ?_); replace hF := Sm.trans hF h₁; clear h₁; refine goes_oper_k rfl rfl (by decide) (fun K hK => ?_); go_simp; refine hK _ _ ⟨still_listed rfl, ?_⟩; clear hK K) | (refine Goes.step rfl (fun _ h₁ => ?_); rw [stepG_unwanted rfl rfl]; simp only [goes_go]; refine ⟨D0.nil, ?_⟩; replace hF := Sm.trans hF h₁; clear h₁; walk_nrm))
      refine Goes.stop fun w₁ h₁ => ?_
      replace hF := Sm.trans hF h₁
      clear h₁
      refine beside_call rfl rfl (by decide) rfl Try.func21 rfl rfl (by kernel_rfl) (show _ = (#[.slice a2 ys.length c2, .int .i64 (-1)] : Array Value) from by walk_nrm) (fun d => bmade_sm (hF.trans ⟨d, rfl⟩) (scaledP_b _ ys (-1) _ (rb.sm (hF.trans ⟨d, rfl⟩)) hx2)) ?_
      rintro v6 w7 ⟨ov6, b7⟩
      clear hF
      have ra := ra.below b7 (Nat.le_refl _)
      have rb := rb.below b7 (Nat.le_refl _)
      have rv5 := rv5.below b7 (Nat.le_refl _)
      have bb := bel_nxt bb b7
      have rv6 := ov6.rd
      clear ov6
      have hF := Sm.refl w7
      walk_nrm
      refine beside_by (n := 400) ?_
      repeat (first | a_ctl hF Sm.trans D0.nil | (refine Goes.step rfl (fun _ h₁ => ?_); replace hF := Sm.trans hF h₁; clear h₁; refine goes_oper_k rfl rfl (by decide) (fun K hK => ?_); go_simp; refine hK _ _ ⟨still_listed rfl, ?_⟩; clear hK K) | (refine Goes.step rfl (fun _ h₁ => ?_); rw [stepG_unwanted rfl rfl]; simp only [goes_go]; refine ⟨D0.nil, ?_⟩; replace hF := Sm.trans hF h₁; clear h₁; walk_nrm))
      refine Goes.stop fun w₁ h₁ => ?_
      replace hF := Sm.trans hF h₁
      clear h₁
      refine beside_call rfl rfl (by decide) rfl Try.func19 rfl rfl (by kernel_rfl) (show _ = (#[.slice a1 xs.length c1, v6] : Array Value) from by walk_nrm) (fun d => bsays_sm (hF.trans ⟨d, rfl⟩) (implArePaired_b _ _ xs (scaledL (-1) ys) _ (ra.sm (hF.trans ⟨d, rfl⟩)) (rv6.sm (hF.trans ⟨d, rfl⟩)) hm1 hs)) ?_
      rintro r w8 ⟨rfl, b8⟩
      clear hF
      have ra := ra.below b8 (Nat.le_refl _)
      have rb := rb.below b8 (Nat.le_refl _)
      have rv5 := rv5.below b8 (Nat.le_refl _)
      have rv6 := rv6.below b8 (Nat.le_refl _)
      have bb := bel_nxt bb b8
      have hF := Sm.refl w8
      walk_nrm
      rw [H3.out]
      refine beside_by (n := 400) ?_
      repeat (first | a_ctl hF Sm.trans D0.nil | (refine Goes.step rfl (fun _ h₁ => ?_); replace hF := Sm.trans hF h₁; clear h₁; refine goes_oper_k rfl rfl (by decide) (fun K hK => ?_); go_simp; refine hK _ _ ⟨still_listed rfl, ?_⟩; clear hK K) | (refine Goes.step rfl (fun _ h₁ => ?_); rw [stepG_unwanted rfl rfl]; simp only [goes_go]; refine ⟨D0.nil, ?_⟩; replace hF := Sm.trans hF h₁; clear h₁; walk_nrm))
      refine Goes.stop fun w₁ h₁ => ?_
      replace hF := Sm.trans hF h₁
      clear h₁
      refine beside_call rfl rfl (by decide) rfl Try.func16 rfl rfl (by kernel_rfl) (show _ = (#[.slice a1 xs.length c1] : Array Value) from by walk_nrm) (fun d => btells_sm (hF.trans ⟨d, rfl⟩) (implEnergyOf_b _ xs _ (ra.sm (hF.trans ⟨d, rfl⟩)) hm1)) ?_
      rintro r w9 ⟨rfl, b9⟩
      clear hF
      have ra := ra.below b9 (Nat.le_refl _)
      have rb := rb.below b9 (Nat.le_refl _)
      have rv5 := rv5.below b9 (Nat.le_refl _)
      have rv6 := rv6.below b9 (Nat.le_refl _)
      have bb := bel_nxt bb b9
      have hF := Sm.refl w9
      walk_nrm
      rw [HE1.out]
      refine beside_by (n := 400) ?_
      repeat (first | a_ctl hF Sm.trans D0.nil | (refine Goes.step rfl (fun _ h₁ => ?_); replace hF := Sm.trans hF h₁; clear h₁; refine goes_oper_k rfl rfl (by decide) (fun K hK => ?_); go_simp; refine hK _ _ ⟨still_listed rfl, ?_⟩; clear hK K) | (refine Goes.step rfl (fun _ h₁ => ?_); rw [stepG_unwanted rfl rfl]; simp only [goes_go]; refine ⟨D0.nil, ?_⟩; replace hF := Sm.trans hF h₁; clear h₁; walk_nrm))
      refine Goes.stop fun w₁ h₁ => ?_
      replace hF := Sm.trans hF h₁
      clear h₁
      refine beside_call rfl rfl (by decide) rfl Try.func16 rfl rfl (by kernel_rfl) (show _ = (#[.slice a2 ys.length c2] : Array Value) from by walk_nrm) (fun d => btells_sm (hF.trans ⟨d, rfl⟩) (implEnergyOf_b _ ys _ (rb.sm (hF.trans ⟨d, rfl⟩)) hm2)) ?_
      rintro r w10 ⟨rfl, b10⟩
      clear hF
      have ra := ra.below b10 (Nat.le_refl _)
      have rb := rb.below b10 (Nat.le_refl _)
      have rv5 := rv5.below b10 (Nat.le_refl _)
      have rv6 := rv6.below b10 (Nat.le_refl _)
      have bb := bel_nxt bb b10
      have hF := Sm.refl w10
      walk_nrm
      rw [HE2.out]
      refine beside_by (n := 400) ?_
      repeat (first | a_ctl hF Sm.trans D0.nil | (refine Goes.step rfl (fun _ h₁ => ?_); replace hF := Sm.trans hF h₁; clear h₁; refine goes_oper_k rfl rfl (by decide) (fun K hK => ?_); go_simp; refine hK _ _ ⟨still_listed rfl, ?_⟩; clear hK K) | (refine Goes.step rfl (fun _ h₁ => ?_); rw [stepG_unwanted rfl rfl]; simp only [goes_go]; refine ⟨D0.nil, ?_⟩; replace hF := Sm.trans hF h₁; clear h₁; walk_nrm))
      refine Goes.step rfl (fun _ h₁ => ?_)
      rw [stepG_ret']
      simp only [goes_go]
      refine ⟨D0.nil, ?_⟩
      refine Goes.stop fun w₁ h₂ => .at0 fun d => ?_
      have hF := (Sm.trans hF h₁).trans (h₂.trans ⟨d, rfl⟩)
      exact leave1 Try.func5 rfl (R := BSays true w) ⟨rfl, bb.sm hF⟩
  · have i1 : ((1048576 : Int) < (n : Int)) := by omega
    refine beside_by (n := 400) ?_
    repeat (first | a_ctl hF Sm.trans D0.nil | (refine Goes.step rfl (fun _ h₁ => ?_); replace hF := Sm.trans hF h₁; clear h₁; refine goes_oper_k rfl rfl (by decide) (fun K hK => ?_); go_simp; refine hK _ _ ⟨still_listed rfl, ?_⟩; clear hK K) | (refine Goes.step rfl (fun _ h₁ => ?_); rw [stepG_unwanted rfl rfl]; simp only [goes_go]; refine ⟨D0.nil, ?_⟩; replace hF := Sm.trans hF h₁; clear h₁; walk_nrm))
    a_cond true hF Sm.trans D0.nil
    repeat (first | a_ctl hF Sm.trans D0.nil | (refine Goes.step rfl (fun _ h₁ => ?_); replace hF := Sm.trans hF h₁; clear h₁; refine goes_oper_k rfl rfl (by decide) (fun K hK => ?_); go_simp; refine hK _ _ ⟨still_listed rfl, ?_⟩; clear hK K) | (refine Goes.step rfl (fun _ h₁ => ?_); rw [stepG_unwanted rfl rfl]; simp only [goes_go]; refine ⟨D0.nil, ?_⟩; replace hF := Sm.trans hF h₁; clear h₁; walk_nrm))
    refine Goes.step rfl (fun _ h₁ => ?_)
    rw [stepG_ret']
    simp only [goes_go]
    refine ⟨D0.nil, ?_⟩
    refine Goes.stop fun w₁ h₂ => .at0 fun d => ?_
    have hF := (Sm.trans hF h₁).trans (h₂.trans ⟨d, rfl⟩)
    exact leave1 Try.func5 rfl (R := BSays true w) ⟨rfl, (Below.refl w.heap.size w).sm hF⟩

end Go.Proofs.Ytagncoahobghpac
