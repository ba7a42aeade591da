/-
  The exact law of ArePaired, in company (written by ch5un.py).
-/
import Derived.Test.YtlglokbakmbpdabPtG
import Derived.Test.YtlglokbakmbpdabUr
import Derived.Test.YtlglokbakmbpdabUp
namespace Go.Proofs.Ytlglokbakmbpdab
open Go Go.Conc Go.RowKit
set_option linter.unusedVariables false

set_option maxRecDepth 100000 in
set_option maxHeartbeats 40000000 in
theorem exactArePaired_b (u v : Value) (xs ys : List Int) (w : World) (h : Rd w u xs) (g : Rd w v ys) (hl1 : xs.length ≤ maxLen) (hl2 : ys.length ≤ maxLen) :
    BCalls Try.prog 9 #[u, v] w (BSays true w) := by
  intro cs
  have h0 := h
  have g0 := g
  obtain ⟨ca, cap, hu, -⟩ := h
  obtain ⟨ca', cap', hv, -⟩ := g
  have h := h0
  have g := g0
  unfold maxLen at hl1 hl2
  rw [enter_at _ Try.func9 rfl]
  simp only [Try.f9, List.size_toArray, List.length_cons, List.length_nil, Nat.reduceAdd, Nat.reduceSub, Array.replicate_succ, Array.replicate_zero, List.push_toArray, List.append_toArray, List.nil_append, List.cons_append]
  have hF : Sm w w := Sm.refl w
  by_cases hb1 : xs.length ≤ 1048576
  · by_cases hb2 : ys.length ≤ 1048576
    · have hM1 : xs.length ≤ maxLen := by unfold maxLen; omega
      have hM2 : ys.length ≤ maxLen := by unfold maxLen; omega
      obtain ⟨q, hq⟩ : ∃ q, q = paB xs ys := ⟨_, rfl⟩
      have bb := Below.refl w.heap.size w
      have HQ := Lib.hid hq
      clear hq
      have i1 : ¬ ((1048576 : Int) < (xs.length : Int)) := by omega
      have i2 : ¬ ((1048576 : Int) < (ys.length : Int)) := by omega
      subst hu hv
      refine beside_by (n := 400) ?_
      repeat (first | a_ctl hF Sm.trans D0.nil | (refine Goes.step rfl (fun _ h₁ => ?_); replace hF := Sm.trans hF h₁; clear h₁; refine goes_oper_k rfl rfl (by decide) (fun K hK => ?_); go_simp; refine hK _ _ ⟨still_listed rfl, ?_⟩; clear hK K) | (refine Goes.step rfl (fun _ h₁ => ?_); rw [stepG_unwanted rfl rfl]; simp only [goes_go]; refine ⟨D0.nil, ?_⟩; replace hF := Sm.trans hF h₁; clear h₁; walk_nrm))
      a_cond false hF Sm.trans D0.nil
      repeat (first | a_ctl hF Sm.trans D0.nil | (refine Goes.step rfl (fun _ h₁ => ?_); replace hF := Sm.trans hF h₁; clear h₁; refine goes_oper_k rfl rfl (by decide) (fun K hK => ?_); go_simp; refine hK _ _ ⟨still_listed rfl, ?_⟩; clear hK K) | (refine Goes.step rfl (fun _ h₁ => ?_); rw [stepG_unwanted rfl rfl]; simp only [goes_go]; refine ⟨D0.nil, ?_⟩; replace hF := Sm.trans hF h₁; clear h₁; walk_nrm))
      a_cond false hF Sm.trans D0.nil
      refine Goes.stop fun w₁ h₁ => ?_
      replace hF := Sm.trans hF h₁
      clear h₁
      refine beside_by (n := 400) ?_
      repeat (first | a_ctl hF Sm.trans D0.nil | (refine Goes.step rfl (fun _ h₁ => ?_); replace hF := Sm.trans hF h₁; clear h₁; refine goes_oper_k rfl rfl (by decide) (fun K hK => ?_); go_simp; refine hK _ _ ⟨still_listed rfl, ?_⟩; clear hK K) | (refine Goes.step rfl (fun _ h₁ => ?_); rw [stepG_unwanted rfl rfl]; simp only [goes_go]; refine ⟨D0.nil, ?_⟩; replace hF := Sm.trans hF h₁; clear h₁; walk_nrm))
      refine Goes.stop fun w₁ h₁ => ?_
      replace hF := Sm.trans hF h₁
      clear h₁
      refine beside_call rfl rfl (by decide) rfl Try.func12 rfl rfl (by kernel_rfl) (show _ = (#[.slice ca xs.length cap] : Array Value) from by walk_nrm) (fun d => bmadeO_sm (hF.trans ⟨d, rfl⟩) (bmade_oo (toIntS_b _ xs _ (h.sm (hF.trans ⟨d, rfl⟩)) hb1))) ?_
      rintro v1 w1 ⟨ov1, b1⟩
      clear hF
      have h := h.below b1 (Nat.le_refl _)
      have g := g.below b1 (Nat.le_refl _)
      have lo_v1 := bb.size
      have bb := bel_nxt bb b1
      have hF := Sm.refl w1
      walk_nrm
      refine beside_by (n := 400) ?_
      repeat (first | a_ctl hF Sm.trans D0.nil | (refine Goes.step rfl (fun _ h₁ => ?_); replace hF := Sm.trans hF h₁; clear h₁; refine goes_oper_k rfl rfl (by decide) (fun K hK => ?_); go_simp; refine hK _ _ ⟨still_listed rfl, ?_⟩; clear hK K) | (refine Goes.step rfl (fun _ h₁ => ?_); rw [stepG_unwanted rfl rfl]; simp only [goes_go]; refine ⟨D0.nil, ?_⟩; replace hF := Sm.trans hF h₁; clear h₁; walk_nrm))
      refine Goes.stop fun w₁ h₁ => ?_
      replace hF := Sm.trans hF h₁
      clear h₁
      refine beside_call rfl rfl (by decide) rfl Try.func12 rfl rfl (by kernel_rfl) (show _ = (#[.slice ca' ys.length cap'] : Array Value) from by walk_nrm) (fun d => bmadeO_sm (hF.trans ⟨d, rfl⟩) (bmade_oo (toIntS_b _ ys _ (g.sm (hF.trans ⟨d, rfl⟩)) hb2))) ?_
      rintro v2 w2 ⟨ov2, b2⟩
      clear hF
      have ap_v1_v2 := OwnO.apart ov1 ov2
      have ov1 := ov1.below b2 (Nat.le_refl _)
      have h := h.below b2 (Nat.le_refl _)
      have g := g.below b2 (Nat.le_refl _)
      have lo_v2 := bb.size
      have bb := bel_nxt bb b2
      have hF := Sm.refl w2
      walk_nrm
      refine beside_by (n := 400) ?_
      repeat (first | a_ctl hF Sm.trans D0.nil | (refine Goes.step rfl (fun _ h₁ => ?_); replace hF := Sm.trans hF h₁; clear h₁; refine goes_oper_k rfl rfl (by decide) (fun K hK => ?_); go_simp; refine hK _ _ ⟨still_listed rfl, ?_⟩; clear hK K) | (refine Goes.step rfl (fun _ h₁ => ?_); rw [stepG_unwanted rfl rfl]; simp only [goes_go]; refine ⟨D0.nil, ?_⟩; replace hF := Sm.trans hF h₁; clear h₁; walk_nrm))
      refine Goes.stop fun w₁ h₁ => ?_
      replace hF := Sm.trans hF h₁
      clear h₁
      refine beside_call rfl rfl (by decide) rfl Try.func27 rfl rfl (by kernel_rfl) (show _ = (#[v1, v2] : Array Value) from by walk_nrm) (fun d => bsays_sm (hF.trans ⟨d, rfl⟩) (specArePaired_b _ _ xs ys _ (ov1.rd.sm (hF.trans ⟨d, rfl⟩)) (ov2.rd.sm (hF.trans ⟨d, rfl⟩)) hM1 hM2)) ?_
      rintro r w3 ⟨rfl, b3⟩
      clear hF
      have ov1 := ov1.below b3 (Nat.le_refl _)
      have ov2 := ov2.below b3 (Nat.le_refl _)
      have h := h.below b3 (Nat.le_refl _)
      have g := g.below b3 (Nat.le_refl _)
      have bb := bel_nxt bb b3
      have hF := Sm.refl w3
      walk_nrm
      rw [← HQ.out]
      refine beside_by (n := 400) ?_
      repeat (first | a_ctl hF Sm.trans D0.nil | (refine Goes.step rfl (fun _ h₁ => ?_); replace hF := Sm.trans hF h₁; clear h₁; refine goes_oper_k rfl rfl (by decide) (fun K hK => ?_); go_simp; refine hK _ _ ⟨still_listed rfl, ?_⟩; clear hK K) | (refine Goes.step rfl (fun _ h₁ => ?_); rw [stepG_unwanted rfl rfl]; simp only [goes_go]; refine ⟨D0.nil, ?_⟩; replace hF := Sm.trans hF h₁; clear h₁; walk_nrm))
      refine Goes.stop fun w₁ h₁ => ?_
      replace hF := Sm.trans hF h₁
      clear h₁
      refine beside_call rfl rfl (by decide) rfl Try.func12 rfl rfl (by kernel_rfl) (show _ = (#[.slice ca xs.length cap] : Array Value) from by walk_nrm) (fun d => bmadeO_sm (hF.trans ⟨d, rfl⟩) (bmade_oo (toIntS_b _ xs _ (h.sm (hF.trans ⟨d, rfl⟩)) hb1))) ?_
      rintro v4 w4 ⟨ov4, b4⟩
      clear hF
      have ap_v1_v4 := OwnO.apart ov1 ov4
      have ov1 := ov1.below b4 (Nat.le_refl _)
      have ap_v2_v4 := OwnO.apart ov2 ov4
      have ov2 := ov2.below b4 (Nat.le_refl _)
      have h := h.below b4 (Nat.le_refl _)
      have g := g.below b4 (Nat.le_refl _)
      have lo_v4 := bb.size
      have bb := bel_nxt bb b4
      have hF := Sm.refl w4
      walk_nrm
      refine beside_by (n := 400) ?_
      repeat (first | a_ctl hF Sm.trans D0.nil | (refine Goes.step rfl (fun _ h₁ => ?_); replace hF := Sm.trans hF h₁; clear h₁; refine goes_oper_k rfl rfl (by decide) (fun K hK => ?_); go_simp; refine hK _ _ ⟨still_listed rfl, ?_⟩; clear hK K) | (refine Goes.step rfl (fun _ h₁ => ?_); rw [stepG_unwanted rfl rfl]; simp only [goes_go]; refine ⟨D0.nil, ?_⟩; replace hF := Sm.trans hF h₁; clear h₁; walk_nrm))
      refine Goes.stop fun w₁ h₁ => ?_
      replace hF := Sm.trans hF h₁
      clear h₁
      refine beside_call rfl rfl (by decide) rfl Try.func12 rfl rfl (by kernel_rfl) (show _ = (#[.slice ca' ys.length cap'] : Array Value) from by walk_nrm) (fun d => bmadeO_sm (hF.trans ⟨d, rfl⟩) (bmade_oo (toIntS_b _ ys _ (g.sm (hF.trans ⟨d, rfl⟩)) hb2))) ?_
      rintro v5 w5 ⟨ov5, b5⟩
      clear hF
      have ap_v1_v5 := OwnO.apart ov1 ov5
      have ov1 := ov1.below b5 (Nat.le_refl _)
      have ap_v2_v5 := OwnO.apart ov2 ov5
      have ov2 := ov2.below b5 (Nat.le_refl _)
      have ap_v4_v5 := OwnO.apart ov4 ov5
      have ov4 := ov4.below b5 (Nat.le_refl _)
      have h := h.below b5 (Nat.le_refl _)
      have g := g.below b5 (Nat.le_refl _)
      have lo_v5 := bb.size
      have bb := bel_nxt bb b5
      have hF := Sm.refl w5
      walk_nrm
      refine beside_by (n := 400) ?_
      repeat (first | a_ctl hF Sm.trans D0.nil | (refine Goes.step rfl (fun _ h₁ => ?_); replace hF := Sm.trans hF h₁; clear h₁; refine goes_oper_k rfl rfl (by decide) (fun K hK => ?_); go_simp; refine hK _ _ ⟨still_listed rfl, ?_⟩; clear hK K) | (refine Goes.step rfl (fun _ h₁ => ?_); rw [stepG_unwanted rfl rfl]; simp only [goes_go]; refine ⟨D0.nil, ?_⟩; replace hF := Sm.trans hF h₁; clear h₁; walk_nrm))
      refine Goes.stop fun w₁ h₁ => ?_
      replace hF := Sm.trans hF h₁
      clear h₁
      refine beside_call rfl rfl (by decide) rfl Try.func28 rfl rfl (by kernel_rfl) (show _ = (#[v4, v5] : Array Value) from by walk_nrm) (fun d => bsays_sm (hF.trans ⟨d, rfl⟩) (implArePaired_b _ _ xs ys _ (ov4.rd.sm (hF.trans ⟨d, rfl⟩)) (ov5.rd.sm (hF.trans ⟨d, rfl⟩)) hM1 hM2)) ?_
      rintro r w6 ⟨rfl, b6⟩
      clear hF
      have ov1 := ov1.below b6 (Nat.le_refl _)
      have ov2 := ov2.below b6 (Nat.le_refl _)
      have ov4 := ov4.below b6 (Nat.le_refl _)
      have ov5 := ov5.below b6 (Nat.le_refl _)
      have h := h.below b6 (Nat.le_refl _)
      have g := g.below b6 (Nat.le_refl _)
      have bb := bel_nxt bb b6
      have hF := Sm.refl w6
      walk_nrm
      rw [← HQ.out]
      refine beside_by (n := 400) ?_
      repeat (first | a_ctl hF Sm.trans D0.nil | (refine Goes.step rfl (fun _ h₁ => ?_); replace hF := Sm.trans hF h₁; clear h₁; refine goes_oper_k rfl rfl (by decide) (fun K hK => ?_); go_simp; refine hK _ _ ⟨still_listed rfl, ?_⟩; clear hK K) | (refine Goes.step rfl (fun _ h₁ => ?_); rw [stepG_unwanted rfl rfl]; simp only [goes_go]; refine ⟨D0.nil, ?_⟩; replace hF := Sm.trans hF h₁; clear h₁; walk_nrm))
      a_cond false hF Sm.trans D0.nil
      refine Goes.stop fun w₁ h₁ => ?_
      replace hF := Sm.trans hF h₁
      clear h₁
      refine beside_by (n := 400) ?_
      repeat (first | a_ctl hF Sm.trans D0.nil | (refine Goes.step rfl (fun _ h₁ => ?_); replace hF := Sm.trans hF h₁; clear h₁; refine goes_oper_k rfl rfl (by decide) (fun K hK => ?_); go_simp; refine hK _ _ ⟨still_listed rfl, ?_⟩; clear hK K) | (refine Goes.step rfl (fun _ h₁ => ?_); rw [stepG_unwanted rfl rfl]; simp only [goes_go]; refine ⟨D0.nil, ?_⟩; replace hF := Sm.trans hF h₁; clear h₁; walk_nrm))
      refine Goes.stop fun w₁ h₁ => ?_
      replace hF := Sm.trans hF h₁
      clear h₁
      refine beside_call rfl rfl (by decide) rfl Try.func12 rfl rfl (by kernel_rfl) (show _ = (#[.slice ca xs.length cap] : Array Value) from by walk_nrm) (fun d => bmadeO_sm (hF.trans ⟨d, rfl⟩) (bmade_oo (toIntS_b _ xs _ (h.sm (hF.trans ⟨d, rfl⟩)) hb1))) ?_
      rintro v7 w7 ⟨ov7, b7⟩
      clear hF
      have ap_v1_v7 := OwnO.apart ov1 ov7
      have ov1 := ov1.below b7 (Nat.le_refl _)
      have ap_v2_v7 := OwnO.apart ov2 ov7
      have ov2 := ov2.below b7 (Nat.le_refl _)
      have ap_v4_v7 := OwnO.apart ov4 ov7
      have ov4 := ov4.below b7 (Nat.le_refl _)
      have ap_v5_v7 := OwnO.apart ov5 ov7
      have ov5 := ov5.below b7 (Nat.le_refl _)
      have h := h.below b7 (Nat.le_refl _)
      have g := g.below b7 (Nat.le_refl _)
      have lo_v7 := bb.size
      have bb := bel_nxt bb b7
      have hF := Sm.refl w7
      walk_nrm
      refine beside_by (n := 400) ?_
      repeat (first | a_ctl hF Sm.trans D0.nil | (refine Goes.step rfl (fun _ h₁ => ?_); replace hF := Sm.trans hF h₁; clear h₁; refine goes_oper_k rfl rfl (by decide) (fun K hK => ?_); go_simp; refine hK _ _ ⟨still_listed rfl, ?_⟩; clear hK K) | (refine Goes.step rfl (fun _ h₁ => ?_); rw [stepG_unwanted rfl rfl]; simp only [goes_go]; refine ⟨D0.nil, ?_⟩; replace hF := Sm.trans hF h₁; clear h₁; walk_nrm))
      refine Goes.stop fun w₁ h₁ => ?_
      replace hF := Sm.trans hF h₁
      clear h₁
      refine beside_call rfl rfl (by decide) rfl Try.func14 rfl rfl (by kernel_rfl) (show _ = (#[v4, v7] : Array Value) from by walk_nrm) (fun d => bsays_sm (hF.trans ⟨d, rfl⟩) (eqIntS_b _ _ xs xs _ (ov4.rd.sm (hF.trans ⟨d, rfl⟩)) (ov7.rd.sm (hF.trans ⟨d, rfl⟩)) hM1 hM1)) ?_
      rintro r w8 ⟨rfl, b8⟩
      clear hF
      have ov1 := ov1.below b8 (Nat.le_refl _)
      have ov2 := ov2.below b8 (Nat.le_refl _)
      have ov4 := ov4.below b8 (Nat.le_refl _)
      have ov5 := ov5.below b8 (Nat.le_refl _)
      have ov7 := ov7.below b8 (Nat.le_refl _)
      have h := h.below b8 (Nat.le_refl _)
      have g := g.below b8 (Nat.le_refl _)
      have bb := bel_nxt bb b8
      have hF := Sm.refl w8
      walk_nrm
      rw [eqB_self]
      refine beside_by (n := 400) ?_
      repeat (first | a_ctl hF Sm.trans D0.nil | (refine Goes.step rfl (fun _ h₁ => ?_); replace hF := Sm.trans hF h₁; clear h₁; refine goes_oper_k rfl rfl (by decide) (fun K hK => ?_); go_simp; refine hK _ _ ⟨still_listed rfl, ?_⟩; clear hK K) | (refine Goes.step rfl (fun _ h₁ => ?_); rw [stepG_unwanted rfl rfl]; simp only [goes_go]; refine ⟨D0.nil, ?_⟩; replace hF := Sm.trans hF h₁; clear h₁; walk_nrm))
      a_cond false hF Sm.trans D0.nil
      refine Goes.stop fun w₁ h₁ => ?_
      replace hF := Sm.trans hF h₁
      clear h₁
      refine beside_by (n := 400) ?_
      repeat (first | a_ctl hF Sm.trans D0.nil | (refine Goes.step rfl (fun _ h₁ => ?_); replace hF := Sm.trans hF h₁; clear h₁; refine goes_oper_k rfl rfl (by decide) (fun K hK => ?_); go_simp; refine hK _ _ ⟨still_listed rfl, ?_⟩; clear hK K) | (refine Goes.step rfl (fun _ h₁ => ?_); rw [stepG_unwanted rfl rfl]; simp only [goes_go]; refine ⟨D0.nil, ?_⟩; replace hF := Sm.trans hF h₁; clear h₁; walk_nrm))
      refine Goes.stop fun w₁ h₁ => ?_
      replace hF := Sm.trans hF h₁
      clear h₁
      refine beside_call rfl rfl (by decide) rfl Try.func12 rfl rfl (by kernel_rfl) (show _ = (#[.slice ca' ys.length cap'] : Array Value) from by walk_nrm) (fun d => bmadeO_sm (hF.trans ⟨d, rfl⟩) (bmade_oo (toIntS_b _ ys _ (g.sm (hF.trans ⟨d, rfl⟩)) hb2))) ?_
      rintro v8 w9 ⟨ov8, b9⟩
      clear hF
      have ap_v1_v8 := OwnO.apart ov1 ov8
      have ov1 := ov1.below b9 (Nat.le_refl _)
      have ap_v2_v8 := OwnO.apart ov2 ov8
      have ov2 := ov2.below b9 (Nat.le_refl _)
      have ap_v4_v8 := OwnO.apart ov4 ov8
      have ov4 := ov4.below b9 (Nat.le_refl _)
      have ap_v5_v8 := OwnO.apart ov5 ov8
      have ov5 := ov5.below b9 (Nat.le_refl _)
      have ap_v7_v8 := OwnO.apart ov7 ov8
      have ov7 := ov7.below b9 (Nat.le_refl _)
      have h := h.below b9 (Nat.le_refl _)
      have g := g.below b9 (Nat.le_refl _)
      have lo_v8 := bb.size
      have bb := bel_nxt bb b9
      have hF := Sm.refl w9
      walk_nrm
      refine beside_by (n := 400) ?_
      repeat (first | a_ctl hF Sm.trans D0.nil | (refine Goes.step rfl (fun _ h₁ => ?_); replace hF := Sm.trans hF h₁; clear h₁; refine goes_oper_k rfl rfl (by decide) (fun K hK => ?_); go_simp; refine hK _ _ ⟨still_listed rfl, ?_⟩; clear hK K) | (refine Goes.step rfl (fun _ h₁ => ?_); rw [stepG_unwanted rfl rfl]; simp only [goes_go]; refine ⟨D0.nil, ?_⟩; replace hF := Sm.trans hF h₁; clear h₁; walk_nrm))
      refine Goes.stop fun w₁ h₁ => ?_
      replace hF := Sm.trans hF h₁
      clear h₁
      refine beside_call rfl rfl (by decide) rfl Try.func14 rfl rfl (by kernel_rfl) (show _ = (#[v5, v8] : Array Value) from by walk_nrm) (fun d => bsays_sm (hF.trans ⟨d, rfl⟩) (eqIntS_b _ _ ys ys _ (ov5.rd.sm (hF.trans ⟨d, rfl⟩)) (ov8.rd.sm (hF.trans ⟨d, rfl⟩)) hM2 hM2)) ?_
      rintro r w10 ⟨rfl, b10⟩
      clear hF
      have ov1 := ov1.below b10 (Nat.le_refl _)
      have ov2 := ov2.below b10 (Nat.le_refl _)
      have ov4 := ov4.below b10 (Nat.le_refl _)
      have ov5 := ov5.below b10 (Nat.le_refl _)
      have ov7 := ov7.below b10 (Nat.le_refl _)
      have ov8 := ov8.below b10 (Nat.le_refl _)
      have h := h.below b10 (Nat.le_refl _)
      have g := g.below b10 (Nat.le_refl _)
      have bb := bel_nxt bb b10
      have hF := Sm.refl w10
      walk_nrm
      rw [eqB_self]
      refine beside_by (n := 400) ?_
      repeat (first | a_ctl hF Sm.trans D0.nil | (refine Goes.step rfl (fun _ h₁ => ?_); replace hF := Sm.trans hF h₁; clear h₁; refine goes_oper_k rfl rfl (by decide) (fun K hK => ?_); go_simp; refine hK _ _ ⟨still_listed rfl, ?_⟩; clear hK K) | (refine Goes.step rfl (fun _ h₁ => ?_); rw [stepG_unwanted rfl rfl]; simp only [goes_go]; refine ⟨D0.nil, ?_⟩; replace hF := Sm.trans hF h₁; clear h₁; walk_nrm))
      a_cond false hF Sm.trans D0.nil
      refine Goes.stop fun w₁ h₁ => ?_
      replace hF := Sm.trans hF h₁
      clear h₁
      refine beside_by (n := 400) ?_
      repeat (first | a_ctl hF Sm.trans D0.nil | (refine Goes.step rfl (fun _ h₁ => ?_); replace hF := Sm.trans hF h₁; clear h₁; refine goes_oper_k rfl rfl (by decide) (fun K hK => ?_); go_simp; refine hK _ _ ⟨still_listed rfl, ?_⟩; clear hK K) | (refine Goes.step rfl (fun _ h₁ => ?_); rw [stepG_unwanted rfl rfl]; simp only [goes_go]; refine ⟨D0.nil, ?_⟩; replace hF := Sm.trans hF h₁; clear h₁; walk_nrm))
      refine Goes.step rfl (fun _ h₁ => ?_)
      rw [stepG_ret']
      simp only [goes_go]
      refine ⟨D0.nil, ?_⟩
      refine Goes.stop fun w₁ h₂ => .at0 fun d => ?_
      have hF := (Sm.trans hF h₁).trans (h₂.trans ⟨d, rfl⟩)
      exact leave1 Try.func9 rfl (R := BSays true w) ⟨rfl, bb.sm hF⟩
    · have i1 : ¬ ((1048576 : Int) < (xs.length : Int)) := by omega
      have i2 : ((1048576 : Int) < (ys.length : Int)) := by omega
      subst hu hv
      refine beside_by (n := 400) ?_
      repeat (first | a_ctl hF Sm.trans D0.nil | (refine Goes.step rfl (fun _ h₁ => ?_); replace hF := Sm.trans hF h₁; clear h₁; refine goes_oper_k rfl rfl (by decide) (fun K hK => ?_); go_simp; refine hK _ _ ⟨still_listed rfl, ?_⟩; clear hK K) | (refine Goes.step rfl (fun _ h₁ => ?_); rw [stepG_unwanted rfl rfl]; simp only [goes_go]; refine ⟨D0.nil, ?_⟩; replace hF := Sm.trans hF h₁; clear h₁; walk_nrm))
      a_cond false hF Sm.trans D0.nil
      repeat (first | a_ctl hF Sm.trans D0.nil | (refine Goes.step rfl (fun _ h₁ => ?_); replace hF := Sm.trans hF h₁; clear h₁; refine goes_oper_k rfl rfl (by decide) (fun K hK => ?_); go_simp; refine hK _ _ ⟨still_listed rfl, ?_⟩; clear hK K) | (refine Goes.step rfl (fun _ h₁ => ?_); rw [stepG_unwanted rfl rfl]; simp only [goes_go]; refine ⟨D0.nil, ?_⟩; replace hF := Sm.trans hF h₁; clear h₁; walk_nrm))
      a_cond true hF Sm.trans D0.nil
      repeat (first | a_ctl hF Sm.trans D0.nil | (refine Goes.step rfl (fun _ h₁ => ?_); replace hF := Sm.trans hF h₁; clear h₁; refine goes_oper_k rfl rfl (by decide) (fun K hK => ?_); go_simp; refine hK _ _ ⟨still_listed rfl, ?_⟩; clear hK K) | (refine Goes.step rfl (fun _ h₁ => ?_); rw [stepG_unwanted rfl rfl]; simp only [goes_go]; refine ⟨D0.nil, ?_⟩; replace hF := Sm.trans hF h₁; clear h₁; walk_nrm))
      refine Goes.step rfl (fun _ h₁ => ?_)
      rw [stepG_ret']
      simp only [goes_go]
      refine ⟨D0.nil, ?_⟩
      refine Goes.stop fun w₁ h₂ => .at0 fun d => ?_
      have hF := (Sm.trans hF h₁).trans (h₂.trans ⟨d, rfl⟩)
      exact leave1 Try.func9 rfl (R := BSays true w) ⟨rfl, (Below.refl w.heap.size w).sm hF⟩
  · have i1 : ((1048576 : Int) < (xs.length : Int)) := by omega
    subst hu hv
    refine beside_by (n := 400) ?_
    repeat (first | a_ctl hF Sm.trans D0.nil | (refine Goes.step rfl (fun _ h₁ => ?_); replace hF := Sm.trans hF h₁; clear h₁; refine goes_oper_k rfl rfl (by decide) (fun K hK => ?_); go_simp; refine hK _ _ ⟨still_listed rfl, ?_⟩; clear hK K) | (refine Goes.step rfl (fun _ h₁ => ?_); rw [stepG_unwanted rfl rfl]; simp only [goes_go]; refine ⟨D0.nil, ?_⟩; replace hF := Sm.trans hF h₁; clear h₁; walk_nrm))
    a_cond true hF Sm.trans D0.nil
    repeat (first | a_ctl hF Sm.trans D0.nil | (refine Goes.step rfl (fun _ h₁ => ?_); replace hF := Sm.trans hF h₁; clear h₁; refine goes_oper_k rfl rfl (by decide) (fun K hK => ?_); go_simp; refine hK _ _ ⟨still_listed rfl, ?_⟩; clear hK K) | (refine Goes.step rfl (fun _ h₁ => ?_); rw [stepG_unwanted rfl rfl]; simp only [goes_go]; refine ⟨D0.nil, ?_⟩; replace hF := Sm.trans hF h₁; clear h₁; walk_nrm))
    refine Goes.step rfl (fun _ h₁ => ?_)
    rw [stepG_ret']
    simp only [goes_go]
    refine ⟨D0.nil, ?_⟩
    refine Goes.stop fun w₁ h₂ => .at0 fun d => ?_
    have hF := (Sm.trans hF h₁).trans (h₂.trans ⟨d, rfl⟩)
    exact leave1 Try.func9 rfl (R := BSays true w) ⟨rfl, (Below.refl w.heap.size w).sm hF⟩

end Go.Proofs.Ytlglokbakmbpdab
