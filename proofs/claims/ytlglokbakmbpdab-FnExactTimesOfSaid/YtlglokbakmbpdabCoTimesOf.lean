/-
  The exact law of TimesOf, in company (written by ch5co.py).
-/
import Derived.Test.YtlglokbakmbpdabPtF
namespace Go.Proofs.Ytlglokbakmbpdab
open Go Go.Conc Go.RowKit
set_option linter.unusedVariables false

set_option maxRecDepth 100000 in
set_option maxHeartbeats 40000000 in
theorem exactTimesOf_b (u v : Value) (xs ys : List Int) (w : World) (h : Rd w u xs) (g : Rd w v ys) (hl1 : xs.length ≤ maxLen) (hl2 : ys.length ≤ maxLen) :
    BCalls Try.prog 3 #[u, v] w (BSays true w) := by
  intro cs
  have h0 := h
  have g0 := g
  obtain ⟨ca, cap, hu, -⟩ := h
  obtain ⟨ca', cap', hv, -⟩ := g
  have h := h0
  have g := g0
  unfold maxLen at hl1 hl2
  rw [enter_at _ Try.func3 rfl]
  simp only [Try.f3, List.size_toArray, List.length_cons, List.length_nil, Nat.reduceAdd, Nat.reduceSub, Array.replicate_succ, Array.replicate_zero, List.push_toArray, List.append_toArray, List.nil_append, List.cons_append]
  have hF : Sm w w := Sm.refl w
  by_cases hb1 : xs.length ≤ 1048576
  · by_cases hb2 : ys.length ≤ 1048576
    · have hM1 : xs.length ≤ maxLen := by unfold maxLen; omega
      have hM2 : ys.length ≤ maxLen := by unfold maxLen; omega
      have hZ : (timF xs ys).length ≤ 1048576 := timF_len xs ys
      have hFM : (timF xs ys).length ≤ maxLen := by unfold maxLen; omega
      obtain ⟨zs, hzs⟩ : ∃ zs, zs = timF xs ys := ⟨_, rfl⟩
      have bb := Below.refl w.heap.size w
      have HY := Lib.hid hzs
      rw [← hzs] at hZ hFM
      clear hzs
      have i1 : ¬ ((1048576 : Int) < (xs.length : Int)) := by omega
      have i2 : ¬ ((1048576 : Int) < (ys.length : Int)) := by omega
      subst hu hv
      refine beside_by (n := 400) ?_
      repeat (first | a_ctl hF Sm.trans D0.nil | a_op hF Sm.trans [] D0.evs ⟨by simp, by simp⟩ | (refine Goes.step rfl (fun _ h₁ => ?_); rw [stepG_unwanted rfl rfl]; simp only [goes_go]; refine ⟨D0.nil, ?_⟩; replace hF := Sm.trans hF h₁; clear h₁; walk_nrm))
      a_cond false hF Sm.trans D0.nil
      repeat (first | a_ctl hF Sm.trans D0.nil | a_op hF Sm.trans [] D0.evs ⟨by simp, by simp⟩ | (refine Goes.step rfl (fun _ h₁ => ?_); rw [stepG_unwanted rfl rfl]; simp only [goes_go]; refine ⟨D0.nil, ?_⟩; replace hF := Sm.trans hF h₁; clear h₁; walk_nrm))
      a_cond false hF Sm.trans D0.nil
      refine Goes.stop fun w₁ h₁ => ?_
      replace hF := Sm.trans hF h₁
      clear h₁
      refine beside_by (n := 400) ?_
      repeat (first | a_ctl hF Sm.trans D0.nil | a_op hF Sm.trans [] D0.evs ⟨by simp, by simp⟩ | (refine Goes.step rfl (fun _ h₁ => ?_); rw [stepG_unwanted rfl rfl]; simp only [goes_go]; refine ⟨D0.nil, ?_⟩; replace hF := Sm.trans hF h₁; clear h₁; walk_nrm))
      refine Goes.stop fun w₁ h₁ => ?_
      replace hF := Sm.trans hF h₁
      clear h₁
      refine beside_call rfl rfl (by decide) rfl Try.func12 rfl rfl (by kernel_rfl) (show _ = (#[.slice ca xs.length cap] : Array Value) from by walk_nrm) (fun d => bmade_sm (hF.trans ⟨d, rfl⟩) (toIntS_b _ xs _ (h.sm (hF.trans ⟨d, rfl⟩)) hb1)) ?_
      rintro v1 w1 ⟨ov1, b1⟩
      clear hF
      have h := h.below b1 (Nat.le_refl _)
      have g := g.below b1 (Nat.le_refl _)
      have lo_v1 := bb.size
      have bb := bel_nxt bb b1
      have hF := Sm.refl w1
      walk_nrm
      refine beside_by (n := 400) ?_
      repeat (first | a_ctl hF Sm.trans D0.nil | a_op hF Sm.trans [] D0.evs ⟨by simp, by simp⟩ | (refine Goes.step rfl (fun _ h₁ => ?_); rw [stepG_unwanted rfl rfl]; simp only [goes_go]; refine ⟨D0.nil, ?_⟩; replace hF := Sm.trans hF h₁; clear h₁; walk_nrm))
      refine Goes.stop fun w₁ h₁ => ?_
      replace hF := Sm.trans hF h₁
      clear h₁
      refine beside_call rfl rfl (by decide) rfl Try.func12 rfl rfl (by kernel_rfl) (show _ = (#[.slice ca' ys.length cap'] : Array Value) from by walk_nrm) (fun d => bmade_sm (hF.trans ⟨d, rfl⟩) (toIntS_b _ ys _ (g.sm (hF.trans ⟨d, rfl⟩)) hb2)) ?_
      rintro v2 w2 ⟨ov2, b2⟩
      clear hF
      have ap_v1_v2 := Own.apart ov1 ov2
      have ov1 := ov1.below b2 (Nat.le_refl _)
      have h := h.below b2 (Nat.le_refl _)
      have g := g.below b2 (Nat.le_refl _)
      have lo_v2 := bb.size
      have bb := bel_nxt bb b2
      have hF := Sm.refl w2
      walk_nrm
      refine beside_by (n := 400) ?_
      repeat (first | a_ctl hF Sm.trans D0.nil | a_op hF Sm.trans [] D0.evs ⟨by simp, by simp⟩ | (refine Goes.step rfl (fun _ h₁ => ?_); rw [stepG_unwanted rfl rfl]; simp only [goes_go]; refine ⟨D0.nil, ?_⟩; replace hF := Sm.trans hF h₁; clear h₁; walk_nrm))
      refine Goes.stop fun w₁ h₁ => ?_
      replace hF := Sm.trans hF h₁
      clear h₁
      refine beside_call rfl rfl (by decide) rfl Try.func11 rfl rfl (by kernel_rfl) (show _ = (#[v1, v2] : Array Value) from by walk_nrm) (fun d => bmade_sm (hF.trans ⟨d, rfl⟩) (specTimesOf_b _ _ xs ys _ (ov1.rd.sm (hF.trans ⟨d, rfl⟩)) (ov2.rd.sm (hF.trans ⟨d, rfl⟩)) hM1 hM2)) ?_
      rintro v3 w3 ⟨ov3, b3⟩
      clear hF
      have ap_v1_v3 := Own.apart ov1 ov3
      have ov1 := ov1.below b3 (Nat.le_refl _)
      have ap_v2_v3 := Own.apart ov2 ov3
      have ov2 := ov2.below b3 (Nat.le_refl _)
      have h := h.below b3 (Nat.le_refl _)
      have g := g.below b3 (Nat.le_refl _)
      have lo_v3 := bb.size
      have bb := bel_nxt bb b3
      have hF := Sm.refl w3
      walk_nrm
      rw [← HY.out] at ov3
      refine beside_by (n := 400) ?_
      repeat (first | a_ctl hF Sm.trans D0.nil | a_op hF Sm.trans [] D0.evs ⟨by simp, by simp⟩ | (refine Goes.step rfl (fun _ h₁ => ?_); rw [stepG_unwanted rfl rfl]; simp only [goes_go]; refine ⟨D0.nil, ?_⟩; replace hF := Sm.trans hF h₁; clear h₁; walk_nrm))
      refine Goes.stop fun w₁ h₁ => ?_
      replace hF := Sm.trans hF h₁
      clear h₁
      refine beside_call rfl rfl (by decide) rfl Try.func12 rfl rfl (by kernel_rfl) (show _ = (#[.slice ca xs.length cap] : Array Value) from by walk_nrm) (fun d => bmade_sm (hF.trans ⟨d, rfl⟩) (toIntS_b _ xs _ (h.sm (hF.trans ⟨d, rfl⟩)) hb1)) ?_
      rintro v4 w4 ⟨ov4, b4⟩
      clear hF
      have ap_v1_v4 := Own.apart ov1 ov4
      have ov1 := ov1.below b4 (Nat.le_refl _)
      have ap_v2_v4 := Own.apart ov2 ov4
      have ov2 := ov2.below b4 (Nat.le_refl _)
      have ap_v3_v4 := Own.apart ov3 ov4
      have ov3 := ov3.below b4 (Nat.le_refl _)
      have h := h.below b4 (Nat.le_refl _)
      have g := g.below b4 (Nat.le_refl _)
      have lo_v4 := bb.size
      have bb := bel_nxt bb b4
      have hF := Sm.refl w4
      walk_nrm
      refine beside_by (n := 400) ?_
      repeat (first | a_ctl hF Sm.trans D0.nil | a_op hF Sm.trans [] D0.evs ⟨by simp, by simp⟩ | (refine Goes.step rfl (fun _ h₁ => ?_); rw [stepG_unwanted rfl rfl]; simp only [goes_go]; refine ⟨D0.nil, ?_⟩; replace hF := Sm.trans hF h₁; clear h₁; walk_nrm))
      refine Goes.stop fun w₁ h₁ => ?_
      replace hF := Sm.trans hF h₁
      clear h₁
      refine beside_call rfl rfl (by decide) rfl Try.func12 rfl rfl (by kernel_rfl) (show _ = (#[.slice ca' ys.length cap'] : Array Value) from by walk_nrm) (fun d => bmade_sm (hF.trans ⟨d, rfl⟩) (toIntS_b _ ys _ (g.sm (hF.trans ⟨d, rfl⟩)) hb2)) ?_
      rintro v5 w5 ⟨ov5, b5⟩
      clear hF
      have ap_v1_v5 := Own.apart ov1 ov5
      have ov1 := ov1.below b5 (Nat.le_refl _)
      have ap_v2_v5 := Own.apart ov2 ov5
      have ov2 := ov2.below b5 (Nat.le_refl _)
      have ap_v3_v5 := Own.apart ov3 ov5
      have ov3 := ov3.below b5 (Nat.le_refl _)
      have ap_v4_v5 := Own.apart ov4 ov5
      have ov4 := ov4.below b5 (Nat.le_refl _)
      have h := h.below b5 (Nat.le_refl _)
      have g := g.below b5 (Nat.le_refl _)
      have lo_v5 := bb.size
      have bb := bel_nxt bb b5
      have hF := Sm.refl w5
      walk_nrm
      refine beside_by (n := 400) ?_
      repeat (first | a_ctl hF Sm.trans D0.nil | a_op hF Sm.trans [] D0.evs ⟨by simp, by simp⟩ | (refine Goes.step rfl (fun _ h₁ => ?_); rw [stepG_unwanted rfl rfl]; simp only [goes_go]; refine ⟨D0.nil, ?_⟩; replace hF := Sm.trans hF h₁; clear h₁; walk_nrm))
      refine Goes.stop fun w₁ h₁ => ?_
      replace hF := Sm.trans hF h₁
      clear h₁
      refine beside_call rfl rfl (by decide) rfl Try.func13 rfl rfl (by kernel_rfl) (show _ = (#[v4, v5] : Array Value) from by walk_nrm) (fun d => bmade_sm (hF.trans ⟨d, rfl⟩) (implTimesOf_b _ _ xs ys _ (ov4.rd.sm (hF.trans ⟨d, rfl⟩)) (ov5.rd.sm (hF.trans ⟨d, rfl⟩)) hb1 hb2)) ?_
      rintro v6 w6 ⟨ov6, b6⟩
      clear hF
      have ap_v1_v6 := Own.apart ov1 ov6
      have ov1 := ov1.below b6 (Nat.le_refl _)
      have ap_v2_v6 := Own.apart ov2 ov6
      have ov2 := ov2.below b6 (Nat.le_refl _)
      have ap_v3_v6 := Own.apart ov3 ov6
      have ov3 := ov3.below b6 (Nat.le_refl _)
      have ap_v4_v6 := Own.apart ov4 ov6
      have ov4 := ov4.below b6 (Nat.le_refl _)
      have ap_v5_v6 := Own.apart ov5 ov6
      have ov5 := ov5.below b6 (Nat.le_refl _)
      have h := h.below b6 (Nat.le_refl _)
      have g := g.below b6 (Nat.le_refl _)
      have lo_v6 := bb.size
      have bb := bel_nxt bb b6
      have hF := Sm.refl w6
      walk_nrm
      rw [← HY.out] at ov6
      refine beside_by (n := 400) ?_
      repeat (first | a_ctl hF Sm.trans D0.nil | a_op hF Sm.trans [] D0.evs ⟨by simp, by simp⟩ | (refine Goes.step rfl (fun _ h₁ => ?_); rw [stepG_unwanted rfl rfl]; simp only [goes_go]; refine ⟨D0.nil, ?_⟩; replace hF := Sm.trans hF h₁; clear h₁; walk_nrm))
      refine Goes.stop fun w₁ h₁ => ?_
      replace hF := Sm.trans hF h₁
      clear h₁
      refine beside_call rfl rfl (by decide) rfl Try.func14 rfl rfl (by kernel_rfl) (show _ = (#[v6, v3] : Array Value) from by walk_nrm) (fun d => bsays_sm (hF.trans ⟨d, rfl⟩) (eqIntS_b _ _ zs zs _ (ov6.rd.sm (hF.trans ⟨d, rfl⟩)) (ov3.rd.sm (hF.trans ⟨d, rfl⟩)) hFM hFM)) ?_
      rintro r w7 ⟨rfl, b7⟩
      clear hF
      have ov1 := ov1.below b7 (Nat.le_refl _)
      have ov2 := ov2.below b7 (Nat.le_refl _)
      have ov3 := ov3.below b7 (Nat.le_refl _)
      have ov4 := ov4.below b7 (Nat.le_refl _)
      have ov5 := ov5.below b7 (Nat.le_refl _)
      have ov6 := ov6.below b7 (Nat.le_refl _)
      have h := h.below b7 (Nat.le_refl _)
      have g := g.below b7 (Nat.le_refl _)
      have bb := bel_nxt bb b7
      have hF := Sm.refl w7
      walk_nrm
      rw [eqB_self]
      refine beside_by (n := 400) ?_
      repeat (first | a_ctl hF Sm.trans D0.nil | a_op hF Sm.trans [] D0.evs ⟨by simp, by simp⟩ | (refine Goes.step rfl (fun _ h₁ => ?_); rw [stepG_unwanted rfl rfl]; simp only [goes_go]; refine ⟨D0.nil, ?_⟩; replace hF := Sm.trans hF h₁; clear h₁; walk_nrm))
      a_cond false hF Sm.trans D0.nil
      refine Goes.stop fun w₁ h₁ => ?_
      replace hF := Sm.trans hF h₁
      clear h₁
      refine beside_by (n := 400) ?_
      repeat (first | a_ctl hF Sm.trans D0.nil | a_op hF Sm.trans [] D0.evs ⟨by simp, by simp⟩ | (refine Goes.step rfl (fun _ h₁ => ?_); rw [stepG_unwanted rfl rfl]; simp only [goes_go]; refine ⟨D0.nil, ?_⟩; replace hF := Sm.trans hF h₁; clear h₁; walk_nrm))
      refine Goes.stop fun w₁ h₁ => ?_
      replace hF := Sm.trans hF h₁
      clear h₁
      refine beside_call rfl rfl (by decide) rfl Try.func12 rfl rfl (by kernel_rfl) (show _ = (#[.slice ca xs.length cap] : Array Value) from by walk_nrm) (fun d => bmade_sm (hF.trans ⟨d, rfl⟩) (toIntS_b _ xs _ (h.sm (hF.trans ⟨d, rfl⟩)) hb1)) ?_
      rintro v7 w8 ⟨ov7, b8⟩
      clear hF
      have ap_v1_v7 := Own.apart ov1 ov7
      have ov1 := ov1.below b8 (Nat.le_refl _)
      have ap_v2_v7 := Own.apart ov2 ov7
      have ov2 := ov2.below b8 (Nat.le_refl _)
      have ap_v3_v7 := Own.apart ov3 ov7
      have ov3 := ov3.below b8 (Nat.le_refl _)
      have ap_v4_v7 := Own.apart ov4 ov7
      have ov4 := ov4.below b8 (Nat.le_refl _)
      have ap_v5_v7 := Own.apart ov5 ov7
      have ov5 := ov5.below b8 (Nat.le_refl _)
      have ap_v6_v7 := Own.apart ov6 ov7
      have ov6 := ov6.below b8 (Nat.le_refl _)
      have h := h.below b8 (Nat.le_refl _)
      have g := g.below b8 (Nat.le_refl _)
      have lo_v7 := bb.size
      have bb := bel_nxt bb b8
      have hF := Sm.refl w8
      walk_nrm
      refine beside_by (n := 400) ?_
      repeat (first | a_ctl hF Sm.trans D0.nil | a_op hF Sm.trans [] D0.evs ⟨by simp, by simp⟩ | (refine Goes.step rfl (fun _ h₁ => ?_); rw [stepG_unwanted rfl rfl]; simp only [goes_go]; refine ⟨D0.nil, ?_⟩; replace hF := Sm.trans hF h₁; clear h₁; walk_nrm))
      refine Goes.stop fun w₁ h₁ => ?_
      replace hF := Sm.trans hF h₁
      clear h₁
      refine beside_call rfl rfl (by decide) rfl Try.func14 rfl rfl (by kernel_rfl) (show _ = (#[v4, v7] : Array Value) from by walk_nrm) (fun d => bsays_sm (hF.trans ⟨d, rfl⟩) (eqIntS_b _ _ xs xs _ (ov4.rd.sm (hF.trans ⟨d, rfl⟩)) (ov7.rd.sm (hF.trans ⟨d, rfl⟩)) hM1 hM1)) ?_
      rintro r w9 ⟨rfl, b9⟩
      clear hF
      have ov1 := ov1.below b9 (Nat.le_refl _)
      have ov2 := ov2.below b9 (Nat.le_refl _)
      have ov3 := ov3.below b9 (Nat.le_refl _)
      have ov4 := ov4.below b9 (Nat.le_refl _)
      have ov5 := ov5.below b9 (Nat.le_refl _)
      have ov6 := ov6.below b9 (Nat.le_refl _)
      have ov7 := ov7.below b9 (Nat.le_refl _)
      have h := h.below b9 (Nat.le_refl _)
      have g := g.below b9 (Nat.le_refl _)
      have bb := bel_nxt bb b9
      have hF := Sm.refl w9
      walk_nrm
      rw [eqB_self]
      refine beside_by (n := 400) ?_
      repeat (first | a_ctl hF Sm.trans D0.nil | a_op hF Sm.trans [] D0.evs ⟨by simp, by simp⟩ | (refine Goes.step rfl (fun _ h₁ => ?_); rw [stepG_unwanted rfl rfl]; simp only [goes_go]; refine ⟨D0.nil, ?_⟩; replace hF := Sm.trans hF h₁; clear h₁; walk_nrm))
      a_cond false hF Sm.trans D0.nil
      refine Goes.stop fun w₁ h₁ => ?_
      replace hF := Sm.trans hF h₁
      clear h₁
      refine beside_by (n := 400) ?_
      repeat (first | a_ctl hF Sm.trans D0.nil | a_op hF Sm.trans [] D0.evs ⟨by simp, by simp⟩ | (refine Goes.step rfl (fun _ h₁ => ?_); rw [stepG_unwanted rfl rfl]; simp only [goes_go]; refine ⟨D0.nil, ?_⟩; replace hF := Sm.trans hF h₁; clear h₁; walk_nrm))
      refine Goes.stop fun w₁ h₁ => ?_
      replace hF := Sm.trans hF h₁
      clear h₁
      refine beside_call rfl rfl (by decide) rfl Try.func12 rfl rfl (by kernel_rfl) (show _ = (#[.slice ca' ys.length cap'] : Array Value) from by walk_nrm) (fun d => bmade_sm (hF.trans ⟨d, rfl⟩) (toIntS_b _ ys _ (g.sm (hF.trans ⟨d, rfl⟩)) hb2)) ?_
      rintro v8 w10 ⟨ov8, b10⟩
      clear hF
      have ap_v1_v8 := Own.apart ov1 ov8
      have ov1 := ov1.below b10 (Nat.le_refl _)
      have ap_v2_v8 := Own.apart ov2 ov8
      have ov2 := ov2.below b10 (Nat.le_refl _)
      have ap_v3_v8 := Own.apart ov3 ov8
      have ov3 := ov3.below b10 (Nat.le_refl _)
      have ap_v4_v8 := Own.apart ov4 ov8
      have ov4 := ov4.below b10 (Nat.le_refl _)
      have ap_v5_v8 := Own.apart ov5 ov8
      have ov5 := ov5.below b10 (Nat.le_refl _)
      have ap_v6_v8 := Own.apart ov6 ov8
      have ov6 := ov6.below b10 (Nat.le_refl _)
      have ap_v7_v8 := Own.apart ov7 ov8
      have ov7 := ov7.below b10 (Nat.le_refl _)
      have h := h.below b10 (Nat.le_refl _)
      have g := g.below b10 (Nat.le_refl _)
      have lo_v8 := bb.size
      have bb := bel_nxt bb b10
      have hF := Sm.refl w10
      walk_nrm
      refine beside_by (n := 400) ?_
      repeat (first | a_ctl hF Sm.trans D0.nil | a_op hF Sm.trans [] D0.evs ⟨by simp, by simp⟩ | (refine Goes.step rfl (fun _ h₁ => ?_); rw [stepG_unwanted rfl rfl]; simp only [goes_go]; refine ⟨D0.nil, ?_⟩; replace hF := Sm.trans hF h₁; clear h₁; walk_nrm))
      refine Goes.stop fun w₁ h₁ => ?_
      replace hF := Sm.trans hF h₁
      clear h₁
      refine beside_call rfl rfl (by decide) rfl Try.func14 rfl rfl (by kernel_rfl) (show _ = (#[v5, v8] : Array Value) from by walk_nrm) (fun d => bsays_sm (hF.trans ⟨d, rfl⟩) (eqIntS_b _ _ ys ys _ (ov5.rd.sm (hF.trans ⟨d, rfl⟩)) (ov8.rd.sm (hF.trans ⟨d, rfl⟩)) hM2 hM2)) ?_
      rintro r w11 ⟨rfl, b11⟩
      clear hF
      have ov1 := ov1.below b11 (Nat.le_refl _)
      have ov2 := ov2.below b11 (Nat.le_refl _)
      have ov3 := ov3.below b11 (Nat.le_refl _)
      have ov4 := ov4.below b11 (Nat.le_refl _)
      have ov5 := ov5.below b11 (Nat.le_refl _)
      have ov6 := ov6.below b11 (Nat.le_refl _)
      have ov7 := ov7.below b11 (Nat.le_refl _)
      have ov8 := ov8.below b11 (Nat.le_refl _)
      have h := h.below b11 (Nat.le_refl _)
      have g := g.below b11 (Nat.le_refl _)
      have bb := bel_nxt bb b11
      have hF := Sm.refl w11
      walk_nrm
      rw [eqB_self]
      refine beside_by (n := 400) ?_
      repeat (first | a_ctl hF Sm.trans D0.nil | a_op hF Sm.trans [] D0.evs ⟨by simp, by simp⟩ | (refine Goes.step rfl (fun _ h₁ => ?_); rw [stepG_unwanted rfl rfl]; simp only [goes_go]; refine ⟨D0.nil, ?_⟩; replace hF := Sm.trans hF h₁; clear h₁; walk_nrm))
      a_cond false hF Sm.trans D0.nil
      refine Goes.stop fun w₁ h₁ => ?_
      replace hF := Sm.trans hF h₁
      clear h₁
      refine beside_by (n := 400) ?_
      repeat (first | a_ctl hF Sm.trans D0.nil | a_op hF Sm.trans [] D0.evs ⟨by simp, by simp⟩ | (refine Goes.step rfl (fun _ h₁ => ?_); rw [stepG_unwanted rfl rfl]; simp only [goes_go]; refine ⟨D0.nil, ?_⟩; replace hF := Sm.trans hF h₁; clear h₁; walk_nrm))
      refine Goes.stop fun w₁ h₁ => ?_
      replace hF := Sm.trans hF h₁
      clear h₁
      refine beside_call rfl rfl (by decide) rfl Try.func15 rfl rfl (by kernel_rfl) (show _ = (#[v4, .int .i64 1] : Array Value) from by walk_nrm) (fun d => bmarked_sm (hF.trans ⟨d, rfl⟩) (markIntS_b _ _ xs 1 _ (ov4.sm (hF.trans ⟨d, rfl⟩)) hb1 (by omega) (by omega))) ?_
      rintro r w12 ⟨rfl, mv4, g12⟩
      clear hF
      have ov1 := ov1.kept g12 ap_v1_v4.1
      have ov2 := ov2.kept g12 ap_v2_v4.1
      have ov3 := ov3.kept g12 ap_v3_v4.1
      have ov5 := ov5.kept g12 ap_v4_v5.2
      have ov6 := ov6.kept g12 ap_v4_v6.2
      have ov7 := ov7.kept g12 ap_v4_v7.2
      have ov8 := ov8.kept g12 ap_v4_v8.2
      have bb := bel_marked bb ov4 g12 (by omega)
      have h := h0.below bb (Nat.le_refl _)
      have g := g0.below bb (Nat.le_refl _)
      have ov4 := mv4
      have hF := Sm.refl w12
      walk_nrm
      refine beside_by (n := 400) ?_
      repeat (first | a_ctl hF Sm.trans D0.nil | a_op hF Sm.trans [] D0.evs ⟨by simp, by simp⟩ | (refine Goes.step rfl (fun _ h₁ => ?_); rw [stepG_unwanted rfl rfl]; simp only [goes_go]; refine ⟨D0.nil, ?_⟩; replace hF := Sm.trans hF h₁; clear h₁; walk_nrm))
      refine Goes.stop fun w₁ h₁ => ?_
      replace hF := Sm.trans hF h₁
      clear h₁
      refine beside_call rfl rfl (by decide) rfl Try.func15 rfl rfl (by kernel_rfl) (show _ = (#[v5, .int .i64 (1 + (xs.length : Int))] : Array Value) from by walk_nrm) (fun d => bmarked_sm (hF.trans ⟨d, rfl⟩) (markIntS_b _ _ ys (1 + xs.length) _ (ov5.sm (hF.trans ⟨d, rfl⟩)) hb2 (by omega) (by omega))) ?_
      rintro r w13 ⟨rfl, mv5, g13⟩
      clear hF
      have ov1 := ov1.kept g13 ap_v1_v5.1
      have ov2 := ov2.kept g13 ap_v2_v5.1
      have ov3 := ov3.kept g13 ap_v3_v5.1
      have ov4 := ov4.kept g13 ap_v4_v5.1
      have ov6 := ov6.kept g13 ap_v5_v6.2
      have ov7 := ov7.kept g13 ap_v5_v7.2
      have ov8 := ov8.kept g13 ap_v5_v8.2
      have bb := bel_marked bb ov5 g13 (by omega)
      have h := h0.below bb (Nat.le_refl _)
      have g := g0.below bb (Nat.le_refl _)
      have ov5 := mv5
      have hF := Sm.refl w13
      walk_nrm
      refine beside_by (n := 400) ?_
      repeat (first | a_ctl hF Sm.trans D0.nil | a_op hF Sm.trans [] D0.evs ⟨by simp, by simp⟩ | (refine Goes.step rfl (fun _ h₁ => ?_); rw [stepG_unwanted rfl rfl]; simp only [goes_go]; refine ⟨D0.nil, ?_⟩; replace hF := Sm.trans hF h₁; clear h₁; walk_nrm))
      refine Goes.stop fun w₁ h₁ => ?_
      replace hF := Sm.trans hF h₁
      clear h₁
      refine beside_call rfl rfl (by decide) rfl Try.func14 rfl rfl (by kernel_rfl) (show _ = (#[v6, v3] : Array Value) from by walk_nrm) (fun d => bsays_sm (hF.trans ⟨d, rfl⟩) (eqIntS_b _ _ zs zs _ (ov6.rd.sm (hF.trans ⟨d, rfl⟩)) (ov3.rd.sm (hF.trans ⟨d, rfl⟩)) hFM hFM)) ?_
      rintro r w14 ⟨rfl, b14⟩
      clear hF
      have ov1 := ov1.below b14 (Nat.le_refl _)
      have ov2 := ov2.below b14 (Nat.le_refl _)
      have ov3 := ov3.below b14 (Nat.le_refl _)
      have ov4 := ov4.below b14 (Nat.le_refl _)
      have ov5 := ov5.below b14 (Nat.le_refl _)
      have ov6 := ov6.below b14 (Nat.le_refl _)
      have ov7 := ov7.below b14 (Nat.le_refl _)
      have ov8 := ov8.below b14 (Nat.le_refl _)
      have h := h.below b14 (Nat.le_refl _)
      have g := g.below b14 (Nat.le_refl _)
      have bb := bel_nxt bb b14
      have hF := Sm.refl w14
      walk_nrm
      rw [eqB_self]
      refine beside_by (n := 400) ?_
      repeat (first | a_ctl hF Sm.trans D0.nil | a_op hF Sm.trans [] D0.evs ⟨by simp, by simp⟩ | (refine Goes.step rfl (fun _ h₁ => ?_); rw [stepG_unwanted rfl rfl]; simp only [goes_go]; refine ⟨D0.nil, ?_⟩; replace hF := Sm.trans hF h₁; clear h₁; walk_nrm))
      a_cond false hF Sm.trans D0.nil
      refine Goes.stop fun w₁ h₁ => ?_
      replace hF := Sm.trans hF h₁
      clear h₁
      refine beside_by (n := 400) ?_
      repeat (first | a_ctl hF Sm.trans D0.nil | a_op hF Sm.trans [] D0.evs ⟨by simp, by simp⟩ | (refine Goes.step rfl (fun _ h₁ => ?_); rw [stepG_unwanted rfl rfl]; simp only [goes_go]; refine ⟨D0.nil, ?_⟩; replace hF := Sm.trans hF h₁; clear h₁; walk_nrm))
      refine Goes.stop fun w₁ h₁ => ?_
      replace hF := Sm.trans hF h₁
      clear h₁
      refine beside_call rfl rfl (by decide) rfl Try.func15 rfl rfl (by kernel_rfl) (show _ = (#[v6, .int .i64 1] : Array Value) from by walk_nrm) (fun d => bmarked_sm (hF.trans ⟨d, rfl⟩) (markIntS_b _ _ zs 1 _ (ov6.sm (hF.trans ⟨d, rfl⟩)) hZ (by omega) (by omega))) ?_
      rintro r w15 ⟨rfl, mv6, g15⟩
      clear hF
      have ov1 := ov1.kept g15 ap_v1_v6.1
      have ov2 := ov2.kept g15 ap_v2_v6.1
      have ov3 := ov3.kept g15 ap_v3_v6.1
      have ov4 := ov4.kept g15 ap_v4_v6.1
      have ov5 := ov5.kept g15 ap_v5_v6.1
      have ov7 := ov7.kept g15 ap_v6_v7.2
      have ov8 := ov8.kept g15 ap_v6_v8.2
      have bb := bel_marked bb ov6 g15 (by omega)
      have h := h0.below bb (Nat.le_refl _)
      have g := g0.below bb (Nat.le_refl _)
      have ov6 := mv6
      have hF := Sm.refl w15
      walk_nrm
      refine beside_by (n := 400) ?_
      repeat (first | a_ctl hF Sm.trans D0.nil | a_op hF Sm.trans [] D0.evs ⟨by simp, by simp⟩ | (refine Goes.step rfl (fun _ h₁ => ?_); rw [stepG_unwanted rfl rfl]; simp only [goes_go]; refine ⟨D0.nil, ?_⟩; replace hF := Sm.trans hF h₁; clear h₁; walk_nrm))
      refine Goes.stop fun w₁ h₁ => ?_
      replace hF := Sm.trans hF h₁
      clear h₁
      refine beside_call rfl rfl (by decide) rfl Try.func16 rfl rfl (by kernel_rfl) (show _ = (#[v6, .int .i64 1] : Array Value) from by walk_nrm) (fun d => btells_sm (hF.trans ⟨d, rfl⟩) (heldIntS_b _ _ 1 _ (ov6.rd.sm (hF.trans ⟨d, rfl⟩)) hZ (by omega) (by omega))) ?_
      rintro r w16 ⟨rfl, b16⟩
      clear hF
      have ov1 := ov1.below b16 (Nat.le_refl _)
      have ov2 := ov2.below b16 (Nat.le_refl _)
      have ov3 := ov3.below b16 (Nat.le_refl _)
      have ov4 := ov4.below b16 (Nat.le_refl _)
      have ov5 := ov5.below b16 (Nat.le_refl _)
      have ov6 := ov6.below b16 (Nat.le_refl _)
      have ov7 := ov7.below b16 (Nat.le_refl _)
      have ov8 := ov8.below b16 (Nat.le_refl _)
      have h := h.below b16 (Nat.le_refl _)
      have g := g.below b16 (Nat.le_refl _)
      have bb := bel_nxt bb b16
      have hF := Sm.refl w16
      walk_nrm
      refine beside_by (n := 400) ?_
      repeat (first | a_ctl hF Sm.trans D0.nil | a_op hF Sm.trans [] D0.evs ⟨by simp, by simp⟩ | (refine Goes.step rfl (fun _ h₁ => ?_); rw [stepG_unwanted rfl rfl]; simp only [goes_go]; refine ⟨D0.nil, ?_⟩; replace hF := Sm.trans hF h₁; clear h₁; walk_nrm))
      a_cond false hF Sm.trans D0.nil
      refine Goes.stop fun w₁ h₁ => ?_
      replace hF := Sm.trans hF h₁
      clear h₁
      refine beside_by (n := 400) ?_
      repeat (first | a_ctl hF Sm.trans D0.nil | a_op hF Sm.trans [] D0.evs ⟨by simp, by simp⟩ | (refine Goes.step rfl (fun _ h₁ => ?_); rw [stepG_unwanted rfl rfl]; simp only [goes_go]; refine ⟨D0.nil, ?_⟩; replace hF := Sm.trans hF h₁; clear h₁; walk_nrm))
      a_cond false hF Sm.trans D0.nil
      refine Goes.stop fun w₁ h₁ => ?_
      replace hF := Sm.trans hF h₁
      clear h₁
      refine beside_by (n := 400) ?_
      repeat (first | a_ctl hF Sm.trans D0.nil | a_op hF Sm.trans [] D0.evs ⟨by simp, by simp⟩ | (refine Goes.step rfl (fun _ h₁ => ?_); rw [stepG_unwanted rfl rfl]; simp only [goes_go]; refine ⟨D0.nil, ?_⟩; replace hF := Sm.trans hF h₁; clear h₁; walk_nrm))
      refine Goes.stop fun w₁ h₁ => ?_
      replace hF := Sm.trans hF h₁
      clear h₁
      refine beside_call rfl rfl (by decide) rfl Try.func12 rfl rfl (by kernel_rfl) (show _ = (#[.slice ca xs.length cap] : Array Value) from by walk_nrm) (fun d => bmade_sm (hF.trans ⟨d, rfl⟩) (toIntS_b _ xs _ (h.sm (hF.trans ⟨d, rfl⟩)) hb1)) ?_
      rintro v9 w17 ⟨ov9, b17⟩
      clear hF
      have ap_v1_v9 := Own.apart ov1 ov9
      have ov1 := ov1.below b17 (Nat.le_refl _)
      have ap_v2_v9 := Own.apart ov2 ov9
      have ov2 := ov2.below b17 (Nat.le_refl _)
      have ap_v3_v9 := Own.apart ov3 ov9
      have ov3 := ov3.below b17 (Nat.le_refl _)
      have ap_v4_v9 := Own.apart ov4 ov9
      have ov4 := ov4.below b17 (Nat.le_refl _)
      have ap_v5_v9 := Own.apart ov5 ov9
      have ov5 := ov5.below b17 (Nat.le_refl _)
      have ap_v6_v9 := Own.apart ov6 ov9
      have ov6 := ov6.below b17 (Nat.le_refl _)
      have ap_v7_v9 := Own.apart ov7 ov9
      have ov7 := ov7.below b17 (Nat.le_refl _)
      have ap_v8_v9 := Own.apart ov8 ov9
      have ov8 := ov8.below b17 (Nat.le_refl _)
      have h := h.below b17 (Nat.le_refl _)
      have g := g.below b17 (Nat.le_refl _)
      have lo_v9 := bb.size
      have bb := bel_nxt bb b17
      have hF := Sm.refl w17
      walk_nrm
      refine beside_by (n := 400) ?_
      repeat (first | a_ctl hF Sm.trans D0.nil | a_op hF Sm.trans [] D0.evs ⟨by simp, by simp⟩ | (refine Goes.step rfl (fun _ h₁ => ?_); rw [stepG_unwanted rfl rfl]; simp only [goes_go]; refine ⟨D0.nil, ?_⟩; replace hF := Sm.trans hF h₁; clear h₁; walk_nrm))
      refine Goes.stop fun w₁ h₁ => ?_
      replace hF := Sm.trans hF h₁
      clear h₁
      refine beside_call rfl rfl (by decide) rfl Try.func12 rfl rfl (by kernel_rfl) (show _ = (#[.slice ca' ys.length cap'] : Array Value) from by walk_nrm) (fun d => bmade_sm (hF.trans ⟨d, rfl⟩) (toIntS_b _ ys _ (g.sm (hF.trans ⟨d, rfl⟩)) hb2)) ?_
      rintro v10 w18 ⟨ov10, b18⟩
      clear hF
      have ap_v1_v10 := Own.apart ov1 ov10
      have ov1 := ov1.below b18 (Nat.le_refl _)
      have ap_v2_v10 := Own.apart ov2 ov10
      have ov2 := ov2.below b18 (Nat.le_refl _)
      have ap_v3_v10 := Own.apart ov3 ov10
      have ov3 := ov3.below b18 (Nat.le_refl _)
      have ap_v4_v10 := Own.apart ov4 ov10
      have ov4 := ov4.below b18 (Nat.le_refl _)
      have ap_v5_v10 := Own.apart ov5 ov10
      have ov5 := ov5.below b18 (Nat.le_refl _)
      have ap_v6_v10 := Own.apart ov6 ov10
      have ov6 := ov6.below b18 (Nat.le_refl _)
      have ap_v7_v10 := Own.apart ov7 ov10
      have ov7 := ov7.below b18 (Nat.le_refl _)
      have ap_v8_v10 := Own.apart ov8 ov10
      have ov8 := ov8.below b18 (Nat.le_refl _)
      have ap_v9_v10 := Own.apart ov9 ov10
      have ov9 := ov9.below b18 (Nat.le_refl _)
      have h := h.below b18 (Nat.le_refl _)
      have g := g.below b18 (Nat.le_refl _)
      have lo_v10 := bb.size
      have bb := bel_nxt bb b18
      have hF := Sm.refl w18
      walk_nrm
      refine beside_by (n := 400) ?_
      repeat (first | a_ctl hF Sm.trans D0.nil | a_op hF Sm.trans [] D0.evs ⟨by simp, by simp⟩ | (refine Goes.step rfl (fun _ h₁ => ?_); rw [stepG_unwanted rfl rfl]; simp only [goes_go]; refine ⟨D0.nil, ?_⟩; replace hF := Sm.trans hF h₁; clear h₁; walk_nrm))
      refine Goes.stop fun w₁ h₁ => ?_
      replace hF := Sm.trans hF h₁
      clear h₁
      refine beside_call rfl rfl (by decide) rfl Try.func13 rfl rfl (by kernel_rfl) (show _ = (#[v9, v10] : Array Value) from by walk_nrm) (fun d => bmade_sm (hF.trans ⟨d, rfl⟩) (implTimesOf_b _ _ xs ys _ (ov9.rd.sm (hF.trans ⟨d, rfl⟩)) (ov10.rd.sm (hF.trans ⟨d, rfl⟩)) hb1 hb2)) ?_
      rintro v11 w19 ⟨ov11, b19⟩
      clear hF
      have ap_v1_v11 := Own.apart ov1 ov11
      have ov1 := ov1.below b19 (Nat.le_refl _)
      have ap_v2_v11 := Own.apart ov2 ov11
      have ov2 := ov2.below b19 (Nat.le_refl _)
      have ap_v3_v11 := Own.apart ov3 ov11
      have ov3 := ov3.below b19 (Nat.le_refl _)
      have ap_v4_v11 := Own.apart ov4 ov11
      have ov4 := ov4.below b19 (Nat.le_refl _)
      have ap_v5_v11 := Own.apart ov5 ov11
      have ov5 := ov5.below b19 (Nat.le_refl _)
      have ap_v6_v11 := Own.apart ov6 ov11
      have ov6 := ov6.below b19 (Nat.le_refl _)
      have ap_v7_v11 := Own.apart ov7 ov11
      have ov7 := ov7.below b19 (Nat.le_refl _)
      have ap_v8_v11 := Own.apart ov8 ov11
      have ov8 := ov8.below b19 (Nat.le_refl _)
      have ap_v9_v11 := Own.apart ov9 ov11
      have ov9 := ov9.below b19 (Nat.le_refl _)
      have ap_v10_v11 := Own.apart ov10 ov11
      have ov10 := ov10.below b19 (Nat.le_refl _)
      have h := h.below b19 (Nat.le_refl _)
      have g := g.below b19 (Nat.le_refl _)
      have lo_v11 := bb.size
      have bb := bel_nxt bb b19
      have hF := Sm.refl w19
      walk_nrm
      rw [← HY.out] at ov11
      refine beside_by (n := 400) ?_
      repeat (first | a_ctl hF Sm.trans D0.nil | a_op hF Sm.trans [] D0.evs ⟨by simp, by simp⟩ | (refine Goes.step rfl (fun _ h₁ => ?_); rw [stepG_unwanted rfl rfl]; simp only [goes_go]; refine ⟨D0.nil, ?_⟩; replace hF := Sm.trans hF h₁; clear h₁; walk_nrm))
      refine Goes.stop fun w₁ h₁ => ?_
      replace hF := Sm.trans hF h₁
      clear h₁
      refine beside_call rfl rfl (by decide) rfl Try.func14 rfl rfl (by kernel_rfl) (show _ = (#[v11, v3] : Array Value) from by walk_nrm) (fun d => bsays_sm (hF.trans ⟨d, rfl⟩) (eqIntS_b _ _ zs zs _ (ov11.rd.sm (hF.trans ⟨d, rfl⟩)) (ov3.rd.sm (hF.trans ⟨d, rfl⟩)) hFM hFM)) ?_
      rintro r w20 ⟨rfl, b20⟩
      clear hF
      have ov1 := ov1.below b20 (Nat.le_refl _)
      have ov2 := ov2.below b20 (Nat.le_refl _)
      have ov3 := ov3.below b20 (Nat.le_refl _)
      have ov4 := ov4.below b20 (Nat.le_refl _)
      have ov5 := ov5.below b20 (Nat.le_refl _)
      have ov6 := ov6.below b20 (Nat.le_refl _)
      have ov7 := ov7.below b20 (Nat.le_refl _)
      have ov8 := ov8.below b20 (Nat.le_refl _)
      have ov9 := ov9.below b20 (Nat.le_refl _)
      have ov10 := ov10.below b20 (Nat.le_refl _)
      have ov11 := ov11.below b20 (Nat.le_refl _)
      have h := h.below b20 (Nat.le_refl _)
      have g := g.below b20 (Nat.le_refl _)
      have bb := bel_nxt bb b20
      have hF := Sm.refl w20
      walk_nrm
      rw [eqB_self]
      refine beside_by (n := 400) ?_
      repeat (first | a_ctl hF Sm.trans D0.nil | a_op hF Sm.trans [] D0.evs ⟨by simp, by simp⟩ | (refine Goes.step rfl (fun _ h₁ => ?_); rw [stepG_unwanted rfl rfl]; simp only [goes_go]; refine ⟨D0.nil, ?_⟩; replace hF := Sm.trans hF h₁; clear h₁; walk_nrm))
      a_cond false hF Sm.trans D0.nil
      refine Goes.stop fun w₁ h₁ => ?_
      replace hF := Sm.trans hF h₁
      clear h₁
      refine beside_by (n := 400) ?_
      repeat (first | a_ctl hF Sm.trans D0.nil | a_op hF Sm.trans [] D0.evs ⟨by simp, by simp⟩ | (refine Goes.step rfl (fun _ h₁ => ?_); rw [stepG_unwanted rfl rfl]; simp only [goes_go]; refine ⟨D0.nil, ?_⟩; replace hF := Sm.trans hF h₁; clear h₁; walk_nrm))
      refine Goes.stop fun w₁ h₁ => ?_
      replace hF := Sm.trans hF h₁
      clear h₁
      refine beside_call rfl rfl (by decide) rfl Try.func16 rfl rfl (by kernel_rfl) (show _ = (#[v6, .int .i64 1] : Array Value) from by walk_nrm) (fun d => btells_sm (hF.trans ⟨d, rfl⟩) (heldIntS_b _ _ 1 _ (ov6.rd.sm (hF.trans ⟨d, rfl⟩)) hZ (by omega) (by omega))) ?_
      rintro r w21 ⟨rfl, b21⟩
      clear hF
      have ov1 := ov1.below b21 (Nat.le_refl _)
      have ov2 := ov2.below b21 (Nat.le_refl _)
      have ov3 := ov3.below b21 (Nat.le_refl _)
      have ov4 := ov4.below b21 (Nat.le_refl _)
      have ov5 := ov5.below b21 (Nat.le_refl _)
      have ov6 := ov6.below b21 (Nat.le_refl _)
      have ov7 := ov7.below b21 (Nat.le_refl _)
      have ov8 := ov8.below b21 (Nat.le_refl _)
      have ov9 := ov9.below b21 (Nat.le_refl _)
      have ov10 := ov10.below b21 (Nat.le_refl _)
      have ov11 := ov11.below b21 (Nat.le_refl _)
      have h := h.below b21 (Nat.le_refl _)
      have g := g.below b21 (Nat.le_refl _)
      have bb := bel_nxt bb b21
      have hF := Sm.refl w21
      walk_nrm
      refine beside_by (n := 400) ?_
      repeat (first | a_ctl hF Sm.trans D0.nil | a_op hF Sm.trans [] D0.evs ⟨by simp, by simp⟩ | (refine Goes.step rfl (fun _ h₁ => ?_); rw [stepG_unwanted rfl rfl]; simp only [goes_go]; refine ⟨D0.nil, ?_⟩; replace hF := Sm.trans hF h₁; clear h₁; walk_nrm))
      a_cond false hF Sm.trans D0.nil
      refine Goes.stop fun w₁ h₁ => ?_
      replace hF := Sm.trans hF h₁
      clear h₁
      refine beside_by (n := 400) ?_
      repeat (first | a_ctl hF Sm.trans D0.nil | a_op hF Sm.trans [] D0.evs ⟨by simp, by simp⟩ | (refine Goes.step rfl (fun _ h₁ => ?_); rw [stepG_unwanted rfl rfl]; simp only [goes_go]; refine ⟨D0.nil, ?_⟩; replace hF := Sm.trans hF h₁; clear h₁; walk_nrm))
      a_cond false hF Sm.trans D0.nil
      refine Goes.stop fun w₁ h₁ => ?_
      replace hF := Sm.trans hF h₁
      clear h₁
      refine beside_by (n := 400) ?_
      repeat (first | a_ctl hF Sm.trans D0.nil | a_op hF Sm.trans [] D0.evs ⟨by simp, by simp⟩ | (refine Goes.step rfl (fun _ h₁ => ?_); rw [stepG_unwanted rfl rfl]; simp only [goes_go]; refine ⟨D0.nil, ?_⟩; replace hF := Sm.trans hF h₁; clear h₁; walk_nrm))
      refine Goes.step rfl (fun _ h₁ => ?_)
      rw [stepG_ret']
      simp only [goes_go]
      refine ⟨D0.nil, ?_⟩
      refine Goes.stop fun w₁ h₂ => .at0 fun d => ?_
      have hF := (Sm.trans hF h₁).trans (h₂.trans ⟨d, rfl⟩)
      exact leave1 Try.func3 rfl (R := BSays true w) ⟨rfl, bb.sm hF⟩
    · have i1 : ¬ ((1048576 : Int) < (xs.length : Int)) := by omega
      have i2 : ((1048576 : Int) < (ys.length : Int)) := by omega
      subst hu hv
      refine beside_by (n := 400) ?_
      repeat (first | a_ctl hF Sm.trans D0.nil | a_op hF Sm.trans [] D0.evs ⟨by simp, by simp⟩ | (refine Goes.step rfl (fun _ h₁ => ?_); rw [stepG_unwanted rfl rfl]; simp only [goes_go]; refine ⟨D0.nil, ?_⟩; replace hF := Sm.trans hF h₁; clear h₁; walk_nrm))
      a_cond false hF Sm.trans D0.nil
      repeat (first | a_ctl hF Sm.trans D0.nil | a_op hF Sm.trans [] D0.evs ⟨by simp, by simp⟩ | (refine Goes.step rfl (fun _ h₁ => ?_); rw [stepG_unwanted rfl rfl]; simp only [goes_go]; refine ⟨D0.nil, ?_⟩; replace hF := Sm.trans hF h₁; clear h₁; walk_nrm))
      a_cond true hF Sm.trans D0.nil
      repeat (first | a_ctl hF Sm.trans D0.nil | a_op hF Sm.trans [] D0.evs ⟨by simp, by simp⟩ | (refine Goes.step rfl (fun _ h₁ => ?_); rw [stepG_unwanted rfl rfl]; simp only [goes_go]; refine ⟨D0.nil, ?_⟩; replace hF := Sm.trans hF h₁; clear h₁; walk_nrm))
      refine Goes.step rfl (fun _ h₁ => ?_)
      rw [stepG_ret']
      simp only [goes_go]
      refine ⟨D0.nil, ?_⟩
      refine Goes.stop fun w₁ h₂ => .at0 fun d => ?_
      have hF := (Sm.trans hF h₁).trans (h₂.trans ⟨d, rfl⟩)
      exact leave1 Try.func3 rfl (R := BSays true w) ⟨rfl, (Below.refl w.heap.size w).sm hF⟩
  · have i1 : ((1048576 : Int) < (xs.length : Int)) := by omega
    subst hu hv
    refine beside_by (n := 400) ?_
    repeat (first | a_ctl hF Sm.trans D0.nil | a_op hF Sm.trans [] D0.evs ⟨by simp, by simp⟩ | (refine Goes.step rfl (fun _ h₁ => ?_); rw [stepG_unwanted rfl rfl]; simp only [goes_go]; refine ⟨D0.nil, ?_⟩; replace hF := Sm.trans hF h₁; clear h₁; walk_nrm))
    a_cond true hF Sm.trans D0.nil
    repeat (first | a_ctl hF Sm.trans D0.nil | a_op hF Sm.trans [] D0.evs ⟨by simp, by simp⟩ | (refine Goes.step rfl (fun _ h₁ => ?_); rw [stepG_unwanted rfl rfl]; simp only [goes_go]; refine ⟨D0.nil, ?_⟩; replace hF := Sm.trans hF h₁; clear h₁; walk_nrm))
    refine Goes.step rfl (fun _ h₁ => ?_)
    rw [stepG_ret']
    simp only [goes_go]
    refine ⟨D0.nil, ?_⟩
    refine Goes.stop fun w₁ h₂ => .at0 fun d => ?_
    have hF := (Sm.trans hF h₁).trans (h₂.trans ⟨d, rfl⟩)
    exact leave1 Try.func3 rfl (R := BSays true w) ⟨rfl, (Below.refl w.heap.size w).sm hF⟩

end Go.Proofs.Ytlglokbakmbpdab
