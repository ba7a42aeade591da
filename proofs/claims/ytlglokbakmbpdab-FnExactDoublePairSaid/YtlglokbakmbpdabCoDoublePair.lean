/-
  The exact law of DoublePair, in company (written by ch5db.py).
-/
import Derived.Test.YtlglokbakmbpdabPtG
import Derived.Test.YtlglokbakmbpdabDbP
namespace Go.Proofs.Ytlglokbakmbpdab
open Go Go.Conc Go.RowKit
set_option linter.unusedVariables false

set_option maxRecDepth 100000 in
set_option maxHeartbeats 40000000 in
theorem exactDoublePair_b (u v : Value) (xs ys : List Int) (w : World) (h : Rd w u xs) (g : Rd w v ys) (hl1 : xs.length ≤ maxLen) (hl2 : ys.length ≤ maxLen) :
    BCalls Try.prog 10 #[u, v] w (BSays true w) := by
  intro cs
  have h0 := h
  have g0 := g
  obtain ⟨ca, cap, hu, -⟩ := h
  obtain ⟨ca', cap', hv, -⟩ := g
  have h := h0
  have g := g0
  unfold maxLen at hl1 hl2
  rw [enter_at _ Try.func10 rfl]
  simp only [Try.f10, List.size_toArray, List.length_cons, List.length_nil, Nat.reduceAdd, Nat.reduceSub, Array.replicate_succ, Array.replicate_zero, List.push_toArray, List.append_toArray, List.nil_append, List.cons_append]
  have hF : Sm w w := Sm.refl w
  by_cases hb1 : xs.length ≤ 1048576
  · by_cases hb2 : ys.length ≤ 1048576
    · have hM1 : xs.length ≤ maxLen := by unfold maxLen; omega
      have hM2 : ys.length ≤ maxLen := by unfold maxLen; omega
      obtain ⟨q, hq⟩ : ∃ q, q = okD xs ys := ⟨_, rfl⟩
      have bb := Below.refl w.heap.size w
      have HQ := Lib.hid hq
      clear hq
      obtain ⟨zs, hzs⟩ : ∃ zs, zs = dp1 xs ys := ⟨_, rfl⟩
      obtain ⟨rs, hrs⟩ : ∃ rs, rs = dp2 xs ys := ⟨_, rfl⟩
      have HZ1 := Lib.hid hzs
      have HZ2 := Lib.hid hrs
      have hz1 : zs.length ≤ 1048576 := by rw [hzs]; have := dp1_len xs ys; omega
      have hz2 : rs.length ≤ 1048576 := by rw [hrs]; have := dp2_len xs ys; omega
      have hZ1 : zs.length ≤ maxLen := by unfold maxLen; omega
      have hZ2 : rs.length ≤ maxLen := by unfold maxLen; omega
      clear hzs hrs
      have i1 : ¬ ((1048576 : Int) < (xs.length : Int)) := by omega
      have i2 : ¬ ((1048576 : Int) < (ys.length : Int)) := by omega
      subst hu hv
      refine beside_by (n := 400) ?_
      repeat (first | a_ctl hF Sm.trans D0.nil | (refine Goes.step rfl (fun _ h₁ => ?_); replace hF := Sm.trans hF h₁; clear h₁; refine goes_oper_k rfl rfl (by decide) (fun K hK => ?_); go_simp; refine hK _ _ ⟨still_listed rfl, ?_⟩; clear hK K) | (refine Goes.step rfl (fun _ h₁ => ?_); rw [stepG_unwanted rfl rfl]; simp only [goes_go]; refine ⟨D0.nil, ?_⟩; replace hF := Sm.trans hF h₁; clear h₁; walk_nrm))
      a_cond false hF Sm.trans D0.nil
      repeat (first | a_ctl hF Sm.trans D0.nil | (refine Goes.step rfl (fun _ h₁ => ?_); replace hF := Sm.trans hF h₁; clear h₁; refine goes_oper_k rfl rfl (by decide) (fun K hK => ?_); go_simp; refine hK _ _ ⟨still_listed rfl, ?_⟩; clear hK K) | (refine Goes.step rfl (fun _ h₁ => ?_); rw [stepG_unwanted rfl rfl]; simp only [goes_go]; refine ⟨D0.nil, ?_⟩; replace hF := Sm.trans hF h₁; clear h₁; walk_nrm))
      a_cond false hF Sm.trans D0.nil
      refine Goes.stop fun w₁ h₁ => ?_
      replace hF := Sm.trans hF h₁
      clear h₁
      refine beside_by (n := 400) ?_
      repeat (first | a_ctl hF Sm.trans D0.nil | (refine Goes.step rfl (fun _ h₁ => ?_); replace hF := Sm.trans hF h₁; clear h₁; refine goes_oper_k rfl rfl (by decide) (fun K hK => ?_); go_simp; refine hK _ _ ⟨still_listed rfl, ?_⟩; clear hK K) | (refine Goes.step rfl (fun _ h₁ => ?_); rw [stepG_unwanted rfl rfl]; simp only [goes_go]; refine ⟨D0.nil, ?_⟩; replace hF := Sm.trans hF h₁; clear h₁; walk_nrm))
      refine Goes.stop fun w₁ h₁ => ?_
      replace hF := Sm.trans hF h₁
      clear h₁
      refine beside_call rfl rfl (by decide) rfl Try.func12 rfl rfl (by kernel_rfl) (show _ = (#[.slice ca xs.length cap] : Array Value) from by walk_nrm) (fun d => bmadeO_sm (hF.trans ⟨d, rfl⟩) (bmade_oo (toIntS_b _ xs _ (h.sm (hF.trans ⟨d, rfl⟩)) hb1))) ?_
      rintro v1 w1 ⟨ov1, b1⟩
      clear hF
      have h := h.below b1 (Nat.le_refl _)
      have g := g.below b1 (Nat.le_refl _)
      have lo_v1 := bb.size
      have bb := bel_nxt bb b1
      have hF := Sm.refl w1
      walk_nrm
      refine beside_by (n := 400) ?_
      repeat (first | a_ctl hF Sm.trans D0.nil | (refine Goes.step rfl (fun _ h₁ => ?_); replace hF := Sm.trans hF h₁; clear h₁; refine goes_oper_k rfl rfl (by decide) (fun K hK => ?_); go_simp; refine hK _ _ ⟨still_listed rfl, ?_⟩; clear hK K) | (refine Goes.step rfl (fun _ h₁ => ?_); rw [stepG_unwanted rfl rfl]; simp only [goes_go]; refine ⟨D0.nil, ?_⟩; replace hF := Sm.trans hF h₁; clear h₁; walk_nrm))
      refine Goes.stop fun w₁ h₁ => ?_
      replace hF := Sm.trans hF h₁
      clear h₁
      refine beside_call rfl rfl (by decide) rfl Try.func12 rfl rfl (by kernel_rfl) (show _ = (#[.slice ca' ys.length cap'] : Array Value) from by walk_nrm) (fun d => bmadeO_sm (hF.trans ⟨d, rfl⟩) (bmade_oo (toIntS_b _ ys _ (g.sm (hF.trans ⟨d, rfl⟩)) hb2))) ?_
      rintro v2 w2 ⟨ov2, b2⟩
      clear hF
      have ap_v1_v2 := OwnO.apart ov1 ov2
      have ov1 := ov1.below b2 (Nat.le_refl _)
      have h := h.below b2 (Nat.le_refl _)
      have g := g.below b2 (Nat.le_refl _)
      have lo_v2 := bb.size
      have bb := bel_nxt bb b2
      have hF := Sm.refl w2
      walk_nrm
      refine beside_by (n := 400) ?_
      repeat (first | a_ctl hF Sm.trans D0.nil | (refine Goes.step rfl (fun _ h₁ => ?_); replace hF := Sm.trans hF h₁; clear h₁; refine goes_oper_k rfl rfl (by decide) (fun K hK => ?_); go_simp; refine hK _ _ ⟨still_listed rfl, ?_⟩; clear hK K) | (refine Goes.step rfl (fun _ h₁ => ?_); rw [stepG_unwanted rfl rfl]; simp only [goes_go]; refine ⟨D0.nil, ?_⟩; replace hF := Sm.trans hF h₁; clear h₁; walk_nrm))
      refine Goes.stop fun w₁ h₁ => ?_
      replace hF := Sm.trans hF h₁
      clear h₁
      refine beside_call rfl rfl (by decide) rfl Try.func29 rfl rfl (by kernel_rfl) (show _ = (#[v1, v2] : Array Value) from by walk_nrm) (fun d => madeT_sm (hF.trans ⟨d, rfl⟩) (specDoublePair_b _ _ xs ys _ (ov1.rd.sm (hF.trans ⟨d, rfl⟩)) (ov2.rd.sm (hF.trans ⟨d, rfl⟩)) hM1 hM2)) ?_
      rintro r w3 ⟨p3, q3, rfl, op3, oq3, ap_p3_q3, b3⟩
      clear hF
      replace op3 := op3.oo
      replace oq3 := oq3.oo
      have ap_v1_p3 := OwnO.apart ov1 op3
      have ap_v1_q3 := OwnO.apart ov1 oq3
      have ov1 := ov1.below b3 (Nat.le_refl _)
      have ap_v2_p3 := OwnO.apart ov2 op3
      have ap_v2_q3 := OwnO.apart ov2 oq3
      have ov2 := ov2.below b3 (Nat.le_refl _)
      have h := h.below b3 (Nat.le_refl _)
      have g := g.below b3 (Nat.le_refl _)
      have lo_p3 := bb.size
      have lo_q3 := bb.size
      have bb := bel_nxt bb b3
      rw [← HZ1.out] at op3
      rw [← HZ2.out] at oq3
      rw [← HQ.out]
      have hF := Sm.refl w3
      walk_nrm
      refine beside_by (n := 400) ?_
      repeat (first | a_ctl hF Sm.trans D0.nil | (refine Goes.step rfl (fun _ h₁ => ?_); replace hF := Sm.trans hF h₁; clear h₁; refine goes_oper_k rfl rfl (by decide) (fun K hK => ?_); go_simp; refine hK _ _ ⟨still_listed rfl, ?_⟩; clear hK K) | (refine Goes.step rfl (fun _ h₁ => ?_); rw [stepG_unwanted rfl rfl]; simp only [goes_go]; refine ⟨D0.nil, ?_⟩; replace hF := Sm.trans hF h₁; clear h₁; walk_nrm))
      refine Goes.stop fun w₁ h₁ => ?_
      replace hF := Sm.trans hF h₁
      clear h₁
      refine beside_call rfl rfl (by decide) rfl Try.func12 rfl rfl (by kernel_rfl) (show _ = (#[.slice ca xs.length cap] : Array Value) from by walk_nrm) (fun d => bmadeO_sm (hF.trans ⟨d, rfl⟩) (bmade_oo (toIntS_b _ xs _ (h.sm (hF.trans ⟨d, rfl⟩)) hb1))) ?_
      rintro v4 w4 ⟨ov4, b4⟩
      clear hF
      have ap_v1_v4 := OwnO.apart ov1 ov4
      have ov1 := ov1.below b4 (Nat.le_refl _)
      have ap_v2_v4 := OwnO.apart ov2 ov4
      have ov2 := ov2.below b4 (Nat.le_refl _)
      have ap_p3_v4 := OwnO.apart op3 ov4
      have op3 := op3.below b4 (Nat.le_refl _)
      have ap_q3_v4 := OwnO.apart oq3 ov4
      have oq3 := oq3.below b4 (Nat.le_refl _)
      have h := h.below b4 (Nat.le_refl _)
      have g := g.below b4 (Nat.le_refl _)
      have lo_v4 := bb.size
      have bb := bel_nxt bb b4
      have hF := Sm.refl w4
      walk_nrm
      refine beside_by (n := 400) ?_
      repeat (first | a_ctl hF Sm.trans D0.nil | (refine Goes.step rfl (fun _ h₁ => ?_); replace hF := Sm.trans hF h₁; clear h₁; refine goes_oper_k rfl rfl (by decide) (fun K hK => ?_); go_simp; refine hK _ _ ⟨still_listed rfl, ?_⟩; clear hK K) | (refine Goes.step rfl (fun _ h₁ => ?_); rw [stepG_unwanted rfl rfl]; simp only [goes_go]; refine ⟨D0.nil, ?_⟩; replace hF := Sm.trans hF h₁; clear h₁; walk_nrm))
      refine Goes.stop fun w₁ h₁ => ?_
      replace hF := Sm.trans hF h₁
      clear h₁
      refine beside_call rfl rfl (by decide) rfl Try.func12 rfl rfl (by kernel_rfl) (show _ = (#[.slice ca' ys.length cap'] : Array Value) from by walk_nrm) (fun d => bmadeO_sm (hF.trans ⟨d, rfl⟩) (bmade_oo (toIntS_b _ ys _ (g.sm (hF.trans ⟨d, rfl⟩)) hb2))) ?_
      rintro v5 w5 ⟨ov5, b5⟩
      clear hF
      have ap_v1_v5 := OwnO.apart ov1 ov5
      have ov1 := ov1.below b5 (Nat.le_refl _)
      have ap_v2_v5 := OwnO.apart ov2 ov5
      have ov2 := ov2.below b5 (Nat.le_refl _)
      have ap_p3_v5 := OwnO.apart op3 ov5
      have op3 := op3.below b5 (Nat.le_refl _)
      have ap_q3_v5 := OwnO.apart oq3 ov5
      have oq3 := oq3.below b5 (Nat.le_refl _)
      have ap_v4_v5 := OwnO.apart ov4 ov5
      have ov4 := ov4.below b5 (Nat.le_refl _)
      have h := h.below b5 (Nat.le_refl _)
      have g := g.below b5 (Nat.le_refl _)
      have lo_v5 := bb.size
      have bb := bel_nxt bb b5
      have hF := Sm.refl w5
      walk_nrm
      refine beside_by (n := 400) ?_
      repeat (first | a_ctl hF Sm.trans D0.nil | (refine Goes.step rfl (fun _ h₁ => ?_); replace hF := Sm.trans hF h₁; clear h₁; refine goes_oper_k rfl rfl (by decide) (fun K hK => ?_); go_simp; refine hK _ _ ⟨still_listed rfl, ?_⟩; clear hK K) | (refine Goes.step rfl (fun _ h₁ => ?_); rw [stepG_unwanted rfl rfl]; simp only [goes_go]; refine ⟨D0.nil, ?_⟩; replace hF := Sm.trans hF h₁; clear h₁; walk_nrm))
      refine Goes.stop fun w₁ h₁ => ?_
      replace hF := Sm.trans hF h₁
      clear h₁
      refine beside_call rfl rfl (by decide) rfl Try.func30 rfl rfl (by kernel_rfl) (show _ = (#[v4, v5] : Array Value) from by walk_nrm) (fun d => madeT_sm (hF.trans ⟨d, rfl⟩) (implDoublePair_b _ _ xs ys _ (ov4.rd.sm (hF.trans ⟨d, rfl⟩)) (ov5.rd.sm (hF.trans ⟨d, rfl⟩)) hM1 hM2)) ?_
      rintro r w6 ⟨p6, q6, rfl, op6, oq6, ap_p6_q6, b6⟩
      clear hF
      replace op6 := op6.oo
      replace oq6 := oq6.oo
      have ap_v1_p6 := OwnO.apart ov1 op6
      have ap_v1_q6 := OwnO.apart ov1 oq6
      have ov1 := ov1.below b6 (Nat.le_refl _)
      have ap_v2_p6 := OwnO.apart ov2 op6
      have ap_v2_q6 := OwnO.apart ov2 oq6
      have ov2 := ov2.below b6 (Nat.le_refl _)
      have ap_p3_p6 := OwnO.apart op3 op6
      have ap_p3_q6 := OwnO.apart op3 oq6
      have op3 := op3.below b6 (Nat.le_refl _)
      have ap_q3_p6 := OwnO.apart oq3 op6
      have ap_q3_q6 := OwnO.apart oq3 oq6
      have oq3 := oq3.below b6 (Nat.le_refl _)
      have ap_v4_p6 := OwnO.apart ov4 op6
      have ap_v4_q6 := OwnO.apart ov4 oq6
      have ov4 := ov4.below b6 (Nat.le_refl _)
      have ap_v5_p6 := OwnO.apart ov5 op6
      have ap_v5_q6 := OwnO.apart ov5 oq6
      have ov5 := ov5.below b6 (Nat.le_refl _)
      have h := h.below b6 (Nat.le_refl _)
      have g := g.below b6 (Nat.le_refl _)
      have lo_p6 := bb.size
      have lo_q6 := bb.size
      have bb := bel_nxt bb b6
      rw [← HZ1.out] at op6
      rw [← HZ2.out] at oq6
      rw [← HQ.out]
      have hF := Sm.refl w6
      walk_nrm
      refine beside_by (n := 400) ?_
      repeat (first | a_ctl hF Sm.trans D0.nil | (refine Goes.step rfl (fun _ h₁ => ?_); replace hF := Sm.trans hF h₁; clear h₁; refine goes_oper_k rfl rfl (by decide) (fun K hK => ?_); go_simp; refine hK _ _ ⟨still_listed rfl, ?_⟩; clear hK K) | (refine Goes.step rfl (fun _ h₁ => ?_); rw [stepG_unwanted rfl rfl]; simp only [goes_go]; refine ⟨D0.nil, ?_⟩; replace hF := Sm.trans hF h₁; clear h₁; walk_nrm))
      refine Goes.stop fun w₁ h₁ => ?_
      replace hF := Sm.trans hF h₁
      clear h₁
      refine beside_call rfl rfl (by decide) rfl Try.func14 rfl rfl (by kernel_rfl) (show _ = (#[p6, p3] : Array Value) from by walk_nrm) (fun d => bsays_sm (hF.trans ⟨d, rfl⟩) (eqIntS_b _ _ zs zs _ (op6.rd.sm (hF.trans ⟨d, rfl⟩)) (op3.rd.sm (hF.trans ⟨d, rfl⟩)) hZ1 hZ1)) ?_
      rintro r w7 ⟨rfl, b7⟩
      clear hF
      have ov1 := ov1.below b7 (Nat.le_refl _)
      have ov2 := ov2.below b7 (Nat.le_refl _)
      have op3 := op3.below b7 (Nat.le_refl _)
      have oq3 := oq3.below b7 (Nat.le_refl _)
      have ov4 := ov4.below b7 (Nat.le_refl _)
      have ov5 := ov5.below b7 (Nat.le_refl _)
      have op6 := op6.below b7 (Nat.le_refl _)
      have oq6 := oq6.below b7 (Nat.le_refl _)
      have h := h.below b7 (Nat.le_refl _)
      have g := g.below b7 (Nat.le_refl _)
      have bb := bel_nxt bb b7
      have hF := Sm.refl w7
      walk_nrm
      rw [eqB_self]
      refine beside_by (n := 400) ?_
      repeat (first | a_ctl hF Sm.trans D0.nil | (refine Goes.step rfl (fun _ h₁ => ?_); replace hF := Sm.trans hF h₁; clear h₁; refine goes_oper_k rfl rfl (by decide) (fun K hK => ?_); go_simp; refine hK _ _ ⟨still_listed rfl, ?_⟩; clear hK K) | (refine Goes.step rfl (fun _ h₁ => ?_); rw [stepG_unwanted rfl rfl]; simp only [goes_go]; refine ⟨D0.nil, ?_⟩; replace hF := Sm.trans hF h₁; clear h₁; walk_nrm))
      refine Goes.stop fun w₁ h₁ => ?_
      replace hF := Sm.trans hF h₁
      clear h₁
      refine beside_call rfl rfl (by decide) rfl Try.func14 rfl rfl (by kernel_rfl) (show _ = (#[q6, q3] : Array Value) from by walk_nrm) (fun d => bsays_sm (hF.trans ⟨d, rfl⟩) (eqIntS_b _ _ rs rs _ (oq6.rd.sm (hF.trans ⟨d, rfl⟩)) (oq3.rd.sm (hF.trans ⟨d, rfl⟩)) hZ2 hZ2)) ?_
      rintro r w8 ⟨rfl, b8⟩
      clear hF
      have ov1 := ov1.below b8 (Nat.le_refl _)
      have ov2 := ov2.below b8 (Nat.le_refl _)
      have op3 := op3.below b8 (Nat.le_refl _)
      have oq3 := oq3.below b8 (Nat.le_refl _)
      have ov4 := ov4.below b8 (Nat.le_refl _)
      have ov5 := ov5.below b8 (Nat.le_refl _)
      have op6 := op6.below b8 (Nat.le_refl _)
      have oq6 := oq6.below b8 (Nat.le_refl _)
      have h := h.below b8 (Nat.le_refl _)
      have g := g.below b8 (Nat.le_refl _)
      have bb := bel_nxt bb b8
      have hF := Sm.refl w8
      walk_nrm
      rw [eqB_self]
      refine beside_by (n := 400) ?_
      repeat (first | a_ctl hF Sm.trans D0.nil | (refine Goes.step rfl (fun _ h₁ => ?_); replace hF := Sm.trans hF h₁; clear h₁; refine goes_oper_k rfl rfl (by decide) (fun K hK => ?_); go_simp; refine hK _ _ ⟨still_listed rfl, ?_⟩; clear hK K) | (refine Goes.step rfl (fun _ h₁ => ?_); rw [stepG_unwanted rfl rfl]; simp only [goes_go]; refine ⟨D0.nil, ?_⟩; replace hF := Sm.trans hF h₁; clear h₁; walk_nrm))
      a_cond false hF Sm.trans D0.nil
      refine Goes.stop fun w₁ h₁ => ?_
      replace hF := Sm.trans hF h₁
      clear h₁
      refine beside_by (n := 400) ?_
      repeat (first | a_ctl hF Sm.trans D0.nil | (refine Goes.step rfl (fun _ h₁ => ?_); replace hF := Sm.trans hF h₁; clear h₁; refine goes_oper_k rfl rfl (by decide) (fun K hK => ?_); go_simp; refine hK _ _ ⟨still_listed rfl, ?_⟩; clear hK K) | (refine Goes.step rfl (fun _ h₁ => ?_); rw [stepG_unwanted rfl rfl]; simp only [goes_go]; refine ⟨D0.nil, ?_⟩; replace hF := Sm.trans hF h₁; clear h₁; walk_nrm))
      refine Goes.stop fun w₁ h₁ => ?_
      replace hF := Sm.trans hF h₁
      clear h₁
      refine beside_call rfl rfl (by decide) rfl Try.func12 rfl rfl (by kernel_rfl) (show _ = (#[.slice ca xs.length cap] : Array Value) from by walk_nrm) (fun d => bmadeO_sm (hF.trans ⟨d, rfl⟩) (bmade_oo (toIntS_b _ xs _ (h.sm (hF.trans ⟨d, rfl⟩)) hb1))) ?_
      rintro v7 w9 ⟨ov7, b9⟩
      clear hF
      have ap_v1_v7 := OwnO.apart ov1 ov7
      have ov1 := ov1.below b9 (Nat.le_refl _)
      have ap_v2_v7 := OwnO.apart ov2 ov7
      have ov2 := ov2.below b9 (Nat.le_refl _)
      have ap_p3_v7 := OwnO.apart op3 ov7
      have op3 := op3.below b9 (Nat.le_refl _)
      have ap_q3_v7 := OwnO.apart oq3 ov7
      have oq3 := oq3.below b9 (Nat.le_refl _)
      have ap_v4_v7 := OwnO.apart ov4 ov7
      have ov4 := ov4.below b9 (Nat.le_refl _)
      have ap_v5_v7 := OwnO.apart ov5 ov7
      have ov5 := ov5.below b9 (Nat.le_refl _)
      have ap_p6_v7 := OwnO.apart op6 ov7
      have op6 := op6.below b9 (Nat.le_refl _)
      have ap_q6_v7 := OwnO.apart oq6 ov7
      have oq6 := oq6.below b9 (Nat.le_refl _)
      have h := h.below b9 (Nat.le_refl _)
      have g := g.below b9 (Nat.le_refl _)
      have lo_v7 := bb.size
      have bb := bel_nxt bb b9
      have hF := Sm.refl w9
      walk_nrm
      refine beside_by (n := 400) ?_
      repeat (first | a_ctl hF Sm.trans D0.nil | (refine Goes.step rfl (fun _ h₁ => ?_); replace hF := Sm.trans hF h₁; clear h₁; refine goes_oper_k rfl rfl (by decide) (fun K hK => ?_); go_simp; refine hK _ _ ⟨still_listed rfl, ?_⟩; clear hK K) | (refine Goes.step rfl (fun _ h₁ => ?_); rw [stepG_unwanted rfl rfl]; simp only [goes_go]; refine ⟨D0.nil, ?_⟩; replace hF := Sm.trans hF h₁; clear h₁; walk_nrm))
      refine Goes.stop fun w₁ h₁ => ?_
      replace hF := Sm.trans hF h₁
      clear h₁
      refine beside_call rfl rfl (by decide) rfl Try.func14 rfl rfl (by kernel_rfl) (show _ = (#[v4, v7] : Array Value) from by walk_nrm) (fun d => bsays_sm (hF.trans ⟨d, rfl⟩) (eqIntS_b _ _ xs xs _ (ov4.rd.sm (hF.trans ⟨d, rfl⟩)) (ov7.rd.sm (hF.trans ⟨d, rfl⟩)) hM1 hM1)) ?_
      rintro r w10 ⟨rfl, b10⟩
      clear hF
      have ov1 := ov1.below b10 (Nat.le_refl _)
      have ov2 := ov2.below b10 (Nat.le_refl _)
      have op3 := op3.below b10 (Nat.le_refl _)
      have oq3 := oq3.below b10 (Nat.le_refl _)
      have ov4 := ov4.below b10 (Nat.le_refl _)
      have ov5 := ov5.below b10 (Nat.le_refl _)
      have op6 := op6.below b10 (Nat.le_refl _)
      have oq6 := oq6.below b10 (Nat.le_refl _)
      have ov7 := ov7.below b10 (Nat.le_refl _)
      have h := h.below b10 (Nat.le_refl _)
      have g := g.below b10 (Nat.le_refl _)
      have bb := bel_nxt bb b10
      have hF := Sm.refl w10
      walk_nrm
      rw [eqB_self]
      refine beside_by (n := 400) ?_
      repeat (first | a_ctl hF Sm.trans D0.nil | (refine Goes.step rfl (fun _ h₁ => ?_); replace hF := Sm.trans hF h₁; clear h₁; refine goes_oper_k rfl rfl (by decide) (fun K hK => ?_); go_simp; refine hK _ _ ⟨still_listed rfl, ?_⟩; clear hK K) | (refine Goes.step rfl (fun _ h₁ => ?_); rw [stepG_unwanted rfl rfl]; simp only [goes_go]; refine ⟨D0.nil, ?_⟩; replace hF := Sm.trans hF h₁; clear h₁; walk_nrm))
      a_cond false hF Sm.trans D0.nil
      refine Goes.stop fun w₁ h₁ => ?_
      replace hF := Sm.trans hF h₁
      clear h₁
      refine beside_by (n := 400) ?_
      repeat (first | a_ctl hF Sm.trans D0.nil | (refine Goes.step rfl (fun _ h₁ => ?_); replace hF := Sm.trans hF h₁; clear h₁; refine goes_oper_k rfl rfl (by decide) (fun K hK => ?_); go_simp; refine hK _ _ ⟨still_listed rfl, ?_⟩; clear hK K) | (refine Goes.step rfl (fun _ h₁ => ?_); rw [stepG_unwanted rfl rfl]; simp only [goes_go]; refine ⟨D0.nil, ?_⟩; replace hF := Sm.trans hF h₁; clear h₁; walk_nrm))
      refine Goes.stop fun w₁ h₁ => ?_
      replace hF := Sm.trans hF h₁
      clear h₁
      refine beside_call rfl rfl (by decide) rfl Try.func12 rfl rfl (by kernel_rfl) (show _ = (#[.slice ca' ys.length cap'] : Array Value) from by walk_nrm) (fun d => bmadeO_sm (hF.trans ⟨d, rfl⟩) (bmade_oo (toIntS_b _ ys _ (g.sm (hF.trans ⟨d, rfl⟩)) hb2))) ?_
      rintro v8 w11 ⟨ov8, b11⟩
      clear hF
      have ap_v1_v8 := OwnO.apart ov1 ov8
      have ov1 := ov1.below b11 (Nat.le_refl _)
      have ap_v2_v8 := OwnO.apart ov2 ov8
      have ov2 := ov2.below b11 (Nat.le_refl _)
      have ap_p3_v8 := OwnO.apart op3 ov8
      have op3 := op3.below b11 (Nat.le_refl _)
      have ap_q3_v8 := OwnO.apart oq3 ov8
      have oq3 := oq3.below b11 (Nat.le_refl _)
      have ap_v4_v8 := OwnO.apart ov4 ov8
      have ov4 := ov4.below b11 (Nat.le_refl _)
      have ap_v5_v8 := OwnO.apart ov5 ov8
      have ov5 := ov5.below b11 (Nat.le_refl _)
      have ap_p6_v8 := OwnO.apart op6 ov8
      have op6 := op6.below b11 (Nat.le_refl _)
      have ap_q6_v8 := OwnO.apart oq6 ov8
      have oq6 := oq6.below b11 (Nat.le_refl _)
      have ap_v7_v8 := OwnO.apart ov7 ov8
      have ov7 := ov7.below b11 (Nat.le_refl _)
      have h := h.below b11 (Nat.le_refl _)
      have g := g.below b11 (Nat.le_refl _)
      have lo_v8 := bb.size
      have bb := bel_nxt bb b11
      have hF := Sm.refl w11
      walk_nrm
      refine beside_by (n := 400) ?_
      repeat (first | a_ctl hF Sm.trans D0.nil | (refine Goes.step rfl (fun _ h₁ => ?_); replace hF := Sm.trans hF h₁; clear h₁; refine goes_oper_k rfl rfl (by decide) (fun K hK => ?_); go_simp; refine hK _ _ ⟨still_listed rfl, ?_⟩; clear hK K) | (refine Goes.step rfl (fun _ h₁ => ?_); rw [stepG_unwanted rfl rfl]; simp only [goes_go]; refine ⟨D0.nil, ?_⟩; replace hF := Sm.trans hF h₁; clear h₁; walk_nrm))
      refine Goes.stop fun w₁ h₁ => ?_
      replace hF := Sm.trans hF h₁
      clear h₁
      refine beside_call rfl rfl (by decide) rfl Try.func14 rfl rfl (by kernel_rfl) (show _ = (#[v5, v8] : Array Value) from by walk_nrm) (fun d => bsays_sm (hF.trans ⟨d, rfl⟩) (eqIntS_b _ _ ys ys _ (ov5.rd.sm (hF.trans ⟨d, rfl⟩)) (ov8.rd.sm (hF.trans ⟨d, rfl⟩)) hM2 hM2)) ?_
      rintro r w12 ⟨rfl, b12⟩
      clear hF
      have ov1 := ov1.below b12 (Nat.le_refl _)
      have ov2 := ov2.below b12 (Nat.le_refl _)
      have op3 := op3.below b12 (Nat.le_refl _)
      have oq3 := oq3.below b12 (Nat.le_refl _)
      have ov4 := ov4.below b12 (Nat.le_refl _)
      have ov5 := ov5.below b12 (Nat.le_refl _)
      have op6 := op6.below b12 (Nat.le_refl _)
      have oq6 := oq6.below b12 (Nat.le_refl _)
      have ov7 := ov7.below b12 (Nat.le_refl _)
      have ov8 := ov8.below b12 (Nat.le_refl _)
      have h := h.below b12 (Nat.le_refl _)
      have g := g.below b12 (Nat.le_refl _)
      have bb := bel_nxt bb b12
      have hF := Sm.refl w12
      walk_nrm
      rw [eqB_self]
      refine beside_by (n := 400) ?_
      repeat (first | a_ctl hF Sm.trans D0.nil | (refine Goes.step rfl (fun _ h₁ => ?_); replace hF := Sm.trans hF h₁; clear h₁; refine goes_oper_k rfl rfl (by decide) (fun K hK => ?_); go_simp; refine hK _ _ ⟨still_listed rfl, ?_⟩; clear hK K) | (refine Goes.step rfl (fun _ h₁ => ?_); rw [stepG_unwanted rfl rfl]; simp only [goes_go]; refine ⟨D0.nil, ?_⟩; replace hF := Sm.trans hF h₁; clear h₁; walk_nrm))
      a_cond false hF Sm.trans D0.nil
      refine Goes.stop fun w₁ h₁ => ?_
      replace hF := Sm.trans hF h₁
      clear h₁
      refine beside_by (n := 400) ?_
      repeat (first | a_ctl hF Sm.trans D0.nil | (refine Goes.step rfl (fun _ h₁ => ?_); replace hF := Sm.trans hF h₁; clear h₁; refine goes_oper_k rfl rfl (by decide) (fun K hK => ?_); go_simp; refine hK _ _ ⟨still_listed rfl, ?_⟩; clear hK K) | (refine Goes.step rfl (fun _ h₁ => ?_); rw [stepG_unwanted rfl rfl]; simp only [goes_go]; refine ⟨D0.nil, ?_⟩; replace hF := Sm.trans hF h₁; clear h₁; walk_nrm))
      refine Goes.stop fun w₁ h₁ => ?_
      replace hF := Sm.trans hF h₁
      clear h₁
      refine beside_call rfl rfl (by decide) rfl Try.func15 rfl rfl (by kernel_rfl) (show _ = (#[v4, .int .i64 1] : Array Value) from by walk_nrm) (fun d => bmarkedO_sm (hF.trans ⟨d, rfl⟩) (markIntS_o _ _ xs 1 _ (ov4.sm (hF.trans ⟨d, rfl⟩)) hb1 (by omega) (by omega))) ?_
      rintro r w13 ⟨rfl, mv4, g13⟩
      clear hF
      have ov1 := ov1.kept g13 ap_v1_v4.1
      have ov2 := ov2.kept g13 ap_v2_v4.1
      have op3 := op3.kept g13 ap_p3_v4.1
      have oq3 := oq3.kept g13 ap_q3_v4.1
      have ov5 := ov5.kept g13 ap_v4_v5.2
      have op6 := op6.kept g13 ap_v4_p6.2
      have oq6 := oq6.kept g13 ap_v4_q6.2
      have ov7 := ov7.kept g13 ap_v4_v7.2
      have ov8 := ov8.kept g13 ap_v4_v8.2
      have bb := bel_markedO bb ov4 g13 (by omega)
      have h := h0.below bb (Nat.le_refl _)
      have g := g0.below bb (Nat.le_refl _)
      have ov4 := mv4
      have hF := Sm.refl w13
      walk_nrm
      refine beside_by (n := 400) ?_
      repeat (first | a_ctl hF Sm.trans D0.nil | (refine Goes.step rfl (fun _ h₁ => ?_); replace hF := Sm.trans hF h₁; clear h₁; refine goes_oper_k rfl rfl (by decide) (fun K hK => ?_); go_simp; refine hK _ _ ⟨still_listed rfl, ?_⟩; clear hK K) | (refine Goes.step rfl (fun _ h₁ => ?_); rw [stepG_unwanted rfl rfl]; simp only [goes_go]; refine ⟨D0.nil, ?_⟩; replace hF := Sm.trans hF h₁; clear h₁; walk_nrm))
      refine Goes.stop fun w₁ h₁ => ?_
      replace hF := Sm.trans hF h₁
      clear h₁
      refine beside_call rfl rfl (by decide) rfl Try.func15 rfl rfl (by kernel_rfl) (show _ = (#[v5, .int .i64 (1 + (xs.length : Int))] : Array Value) from by walk_nrm) (fun d => bmarkedO_sm (hF.trans ⟨d, rfl⟩) (markIntS_o _ _ ys (1 + xs.length) _ (ov5.sm (hF.trans ⟨d, rfl⟩)) hb2 (by omega) (by omega))) ?_
      rintro r w14 ⟨rfl, mv5, g14⟩
      clear hF
      have ov1 := ov1.kept g14 ap_v1_v5.1
      have ov2 := ov2.kept g14 ap_v2_v5.1
      have op3 := op3.kept g14 ap_p3_v5.1
      have oq3 := oq3.kept g14 ap_q3_v5.1
      have ov4 := ov4.kept g14 ap_v4_v5.1
      have op6 := op6.kept g14 ap_v5_p6.2
      have oq6 := oq6.kept g14 ap_v5_q6.2
      have ov7 := ov7.kept g14 ap_v5_v7.2
      have ov8 := ov8.kept g14 ap_v5_v8.2
      have bb := bel_markedO bb ov5 g14 (by omega)
      have h := h0.below bb (Nat.le_refl _)
      have g := g0.below bb (Nat.le_refl _)
      have ov5 := mv5
      have hF := Sm.refl w14
      walk_nrm
      refine beside_by (n := 400) ?_
      repeat (first | a_ctl hF Sm.trans D0.nil | (refine Goes.step rfl (fun _ h₁ => ?_); replace hF := Sm.trans hF h₁; clear h₁; refine goes_oper_k rfl rfl (by decide) (fun K hK => ?_); go_simp; refine hK _ _ ⟨still_listed rfl, ?_⟩; clear hK K) | (refine Goes.step rfl (fun _ h₁ => ?_); rw [stepG_unwanted rfl rfl]; simp only [goes_go]; refine ⟨D0.nil, ?_⟩; replace hF := Sm.trans hF h₁; clear h₁; walk_nrm))
      refine Goes.stop fun w₁ h₁ => ?_
      replace hF := Sm.trans hF h₁
      clear h₁
      refine beside_call rfl rfl (by decide) rfl Try.func14 rfl rfl (by kernel_rfl) (show _ = (#[p6, p3] : Array Value) from by walk_nrm) (fun d => bsays_sm (hF.trans ⟨d, rfl⟩) (eqIntS_b _ _ zs zs _ (op6.rd.sm (hF.trans ⟨d, rfl⟩)) (op3.rd.sm (hF.trans ⟨d, rfl⟩)) hZ1 hZ1)) ?_
      rintro r w15 ⟨rfl, b15⟩
      clear hF
      have ov1 := ov1.below b15 (Nat.le_refl _)
      have ov2 := ov2.below b15 (Nat.le_refl _)
      have op3 := op3.below b15 (Nat.le_refl _)
      have oq3 := oq3.below b15 (Nat.le_refl _)
      have ov4 := ov4.below b15 (Nat.le_refl _)
      have ov5 := ov5.below b15 (Nat.le_refl _)
      have op6 := op6.below b15 (Nat.le_refl _)
      have oq6 := oq6.below b15 (Nat.le_refl _)
      have ov7 := ov7.below b15 (Nat.le_refl _)
      have ov8 := ov8.below b15 (Nat.le_refl _)
      have h := h.below b15 (Nat.le_refl _)
      have g := g.below b15 (Nat.le_refl _)
      have bb := bel_nxt bb b15
      have hF := Sm.refl w15
      walk_nrm
      rw [eqB_self]
      refine beside_by (n := 400) ?_
      repeat (first | a_ctl hF Sm.trans D0.nil | (refine Goes.step rfl (fun _ h₁ => ?_); replace hF := Sm.trans hF h₁; clear h₁; refine goes_oper_k rfl rfl (by decide) (fun K hK => ?_); go_simp; refine hK _ _ ⟨still_listed rfl, ?_⟩; clear hK K) | (refine Goes.step rfl (fun _ h₁ => ?_); rw [stepG_unwanted rfl rfl]; simp only [goes_go]; refine ⟨D0.nil, ?_⟩; replace hF := Sm.trans hF h₁; clear h₁; walk_nrm))
      refine Goes.stop fun w₁ h₁ => ?_
      replace hF := Sm.trans hF h₁
      clear h₁
      refine beside_call rfl rfl (by decide) rfl Try.func14 rfl rfl (by kernel_rfl) (show _ = (#[q6, q3] : Array Value) from by walk_nrm) (fun d => bsays_sm (hF.trans ⟨d, rfl⟩) (eqIntS_b _ _ rs rs _ (oq6.rd.sm (hF.trans ⟨d, rfl⟩)) (oq3.rd.sm (hF.trans ⟨d, rfl⟩)) hZ2 hZ2)) ?_
      rintro r w16 ⟨rfl, b16⟩
      clear hF
      have ov1 := ov1.below b16 (Nat.le_refl _)
      have ov2 := ov2.below b16 (Nat.le_refl _)
      have op3 := op3.below b16 (Nat.le_refl _)
      have oq3 := oq3.below b16 (Nat.le_refl _)
      have ov4 := ov4.below b16 (Nat.le_refl _)
      have ov5 := ov5.below b16 (Nat.le_refl _)
      have op6 := op6.below b16 (Nat.le_refl _)
      have oq6 := oq6.below b16 (Nat.le_refl _)
      have ov7 := ov7.below b16 (Nat.le_refl _)
      have ov8 := ov8.below b16 (Nat.le_refl _)
      have h := h.below b16 (Nat.le_refl _)
      have g := g.below b16 (Nat.le_refl _)
      have bb := bel_nxt bb b16
      have hF := Sm.refl w16
      walk_nrm
      rw [eqB_self]
      refine beside_by (n := 400) ?_
      repeat (first | a_ctl hF Sm.trans D0.nil | (refine Goes.step rfl (fun _ h₁ => ?_); replace hF := Sm.trans hF h₁; clear h₁; refine goes_oper_k rfl rfl (by decide) (fun K hK => ?_); go_simp; refine hK _ _ ⟨still_listed rfl, ?_⟩; clear hK K) | (refine Goes.step rfl (fun _ h₁ => ?_); rw [stepG_unwanted rfl rfl]; simp only [goes_go]; refine ⟨D0.nil, ?_⟩; replace hF := Sm.trans hF h₁; clear h₁; walk_nrm))
      a_cond false hF Sm.trans D0.nil
      refine Goes.stop fun w₁ h₁ => ?_
      replace hF := Sm.trans hF h₁
      clear h₁
      refine beside_by (n := 400) ?_
      repeat (first | a_ctl hF Sm.trans D0.nil | (refine Goes.step rfl (fun _ h₁ => ?_); replace hF := Sm.trans hF h₁; clear h₁; refine goes_oper_k rfl rfl (by decide) (fun K hK => ?_); go_simp; refine hK _ _ ⟨still_listed rfl, ?_⟩; clear hK K) | (refine Goes.step rfl (fun _ h₁ => ?_); rw [stepG_unwanted rfl rfl]; simp only [goes_go]; refine ⟨D0.nil, ?_⟩; replace hF := Sm.trans hF h₁; clear h₁; walk_nrm))
      refine Goes.stop fun w₁ h₁ => ?_
      replace hF := Sm.trans hF h₁
      clear h₁
      refine beside_call rfl rfl (by decide) rfl Try.func15 rfl rfl (by kernel_rfl) (show _ = (#[p6, .int .i64 1] : Array Value) from by walk_nrm) (fun d => bmarkedO_sm (hF.trans ⟨d, rfl⟩) (markIntS_o _ _ zs 1 _ (op6.sm (hF.trans ⟨d, rfl⟩)) hz1 (by omega) (by omega))) ?_
      rintro r w17 ⟨rfl, mp6, g17⟩
      clear hF
      have ov1 := ov1.kept g17 ap_v1_p6.1
      have ov2 := ov2.kept g17 ap_v2_p6.1
      have op3 := op3.kept g17 ap_p3_p6.1
      have oq3 := oq3.kept g17 ap_q3_p6.1
      have ov4 := ov4.kept g17 ap_v4_p6.1
      have ov5 := ov5.kept g17 ap_v5_p6.1
      have oq6 := oq6.kept g17 ap_p6_q6.2
      have ov7 := ov7.kept g17 ap_p6_v7.2
      have ov8 := ov8.kept g17 ap_p6_v8.2
      have bb := bel_markedO bb op6 g17 (by omega)
      have h := h0.below bb (Nat.le_refl _)
      have g := g0.below bb (Nat.le_refl _)
      have op6 := mp6
      have hF := Sm.refl w17
      walk_nrm
      refine beside_by (n := 400) ?_
      repeat (first | a_ctl hF Sm.trans D0.nil | (refine Goes.step rfl (fun _ h₁ => ?_); replace hF := Sm.trans hF h₁; clear h₁; refine goes_oper_k rfl rfl (by decide) (fun K hK => ?_); go_simp; refine hK _ _ ⟨still_listed rfl, ?_⟩; clear hK K) | (refine Goes.step rfl (fun _ h₁ => ?_); rw [stepG_unwanted rfl rfl]; simp only [goes_go]; refine ⟨D0.nil, ?_⟩; replace hF := Sm.trans hF h₁; clear h₁; walk_nrm))
      refine Goes.stop fun w₁ h₁ => ?_
      replace hF := Sm.trans hF h₁
      clear h₁
      refine beside_call rfl rfl (by decide) rfl Try.func15 rfl rfl (by kernel_rfl) (show _ = (#[q6, .int .i64 (1 + (zs.length : Int))] : Array Value) from by walk_nrm) (fun d => bmarkedO_sm (hF.trans ⟨d, rfl⟩) (markIntS_o _ _ rs (1 + zs.length) _ (oq6.sm (hF.trans ⟨d, rfl⟩)) hz2 (by omega) (by omega))) ?_
      rintro r w18 ⟨rfl, mq6, g18⟩
      clear hF
      have ov1 := ov1.kept g18 ap_v1_q6.1
      have ov2 := ov2.kept g18 ap_v2_q6.1
      have op3 := op3.kept g18 ap_p3_q6.1
      have oq3 := oq3.kept g18 ap_q3_q6.1
      have ov4 := ov4.kept g18 ap_v4_q6.1
      have ov5 := ov5.kept g18 ap_v5_q6.1
      have op6 := op6.kept g18 ap_p6_q6.1
      have ov7 := ov7.kept g18 ap_q6_v7.2
      have ov8 := ov8.kept g18 ap_q6_v8.2
      have bb := bel_markedO bb oq6 g18 (by omega)
      have h := h0.below bb (Nat.le_refl _)
      have g := g0.below bb (Nat.le_refl _)
      have oq6 := mq6
      have hF := Sm.refl w18
      walk_nrm
      refine beside_by (n := 400) ?_
      repeat (first | a_ctl hF Sm.trans D0.nil | (refine Goes.step rfl (fun _ h₁ => ?_); replace hF := Sm.trans hF h₁; clear h₁; refine goes_oper_k rfl rfl (by decide) (fun K hK => ?_); go_simp; refine hK _ _ ⟨still_listed rfl, ?_⟩; clear hK K) | (refine Goes.step rfl (fun _ h₁ => ?_); rw [stepG_unwanted rfl rfl]; simp only [goes_go]; refine ⟨D0.nil, ?_⟩; replace hF := Sm.trans hF h₁; clear h₁; walk_nrm))
      refine Goes.stop fun w₁ h₁ => ?_
      replace hF := Sm.trans hF h₁
      clear h₁
      refine beside_call rfl rfl (by decide) rfl Try.func16 rfl rfl (by kernel_rfl) (show _ = (#[p6, .int .i64 1] : Array Value) from by walk_nrm) (fun d => btells_sm (hF.trans ⟨d, rfl⟩) (heldIntS_b _ _ 1 _ (op6.rd.sm (hF.trans ⟨d, rfl⟩)) hz1 (by omega) (by omega))) ?_
      rintro r w19 ⟨rfl, b19⟩
      clear hF
      have ov1 := ov1.below b19 (Nat.le_refl _)
      have ov2 := ov2.below b19 (Nat.le_refl _)
      have op3 := op3.below b19 (Nat.le_refl _)
      have oq3 := oq3.below b19 (Nat.le_refl _)
      have ov4 := ov4.below b19 (Nat.le_refl _)
      have ov5 := ov5.below b19 (Nat.le_refl _)
      have op6 := op6.below b19 (Nat.le_refl _)
      have oq6 := oq6.below b19 (Nat.le_refl _)
      have ov7 := ov7.below b19 (Nat.le_refl _)
      have ov8 := ov8.below b19 (Nat.le_refl _)
      have h := h.below b19 (Nat.le_refl _)
      have g := g.below b19 (Nat.le_refl _)
      have bb := bel_nxt bb b19
      have hF := Sm.refl w19
      walk_nrm
      refine beside_by (n := 400) ?_
      repeat (first | a_ctl hF Sm.trans D0.nil | (refine Goes.step rfl (fun _ h₁ => ?_); replace hF := Sm.trans hF h₁; clear h₁; refine goes_oper_k rfl rfl (by decide) (fun K hK => ?_); go_simp; refine hK _ _ ⟨still_listed rfl, ?_⟩; clear hK K) | (refine Goes.step rfl (fun _ h₁ => ?_); rw [stepG_unwanted rfl rfl]; simp only [goes_go]; refine ⟨D0.nil, ?_⟩; replace hF := Sm.trans hF h₁; clear h₁; walk_nrm))
      a_cond false hF Sm.trans D0.nil
      refine Goes.stop fun w₁ h₁ => ?_
      replace hF := Sm.trans hF h₁
      clear h₁
      refine beside_by (n := 400) ?_
      repeat (first | a_ctl hF Sm.trans D0.nil | (refine Goes.step rfl (fun _ h₁ => ?_); replace hF := Sm.trans hF h₁; clear h₁; refine goes_oper_k rfl rfl (by decide) (fun K hK => ?_); go_simp; refine hK _ _ ⟨still_listed rfl, ?_⟩; clear hK K) | (refine Goes.step rfl (fun _ h₁ => ?_); rw [stepG_unwanted rfl rfl]; simp only [goes_go]; refine ⟨D0.nil, ?_⟩; replace hF := Sm.trans hF h₁; clear h₁; walk_nrm))
      refine Goes.stop fun w₁ h₁ => ?_
      replace hF := Sm.trans hF h₁
      clear h₁
      refine beside_call rfl rfl (by decide) rfl Try.func16 rfl rfl (by kernel_rfl) (show _ = (#[q6, .int .i64 (1 + (zs.length : Int))] : Array Value) from by walk_nrm) (fun d => btells_sm (hF.trans ⟨d, rfl⟩) (heldIntS_b _ _ (1 + zs.length) _ (oq6.rd.sm (hF.trans ⟨d, rfl⟩)) hz2 (by omega) (by omega))) ?_
      rintro r w20 ⟨rfl, b20⟩
      clear hF
      have ov1 := ov1.below b20 (Nat.le_refl _)
      have ov2 := ov2.below b20 (Nat.le_refl _)
      have op3 := op3.below b20 (Nat.le_refl _)
      have oq3 := oq3.below b20 (Nat.le_refl _)
      have ov4 := ov4.below b20 (Nat.le_refl _)
      have ov5 := ov5.below b20 (Nat.le_refl _)
      have op6 := op6.below b20 (Nat.le_refl _)
      have oq6 := oq6.below b20 (Nat.le_refl _)
      have ov7 := ov7.below b20 (Nat.le_refl _)
      have ov8 := ov8.below b20 (Nat.le_refl _)
      have h := h.below b20 (Nat.le_refl _)
      have g := g.below b20 (Nat.le_refl _)
      have bb := bel_nxt bb b20
      have hF := Sm.refl w20
      walk_nrm
      refine beside_by (n := 400) ?_
      repeat (first | a_ctl hF Sm.trans D0.nil | (refine Goes.step rfl (fun _ h₁ => ?_); replace hF := Sm.trans hF h₁; clear h₁; refine goes_oper_k rfl rfl (by decide) (fun K hK => ?_); go_simp; refine hK _ _ ⟨still_listed rfl, ?_⟩; clear hK K) | (refine Goes.step rfl (fun _ h₁ => ?_); rw [stepG_unwanted rfl rfl]; simp only [goes_go]; refine ⟨D0.nil, ?_⟩; replace hF := Sm.trans hF h₁; clear h₁; walk_nrm))
      a_cond false hF Sm.trans D0.nil
      refine Goes.stop fun w₁ h₁ => ?_
      replace hF := Sm.trans hF h₁
      clear h₁
      refine beside_by (n := 400) ?_
      repeat (first | a_ctl hF Sm.trans D0.nil | (refine Goes.step rfl (fun _ h₁ => ?_); replace hF := Sm.trans hF h₁; clear h₁; refine goes_oper_k rfl rfl (by decide) (fun K hK => ?_); go_simp; refine hK _ _ ⟨still_listed rfl, ?_⟩; clear hK K) | (refine Goes.step rfl (fun _ h₁ => ?_); rw [stepG_unwanted rfl rfl]; simp only [goes_go]; refine ⟨D0.nil, ?_⟩; replace hF := Sm.trans hF h₁; clear h₁; walk_nrm))
      a_cond false hF Sm.trans D0.nil
      refine Goes.stop fun w₁ h₁ => ?_
      replace hF := Sm.trans hF h₁
      clear h₁
      refine beside_by (n := 400) ?_
      repeat (first | a_ctl hF Sm.trans D0.nil | (refine Goes.step rfl (fun _ h₁ => ?_); replace hF := Sm.trans hF h₁; clear h₁; refine goes_oper_k rfl rfl (by decide) (fun K hK => ?_); go_simp; refine hK _ _ ⟨still_listed rfl, ?_⟩; clear hK K) | (refine Goes.step rfl (fun _ h₁ => ?_); rw [stepG_unwanted rfl rfl]; simp only [goes_go]; refine ⟨D0.nil, ?_⟩; replace hF := Sm.trans hF h₁; clear h₁; walk_nrm))
      refine Goes.stop fun w₁ h₁ => ?_
      replace hF := Sm.trans hF h₁
      clear h₁
      refine beside_call rfl rfl (by decide) rfl Try.func12 rfl rfl (by kernel_rfl) (show _ = (#[.slice ca xs.length cap] : Array Value) from by walk_nrm) (fun d => bmadeO_sm (hF.trans ⟨d, rfl⟩) (bmade_oo (toIntS_b _ xs _ (h.sm (hF.trans ⟨d, rfl⟩)) hb1))) ?_
      rintro v9 w21 ⟨ov9, b21⟩
      clear hF
      have ap_v1_v9 := OwnO.apart ov1 ov9
      have ov1 := ov1.below b21 (Nat.le_refl _)
      have ap_v2_v9 := OwnO.apart ov2 ov9
      have ov2 := ov2.below b21 (Nat.le_refl _)
      have ap_p3_v9 := OwnO.apart op3 ov9
      have op3 := op3.below b21 (Nat.le_refl _)
      have ap_q3_v9 := OwnO.apart oq3 ov9
      have oq3 := oq3.below b21 (Nat.le_refl _)
      have ap_v4_v9 := OwnO.apart ov4 ov9
      have ov4 := ov4.below b21 (Nat.le_refl _)
      have ap_v5_v9 := OwnO.apart ov5 ov9
      have ov5 := ov5.below b21 (Nat.le_refl _)
      have ap_p6_v9 := OwnO.apart op6 ov9
      have op6 := op6.below b21 (Nat.le_refl _)
      have ap_q6_v9 := OwnO.apart oq6 ov9
      have oq6 := oq6.below b21 (Nat.le_refl _)
      have ap_v7_v9 := OwnO.apart ov7 ov9
      have ov7 := ov7.below b21 (Nat.le_refl _)
      have ap_v8_v9 := OwnO.apart ov8 ov9
      have ov8 := ov8.below b21 (Nat.le_refl _)
      have h := h.below b21 (Nat.le_refl _)
      have g := g.below b21 (Nat.le_refl _)
      have lo_v9 := bb.size
      have bb := bel_nxt bb b21
      have hF := Sm.refl w21
      walk_nrm
      refine beside_by (n := 400) ?_
      repeat (first | a_ctl hF Sm.trans D0.nil | (refine Goes.step rfl (fun _ h₁ => ?_); replace hF := Sm.trans hF h₁; clear h₁; refine goes_oper_k rfl rfl (by decide) (fun K hK => ?_); go_simp; refine hK _ _ ⟨still_listed rfl, ?_⟩; clear hK K) | (refine Goes.step rfl (fun _ h₁ => ?_); rw [stepG_unwanted rfl rfl]; simp only [goes_go]; refine ⟨D0.nil, ?_⟩; replace hF := Sm.trans hF h₁; clear h₁; walk_nrm))
      refine Goes.stop fun w₁ h₁ => ?_
      replace hF := Sm.trans hF h₁
      clear h₁
      refine beside_call rfl rfl (by decide) rfl Try.func12 rfl rfl (by kernel_rfl) (show _ = (#[.slice ca' ys.length cap'] : Array Value) from by walk_nrm) (fun d => bmadeO_sm (hF.trans ⟨d, rfl⟩) (bmade_oo (toIntS_b _ ys _ (g.sm (hF.trans ⟨d, rfl⟩)) hb2))) ?_
      rintro v10 w22 ⟨ov10, b22⟩
      clear hF
      have ap_v1_v10 := OwnO.apart ov1 ov10
      have ov1 := ov1.below b22 (Nat.le_refl _)
      have ap_v2_v10 := OwnO.apart ov2 ov10
      have ov2 := ov2.below b22 (Nat.le_refl _)
      have ap_p3_v10 := OwnO.apart op3 ov10
      have op3 := op3.below b22 (Nat.le_refl _)
      have ap_q3_v10 := OwnO.apart oq3 ov10
      have oq3 := oq3.below b22 (Nat.le_refl _)
      have ap_v4_v10 := OwnO.apart ov4 ov10
      have ov4 := ov4.below b22 (Nat.le_refl _)
      have ap_v5_v10 := OwnO.apart ov5 ov10
      have ov5 := ov5.below b22 (Nat.le_refl _)
      have ap_p6_v10 := OwnO.apart op6 ov10
      have op6 := op6.below b22 (Nat.le_refl _)
      have ap_q6_v10 := OwnO.apart oq6 ov10
      have oq6 := oq6.below b22 (Nat.le_refl _)
      have ap_v7_v10 := OwnO.apart ov7 ov10
      have ov7 := ov7.below b22 (Nat.le_refl _)
      have ap_v8_v10 := OwnO.apart ov8 ov10
      have ov8 := ov8.below b22 (Nat.le_refl _)
      have ap_v9_v10 := OwnO.apart ov9 ov10
      have ov9 := ov9.below b22 (Nat.le_refl _)
      have h := h.below b22 (Nat.le_refl _)
      have g := g.below b22 (Nat.le_refl _)
      have lo_v10 := bb.size
      have bb := bel_nxt bb b22
      have hF := Sm.refl w22
      walk_nrm
      refine beside_by (n := 400) ?_
      repeat (first | a_ctl hF Sm.trans D0.nil | (refine Goes.step rfl (fun _ h₁ => ?_); replace hF := Sm.trans hF h₁; clear h₁; refine goes_oper_k rfl rfl (by decide) (fun K hK => ?_); go_simp; refine hK _ _ ⟨still_listed rfl, ?_⟩; clear hK K) | (refine Goes.step rfl (fun _ h₁ => ?_); rw [stepG_unwanted rfl rfl]; simp only [goes_go]; refine ⟨D0.nil, ?_⟩; replace hF := Sm.trans hF h₁; clear h₁; walk_nrm))
      refine Goes.stop fun w₁ h₁ => ?_
      replace hF := Sm.trans hF h₁
      clear h₁
      refine beside_call rfl rfl (by decide) rfl Try.func30 rfl rfl (by kernel_rfl) (show _ = (#[v9, v10] : Array Value) from by walk_nrm) (fun d => madeT_sm (hF.trans ⟨d, rfl⟩) (implDoublePair_b _ _ xs ys _ (ov9.rd.sm (hF.trans ⟨d, rfl⟩)) (ov10.rd.sm (hF.trans ⟨d, rfl⟩)) hM1 hM2)) ?_
      rintro r w23 ⟨p11, q11, rfl, op11, oq11, ap_p11_q11, b23⟩
      clear hF
      replace op11 := op11.oo
      replace oq11 := oq11.oo
      have ap_v1_p11 := OwnO.apart ov1 op11
      have ap_v1_q11 := OwnO.apart ov1 oq11
      have ov1 := ov1.below b23 (Nat.le_refl _)
      have ap_v2_p11 := OwnO.apart ov2 op11
      have ap_v2_q11 := OwnO.apart ov2 oq11
      have ov2 := ov2.below b23 (Nat.le_refl _)
      have ap_p3_p11 := OwnO.apart op3 op11
      have ap_p3_q11 := OwnO.apart op3 oq11
      have op3 := op3.below b23 (Nat.le_refl _)
      have ap_q3_p11 := OwnO.apart oq3 op11
      have ap_q3_q11 := OwnO.apart oq3 oq11
      have oq3 := oq3.below b23 (Nat.le_refl _)
      have ap_v4_p11 := OwnO.apart ov4 op11
      have ap_v4_q11 := OwnO.apart ov4 oq11
      have ov4 := ov4.below b23 (Nat.le_refl _)
      have ap_v5_p11 := OwnO.apart ov5 op11
      have ap_v5_q11 := OwnO.apart ov5 oq11
      have ov5 := ov5.below b23 (Nat.le_refl _)
      have ap_p6_p11 := OwnO.apart op6 op11
      have ap_p6_q11 := OwnO.apart op6 oq11
      have op6 := op6.below b23 (Nat.le_refl _)
      have ap_q6_p11 := OwnO.apart oq6 op11
      have ap_q6_q11 := OwnO.apart oq6 oq11
      have oq6 := oq6.below b23 (Nat.le_refl _)
      have ap_v7_p11 := OwnO.apart ov7 op11
      have ap_v7_q11 := OwnO.apart ov7 oq11
      have ov7 := ov7.below b23 (Nat.le_refl _)
      have ap_v8_p11 := OwnO.apart ov8 op11
      have ap_v8_q11 := OwnO.apart ov8 oq11
      have ov8 := ov8.below b23 (Nat.le_refl _)
      have ap_v9_p11 := OwnO.apart ov9 op11
      have ap_v9_q11 := OwnO.apart ov9 oq11
      have ov9 := ov9.below b23 (Nat.le_refl _)
      have ap_v10_p11 := OwnO.apart ov10 op11
      have ap_v10_q11 := OwnO.apart ov10 oq11
      have ov10 := ov10.below b23 (Nat.le_refl _)
      have h := h.below b23 (Nat.le_refl _)
      have g := g.below b23 (Nat.le_refl _)
      have lo_p11 := bb.size
      have lo_q11 := bb.size
      have bb := bel_nxt bb b23
      rw [← HZ1.out] at op11
      rw [← HZ2.out] at oq11
      rw [← HQ.out]
      have hF := Sm.refl w23
      walk_nrm
      refine beside_by (n := 400) ?_
      repeat (first | a_ctl hF Sm.trans D0.nil | (refine Goes.step rfl (fun _ h₁ => ?_); replace hF := Sm.trans hF h₁; clear h₁; refine goes_oper_k rfl rfl (by decide) (fun K hK => ?_); go_simp; refine hK _ _ ⟨still_listed rfl, ?_⟩; clear hK K) | (refine Goes.step rfl (fun _ h₁ => ?_); rw [stepG_unwanted rfl rfl]; simp only [goes_go]; refine ⟨D0.nil, ?_⟩; replace hF := Sm.trans hF h₁; clear h₁; walk_nrm))
      refine Goes.stop fun w₁ h₁ => ?_
      replace hF := Sm.trans hF h₁
      clear h₁
      refine beside_call rfl rfl (by decide) rfl Try.func14 rfl rfl (by kernel_rfl) (show _ = (#[p11, p3] : Array Value) from by walk_nrm) (fun d => bsays_sm (hF.trans ⟨d, rfl⟩) (eqIntS_b _ _ zs zs _ (op11.rd.sm (hF.trans ⟨d, rfl⟩)) (op3.rd.sm (hF.trans ⟨d, rfl⟩)) hZ1 hZ1)) ?_
      rintro r w24 ⟨rfl, b24⟩
      clear hF
      have ov1 := ov1.below b24 (Nat.le_refl _)
      have ov2 := ov2.below b24 (Nat.le_refl _)
      have op3 := op3.below b24 (Nat.le_refl _)
      have oq3 := oq3.below b24 (Nat.le_refl _)
      have ov4 := ov4.below b24 (Nat.le_refl _)
      have ov5 := ov5.below b24 (Nat.le_refl _)
      have op6 := op6.below b24 (Nat.le_refl _)
      have oq6 := oq6.below b24 (Nat.le_refl _)
      have ov7 := ov7.below b24 (Nat.le_refl _)
      have ov8 := ov8.below b24 (Nat.le_refl _)
      have ov9 := ov9.below b24 (Nat.le_refl _)
      have ov10 := ov10.below b24 (Nat.le_refl _)
      have op11 := op11.below b24 (Nat.le_refl _)
      have oq11 := oq11.below b24 (Nat.le_refl _)
      have h := h.below b24 (Nat.le_refl _)
      have g := g.below b24 (Nat.le_refl _)
      have bb := bel_nxt bb b24
      have hF := Sm.refl w24
      walk_nrm
      rw [eqB_self]
      refine beside_by (n := 400) ?_
      repeat (first | a_ctl hF Sm.trans D0.nil | (refine Goes.step rfl (fun _ h₁ => ?_); replace hF := Sm.trans hF h₁; clear h₁; refine goes_oper_k rfl rfl (by decide) (fun K hK => ?_); go_simp; refine hK _ _ ⟨still_listed rfl, ?_⟩; clear hK K) | (refine Goes.step rfl (fun _ h₁ => ?_); rw [stepG_unwanted rfl rfl]; simp only [goes_go]; refine ⟨D0.nil, ?_⟩; replace hF := Sm.trans hF h₁; clear h₁; walk_nrm))
      refine Goes.stop fun w₁ h₁ => ?_
      replace hF := Sm.trans hF h₁
      clear h₁
      refine beside_call rfl rfl (by decide) rfl Try.func14 rfl rfl (by kernel_rfl) (show _ = (#[q11, q3] : Array Value) from by walk_nrm) (fun d => bsays_sm (hF.trans ⟨d, rfl⟩) (eqIntS_b _ _ rs rs _ (oq11.rd.sm (hF.trans ⟨d, rfl⟩)) (oq3.rd.sm (hF.trans ⟨d, rfl⟩)) hZ2 hZ2)) ?_
      rintro r w25 ⟨rfl, b25⟩
      clear hF
      have ov1 := ov1.below b25 (Nat.le_refl _)
      have ov2 := ov2.below b25 (Nat.le_refl _)
      have op3 := op3.below b25 (Nat.le_refl _)
      have oq3 := oq3.below b25 (Nat.le_refl _)
      have ov4 := ov4.below b25 (Nat.le_refl _)
      have ov5 := ov5.below b25 (Nat.le_refl _)
      have op6 := op6.below b25 (Nat.le_refl _)
      have oq6 := oq6.below b25 (Nat.le_refl _)
      have ov7 := ov7.below b25 (Nat.le_refl _)
      have ov8 := ov8.below b25 (Nat.le_refl _)
      have ov9 := ov9.below b25 (Nat.le_refl _)
      have ov10 := ov10.below b25 (Nat.le_refl _)
      have op11 := op11.below b25 (Nat.le_refl _)
      have oq11 := oq11.below b25 (Nat.le_refl _)
      have h := h.below b25 (Nat.le_refl _)
      have g := g.below b25 (Nat.le_refl _)
      have bb := bel_nxt bb b25
      have hF := Sm.refl w25
      walk_nrm
      rw [eqB_self]
      refine beside_by (n := 400) ?_
      repeat (first | a_ctl hF Sm.trans D0.nil | (refine Goes.step rfl (fun _ h₁ => ?_); replace hF := Sm.trans hF h₁; clear h₁; refine goes_oper_k rfl rfl (by decide) (fun K hK => ?_); go_simp; refine hK _ _ ⟨still_listed rfl, ?_⟩; clear hK K) | (refine Goes.step rfl (fun _ h₁ => ?_); rw [stepG_unwanted rfl rfl]; simp only [goes_go]; refine ⟨D0.nil, ?_⟩; replace hF := Sm.trans hF h₁; clear h₁; walk_nrm))
      a_cond false hF Sm.trans D0.nil
      refine Goes.stop fun w₁ h₁ => ?_
      replace hF := Sm.trans hF h₁
      clear h₁
      refine beside_by (n := 400) ?_
      repeat (first | a_ctl hF Sm.trans D0.nil | (refine Goes.step rfl (fun _ h₁ => ?_); replace hF := Sm.trans hF h₁; clear h₁; refine goes_oper_k rfl rfl (by decide) (fun K hK => ?_); go_simp; refine hK _ _ ⟨still_listed rfl, ?_⟩; clear hK K) | (refine Goes.step rfl (fun _ h₁ => ?_); rw [stepG_unwanted rfl rfl]; simp only [goes_go]; refine ⟨D0.nil, ?_⟩; replace hF := Sm.trans hF h₁; clear h₁; walk_nrm))
      refine Goes.stop fun w₁ h₁ => ?_
      replace hF := Sm.trans hF h₁
      clear h₁
      refine beside_call rfl rfl (by decide) rfl Try.func16 rfl rfl (by kernel_rfl) (show _ = (#[p6, .int .i64 1] : Array Value) from by walk_nrm) (fun d => btells_sm (hF.trans ⟨d, rfl⟩) (heldIntS_b _ _ 1 _ (op6.rd.sm (hF.trans ⟨d, rfl⟩)) hz1 (by omega) (by omega))) ?_
      rintro r w26 ⟨rfl, b26⟩
      clear hF
      have ov1 := ov1.below b26 (Nat.le_refl _)
      have ov2 := ov2.below b26 (Nat.le_refl _)
      have op3 := op3.below b26 (Nat.le_refl _)
      have oq3 := oq3.below b26 (Nat.le_refl _)
      have ov4 := ov4.below b26 (Nat.le_refl _)
      have ov5 := ov5.below b26 (Nat.le_refl _)
      have op6 := op6.below b26 (Nat.le_refl _)
      have oq6 := oq6.below b26 (Nat.le_refl _)
      have ov7 := ov7.below b26 (Nat.le_refl _)
      have ov8 := ov8.below b26 (Nat.le_refl _)
      have ov9 := ov9.below b26 (Nat.le_refl _)
      have ov10 := ov10.below b26 (Nat.le_refl _)
      have op11 := op11.below b26 (Nat.le_refl _)
      have oq11 := oq11.below b26 (Nat.le_refl _)
      have h := h.below b26 (Nat.le_refl _)
      have g := g.below b26 (Nat.le_refl _)
      have bb := bel_nxt bb b26
      have hF := Sm.refl w26
      walk_nrm
      refine beside_by (n := 400) ?_
      repeat (first | a_ctl hF Sm.trans D0.nil | (refine Goes.step rfl (fun _ h₁ => ?_); replace hF := Sm.trans hF h₁; clear h₁; refine goes_oper_k rfl rfl (by decide) (fun K hK => ?_); go_simp; refine hK _ _ ⟨still_listed rfl, ?_⟩; clear hK K) | (refine Goes.step rfl (fun _ h₁ => ?_); rw [stepG_unwanted rfl rfl]; simp only [goes_go]; refine ⟨D0.nil, ?_⟩; replace hF := Sm.trans hF h₁; clear h₁; walk_nrm))
      a_cond false hF Sm.trans D0.nil
      refine Goes.stop fun w₁ h₁ => ?_
      replace hF := Sm.trans hF h₁
      clear h₁
      refine beside_by (n := 400) ?_
      repeat (first | a_ctl hF Sm.trans D0.nil | (refine Goes.step rfl (fun _ h₁ => ?_); replace hF := Sm.trans hF h₁; clear h₁; refine goes_oper_k rfl rfl (by decide) (fun K hK => ?_); go_simp; refine hK _ _ ⟨still_listed rfl, ?_⟩; clear hK K) | (refine Goes.step rfl (fun _ h₁ => ?_); rw [stepG_unwanted rfl rfl]; simp only [goes_go]; refine ⟨D0.nil, ?_⟩; replace hF := Sm.trans hF h₁; clear h₁; walk_nrm))
      refine Goes.stop fun w₁ h₁ => ?_
      replace hF := Sm.trans hF h₁
      clear h₁
      refine beside_call rfl rfl (by decide) rfl Try.func16 rfl rfl (by kernel_rfl) (show _ = (#[q6, .int .i64 (1 + (zs.length : Int))] : Array Value) from by walk_nrm) (fun d => btells_sm (hF.trans ⟨d, rfl⟩) (heldIntS_b _ _ (1 + zs.length) _ (oq6.rd.sm (hF.trans ⟨d, rfl⟩)) hz2 (by omega) (by omega))) ?_
      rintro r w27 ⟨rfl, b27⟩
      clear hF
      have ov1 := ov1.below b27 (Nat.le_refl _)
      have ov2 := ov2.below b27 (Nat.le_refl _)
      have op3 := op3.below b27 (Nat.le_refl _)
      have oq3 := oq3.below b27 (Nat.le_refl _)
      have ov4 := ov4.below b27 (Nat.le_refl _)
      have ov5 := ov5.below b27 (Nat.le_refl _)
      have op6 := op6.below b27 (Nat.le_refl _)
      have oq6 := oq6.below b27 (Nat.le_refl _)
      have ov7 := ov7.below b27 (Nat.le_refl _)
      have ov8 := ov8.below b27 (Nat.le_refl _)
      have ov9 := ov9.below b27 (Nat.le_refl _)
      have ov10 := ov10.below b27 (Nat.le_refl _)
      have op11 := op11.below b27 (Nat.le_refl _)
      have oq11 := oq11.below b27 (Nat.le_refl _)
      have h := h.below b27 (Nat.le_refl _)
      have g := g.below b27 (Nat.le_refl _)
      have bb := bel_nxt bb b27
      have hF := Sm.refl w27
      walk_nrm
      refine beside_by (n := 400) ?_
      repeat (first | a_ctl hF Sm.trans D0.nil | (refine Goes.step rfl (fun _ h₁ => ?_); replace hF := Sm.trans hF h₁; clear h₁; refine goes_oper_k rfl rfl (by decide) (fun K hK => ?_); go_simp; refine hK _ _ ⟨still_listed rfl, ?_⟩; clear hK K) | (refine Goes.step rfl (fun _ h₁ => ?_); rw [stepG_unwanted rfl rfl]; simp only [goes_go]; refine ⟨D0.nil, ?_⟩; replace hF := Sm.trans hF h₁; clear h₁; walk_nrm))
      a_cond false hF Sm.trans D0.nil
      refine Goes.stop fun w₁ h₁ => ?_
      replace hF := Sm.trans hF h₁
      clear h₁
      refine beside_by (n := 400) ?_
      repeat (first | a_ctl hF Sm.trans D0.nil | (refine Goes.step rfl (fun _ h₁ => ?_); replace hF := Sm.trans hF h₁; clear h₁; refine goes_oper_k rfl rfl (by decide) (fun K hK => ?_); go_simp; refine hK _ _ ⟨still_listed rfl, ?_⟩; clear hK K) | (refine Goes.step rfl (fun _ h₁ => ?_); rw [stepG_unwanted rfl rfl]; simp only [goes_go]; refine ⟨D0.nil, ?_⟩; replace hF := Sm.trans hF h₁; clear h₁; walk_nrm))
      a_cond false hF Sm.trans D0.nil
      refine Goes.stop fun w₁ h₁ => ?_
      replace hF := Sm.trans hF h₁
      clear h₁
      refine beside_by (n := 400) ?_
      repeat (first | a_ctl hF Sm.trans D0.nil | (refine Goes.step rfl (fun _ h₁ => ?_); replace hF := Sm.trans hF h₁; clear h₁; refine goes_oper_k rfl rfl (by decide) (fun K hK => ?_); go_simp; refine hK _ _ ⟨still_listed rfl, ?_⟩; clear hK K) | (refine Goes.step rfl (fun _ h₁ => ?_); rw [stepG_unwanted rfl rfl]; simp only [goes_go]; refine ⟨D0.nil, ?_⟩; replace hF := Sm.trans hF h₁; clear h₁; walk_nrm))
      refine Goes.step rfl (fun _ h₁ => ?_)
      rw [stepG_ret']
      simp only [goes_go]
      refine ⟨D0.nil, ?_⟩
      refine Goes.stop fun w₁ h₂ => .at0 fun d => ?_
      have hF := (Sm.trans hF h₁).trans (h₂.trans ⟨d, rfl⟩)
      exact leave1 Try.func10 rfl (R := BSays true w) ⟨rfl, bb.sm hF⟩
    · have i1 : ¬ ((1048576 : Int) < (xs.length : Int)) := by omega
      have i2 : ((1048576 : Int) < (ys.length : Int)) := by omega
      subst hu hv
      refine beside_by (n := 400) ?_
      repeat (first | a_ctl hF Sm.trans D0.nil | (refine Goes.step rfl (fun _ h₁ => ?_); replace hF := Sm.trans hF h₁; clear h₁; refine goes_oper_k rfl rfl (by decide) (fun K hK => ?_); go_simp; refine hK _ _ ⟨still_listed rfl, ?_⟩; clear hK K) | (refine Goes.step rfl (fun _ h₁ => ?_); rw [stepG_unwanted rfl rfl]; simp only [goes_go]; refine ⟨D0.nil, ?_⟩; replace hF := Sm.trans hF h₁; clear h₁; walk_nrm))
      a_cond false hF Sm.trans D0.nil
      repeat (first | a_ctl hF Sm.trans D0.nil | (refine Goes.step rfl (fun _ h₁ => ?_); replace hF := Sm.trans hF h₁; clear h₁; refine goes_oper_k rfl rfl (by decide) (fun K hK => ?_); go_simp; refine hK _ _ ⟨still_listed rfl, ?_⟩; clear hK K) | (refine Goes.step rfl (fun _ h₁ => ?_); rw [stepG_unwanted rfl rfl]; simp only [goes_go]; refine ⟨D0.nil, ?_⟩; replace hF := Sm.trans hF h₁; clear h₁; walk_nrm))
      a_cond true hF Sm.trans D0.nil
      repeat (first | a_ctl hF Sm.trans D0.nil | (refine Goes.step rfl (fun _ h₁ => ?_); replace hF := Sm.trans hF h₁; clear h₁; refine goes_oper_k rfl rfl (by decide) (fun K hK => ?_); go_simp; refine hK _ _ ⟨still_listed rfl, ?_⟩; clear hK K) | (refine Goes.step rfl (fun _ h₁ => ?_); rw [stepG_unwanted rfl rfl]; simp only [goes_go]; refine ⟨D0.nil, ?_⟩; replace hF := Sm.trans hF h₁; clear h₁; walk_nrm))
      refine Goes.step rfl (fun _ h₁ => ?_)
      rw [stepG_ret']
      simp only [goes_go]
      refine ⟨D0.nil, ?_⟩
      refine Goes.stop fun w₁ h₂ => .at0 fun d => ?_
      have hF := (Sm.trans hF h₁).trans (h₂.trans ⟨d, rfl⟩)
      exact leave1 Try.func10 rfl (R := BSays true w) ⟨rfl, (Below.refl w.heap.size w).sm hF⟩
  · have i1 : ((1048576 : Int) < (xs.length : Int)) := by omega
    subst hu hv
    refine beside_by (n := 400) ?_
    repeat (first | a_ctl hF Sm.trans D0.nil | (refine Goes.step rfl (fun _ h₁ => ?_); replace hF := Sm.trans hF h₁; clear h₁; refine goes_oper_k rfl rfl (by decide) (fun K hK => ?_); go_simp; refine hK _ _ ⟨still_listed rfl, ?_⟩; clear hK K) | (refine Goes.step rfl (fun _ h₁ => ?_); rw [stepG_unwanted rfl rfl]; simp only [goes_go]; refine ⟨D0.nil, ?_⟩; replace hF := Sm.trans hF h₁; clear h₁; walk_nrm))
    a_cond true hF Sm.trans D0.nil
    repeat (first | a_ctl hF Sm.trans D0.nil | (refine Goes.step rfl (fun _ h₁ => ?_); replace hF := Sm.trans hF h₁; clear h₁; refine goes_oper_k rfl rfl (by decide) (fun K hK => ?_); go_simp; refine hK _ _ ⟨still_listed rfl, ?_⟩; clear hK K) | (refine Goes.step rfl (fun _ h₁ => ?_); rw [stepG_unwanted rfl rfl]; simp only [goes_go]; refine ⟨D0.nil, ?_⟩; replace hF := Sm.trans hF h₁; clear h₁; walk_nrm))
    refine Goes.step rfl (fun _ h₁ => ?_)
    rw [stepG_ret']
    simp only [goes_go]
    refine ⟨D0.nil, ?_⟩
    refine Goes.stop fun w₁ h₂ => .at0 fun d => ?_
    have hF := (Sm.trans hF h₁).trans (h₂.trans ⟨d, rfl⟩)
    exact leave1 Try.func10 rfl (R := BSays true w) ⟨rfl, (Below.refl w.heap.size w).sm hF⟩

end Go.Proofs.Ytlglokbakmbpdab
