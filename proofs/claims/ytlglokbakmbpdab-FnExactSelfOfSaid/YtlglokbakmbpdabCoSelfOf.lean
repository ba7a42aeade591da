/-
  The exact law of SelfOf, in company (written by ch5self3.py).
-/
import Derived.Test.YtlglokbakmbpdabPtG
import Derived.Test.YtlglokbakmbpdabSo
import Derived.Test.YtlglokbakmbpdabSpS
namespace Go.Proofs.Ytlglokbakmbpdab
open Go Go.Conc Go.RowKit
set_option linter.unusedVariables false

set_option maxRecDepth 100000 in
set_option maxHeartbeats 40000000 in
theorem exactSelfOf_b (u : Value) (xs : List Int) (w : World) (h : Rd w u xs) (hl1 : xs.length ≤ maxLen) :
    BCalls Try.prog 7 #[u] w (BSays true w) := by
  intro cs
  have h0 := h
  obtain ⟨ca, cap, hu, -⟩ := h
  have h := h0
  unfold maxLen at hl1
  rw [enter_at _ Try.func7 rfl]
  simp only [Try.f7, List.size_toArray, List.length_cons, List.length_nil, Nat.reduceAdd, Nat.reduceSub, Array.replicate_succ, Array.replicate_zero, List.push_toArray, List.append_toArray, List.nil_append, List.cons_append]
  have hF : Sm w w := Sm.refl w
  by_cases hb1 : xs.length ≤ 1048576
  · have hM1 : xs.length ≤ maxLen := by unfold maxLen; omega
    have hZ : (selF xs).length ≤ 1048576 := selF_len xs hb1
    have hFM : (selF xs).length ≤ maxLen := by unfold maxLen; omega
    obtain ⟨zs, hzs⟩ : ∃ zs, zs = selF xs := ⟨_, rfl⟩
    have bb := Below.refl w.heap.size w
    have HY := Lib.hid hzs
    rw [← hzs] at hZ hFM
    clear hzs
    have i1 : ¬ ((1048576 : Int) < (xs.length : Int)) := by omega
    subst hu
    refine beside_by (n := 400) ?_
    repeat (first | a_ctl hF Sm.trans D0.nil | (refine Goes.step rfl (fun _ h₁ => ?_); replace hF := Sm.trans hF h₁; clear h₁; refine goes_oper_k rfl rfl (by decide) (fun K hK => ?_); go_simp; refine hK _ _ ⟨still_listed rfl, ?_⟩; clear hK K) | (refine Goes.step rfl (fun _ h₁ => ?_); rw [stepG_unwanted rfl rfl]; simp only [goes_go]; refine ⟨D0.nil, ?_⟩; replace hF := Sm.trans hF h₁; clear h₁; walk_nrm))
    a_cond false hF Sm.trans D0.nil
    refine Goes.stop fun w₁ h₁ => ?_
    replace hF := Sm.trans hF h₁
    clear h₁
    refine beside_by (n := 400) ?_
    repeat (first | a_ctl hF Sm.trans D0.nil | (refine Goes.step rfl (fun _ h₁ => ?_); replace hF := Sm.trans hF h₁; clear h₁; refine goes_oper_k rfl rfl (by decide) (fun K hK => ?_); go_simp; refine hK _ _ ⟨still_listed rfl, ?_⟩; clear hK K) | (refine Goes.step rfl (fun _ h₁ => ?_); rw [stepG_unwanted rfl rfl]; simp only [goes_go]; refine ⟨D0.nil, ?_⟩; replace hF := Sm.trans hF h₁; clear h₁; walk_nrm))
    refine Goes.stop fun w₁ h₁ => ?_
    replace hF := Sm.trans hF h₁
    clear h₁
    refine beside_call rfl rfl (by decide) rfl Try.func12 rfl rfl (by kernel_rfl) (show _ = (#[.slice ca xs.length cap] : Array Value) from by walk_nrm) (fun d => bmadeO_sm (hF.trans ⟨d, rfl⟩) (bmade_oo (toIntS_b _ xs _ (h.sm (hF.trans ⟨d, rfl⟩)) hb1))) ?_
    rintro v1 w1 ⟨ov1, b1⟩
    clear hF
    have h := h.below b1 (Nat.le_refl _)
    have lo_v1 := bb.size
    have bb := bel_nxt bb b1
    have hF := Sm.refl w1
    walk_nrm
    refine beside_by (n := 400) ?_
    repeat (first | a_ctl hF Sm.trans D0.nil | (refine Goes.step rfl (fun _ h₁ => ?_); replace hF := Sm.trans hF h₁; clear h₁; refine goes_oper_k rfl rfl (by decide) (fun K hK => ?_); go_simp; refine hK _ _ ⟨still_listed rfl, ?_⟩; clear hK K) | (refine Goes.step rfl (fun _ h₁ => ?_); rw [stepG_unwanted rfl rfl]; simp only [goes_go]; refine ⟨D0.nil, ?_⟩; replace hF := Sm.trans hF h₁; clear h₁; walk_nrm))
    refine Goes.stop fun w₁ h₁ => ?_
    replace hF := Sm.trans hF h₁
    clear h₁
    refine beside_call rfl rfl (by decide) rfl Try.func23 rfl rfl (by kernel_rfl) (show _ = (#[v1] : Array Value) from by walk_nrm) (fun d => bmadeO_sm (hF.trans ⟨d, rfl⟩) (bmade_oo (specSelfOf_b _ xs _ (ov1.rd.sm (hF.trans ⟨d, rfl⟩)) hM1))) ?_
    rintro v3 w2 ⟨ov3, b2⟩
    clear hF
    have ap_v1_v3 := OwnO.apart ov1 ov3
    have ov1 := ov1.below b2 (Nat.le_refl _)
    have h := h.below b2 (Nat.le_refl _)
    have lo_v3 := bb.size
    have bb := bel_nxt bb b2
    have hF := Sm.refl w2
    walk_nrm
    rw [← HY.out] at ov3
    refine beside_by (n := 400) ?_
    repeat (first | a_ctl hF Sm.trans D0.nil | (refine Goes.step rfl (fun _ h₁ => ?_); replace hF := Sm.trans hF h₁; clear h₁; refine goes_oper_k rfl rfl (by decide) (fun K hK => ?_); go_simp; refine hK _ _ ⟨still_listed rfl, ?_⟩; clear hK K) | (refine Goes.step rfl (fun _ h₁ => ?_); rw [stepG_unwanted rfl rfl]; simp only [goes_go]; refine ⟨D0.nil, ?_⟩; replace hF := Sm.trans hF h₁; clear h₁; walk_nrm))
    refine Goes.stop fun w₁ h₁ => ?_
    replace hF := Sm.trans hF h₁
    clear h₁
    refine beside_call rfl rfl (by decide) rfl Try.func12 rfl rfl (by kernel_rfl) (show _ = (#[.slice ca xs.length cap] : Array Value) from by walk_nrm) (fun d => bmadeO_sm (hF.trans ⟨d, rfl⟩) (bmade_oo (toIntS_b _ xs _ (h.sm (hF.trans ⟨d, rfl⟩)) hb1))) ?_
    rintro v4 w3 ⟨ov4, b3⟩
    clear hF
    have ap_v1_v4 := OwnO.apart ov1 ov4
    have ov1 := ov1.below b3 (Nat.le_refl _)
    have ap_v3_v4 := OwnO.apart ov3 ov4
    have ov3 := ov3.below b3 (Nat.le_refl _)
    have h := h.below b3 (Nat.le_refl _)
    have lo_v4 := bb.size
    have bb := bel_nxt bb b3
    have hF := Sm.refl w3
    walk_nrm
    refine beside_by (n := 400) ?_
    repeat (first | a_ctl hF Sm.trans D0.nil | (refine Goes.step rfl (fun _ h₁ => ?_); replace hF := Sm.trans hF h₁; clear h₁; refine goes_oper_k rfl rfl (by decide) (fun K hK => ?_); go_simp; refine hK _ _ ⟨still_listed rfl, ?_⟩; clear hK K) | (refine Goes.step rfl (fun _ h₁ => ?_); rw [stepG_unwanted rfl rfl]; simp only [goes_go]; refine ⟨D0.nil, ?_⟩; replace hF := Sm.trans hF h₁; clear h₁; walk_nrm))
    refine Goes.stop fun w₁ h₁ => ?_
    replace hF := Sm.trans hF h₁
    clear h₁
    refine beside_call rfl rfl (by decide) rfl Try.func24 rfl rfl (by kernel_rfl) (show _ = (#[v4] : Array Value) from by walk_nrm) (fun d => bmadeO_sm (hF.trans ⟨d, rfl⟩) (implSelfOf_b _ xs _ (ov4.rd.sm (hF.trans ⟨d, rfl⟩)) hb1)) ?_
    rintro v6 w4 ⟨ov6, b4⟩
    clear hF
    have ap_v1_v6 := OwnO.apart ov1 ov6
    have ov1 := ov1.below b4 (Nat.le_refl _)
    have ap_v3_v6 := OwnO.apart ov3 ov6
    have ov3 := ov3.below b4 (Nat.le_refl _)
    have ap_v4_v6 := OwnO.apart ov4 ov6
    have ov4 := ov4.below b4 (Nat.le_refl _)
    have h := h.below b4 (Nat.le_refl _)
    have lo_v6 := bb.size
    have bb := bel_nxt bb b4
    have hF := Sm.refl w4
    walk_nrm
    rw [← HY.out] at ov6
    refine beside_by (n := 400) ?_
    repeat (first | a_ctl hF Sm.trans D0.nil | (refine Goes.step rfl (fun _ h₁ => ?_); replace hF := Sm.trans hF h₁; clear h₁; refine goes_oper_k rfl rfl (by decide) (fun K hK => ?_); go_simp; refine hK _ _ ⟨still_listed rfl, ?_⟩; clear hK K) | (refine Goes.step rfl (fun _ h₁ => ?_); rw [stepG_unwanted rfl rfl]; simp only [goes_go]; refine ⟨D0.nil, ?_⟩; replace hF := Sm.trans hF h₁; clear h₁; walk_nrm))
    refine Goes.stop fun w₁ h₁ => ?_
    replace hF := Sm.trans hF h₁
    clear h₁
    refine beside_call rfl rfl (by decide) rfl Try.func14 rfl rfl (by kernel_rfl) (show _ = (#[v6, v3] : Array Value) from by walk_nrm) (fun d => bsays_sm (hF.trans ⟨d, rfl⟩) (eqIntS_b _ _ zs zs _ (ov6.rd.sm (hF.trans ⟨d, rfl⟩)) (ov3.rd.sm (hF.trans ⟨d, rfl⟩)) hFM hFM)) ?_
    rintro r w5 ⟨rfl, b5⟩
    clear hF
    have ov1 := ov1.below b5 (Nat.le_refl _)
    have ov3 := ov3.below b5 (Nat.le_refl _)
    have ov4 := ov4.below b5 (Nat.le_refl _)
    have ov6 := ov6.below b5 (Nat.le_refl _)
    have h := h.below b5 (Nat.le_refl _)
    have bb := bel_nxt bb b5
    have hF := Sm.refl w5
    walk_nrm
    rw [eqB_self]
    refine beside_by (n := 400) ?_
    repeat (first | a_ctl hF Sm.trans D0.nil | (refine Goes.step rfl (fun _ h₁ => ?_); replace hF := Sm.trans hF h₁; clear h₁; refine goes_oper_k rfl rfl (by decide) (fun K hK => ?_); go_simp; refine hK _ _ ⟨still_listed rfl, ?_⟩; clear hK K) | (refine Goes.step rfl (fun _ h₁ => ?_); rw [stepG_unwanted rfl rfl]; simp only [goes_go]; refine ⟨D0.nil, ?_⟩; replace hF := Sm.trans hF h₁; clear h₁; walk_nrm))
    a_cond false hF Sm.trans D0.nil
    refine Goes.stop fun w₁ h₁ => ?_
    replace hF := Sm.trans hF h₁
    clear h₁
    refine beside_by (n := 400) ?_
    repeat (first | a_ctl hF Sm.trans D0.nil | (refine Goes.step rfl (fun _ h₁ => ?_); replace hF := Sm.trans hF h₁; clear h₁; refine goes_oper_k rfl rfl (by decide) (fun K hK => ?_); go_simp; refine hK _ _ ⟨still_listed rfl, ?_⟩; clear hK K) | (refine Goes.step rfl (fun _ h₁ => ?_); rw [stepG_unwanted rfl rfl]; simp only [goes_go]; refine ⟨D0.nil, ?_⟩; replace hF := Sm.trans hF h₁; clear h₁; walk_nrm))
    refine Goes.stop fun w₁ h₁ => ?_
    replace hF := Sm.trans hF h₁
    clear h₁
    refine beside_call rfl rfl (by decide) rfl Try.func12 rfl rfl (by kernel_rfl) (show _ = (#[.slice ca xs.length cap] : Array Value) from by walk_nrm) (fun d => bmadeO_sm (hF.trans ⟨d, rfl⟩) (bmade_oo (toIntS_b _ xs _ (h.sm (hF.trans ⟨d, rfl⟩)) hb1))) ?_
    rintro v7 w6 ⟨ov7, b6⟩
    clear hF
    have ap_v1_v7 := OwnO.apart ov1 ov7
    have ov1 := ov1.below b6 (Nat.le_refl _)
    have ap_v3_v7 := OwnO.apart ov3 ov7
    have ov3 := ov3.below b6 (Nat.le_refl _)
    have ap_v4_v7 := OwnO.apart ov4 ov7
    have ov4 := ov4.below b6 (Nat.le_refl _)
    have ap_v6_v7 := OwnO.apart ov6 ov7
    have ov6 := ov6.below b6 (Nat.le_refl _)
    have h := h.below b6 (Nat.le_refl _)
    have lo_v7 := bb.size
    have bb := bel_nxt bb b6
    have hF := Sm.refl w6
    walk_nrm
    refine beside_by (n := 400) ?_
    repeat (first | a_ctl hF Sm.trans D0.nil | (refine Goes.step rfl (fun _ h₁ => ?_); replace hF := Sm.trans hF h₁; clear h₁; refine goes_oper_k rfl rfl (by decide) (fun K hK => ?_); go_simp; refine hK _ _ ⟨still_listed rfl, ?_⟩; clear hK K) | (refine Goes.step rfl (fun _ h₁ => ?_); rw [stepG_unwanted rfl rfl]; simp only [goes_go]; refine ⟨D0.nil, ?_⟩; replace hF := Sm.trans hF h₁; clear h₁; walk_nrm))
    refine Goes.stop fun w₁ h₁ => ?_
    replace hF := Sm.trans hF h₁
    clear h₁
    refine beside_call rfl rfl (by decide) rfl Try.func14 rfl rfl (by kernel_rfl) (show _ = (#[v4, v7] : Array Value) from by walk_nrm) (fun d => bsays_sm (hF.trans ⟨d, rfl⟩) (eqIntS_b _ _ xs xs _ (ov4.rd.sm (hF.trans ⟨d, rfl⟩)) (ov7.rd.sm (hF.trans ⟨d, rfl⟩)) hM1 hM1)) ?_
    rintro r w7 ⟨rfl, b7⟩
    clear hF
    have ov1 := ov1.below b7 (Nat.le_refl _)
    have ov3 := ov3.below b7 (Nat.le_refl _)
    have ov4 := ov4.below b7 (Nat.le_refl _)
    have ov6 := ov6.below b7 (Nat.le_refl _)
    have ov7 := ov7.below b7 (Nat.le_refl _)
    have h := h.below b7 (Nat.le_refl _)
    have bb := bel_nxt bb b7
    have hF := Sm.refl w7
    walk_nrm
    rw [eqB_self]
    refine beside_by (n := 400) ?_
    repeat (first | a_ctl hF Sm.trans D0.nil | (refine Goes.step rfl (fun _ h₁ => ?_); replace hF := Sm.trans hF h₁; clear h₁; refine goes_oper_k rfl rfl (by decide) (fun K hK => ?_); go_simp; refine hK _ _ ⟨still_listed rfl, ?_⟩; clear hK K) | (refine Goes.step rfl (fun _ h₁ => ?_); rw [stepG_unwanted rfl rfl]; simp only [goes_go]; refine ⟨D0.nil, ?_⟩; replace hF := Sm.trans hF h₁; clear h₁; walk_nrm))
    a_cond false hF Sm.trans D0.nil
    refine Goes.stop fun w₁ h₁ => ?_
    replace hF := Sm.trans hF h₁
    clear h₁
    refine beside_by (n := 400) ?_
    repeat (first | a_ctl hF Sm.trans D0.nil | (refine Goes.step rfl (fun _ h₁ => ?_); replace hF := Sm.trans hF h₁; clear h₁; refine goes_oper_k rfl rfl (by decide) (fun K hK => ?_); go_simp; refine hK _ _ ⟨still_listed rfl, ?_⟩; clear hK K) | (refine Goes.step rfl (fun _ h₁ => ?_); rw [stepG_unwanted rfl rfl]; simp only [goes_go]; refine ⟨D0.nil, ?_⟩; replace hF := Sm.trans hF h₁; clear h₁; walk_nrm))
    refine Goes.stop fun w₁ h₁ => ?_
    replace hF := Sm.trans hF h₁
    clear h₁
    refine beside_call rfl rfl (by decide) rfl Try.func15 rfl rfl (by kernel_rfl) (show _ = (#[v4, .int .i64 1] : Array Value) from by walk_nrm) (fun d => bmarkedO_sm (hF.trans ⟨d, rfl⟩) (markIntS_o _ _ xs 1 _ (ov4.sm (hF.trans ⟨d, rfl⟩)) hb1 (by omega) (by omega))) ?_
    rintro r w8 ⟨rfl, mv4, g8⟩
    clear hF
    have ov1 := ov1.kept g8 ap_v1_v4.1
    have ov3 := ov3.kept g8 ap_v3_v4.1
    have ov6 := ov6.kept g8 ap_v4_v6.2
    have ov7 := ov7.kept g8 ap_v4_v7.2
    have bb := bel_markedO bb ov4 g8 (by omega)
    have h := h0.below bb (Nat.le_refl _)
    have ov4 := mv4
    have hF := Sm.refl w8
    walk_nrm
    refine beside_by (n := 400) ?_
    repeat (first | a_ctl hF Sm.trans D0.nil | (refine Goes.step rfl (fun _ h₁ => ?_); replace hF := Sm.trans hF h₁; clear h₁; refine goes_oper_k rfl rfl (by decide) (fun K hK => ?_); go_simp; refine hK _ _ ⟨still_listed rfl, ?_⟩; clear hK K) | (refine Goes.step rfl (fun _ h₁ => ?_); rw [stepG_unwanted rfl rfl]; simp only [goes_go]; refine ⟨D0.nil, ?_⟩; replace hF := Sm.trans hF h₁; clear h₁; walk_nrm))
    refine Goes.stop fun w₁ h₁ => ?_
    replace hF := Sm.trans hF h₁
    clear h₁
    refine beside_call rfl rfl (by decide) rfl Try.func14 rfl rfl (by kernel_rfl) (show _ = (#[v6, v3] : Array Value) from by walk_nrm) (fun d => bsays_sm (hF.trans ⟨d, rfl⟩) (eqIntS_b _ _ zs zs _ (ov6.rd.sm (hF.trans ⟨d, rfl⟩)) (ov3.rd.sm (hF.trans ⟨d, rfl⟩)) hFM hFM)) ?_
    rintro r w9 ⟨rfl, b9⟩
    clear hF
    have ov1 := ov1.below b9 (Nat.le_refl _)
    have ov3 := ov3.below b9 (Nat.le_refl _)
    have ov4 := ov4.below b9 (Nat.le_refl _)
    have ov6 := ov6.below b9 (Nat.le_refl _)
    have ov7 := ov7.below b9 (Nat.le_refl _)
    have h := h.below b9 (Nat.le_refl _)
    have bb := bel_nxt bb b9
    have hF := Sm.refl w9
    walk_nrm
    rw [eqB_self]
    refine beside_by (n := 400) ?_
    repeat (first | a_ctl hF Sm.trans D0.nil | (refine Goes.step rfl (fun _ h₁ => ?_); replace hF := Sm.trans hF h₁; clear h₁; refine goes_oper_k rfl rfl (by decide) (fun K hK => ?_); go_simp; refine hK _ _ ⟨still_listed rfl, ?_⟩; clear hK K) | (refine Goes.step rfl (fun _ h₁ => ?_); rw [stepG_unwanted rfl rfl]; simp only [goes_go]; refine ⟨D0.nil, ?_⟩; replace hF := Sm.trans hF h₁; clear h₁; walk_nrm))
    a_cond false hF Sm.trans D0.nil
    refine Goes.stop fun w₁ h₁ => ?_
    replace hF := Sm.trans hF h₁
    clear h₁
    refine beside_by (n := 400) ?_
    repeat (first | a_ctl hF Sm.trans D0.nil | (refine Goes.step rfl (fun _ h₁ => ?_); replace hF := Sm.trans hF h₁; clear h₁; refine goes_oper_k rfl rfl (by decide) (fun K hK => ?_); go_simp; refine hK _ _ ⟨still_listed rfl, ?_⟩; clear hK K) | (refine Goes.step rfl (fun _ h₁ => ?_); rw [stepG_unwanted rfl rfl]; simp only [goes_go]; refine ⟨D0.nil, ?_⟩; replace hF := Sm.trans hF h₁; clear h₁; walk_nrm))
    refine Goes.stop fun w₁ h₁ => ?_
    replace hF := Sm.trans hF h₁
    clear h₁
    refine beside_call rfl rfl (by decide) rfl Try.func15 rfl rfl (by kernel_rfl) (show _ = (#[v6, .int .i64 1] : Array Value) from by walk_nrm) (fun d => bmarkedO_sm (hF.trans ⟨d, rfl⟩) (markIntS_o _ _ zs 1 _ (ov6.sm (hF.trans ⟨d, rfl⟩)) hZ (by omega) (by omega))) ?_
    rintro r w10 ⟨rfl, mv6, g10⟩
    clear hF
    have ov1 := ov1.kept g10 ap_v1_v6.1
    have ov3 := ov3.kept g10 ap_v3_v6.1
    have ov4 := ov4.kept g10 ap_v4_v6.1
    have ov7 := ov7.kept g10 ap_v6_v7.2
    have bb := bel_markedO bb ov6 g10 (by omega)
    have h := h0.below bb (Nat.le_refl _)
    have ov6 := mv6
    have hF := Sm.refl w10
    walk_nrm
    refine beside_by (n := 400) ?_
    repeat (first | a_ctl hF Sm.trans D0.nil | (refine Goes.step rfl (fun _ h₁ => ?_); replace hF := Sm.trans hF h₁; clear h₁; refine goes_oper_k rfl rfl (by decide) (fun K hK => ?_); go_simp; refine hK _ _ ⟨still_listed rfl, ?_⟩; clear hK K) | (refine Goes.step rfl (fun _ h₁ => ?_); rw [stepG_unwanted rfl rfl]; simp only [goes_go]; refine ⟨D0.nil, ?_⟩; replace hF := Sm.trans hF h₁; clear h₁; walk_nrm))
    refine Goes.stop fun w₁ h₁ => ?_
    replace hF := Sm.trans hF h₁
    clear h₁
    refine beside_call rfl rfl (by decide) rfl Try.func16 rfl rfl (by kernel_rfl) (show _ = (#[v6, .int .i64 1] : Array Value) from by walk_nrm) (fun d => btells_sm (hF.trans ⟨d, rfl⟩) (heldIntS_b _ _ 1 _ (ov6.rd.sm (hF.trans ⟨d, rfl⟩)) hZ (by omega) (by omega))) ?_
    rintro r w11 ⟨rfl, b11⟩
    clear hF
    have ov1 := ov1.below b11 (Nat.le_refl _)
    have ov3 := ov3.below b11 (Nat.le_refl _)
    have ov4 := ov4.below b11 (Nat.le_refl _)
    have ov6 := ov6.below b11 (Nat.le_refl _)
    have ov7 := ov7.below b11 (Nat.le_refl _)
    have h := h.below b11 (Nat.le_refl _)
    have bb := bel_nxt bb b11
    have hF := Sm.refl w11
    walk_nrm
    refine beside_by (n := 400) ?_
    repeat (first | a_ctl hF Sm.trans D0.nil | (refine Goes.step rfl (fun _ h₁ => ?_); replace hF := Sm.trans hF h₁; clear h₁; refine goes_oper_k rfl rfl (by decide) (fun K hK => ?_); go_simp; refine hK _ _ ⟨still_listed rfl, ?_⟩; clear hK K) | (refine Goes.step rfl (fun _ h₁ => ?_); rw [stepG_unwanted rfl rfl]; simp only [goes_go]; refine ⟨D0.nil, ?_⟩; replace hF := Sm.trans hF h₁; clear h₁; walk_nrm))
    a_cond false hF Sm.trans D0.nil
    refine Goes.stop fun w₁ h₁ => ?_
    replace hF := Sm.trans hF h₁
    clear h₁
    refine beside_by (n := 400) ?_
    repeat (first | a_ctl hF Sm.trans D0.nil | (refine Goes.step rfl (fun _ h₁ => ?_); replace hF := Sm.trans hF h₁; clear h₁; refine goes_oper_k rfl rfl (by decide) (fun K hK => ?_); go_simp; refine hK _ _ ⟨still_listed rfl, ?_⟩; clear hK K) | (refine Goes.step rfl (fun _ h₁ => ?_); rw [stepG_unwanted rfl rfl]; simp only [goes_go]; refine ⟨D0.nil, ?_⟩; replace hF := Sm.trans hF h₁; clear h₁; walk_nrm))
    a_cond false hF Sm.trans D0.nil
    refine Goes.stop fun w₁ h₁ => ?_
    replace hF := Sm.trans hF h₁
    clear h₁
    refine beside_by (n := 400) ?_
    repeat (first | a_ctl hF Sm.trans D0.nil | (refine Goes.step rfl (fun _ h₁ => ?_); replace hF := Sm.trans hF h₁; clear h₁; refine goes_oper_k rfl rfl (by decide) (fun K hK => ?_); go_simp; refine hK _ _ ⟨still_listed rfl, ?_⟩; clear hK K) | (refine Goes.step rfl (fun _ h₁ => ?_); rw [stepG_unwanted rfl rfl]; simp only [goes_go]; refine ⟨D0.nil, ?_⟩; replace hF := Sm.trans hF h₁; clear h₁; walk_nrm))
    refine Goes.stop fun w₁ h₁ => ?_
    replace hF := Sm.trans hF h₁
    clear h₁
    refine beside_call rfl rfl (by decide) rfl Try.func12 rfl rfl (by kernel_rfl) (show _ = (#[.slice ca xs.length cap] : Array Value) from by walk_nrm) (fun d => bmadeO_sm (hF.trans ⟨d, rfl⟩) (bmade_oo (toIntS_b _ xs _ (h.sm (hF.trans ⟨d, rfl⟩)) hb1))) ?_
    rintro v9 w12 ⟨ov9, b12⟩
    clear hF
    have ap_v1_v9 := OwnO.apart ov1 ov9
    have ov1 := ov1.below b12 (Nat.le_refl _)
    have ap_v3_v9 := OwnO.apart ov3 ov9
    have ov3 := ov3.below b12 (Nat.le_refl _)
    have ap_v4_v9 := OwnO.apart ov4 ov9
    have ov4 := ov4.below b12 (Nat.le_refl _)
    have ap_v6_v9 := OwnO.apart ov6 ov9
    have ov6 := ov6.below b12 (Nat.le_refl _)
    have ap_v7_v9 := OwnO.apart ov7 ov9
    have ov7 := ov7.below b12 (Nat.le_refl _)
    have h := h.below b12 (Nat.le_refl _)
    have lo_v9 := bb.size
    have bb := bel_nxt bb b12
    have hF := Sm.refl w12
    walk_nrm
    refine beside_by (n := 400) ?_
    repeat (first | a_ctl hF Sm.trans D0.nil | (refine Goes.step rfl (fun _ h₁ => ?_); replace hF := Sm.trans hF h₁; clear h₁; refine goes_oper_k rfl rfl (by decide) (fun K hK => ?_); go_simp; refine hK _ _ ⟨still_listed rfl, ?_⟩; clear hK K) | (refine Goes.step rfl (fun _ h₁ => ?_); rw [stepG_unwanted rfl rfl]; simp only [goes_go]; refine ⟨D0.nil, ?_⟩; replace hF := Sm.trans hF h₁; clear h₁; walk_nrm))
    refine Goes.stop fun w₁ h₁ => ?_
    replace hF := Sm.trans hF h₁
    clear h₁
    refine beside_call rfl rfl (by decide) rfl Try.func24 rfl rfl (by kernel_rfl) (show _ = (#[v9] : Array Value) from by walk_nrm) (fun d => bmadeO_sm (hF.trans ⟨d, rfl⟩) (implSelfOf_b _ xs _ (ov9.rd.sm (hF.trans ⟨d, rfl⟩)) hb1)) ?_
    rintro v11 w13 ⟨ov11, b13⟩
    clear hF
    have ap_v1_v11 := OwnO.apart ov1 ov11
    have ov1 := ov1.below b13 (Nat.le_refl _)
    have ap_v3_v11 := OwnO.apart ov3 ov11
    have ov3 := ov3.below b13 (Nat.le_refl _)
    have ap_v4_v11 := OwnO.apart ov4 ov11
    have ov4 := ov4.below b13 (Nat.le_refl _)
    have ap_v6_v11 := OwnO.apart ov6 ov11
    have ov6 := ov6.below b13 (Nat.le_refl _)
    have ap_v7_v11 := OwnO.apart ov7 ov11
    have ov7 := ov7.below b13 (Nat.le_refl _)
    have ap_v9_v11 := OwnO.apart ov9 ov11
    have ov9 := ov9.below b13 (Nat.le_refl _)
    have h := h.below b13 (Nat.le_refl _)
    have lo_v11 := bb.size
    have bb := bel_nxt bb b13
    have hF := Sm.refl w13
    walk_nrm
    rw [← HY.out] at ov11
    refine beside_by (n := 400) ?_
    repeat (first | a_ctl hF Sm.trans D0.nil | (refine Goes.step rfl (fun _ h₁ => ?_); replace hF := Sm.trans hF h₁; clear h₁; refine goes_oper_k rfl rfl (by decide) (fun K hK => ?_); go_simp; refine hK _ _ ⟨still_listed rfl, ?_⟩; clear hK K) | (refine Goes.step rfl (fun _ h₁ => ?_); rw [stepG_unwanted rfl rfl]; simp only [goes_go]; refine ⟨D0.nil, ?_⟩; replace hF := Sm.trans hF h₁; clear h₁; walk_nrm))
    refine Goes.stop fun w₁ h₁ => ?_
    replace hF := Sm.trans hF h₁
    clear h₁
    refine beside_call rfl rfl (by decide) rfl Try.func14 rfl rfl (by kernel_rfl) (show _ = (#[v11, v3] : Array Value) from by walk_nrm) (fun d => bsays_sm (hF.trans ⟨d, rfl⟩) (eqIntS_b _ _ zs zs _ (ov11.rd.sm (hF.trans ⟨d, rfl⟩)) (ov3.rd.sm (hF.trans ⟨d, rfl⟩)) hFM hFM)) ?_
    rintro r w14 ⟨rfl, b14⟩
    clear hF
    have ov1 := ov1.below b14 (Nat.le_refl _)
    have ov3 := ov3.below b14 (Nat.le_refl _)
    have ov4 := ov4.below b14 (Nat.le_refl _)
    have ov6 := ov6.below b14 (Nat.le_refl _)
    have ov7 := ov7.below b14 (Nat.le_refl _)
    have ov9 := ov9.below b14 (Nat.le_refl _)
    have ov11 := ov11.below b14 (Nat.le_refl _)
    have h := h.below b14 (Nat.le_refl _)
    have bb := bel_nxt bb b14
    have hF := Sm.refl w14
    walk_nrm
    rw [eqB_self]
    refine beside_by (n := 400) ?_
    repeat (first | a_ctl hF Sm.trans D0.nil | (refine Goes.step rfl (fun _ h₁ => ?_); replace hF := Sm.trans hF h₁; clear h₁; refine goes_oper_k rfl rfl (by decide) (fun K hK => ?_); go_simp; refine hK _ _ ⟨still_listed rfl, ?_⟩; clear hK K) | (refine Goes.step rfl (fun _ h₁ => ?_); rw [stepG_unwanted rfl rfl]; simp only [goes_go]; refine ⟨D0.nil, ?_⟩; replace hF := Sm.trans hF h₁; clear h₁; walk_nrm))
    a_cond false hF Sm.trans D0.nil
    refine Goes.stop fun w₁ h₁ => ?_
    replace hF := Sm.trans hF h₁
    clear h₁
    refine beside_by (n := 400) ?_
    repeat (first | a_ctl hF Sm.trans D0.nil | (refine Goes.step rfl (fun _ h₁ => ?_); replace hF := Sm.trans hF h₁; clear h₁; refine goes_oper_k rfl rfl (by decide) (fun K hK => ?_); go_simp; refine hK _ _ ⟨still_listed rfl, ?_⟩; clear hK K) | (refine Goes.step rfl (fun _ h₁ => ?_); rw [stepG_unwanted rfl rfl]; simp only [goes_go]; refine ⟨D0.nil, ?_⟩; replace hF := Sm.trans hF h₁; clear h₁; walk_nrm))
    refine Goes.stop fun w₁ h₁ => ?_
    replace hF := Sm.trans hF h₁
    clear h₁
    refine beside_call rfl rfl (by decide) rfl Try.func16 rfl rfl (by kernel_rfl) (show _ = (#[v6, .int .i64 1] : Array Value) from by walk_nrm) (fun d => btells_sm (hF.trans ⟨d, rfl⟩) (heldIntS_b _ _ 1 _ (ov6.rd.sm (hF.trans ⟨d, rfl⟩)) hZ (by omega) (by omega))) ?_
    rintro r w15 ⟨rfl, b15⟩
    clear hF
    have ov1 := ov1.below b15 (Nat.le_refl _)
    have ov3 := ov3.below b15 (Nat.le_refl _)
    have ov4 := ov4.below b15 (Nat.le_refl _)
    have ov6 := ov6.below b15 (Nat.le_refl _)
    have ov7 := ov7.below b15 (Nat.le_refl _)
    have ov9 := ov9.below b15 (Nat.le_refl _)
    have ov11 := ov11.below b15 (Nat.le_refl _)
    have h := h.below b15 (Nat.le_refl _)
    have bb := bel_nxt bb b15
    have hF := Sm.refl w15
    walk_nrm
    refine beside_by (n := 400) ?_
    repeat (first | a_ctl hF Sm.trans D0.nil | (refine Goes.step rfl (fun _ h₁ => ?_); replace hF := Sm.trans hF h₁; clear h₁; refine goes_oper_k rfl rfl (by decide) (fun K hK => ?_); go_simp; refine hK _ _ ⟨still_listed rfl, ?_⟩; clear hK K) | (refine Goes.step rfl (fun _ h₁ => ?_); rw [stepG_unwanted rfl rfl]; simp only [goes_go]; refine ⟨D0.nil, ?_⟩; replace hF := Sm.trans hF h₁; clear h₁; walk_nrm))
    a_cond false hF Sm.trans D0.nil
    refine Goes.stop fun w₁ h₁ => ?_
    replace hF := Sm.trans hF h₁
    clear h₁
    refine beside_by (n := 400) ?_
    repeat (first | a_ctl hF Sm.trans D0.nil | (refine Goes.step rfl (fun _ h₁ => ?_); replace hF := Sm.trans hF h₁; clear h₁; refine goes_oper_k rfl rfl (by decide) (fun K hK => ?_); go_simp; refine hK _ _ ⟨still_listed rfl, ?_⟩; clear hK K) | (refine Goes.step rfl (fun _ h₁ => ?_); rw [stepG_unwanted rfl rfl]; simp only [goes_go]; refine ⟨D0.nil, ?_⟩; replace hF := Sm.trans hF h₁; clear h₁; walk_nrm))
    a_cond false hF Sm.trans D0.nil
    refine Goes.stop fun w₁ h₁ => ?_
    replace hF := Sm.trans hF h₁
    clear h₁
    refine beside_by (n := 400) ?_
    repeat (first | a_ctl hF Sm.trans D0.nil | (refine Goes.step rfl (fun _ h₁ => ?_); replace hF := Sm.trans hF h₁; clear h₁; refine goes_oper_k rfl rfl (by decide) (fun K hK => ?_); go_simp; refine hK _ _ ⟨still_listed rfl, ?_⟩; clear hK K) | (refine Goes.step rfl (fun _ h₁ => ?_); rw [stepG_unwanted rfl rfl]; simp only [goes_go]; refine ⟨D0.nil, ?_⟩; replace hF := Sm.trans hF h₁; clear h₁; walk_nrm))
    refine Goes.step rfl (fun _ h₁ => ?_)
    rw [stepG_ret']
    simp only [goes_go]
    refine ⟨D0.nil, ?_⟩
    refine Goes.stop fun w₁ h₂ => .at0 fun d => ?_
    have hF := (Sm.trans hF h₁).trans (h₂.trans ⟨d, rfl⟩)
    exact leave1 Try.func7 rfl (R := BSays true w) ⟨rfl, bb.sm hF⟩
  · have i1 : ((1048576 : Int) < (xs.length : Int)) := by omega
    subst hu
    refine beside_by (n := 400) ?_
    repeat (first | a_ctl hF Sm.trans D0.nil | (refine Goes.step rfl (fun _ h₁ => ?_); replace hF := Sm.trans hF h₁; clear h₁; refine goes_oper_k rfl rfl (by decide) (fun K hK => ?_); go_simp; refine hK _ _ ⟨still_listed rfl, ?_⟩; clear hK K) | (refine Goes.step rfl (fun _ h₁ => ?_); rw [stepG_unwanted rfl rfl]; simp only [goes_go]; refine ⟨D0.nil, ?_⟩; replace hF := Sm.trans hF h₁; clear h₁; walk_nrm))
    a_cond true hF Sm.trans D0.nil
    repeat (first | a_ctl hF Sm.trans D0.nil | (refine Goes.step rfl (fun _ h₁ => ?_); replace hF := Sm.trans hF h₁; clear h₁; refine goes_oper_k rfl rfl (by decide) (fun K hK => ?_); go_simp; refine hK _ _ ⟨still_listed rfl, ?_⟩; clear hK K) | (refine Goes.step rfl (fun _ h₁ => ?_); rw [stepG_unwanted rfl rfl]; simp only [goes_go]; refine ⟨D0.nil, ?_⟩; replace hF := Sm.trans hF h₁; clear h₁; walk_nrm))
    refine Goes.step rfl (fun _ h₁ => ?_)
    rw [stepG_ret']
    simp only [goes_go]
    refine ⟨D0.nil, ?_⟩
    refine Goes.stop fun w₁ h₂ => .at0 fun d => ?_
    have hF := (Sm.trans hF h₁).trans (h₂.trans ⟨d, rfl⟩)
    exact leave1 Try.func7 rfl (R := BSays true w) ⟨rfl, (Below.refl w.heap.size w).sm hF⟩

end Go.Proofs.Ytlglokbakmbpdab
