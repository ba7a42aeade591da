/-
  The law FnSelfOf, in company (written by ch5slf.py).
-/
import Derived.Test.YtagncoahobghpacPtL
import Derived.Test.YtagncoahobghpacSo
import Derived.Test.YtagncoahobghpacSpS
import Derived.Test.YtagncoahobghpacSlL
import Derived.Test.YtagncoahobghpacEnB
import Derived.Test.YtagncoahobghpacTy
namespace Go.Proofs.Ytagncoahobghpac
open Go Go.Conc Go.RowKit
set_option linter.unusedVariables false

theorem array80q (T : Array Value) (h : T.size = 80) : ∃ v0 v1 v2 v3 v4 v5 v6 v7 v8 v9 v10 v11 v12 v13 v14 v15 v16 v17 v18 v19 v20 v21 v22 v23 v24 v25 v26 v27 v28 v29 v30 v31 v32 v33 v34 v35 v36 v37 v38 v39 v40 v41 v42 v43 v44 v45 v46 v47 v48 v49 v50 v51 v52 v53 v54 v55 v56 v57 v58 v59 v60 v61 v62 v63 v64 v65 v66 v67 v68 v69 v70 v71 v72 v73 v74 v75 v76 v77 v78 v79 : Value, T = #[v0, v1, v2, v3, v4, v5, v6, v7, v8, v9, v10, v11, v12, v13, v14, v15, v16, v17, v18, v19, v20, v21, v22, v23, v24, v25, v26, v27, v28, v29, v30, v31, v32, v33, v34, v35, v36, v37, v38, v39, v40, v41, v42, v43, v44, v45, v46, v47, v48, v49, v50, v51, v52, v53, v54, v55, v56, v57, v58, v59, v60, v61, v62, v63, v64, v65, v66, v67, v68, v69, v70, v71, v72, v73, v74, v75, v76, v77, v78, v79] := by
  obtain ⟨l⟩ := T
  simp only [List.size_toArray] at h
  rcases l with _ | ⟨v0, l⟩
  · simp at h
  rcases l with _ | ⟨v1, l⟩
  · simp at h
  rcases l with _ | ⟨v2, l⟩
  · simp at h
  rcases l with _ | ⟨v3, l⟩
  · simp at h
  rcases l with _ | ⟨v4, l⟩
  · simp at h
  rcases l with _ | ⟨v5, l⟩
  · simp at h
  rcases l with _ | ⟨v6, l⟩
  · simp at h
  rcases l with _ | ⟨v7, l⟩
  · simp at h
  rcases l with _ | ⟨v8, l⟩
  · simp at h
  rcases l with _ | ⟨v9, l⟩
  · simp at h
  rcases l with _ | ⟨v10, l⟩
  · simp at h
  rcases l with _ | ⟨v11, l⟩
  · simp at h
  rcases l with _ | ⟨v12, l⟩
  · simp at h
  rcases l with _ | ⟨v13, l⟩
  · simp at h
  rcases l with _ | ⟨v14, l⟩
  · simp at h
  rcases l with _ | ⟨v15, l⟩
  · simp at h
  rcases l with _ | ⟨v16, l⟩
  · simp at h
  rcases l with _ | ⟨v17, l⟩
  · simp at h
  rcases l with _ | ⟨v18, l⟩
  · simp at h
  rcases l with _ | ⟨v19, l⟩
  · simp at h
  rcases l with _ | ⟨v20, l⟩
  · simp at h
  rcases l with _ | ⟨v21, l⟩
  · simp at h
  rcases l with _ | ⟨v22, l⟩
  · simp at h
  rcases l with _ | ⟨v23, l⟩
  · simp at h
  rcases l with _ | ⟨v24, l⟩
  · simp at h
  rcases l with _ | ⟨v25, l⟩
  · simp at h
  rcases l with _ | ⟨v26, l⟩
  · simp at h
  rcases l with _ | ⟨v27, l⟩
  · simp at h
  rcases l with _ | ⟨v28, l⟩
  · simp at h
  rcases l with _ | ⟨v29, l⟩
  · simp at h
  rcases l with _ | ⟨v30, l⟩
  · simp at h
  rcases l with _ | ⟨v31, l⟩
  · simp at h
  rcases l with _ | ⟨v32, l⟩
  · simp at h
  rcases l with _ | ⟨v33, l⟩
  · simp at h
  rcases l with _ | ⟨v34, l⟩
  · simp at h
  rcases l with _ | ⟨v35, l⟩
  · simp at h
  rcases l with _ | ⟨v36, l⟩
  · simp at h
  rcases l with _ | ⟨v37, l⟩
  · simp at h
  rcases l with _ | ⟨v38, l⟩
  · simp at h
  rcases l with _ | ⟨v39, l⟩
  · simp at h
  rcases l with _ | ⟨v40, l⟩
  · simp at h
  rcases l with _ | ⟨v41, l⟩
  · simp at h
  rcases l with _ | ⟨v42, l⟩
  · simp at h
  rcases l with _ | ⟨v43, l⟩
  · simp at h
  rcases l with _ | ⟨v44, l⟩
  · simp at h
  rcases l with _ | ⟨v45, l⟩
  · simp at h
  rcases l with _ | ⟨v46, l⟩
  · simp at h
  rcases l with _ | ⟨v47, l⟩
  · simp at h
  rcases l with _ | ⟨v48, l⟩
  · simp at h
  rcases l with _ | ⟨v49, l⟩
  · simp at h
  rcases l with _ | ⟨v50, l⟩
  · simp at h
  rcases l with _ | ⟨v51, l⟩
  · simp at h
  rcases l with _ | ⟨v52, l⟩
  · simp at h
  rcases l with _ | ⟨v53, l⟩
  · simp at h
  rcases l with _ | ⟨v54, l⟩
  · simp at h
  rcases l with _ | ⟨v55, l⟩
  · simp at h
  rcases l with _ | ⟨v56, l⟩
  · simp at h
  rcases l with _ | ⟨v57, l⟩
  · simp at h
  rcases l with _ | ⟨v58, l⟩
  · simp at h
  rcases l with _ | ⟨v59, l⟩
  · simp at h
  rcases l with _ | ⟨v60, l⟩
  · simp at h
  rcases l with _ | ⟨v61, l⟩
  · simp at h
  rcases l with _ | ⟨v62, l⟩
  · simp at h
  rcases l with _ | ⟨v63, l⟩
  · simp at h
  rcases l with _ | ⟨v64, l⟩
  · simp at h
  rcases l with _ | ⟨v65, l⟩
  · simp at h
  rcases l with _ | ⟨v66, l⟩
  · simp at h
  rcases l with _ | ⟨v67, l⟩
  · simp at h
  rcases l with _ | ⟨v68, l⟩
  · simp at h
  rcases l with _ | ⟨v69, l⟩
  · simp at h
  rcases l with _ | ⟨v70, l⟩
  · simp at h
  rcases l with _ | ⟨v71, l⟩
  · simp at h
  rcases l with _ | ⟨v72, l⟩
  · simp at h
  rcases l with _ | ⟨v73, l⟩
  · simp at h
  rcases l with _ | ⟨v74, l⟩
  · simp at h
  rcases l with _ | ⟨v75, l⟩
  · simp at h
  rcases l with _ | ⟨v76, l⟩
  · simp at h
  rcases l with _ | ⟨v77, l⟩
  · simp at h
  rcases l with _ | ⟨v78, l⟩
  · simp at h
  rcases l with _ | ⟨v79, l⟩
  · simp at h
  rcases l with _ | ⟨x, l⟩
  · exact ⟨v0, v1, v2, v3, v4, v5, v6, v7, v8, v9, v10, v11, v12, v13, v14, v15, v16, v17, v18, v19, v20, v21, v22, v23, v24, v25, v26, v27, v28, v29, v30, v31, v32, v33, v34, v35, v36, v37, v38, v39, v40, v41, v42, v43, v44, v45, v46, v47, v48, v49, v50, v51, v52, v53, v54, v55, v56, v57, v58, v59, v60, v61, v62, v63, v64, v65, v66, v67, v68, v69, v70, v71, v72, v73, v74, v75, v76, v77, v78, v79, rfl⟩
  · simp at h

theorem drawSelfOf_b (v : Value) (n : Nat) (w : World) (h : RdB w v n) : BCalls Try.prog 12 #[v] w (BDrew1 3 w) :=
  bcalls_of_calls noinit (callees [12, 22, 25, 23, 40, 24] (by kernel_rfl)) Try.func12 rfl (by kernel_rfl) (by kernel_rfl) (fun w r w' => BDrew1 3 w r w') (bdrew1_blind _)
    fun τ d => (drawSelfOf_any v n (reT w τ d) h).mono fun e w' ⟨u, xs, h1, h2⟩ => ⟨_, h1, xs, h2⟩

set_option maxRecDepth 100000 in
set_option maxHeartbeats 40000000 in
theorem lawSelfOf_b (v : Value) (n : Nat) (w : World) (h : RdB w v n) :
    BCalls Try.prog 4 #[v] w (BSays true w) := by
  intro cs
  have h0 := h
  obtain ⟨ca, cap, hv, h2, -, -⟩ := h0
  rw [enter_at _ Try.func4 rfl]
  simp only [Try.f4, List.size_toArray, List.length_cons, List.length_nil, Nat.reduceAdd, Nat.reduceSub, Array.replicate_succ, Array.replicate_zero, List.push_toArray, List.append_toArray, List.nil_append, List.cons_append]
  have hF : Sm w w := Sm.refl w
  subst hv
  by_cases hb1 : n ≤ 1048576
  · have i1 : ¬ ((1048576 : Int) < (n : Int)) := by omega
    have bb := Below.refl w.heap.size w
    refine beside_by (n := 400) ?_
    repeat (first | a_ctl hF Sm.trans D0.nil | (refine Goes.step rfl (fun _ h₁ => ?_); replace hF := Sm.trans hF h₁; clear h₁; refine goes_oper_k rfl rfl (by decide) (fun K hK => ?_); go_simp; refine hK _ _ ⟨still_listed rfl, ?_⟩; clear hK K) | (refine Goes.step rfl (fun _ h₁ => ?_); rw [stepG_unwanted rfl rfl]; simp only [goes_go]; refine ⟨D0.nil, ?_⟩; replace hF := Sm.trans hF h₁; clear h₁; walk_nrm))
    a_cond false hF Sm.trans D0.nil
    refine Goes.stop fun w₁ h₁ => ?_
    replace hF := Sm.trans hF h₁
    clear h₁
    refine beside_by (n := 400) ?_
    repeat (first | a_ctl hF Sm.trans D0.nil | (refine Goes.step rfl (fun _ h₁ => ?_); replace hF := Sm.trans hF h₁; clear h₁; refine goes_oper_k rfl rfl (by decide) (fun K hK => ?_); go_simp; refine hK _ _ ⟨still_listed rfl, ?_⟩; clear hK K) | (refine Goes.step rfl (fun _ h₁ => ?_); rw [stepG_unwanted rfl rfl]; simp only [goes_go]; refine ⟨D0.nil, ?_⟩; replace hF := Sm.trans hF h₁; clear h₁; walk_nrm))
    refine Goes.stop fun w₁ h₁ => ?_
    replace hF := Sm.trans hF h₁
    clear h₁
    refine beside_call rfl rfl (by decide) rfl Try.func12 rfl rfl (by kernel_rfl) (show _ = (#[.slice ca n cap] : Array Value) from by walk_nrm) (fun d => bdrew1_sm (hF.trans ⟨d, rfl⟩) (drawSelfOf_b _ n _ (h.sm (hF.trans ⟨d, rfl⟩)))) ?_
    rintro u1 w1 ⟨xs, oa, hl1, hw1, b1⟩
    clear hF
    have bb := b1
    have ra := oa.rd
    clear oa hw1 b1 h
    have hm1 := Own.max64 hl1
    have hx1 : xs.length ≤ 1048576 := by omega
    obtain ⟨a1, c1, hv1, -⟩ := id ra
    subst hv1
    obtain ⟨zs, hz⟩ : ∃ zs, zs = selF xs := ⟨_, rfl⟩
    have HY := Lib.hid hz
    have hzl : zs.length ≤ 1048576 := by rw [hz]; exact selF_len xs hx1
    have hzm : zs.length ≤ maxLen := by unfold maxLen; omega
    clear hz
    have hF := Sm.refl w1
    walk_nrm
    refine beside_by (n := 400) ?_
    repeat (first | a_ctl hF Sm.trans D0.nil | (refine Goes.step rfl (fun _ h₁ => ?_); replace hF := Sm.trans hF h₁; clear h₁; refine goes_oper_k rfl rfl (by decide) (fun K hK => ?_); go_simp; refine hK _ _ ⟨still_listed rfl, ?_⟩; clear hK K) | (refine Goes.step rfl (fun _ h₁ => ?_); rw [stepG_unwanted rfl rfl]; simp only [goes_go]; refine ⟨D0.nil, ?_⟩; replace hF := Sm.trans hF h₁; clear h₁; walk_nrm))
    refine Goes.stop fun w₁ h₁ => ?_
    replace hF := Sm.trans hF h₁
    clear h₁
    refine beside_call rfl rfl (by decide) rfl Try.func13 rfl rfl (by kernel_rfl) (show _ = (#[.slice a1 xs.length c1] : Array Value) from by walk_nrm) (fun d => bmadeO_sm (hF.trans ⟨d, rfl⟩) (implSelfOf_b _ xs _ (ra.sm (hF.trans ⟨d, rfl⟩)) hx1)) ?_
    rintro v1 w2 ⟨ov1, b2⟩
    clear hF
    have ra := ra.below b2 (Nat.le_refl _)
    have bb := bel_nxt bb b2
    have rv1 := ov1.rd
    clear ov1
    have hF := Sm.refl w2
    walk_nrm
    rw [← HY.out] at rv1
    obtain ⟨a2, c2, hv2, -⟩ := id rv1
    subst hv2
    refine beside_by (n := 400) ?_
    repeat (first | a_ctl hF Sm.trans D0.nil | (refine Goes.step rfl (fun _ h₁ => ?_); replace hF := Sm.trans hF h₁; clear h₁; refine goes_oper_k rfl rfl (by decide) (fun K hK => ?_); go_simp; refine hK _ _ ⟨still_listed rfl, ?_⟩; clear hK K) | (refine Goes.step rfl (fun _ h₁ => ?_); rw [stepG_unwanted rfl rfl]; simp only [goes_go]; refine ⟨D0.nil, ?_⟩; replace hF := Sm.trans hF h₁; clear h₁; walk_nrm))
    refine Goes.stop fun w₁ h₁ => ?_
    replace hF := Sm.trans hF h₁
    clear h₁
    refine beside_call rfl rfl (by decide) rfl Try.func14 rfl rfl (by kernel_rfl) (show _ = (#[.slice a1 xs.length c1] : Array Value) from by walk_nrm) (fun d => bmade_sm (hF.trans ⟨d, rfl⟩) (specSelfOf_b _ xs _ (ra.sm (hF.trans ⟨d, rfl⟩)) hm1)) ?_
    rintro v2 w3 ⟨ov2, b3⟩
    clear hF
    have ra := ra.below b3 (Nat.le_refl _)
    have rv1 := rv1.below b3 (Nat.le_refl _)
    have bb := bel_nxt bb b3
    have rv2 := ov2.rd
    clear ov2
    have hF := Sm.refl w3
    walk_nrm
    rw [← HY.out] at rv2
    refine beside_by (n := 400) ?_
    repeat (first | a_ctl hF Sm.trans D0.nil | (refine Goes.step rfl (fun _ h₁ => ?_); replace hF := Sm.trans hF h₁; clear h₁; refine goes_oper_k rfl rfl (by decide) (fun K hK => ?_); go_simp; refine hK _ _ ⟨still_listed rfl, ?_⟩; clear hK K) | (refine Goes.step rfl (fun _ h₁ => ?_); rw [stepG_unwanted rfl rfl]; simp only [goes_go]; refine ⟨D0.nil, ?_⟩; replace hF := Sm.trans hF h₁; clear h₁; walk_nrm))
    refine Goes.stop fun w₁ h₁ => ?_
    replace hF := Sm.trans hF h₁
    clear h₁
    refine beside_call rfl rfl (by decide) rfl Try.func9 rfl rfl (by kernel_rfl) (show _ = (#[.slice a2 zs.length c2, v2] : Array Value) from by walk_nrm) (fun d => bsays_sm (hF.trans ⟨d, rfl⟩) (equalInts_b _ _ zs zs _ (rv1.sm (hF.trans ⟨d, rfl⟩)) (rv2.sm (hF.trans ⟨d, rfl⟩)) hzm hzm)) ?_
    rintro r w4 ⟨rfl, b4⟩
    clear hF
    have ra := ra.below b4 (Nat.le_refl _)
    have rv1 := rv1.below b4 (Nat.le_refl _)
    have rv2 := rv2.below b4 (Nat.le_refl _)
    have bb := bel_nxt bb b4
    have hF := Sm.refl w4
    walk_nrm
    rw [eqB_self]
    by_cases hz0 : zs.length = 0
    · rw [hz0] at rv1
      rw [hz0]
      clear hz0 hzl
      refine beside_by (n := 400) ?_
      repeat (first | a_ctl hF Sm.trans D0.nil | (refine Goes.step rfl (fun _ h₁ => ?_); replace hF := Sm.trans hF h₁; clear h₁; refine goes_oper_k rfl rfl (by decide) (fun K hK => ?_); go_simp; refine hK _ _ ⟨still_listed rfl, ?_⟩; clear hK K) | (refine Goes.step rfl (fun _ h₁ => ?_); rw [stepG_unwanted rfl rfl]; simp only [goes_go]; refine ⟨D0.nil, ?_⟩; replace hF := Sm.trans hF h₁; clear h₁; walk_nrm))
      a_cond true hF Sm.trans D0.nil
      refine Goes.stop fun w₁ h₁ => ?_
      replace hF := Sm.trans hF h₁
      clear h₁
      refine beside_by (n := 400) ?_
      repeat (first | a_ctl hF Sm.trans D0.nil | (refine Goes.step rfl (fun _ h₁ => ?_); replace hF := Sm.trans hF h₁; clear h₁; refine goes_oper_k rfl rfl (by decide) (fun K hK => ?_); go_simp; refine hK _ _ ⟨still_listed rfl, ?_⟩; clear hK K) | (refine Goes.step rfl (fun _ h₁ => ?_); rw [stepG_unwanted rfl rfl]; simp only [goes_go]; refine ⟨D0.nil, ?_⟩; replace hF := Sm.trans hF h₁; clear h₁; walk_nrm))
      refine Goes.stop fun w₁ h₁ => ?_
      replace hF := Sm.trans hF h₁
      clear h₁
      refine beside_call rfl rfl (by decide) rfl Try.func14 rfl rfl (by kernel_rfl) (show _ = (#[.slice a1 xs.length c1] : Array Value) from by walk_nrm) (fun d => bmade_sm (hF.trans ⟨d, rfl⟩) (specSelfOf_b _ xs _ (ra.sm (hF.trans ⟨d, rfl⟩)) hm1)) ?_
      rintro v3 w5 ⟨ov3, b5⟩
      clear hF
      have ra := ra.below b5 (Nat.le_refl _)
      have rv1 := rv1.below b5 (Nat.le_refl _)
      have rv2 := rv2.below b5 (Nat.le_refl _)
      have bb := bel_nxt bb b5
      have rv3 := ov3.rd
      clear ov3
      have hF := Sm.refl w5
      walk_nrm
      rw [← HY.out] at rv3
      refine beside_by (n := 400) ?_
      repeat (first | a_ctl hF Sm.trans D0.nil | (refine Goes.step rfl (fun _ h₁ => ?_); replace hF := Sm.trans hF h₁; clear h₁; refine goes_oper_k rfl rfl (by decide) (fun K hK => ?_); go_simp; refine hK _ _ ⟨still_listed rfl, ?_⟩; clear hK K) | (refine Goes.step rfl (fun _ h₁ => ?_); rw [stepG_unwanted rfl rfl]; simp only [goes_go]; refine ⟨D0.nil, ?_⟩; replace hF := Sm.trans hF h₁; clear h₁; walk_nrm))
      refine Goes.stop fun w₁ h₁ => ?_
      replace hF := Sm.trans hF h₁
      clear h₁
      refine beside_call rfl rfl (by decide) rfl Try.func9 rfl rfl (by kernel_rfl) (show _ = (#[.slice a2 0 c2, v3] : Array Value) from by walk_nrm) (fun d => bsays_sm (hF.trans ⟨d, rfl⟩) (equalInts_b _ _ zs zs _ (rv1.sm (hF.trans ⟨d, rfl⟩)) (rv3.sm (hF.trans ⟨d, rfl⟩)) hzm hzm)) ?_
      rintro r w6 ⟨rfl, b6⟩
      clear hF
      have ra := ra.below b6 (Nat.le_refl _)
      have rv1 := rv1.below b6 (Nat.le_refl _)
      have rv2 := rv2.below b6 (Nat.le_refl _)
      have rv3 := rv3.below b6 (Nat.le_refl _)
      have bb := bel_nxt bb b6
      have hF := Sm.refl w6
      walk_nrm
      rw [eqB_self]
      refine beside_by (n := 400) ?_
      repeat (first | a_ctl hF Sm.trans D0.nil | (refine Goes.step rfl (fun _ h₁ => ?_); replace hF := Sm.trans hF h₁; clear h₁; refine goes_oper_k rfl rfl (by decide) (fun K hK => ?_); go_simp; refine hK _ _ ⟨still_listed rfl, ?_⟩; clear hK K) | (refine Goes.step rfl (fun _ h₁ => ?_); rw [stepG_unwanted rfl rfl]; simp only [goes_go]; refine ⟨D0.nil, ?_⟩; replace hF := Sm.trans hF h₁; clear h₁; walk_nrm))
      refine Goes.step rfl (fun _ h₁ => ?_)
      rw [stepG_ret']
      simp only [goes_go]
      refine ⟨D0.nil, ?_⟩
      refine Goes.stop fun w₁ h₂ => .at0 fun d => ?_
      have hF := (Sm.trans hF h₁).trans (h₂.trans ⟨d, rfl⟩)
      exact leave1 Try.func4 rfl (R := BSays true w) ⟨rfl, bb.sm hF⟩
    · have i5 : ((zs.length : Int) == 0) = false := by rw [beq_eq_false_iff_ne]; omega
      refine beside_by (n := 400) ?_
      repeat (first | a_ctl hF Sm.trans D0.nil | (refine Goes.step rfl (fun _ h₁ => ?_); replace hF := Sm.trans hF h₁; clear h₁; refine goes_oper_k rfl rfl (by decide) (fun K hK => ?_); go_simp; refine hK _ _ ⟨still_listed rfl, ?_⟩; clear hK K) | (refine Goes.step rfl (fun _ h₁ => ?_); rw [stepG_unwanted rfl rfl]; simp only [goes_go]; refine ⟨D0.nil, ?_⟩; replace hF := Sm.trans hF h₁; clear h₁; walk_nrm))
      a_cond false hF Sm.trans D0.nil
      refine Goes.stop fun w₁ h₁ => ?_
      replace hF := Sm.trans hF h₁
      clear h₁
      refine beside_by (n := 400) ?_
      a_ctl hF Sm.trans D0.nil
      a_ctl hF Sm.trans D0.nil
      refine Goes.stop fun w₁ h₁ => ?_
      replace hF := Sm.trans hF h₁
      clear h₁
      obtain ⟨hv0, he0, hlen0⟩ := sf_some (xs := xs) (by rw [← HY.out]; exact hz0)
      have hn1 : zs.length = xs.length := by rw [HY.out, hlen0]
      have hzs : zs = selL xs := by rw [HY.out, he0]
      have HRG := Lib.hid fun d (hd : d < zs.length) => show ix zs d ≤ ix zs 0 ∧ -(ix zs 0) ≤ ix zs d ∧ 0 ≤ ix zs 0 ∧ ix zs 0 ≤ 16000000 from by
        rw [hzs]; exact sf_range hv0 (by rw [← hn1]; exact hd)
      have HEN : Hid (energyF xs = ix zs 0) := Lib.hid (by rw [hzs]; exact sf_energy hv0 (by omega))
      have HTT : Hid (2 * sumN (ix zs) zs.length - ix zs 0 = sumN (ix xs) xs.length * sumN (ix xs) xs.length) := Lib.hid (by rw [hn1, hzs]; exact sf_total hv0 (by omega))
      obtain ⟨bz, oz, haz, hbz, hcz⟩ : ∃ b off, a2 = some ⟨b, off, none⟩ ∧ b < w4.heap.size ∧ ∀ j, j < zs.length → w4.cell? ⟨b, off + j, none⟩ = some (.int .i64 (ix zs j)) := by
        obtain ⟨a', c', e, h⟩ := id rv1
        simp only [Value.slice.injEq] at e
        obtain ⟨rfl, -, -⟩ := e
        rcases h with h | h
        · rw [h] at hz0; exact absurd rfl hz0
        · exact h
      subst haz
      have HCZ := Lib.hid hcz
      obtain ⟨n1, hN1⟩ : ∃ n1, n1 = zs.length := ⟨_, rfl⟩
      have HN := Lib.hid hN1
      have hpos : 0 < n1 := by omega
      clear hv0 he0 hlen0 hzs hcz hn1
      refine beside_piece noinit (okFns_none _) (by kernel_rfl) ⟨_, Try.func4, by kernel_rfl⟩ rfl rfl (fun w p w' => p.2.defers = [] ∧ Below w.heap.size w w' ∧ p.1 = .normal ∧ p.2.tmps.size = 80 ∧ p.2.tmps[3]? = some (.slice a1 xs.length c1) ∧ p.2.tmps[4]? = some (.slice (some ⟨bz, oz, none⟩) zs.length c2)) ?_ (fun τ d => ?_) (fun a' w' hc => ?_) (fun a' w' todo hc => ?_)
      · rintro p w w1 τ d τ' d' d2 ⟨h1, h2, h3⟩
        exact ⟨h1, below_blind h2, h3⟩
      · obtain ⟨d0, rfl⟩ := hF
        have HC := Lib.hid fun j (hj : j < zs.length) => show (reT (w4.at d0) τ d).cell? ⟨bz, oz + j, none⟩ = some (.int .i64 (ix zs j)) from HCZ.out j hj
        have HC0 := HC.out 0 (by omega)
        rw [Nat.add_zero] at HC0
        have HB0 : bz < (reT (w4.at d0) τ d).heap.size := hbz
        generalize reT (w4.at d0) τ d = w0 at HC HC0 HB0 ⊢
        obtain ⟨z0, hz0e⟩ : ∃ z0, ix zs 0 = z0 := ⟨_, rfl⟩
        rw [hz0e] at HRG HC0
        rw [← hN1] at hz0 hzl hzm ⊢
        have HRG' := Lib.hid fun d (hd : d < n1) => HRG.out d (by rw [← hN1]; exact hd)
        have HC' := Lib.hid fun d (hd : d < n1) => HC.out d (by rw [← hN1]; exact hd)
        have hr0 := (HRG'.out 0 hpos).2.2
        clear bb ra rv1 rv2 HRG HC HEN HTT hN1 HCZ HY hz0e hz0 i5 HN
        go_wp2
        go_loopw [5] (fun i wr => ∃ k : Nat, 1 ≤ k ∧ k ≤ n1 ∧ i = .int .i64 k ∧ Below w0.heap.size w0 wr) (fun i _ => n1 - (intOf i).toNat)
        case atStart => exact ⟨1, Nat.le_refl _, hpos, rfl, Below.refl _ _⟩
        case round =>
          obtain ⟨k, hk1, hk, rfl, hB⟩ := hrel
          by_cases hlt : k < n1
          · have d1 := (hB.cell (p := ⟨bz, oz + k, none⟩) HB0).trans (HC'.out k hlt)
            have d0 := (hB.cell (p := ⟨bz, oz, none⟩) HB0).trans HC0
            have hr := HRG'.out k hlt
            obtain ⟨z, hzz⟩ : ∃ z, ix zs k = z := ⟨_, rfl⟩
            rw [hzz] at d1 hr
            have k0 : (k : Int) < (n1 : Int) := by omega
            have k2 : (0 : Int) < (n1 : Int) := by omega
            have g1 : decide (z0 < z) = false := by simp; omega
            have g2 : IntKind.i64.wrap (-z0) = -z0 := IntWalk.i64_in _ (by omega)
            have g3 : decide (z < -z0) = false := by simp; omega
            have g4 : ¬ z0 < z := by omega
            have g5 : ¬ z < -z0 := by omega
            have HB := Lib.hid hB
            have HK := Lib.hid (show 1 ≤ k + 1 ∧ k + 1 ≤ n1 by omega)
            have HM := Lib.hid (show n1 - (k + 1) < n1 - k by omega)
            clear hzz hr hr0 hB HC' HRG' HC0 hk1 hk
            go_wp2
            go_quiet (fail)
            go_wp2
            go_roundw
            case rel => exact ⟨k + 1, HK.out.1, HK.out.2, by go_num, below_drewN HB.out _⟩
            case measure => simp [intOf]; omega
          · obtain rfl : k = n1 := by omega
            go_wp2
      · obtain ⟨h1, h2, -, hT, t3, t4⟩ := hc
        obtain ⟨T, D⟩ := a'
        obtain rfl : D = [] := h1
        replace hT : T.size = 80 := hT
        replace t3 : T[3]? = some (.slice a1 xs.length c1) := t3
        replace t4 : T[4]? = some (.slice (some ⟨bz, oz, none⟩) zs.length c2) := t4
        obtain ⟨v0, v1, v2, v3, v4, v5, v6, v7, v8, v9, v10, v11, v12, v13, v14, v15, v16, v17, v18, v19, v20, v21, v22, v23, v24, v25, v26, v27, v28, v29, v30, v31, v32, v33, v34, v35, v36, v37, v38, v39, v40, v41, v42, v43, v44, v45, v46, v47, v48, v49, v50, v51, v52, v53, v54, v55, v56, v57, v58, v59, v60, v61, v62, v63, v64, v65, v66, v67, v68, v69, v70, v71, v72, v73, v74, v75, v76, v77, v78, v79, rfl⟩ := array80q T hT
        simp only [List.getElem?_toArray, List.getElem?_cons_succ, List.getElem?_cons_zero, Option.some.injEq] at t3 t4
        subst t3 t4
        have bb := bel_nxt (bb.sm hF) h2
        have hW : Below w4.heap.size w4 w' := by
          obtain ⟨d0, rfl⟩ := hF
          exact ⟨h2.os, h2.tape, h2.output, h2.size, h2.block⟩
        have ra := ra.below hW (Nat.le_refl _)
        have rv1 := rv1.below hW (Nat.le_refl _)
        have hb5 : bz < w'.heap.size := Nat.lt_of_lt_of_le hbz hW.size
        have hc5 : w'.cell? ⟨bz, oz, none⟩ = some (.int .i64 (ix zs 0)) := (hW.cell (p := ⟨bz, oz, none⟩) hbz).trans (HCZ.out 0 (by omega))
        obtain ⟨z0, hz0e⟩ : ∃ z0, ix zs 0 = z0 := ⟨_, rfl⟩
        rw [hz0e] at HEN HTT hc5
        obtain ⟨p, hp⟩ : ∃ p, p = wrap64 (sumN (ix zs) zs.length) := ⟨_, rfl⟩
        obtain ⟨q, hq⟩ : ∃ q, q = wrap64 (sumN (ix xs) xs.length) := ⟨_, rfl⟩
        obtain ⟨p2, hp2⟩ : ∃ p2, p2 = wrap64 (2 * p) := ⟨_, rfl⟩
        obtain ⟨p3, hp3⟩ : ∃ p3, p3 = wrap64 (p2 - z0) := ⟨_, rfl⟩
        have j1 : IntKind.i64.wrap (2 * p) = p2 := by rw [hp2, IntKind.wrap_i64]; unfold wrap64; rfl
        have j2 : IntKind.i64.wrap (p2 - z0) = p3 := by rw [hp3, IntKind.wrap_i64]; unfold wrap64; rfl
        have j3 : IntKind.i64.wrap (q * q) = p3 := by
          have e1 : p3 = wrap64 (2 * sumN (ix zs) zs.length - z0) := by rw [hp3, hp2, hp]; unfold wrap64; omega
          rw [e1, HTT.out, hq, IntKind.wrap_i64]
          have e2 := Int.mul_emod (wrap64 (sumN (ix xs) xs.length)) (wrap64 (sumN (ix xs) xs.length)) 18446744073709551616
          have e3 : wrap64 (sumN (ix xs) xs.length) % 18446744073709551616 = sumN (ix xs) xs.length % 18446744073709551616 := by unfold wrap64; omega
          rw [e3, ← Int.mul_emod] at e2
          generalize wrap64 (sumN (ix xs) xs.length) * wrap64 (sumN (ix xs) xs.length) = y at e2 ⊢
          generalize sumN (ix xs) xs.length * sumN (ix xs) xs.length = z at e2 ⊢
          unfold wrap64
          omega
        have HP := Lib.hid hp
        have HQ := Lib.hid hq
        have k2 : (0 : Int) < (zs.length : Int) := by omega
        have k3 : 0 < zs.length := by omega
        have HST : Hid (selF (turnedL xs) = zs) := Lib.hid (by rw [sf_turned, HY.out])
        have ht1 : (turnedL xs).length ≤ 1048576 := by rw [len_turned5]; exact hx1
        clear hF h2 hT hW rv2 HCZ HRG hN1 hz0 i5 hpos hz0e hp hq hp2 hp3 HTT HN
        have hF := Sm.refl w'
        refine beside_by (n := 400) ?_
        a_ctl hF Sm.trans D0.nil
        refine Goes.stop fun w₁ h₁ => ?_
        replace hF := Sm.trans hF h₁
        clear h₁
        refine beside_region (S := fun W => Below w'.heap.size w' W) (Q := fun a' W => a'.defers = [] ∧ a'.tmps.getD 2 undef = .bool true ∧ Below w.heap.size w W) (by kernel_rfl) (by decide) (fun dR => ?_) (fun a' W hq => ?_)
        · have hSm : Sm w' (w₁.at dR) := hF.trans ⟨dR, rfl⟩
          generalize w₁.at dR = W0 at hSm ⊢
          have ra := ra.sm hSm
          have rv1 := rv1.sm hSm
          have hs : Below w'.heap.size w' W0 := (Below.refl w'.heap.size w').sm hSm
          clear hF hSm
          refine anyB_take 0 _ (.slice a1 xs.length c1) (fun _ _ h => Below.sm h ⟨_, rfl⟩) rfl (by kernel_rfl) (by kernel_rfl) (by kernel_rfl) (.inl ⟨by rfl, fun W' hS' => ⟨run_eq_of (by intro K hK; go_simp; exact hK), still_listed rfl⟩⟩) hs ?_
          walk_nrm
          refine anyB_take 3 _ (.slice (some ⟨bz, oz, none⟩) zs.length c2) (fun _ _ h => Below.sm h ⟨_, rfl⟩) rfl (by kernel_rfl) (by kernel_rfl) (by kernel_rfl) (.inl ⟨by rfl, fun W' hS' => ⟨run_eq_of (by intro K hK; go_simp; exact hK), still_listed rfl⟩⟩) hs ?_
          walk_nrm
          refine anyB_call 1 _ (by kernel_rfl) rfl (by rfl) rfl Try.func15 rfl rfl (by kernel_rfl) (show _ = (#[.slice a1 xs.length c1] : Array Value) from by walk_nrm) (fun d => bmade_sm ⟨d, rfl⟩ (turned_b _ xs _ (ra.sm ⟨d, rfl⟩) hx1)) ?_
          rintro t1 W1 ⟨ot1, b1⟩
          have hs := bel_nxt hs b1
          have ra := ra.below b1 (Nat.le_refl _)
          have rv1 := rv1.below b1 (Nat.le_refl _)
          have rt1 := ot1.rd
          refine ⟨hs, ?_⟩
          walk_nrm
          refine anyB_call 2 _ (by kernel_rfl) rfl (by rfl) rfl Try.func13 rfl rfl (by kernel_rfl) (show _ = (#[t1] : Array Value) from by walk_nrm) (fun d => bmadeO_sm ⟨d, rfl⟩ (implSelfOf_b _ (turnedL xs) _ (rt1.sm ⟨d, rfl⟩) ht1)) ?_
          rintro t2 W2 ⟨ot2, b2⟩
          have hs := bel_nxt hs b2
          have ra := ra.below b2 (Nat.le_refl _)
          have rv1 := rv1.below b2 (Nat.le_refl _)
          have rt1 := rt1.below b2 (Nat.le_refl _)
          have rt2 := ot2.rd
          rw [HST.out] at rt2
          refine ⟨hs, ?_⟩
          walk_nrm
          refine anyB_call 4 _ (by kernel_rfl) rfl (by rfl) rfl Try.func9 rfl rfl (by kernel_rfl) (show _ = (#[t2, .slice (some ⟨bz, oz, none⟩) zs.length c2] : Array Value) from by walk_nrm) (fun d => bsays_sm ⟨d, rfl⟩ (equalInts_b _ _ zs zs _ (rt2.sm ⟨d, rfl⟩) (rv1.sm ⟨d, rfl⟩) hzm hzm)) ?_
          rintro r W3 ⟨rfl, b3⟩
          have hs := bel_nxt hs b3
          have ra := ra.below b3 (Nat.le_refl _)
          have rv1 := rv1.below b3 (Nat.le_refl _)
          have rt1 := rt1.below b3 (Nat.le_refl _)
          have rt2 := rt2.below b3 (Nat.le_refl _)
          rw [eqB_self]
          refine ⟨hs, ?_⟩
          walk_nrm
          refine anyB_take 5 _ (.bool true) (fun _ _ h => Below.sm h ⟨_, rfl⟩) rfl (by kernel_rfl) (by kernel_rfl) (by kernel_rfl) (.inl ⟨by rfl, fun W' hS' => ⟨run_eq_of (by intro K hK; go_simp; exact hK), still_listed rfl⟩⟩) hs ?_
          walk_nrm
          refine anyB_take 6 _ (.slice (some ⟨bz, oz, none⟩) zs.length c2) (fun _ _ h => Below.sm h ⟨_, rfl⟩) rfl (by kernel_rfl) (by kernel_rfl) (by kernel_rfl) (.inl ⟨by rfl, fun W' hS' => ⟨run_eq_of (by intro K hK; go_simp; exact hK), still_listed rfl⟩⟩) hs ?_
          walk_nrm
          refine anyB_take 7 _ (.pointer (some ⟨bz, oz, none⟩)) (fun _ _ h => Below.sm h ⟨_, rfl⟩) rfl (by kernel_rfl) (by kernel_rfl) (by kernel_rfl) (.inl ⟨by rfl, fun W' hS' => ⟨run_eq_of (by intro K hK; go_simp; exact hK), still_listed rfl⟩⟩) hs ?_
          walk_nrm
          refine anyB_take 8 _ (.int .i64 z0) (fun _ _ h => Below.sm h ⟨_, rfl⟩) rfl (by kernel_rfl) (by kernel_rfl) (by kernel_rfl) (.inl ⟨by rfl, fun W' hS' => ⟨run_eq_of (by intro K hK; have c := (Below.cell (p := ⟨bz, oz, none⟩) hS' hb5).trans hc5; go_simp; exact hK), still_listed rfl⟩⟩) hs ?_
          walk_nrm
          refine anyB_take 9 _ (.slice a1 xs.length c1) (fun _ _ h => Below.sm h ⟨_, rfl⟩) rfl (by kernel_rfl) (by kernel_rfl) (by kernel_rfl) (.inl ⟨by rfl, fun W' hS' => ⟨run_eq_of (by intro K hK; go_simp; exact hK), still_listed rfl⟩⟩) hs ?_
          walk_nrm
          refine anyB_call 10 _ (by kernel_rfl) rfl (by rfl) rfl Try.func16 rfl rfl (by kernel_rfl) (show _ = (#[.slice a1 xs.length c1] : Array Value) from by walk_nrm) (fun d => btells_sm ⟨d, rfl⟩ (implEnergyOf_b _ xs _ (ra.sm ⟨d, rfl⟩) hm1)) ?_
          rintro r W4 ⟨rfl, b4⟩
          have hs := bel_nxt hs b4
          have ra := ra.below b4 (Nat.le_refl _)
          have rv1 := rv1.below b4 (Nat.le_refl _)
          have rt1 := rt1.below b4 (Nat.le_refl _)
          have rt2 := rt2.below b4 (Nat.le_refl _)
          rw [HEN.out]
          refine ⟨hs, ?_⟩
          walk_nrm
          refine anyB_take 11 _ (.bool true) (fun _ _ h => Below.sm h ⟨_, rfl⟩) rfl (by kernel_rfl) (by kernel_rfl) (by kernel_rfl) (.inl ⟨by rfl, fun W' hS' => ⟨run_eq_of (by intro K hK; go_simp; exact hK), still_listed rfl⟩⟩) hs ?_
          walk_nrm
          refine anyB_take 12 _ (.bool true) (fun _ _ h => Below.sm h ⟨_, rfl⟩) rfl (by kernel_rfl) (by kernel_rfl) (by kernel_rfl) (.inl ⟨by rfl, fun W' hS' => ⟨run_eq_of (by intro K hK; go_simp; exact hK), still_listed rfl⟩⟩) hs ?_
          walk_nrm
          refine anyB_take 13 _ (.bool true) (fun _ _ h => Below.sm h ⟨_, rfl⟩) rfl (by kernel_rfl) (by kernel_rfl) (by kernel_rfl) (.inl ⟨by rfl, fun W' hS' => ⟨run_eq_of (by intro K hK; go_simp; exact hK), still_listed rfl⟩⟩) hs ?_
          walk_nrm
          refine anyB_take 14 _ (.slice (some ⟨bz, oz, none⟩) zs.length c2) (fun _ _ h => Below.sm h ⟨_, rfl⟩) rfl (by kernel_rfl) (by kernel_rfl) (by kernel_rfl) (.inl ⟨by rfl, fun W' hS' => ⟨run_eq_of (by intro K hK; go_simp; exact hK), still_listed rfl⟩⟩) hs ?_
          walk_nrm
          refine anyB_take 17 _ (.slice (some ⟨bz, oz, none⟩) zs.length c2) (fun _ _ h => Below.sm h ⟨_, rfl⟩) rfl (by kernel_rfl) (by kernel_rfl) (by kernel_rfl) (.inl ⟨by rfl, fun W' hS' => ⟨run_eq_of (by intro K hK; go_simp; exact hK), still_listed rfl⟩⟩) hs ?_
          walk_nrm
          refine anyB_take 18 _ (.pointer (some ⟨bz, oz, none⟩)) (fun _ _ h => Below.sm h ⟨_, rfl⟩) rfl (by kernel_rfl) (by kernel_rfl) (by kernel_rfl) (.inl ⟨by rfl, fun W' hS' => ⟨run_eq_of (by intro K hK; go_simp; exact hK), still_listed rfl⟩⟩) hs ?_
          walk_nrm
          refine anyB_take 19 _ (.int .i64 z0) (fun _ _ h => Below.sm h ⟨_, rfl⟩) rfl (by kernel_rfl) (by kernel_rfl) (by kernel_rfl) (.inl ⟨by rfl, fun W' hS' => ⟨run_eq_of (by intro K hK; have c := (Below.cell (p := ⟨bz, oz, none⟩) hS' hb5).trans hc5; go_simp; exact hK), still_listed rfl⟩⟩) hs ?_
          walk_nrm
          refine anyB_take 21 _ (.slice a1 xs.length c1) (fun _ _ h => Below.sm h ⟨_, rfl⟩) rfl (by kernel_rfl) (by kernel_rfl) (by kernel_rfl) (.inl ⟨by rfl, fun W' hS' => ⟨run_eq_of (by intro K hK; go_simp; exact hK), still_listed rfl⟩⟩) hs ?_
          walk_nrm
          refine anyB_take 23 _ (.slice a1 xs.length c1) (fun _ _ h => Below.sm h ⟨_, rfl⟩) rfl (by kernel_rfl) (by kernel_rfl) (by kernel_rfl) (.inl ⟨by rfl, fun W' hS' => ⟨run_eq_of (by intro K hK; go_simp; exact hK), still_listed rfl⟩⟩) hs ?_
          walk_nrm
          refine anyB_call 15 _ (by kernel_rfl) rfl (by rfl) rfl Try.func17 rfl rfl (by kernel_rfl) (show _ = (#[.slice (some ⟨bz, oz, none⟩) zs.length c2] : Array Value) from by walk_nrm) (fun d => btells_sm ⟨d, rfl⟩ (total_b _ zs _ (rv1.sm ⟨d, rfl⟩) hzl)) ?_
          rintro r W5 ⟨rfl, b5⟩
          have hs := bel_nxt hs b5
          have ra := ra.below b5 (Nat.le_refl _)
          have rv1 := rv1.below b5 (Nat.le_refl _)
          have rt1 := rt1.below b5 (Nat.le_refl _)
          have rt2 := rt2.below b5 (Nat.le_refl _)
          rw [← HP.out]
          refine ⟨hs, ?_⟩
          walk_nrm
          refine anyB_take 16 _ (.int .i64 p2) (fun _ _ h => Below.sm h ⟨_, rfl⟩) rfl (by kernel_rfl) (by kernel_rfl) (by kernel_rfl) (.inl ⟨by rfl, fun W' hS' => ⟨run_eq_of (by intro K hK; go_simp; exact hK), still_listed rfl⟩⟩) hs ?_
          walk_nrm
          refine anyB_take 20 _ (.int .i64 p3) (fun _ _ h => Below.sm h ⟨_, rfl⟩) rfl (by kernel_rfl) (by kernel_rfl) (by kernel_rfl) (.inl ⟨by rfl, fun W' hS' => ⟨run_eq_of (by intro K hK; go_simp; exact hK), still_listed rfl⟩⟩) hs ?_
          walk_nrm
          refine anyB_call 22 _ (by kernel_rfl) rfl (by rfl) rfl Try.func17 rfl rfl (by kernel_rfl) (show _ = (#[.slice a1 xs.length c1] : Array Value) from by walk_nrm) (fun d => btells_sm ⟨d, rfl⟩ (total_b _ xs _ (ra.sm ⟨d, rfl⟩) hx1)) ?_
          rintro r W6 ⟨rfl, b6⟩
          have hs := bel_nxt hs b6
          have ra := ra.below b6 (Nat.le_refl _)
          have rv1 := rv1.below b6 (Nat.le_refl _)
          have rt1 := rt1.below b6 (Nat.le_refl _)
          have rt2 := rt2.below b6 (Nat.le_refl _)
          rw [← HQ.out]
          refine ⟨hs, ?_⟩
          walk_nrm
          refine anyB_call 24 _ (by kernel_rfl) rfl (by rfl) rfl Try.func17 rfl rfl (by kernel_rfl) (show _ = (#[.slice a1 xs.length c1] : Array Value) from by walk_nrm) (fun d => btells_sm ⟨d, rfl⟩ (total_b _ xs _ (ra.sm ⟨d, rfl⟩) hx1)) ?_
          rintro r W7 ⟨rfl, b7⟩
          have hs := bel_nxt hs b7
          have ra := ra.below b7 (Nat.le_refl _)
          have rv1 := rv1.below b7 (Nat.le_refl _)
          have rt1 := rt1.below b7 (Nat.le_refl _)
          have rt2 := rt2.below b7 (Nat.le_refl _)
          rw [← HQ.out]
          refine ⟨hs, ?_⟩
          walk_nrm
          refine anyB_take 25 _ (.int .i64 p3) (fun _ _ h => Below.sm h ⟨_, rfl⟩) rfl (by kernel_rfl) (by kernel_rfl) (by kernel_rfl) (.inl ⟨by rfl, fun W' hS' => ⟨run_eq_of (by intro K hK; go_simp; exact hK), still_listed rfl⟩⟩) hs ?_
          walk_nrm
          refine anyB_take 26 _ (.bool true) (fun _ _ h => Below.sm h ⟨_, rfl⟩) rfl (by kernel_rfl) (by kernel_rfl) (by kernel_rfl) (.inl ⟨by rfl, fun W' hS' => ⟨run_eq_of (by intro K hK; go_simp; exact hK), still_listed rfl⟩⟩) hs ?_
          walk_nrm
          refine anyB_take 27 _ (.bool true) (fun _ _ h => Below.sm h ⟨_, rfl⟩) rfl (by kernel_rfl) (by kernel_rfl) (by kernel_rfl) (.inl ⟨by rfl, fun W' hS' => ⟨run_eq_of (by intro K hK; go_simp; exact hK), still_listed rfl⟩⟩) hs ?_
          walk_nrm
          refine anyB_take 28 _ (.bool true) (fun _ _ h => Below.sm h ⟨_, rfl⟩) rfl (by kernel_rfl) (by kernel_rfl) (by kernel_rfl) (.inl ⟨by rfl, fun W' hS' => ⟨run_eq_of (by intro K hK; go_simp; exact hK), still_listed rfl⟩⟩) hs ?_
          walk_nrm
          refine anyB_done (by kernel_rfl) (fun d => ?_) _
          exact ⟨rfl, rfl, (bel_nxt bb hs).sm ⟨d, rfl⟩⟩
        · obtain ⟨T, D⟩ := a'
          obtain ⟨h1, h2, h3⟩ := hq
          obtain rfl : D = [] := h1
          have hF := Sm.refl W
          refine beside_by (n := 400) ?_
          repeat (first | a_ctl hF Sm.trans D0.nil | (refine Goes.step rfl (fun _ h₁ => ?_); replace hF := Sm.trans hF h₁; clear h₁; refine goes_oper_k rfl rfl (by decide) (fun K hK => ?_); go_simp; refine hK _ _ ⟨still_listed rfl, ?_⟩; clear hK K) | (refine Goes.step rfl (fun _ h₁ => ?_); rw [stepG_unwanted rfl rfl]; simp only [goes_go]; refine ⟨D0.nil, ?_⟩; replace hF := Sm.trans hF h₁; clear h₁; walk_nrm))
          refine Goes.step rfl (fun _ h₁ => ?_)
          rw [stepG_ret']
          simp only [goes_go]
          refine ⟨D0.nil, ?_⟩
          refine Goes.stop fun w₁ h₂ => .at0 fun d => ?_
          have hF := (Sm.trans hF h₁).trans (h₂.trans ⟨d, rfl⟩)
          exact leave1 Try.func4 rfl (R := BSays true w) ⟨h2, h3.sm hF⟩
      · obtain ⟨_, _, h4, _⟩ := hc
        cases h4
  · have i1 : ((1048576 : Int) < (n : Int)) := by omega
    refine beside_by (n := 400) ?_
    repeat (first | a_ctl hF Sm.trans D0.nil | (refine Goes.step rfl (fun _ h₁ => ?_); replace hF := Sm.trans hF h₁; clear h₁; refine goes_oper_k rfl rfl (by decide) (fun K hK => ?_); go_simp; refine hK _ _ ⟨still_listed rfl, ?_⟩; clear hK K) | (refine Goes.step rfl (fun _ h₁ => ?_); rw [stepG_unwanted rfl rfl]; simp only [goes_go]; refine ⟨D0.nil, ?_⟩; replace hF := Sm.trans hF h₁; clear h₁; walk_nrm))
    a_cond true hF Sm.trans D0.nil
    repeat (first | a_ctl hF Sm.trans D0.nil | (refine Goes.step rfl (fun _ h₁ => ?_); replace hF := Sm.trans hF h₁; clear h₁; refine goes_oper_k rfl rfl (by decide) (fun K hK => ?_); go_simp; refine hK _ _ ⟨still_listed rfl, ?_⟩; clear hK K) | (refine Goes.step rfl (fun _ h₁ => ?_); rw [stepG_unwanted rfl rfl]; simp only [goes_go]; refine ⟨D0.nil, ?_⟩; replace hF := Sm.trans hF h₁; clear h₁; walk_nrm))
    refine Goes.step rfl (fun _ h₁ => ?_)
    rw [stepG_ret']
    simp only [goes_go]
    refine ⟨D0.nil, ?_⟩
    refine Goes.stop fun w₁ h₂ => .at0 fun d => ?_
    have hF := (Sm.trans hF h₁).trans (h₂.trans ⟨d, rfl⟩)
    exact leave1 Try.func4 rfl (R := BSays true w) ⟨rfl, (Below.refl w.heap.size w).sm hF⟩

end Go.Proofs.Ytagncoahobghpac
