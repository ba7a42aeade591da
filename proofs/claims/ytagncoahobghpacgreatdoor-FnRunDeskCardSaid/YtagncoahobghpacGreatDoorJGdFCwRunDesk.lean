/-
  The law FnRunDesk in company (written by ch6rl.py).
-/
import Derived.Test.YtagncoahobghpacGreatDoorJGdE43
import Derived.Test.YtagncoahobghpacGreatDoorJGdF00
import Derived.Test.YtagncoahobghpacGreatDoorJGdFDrD
namespace Go.Proofs.YtagncoahobghpacGreatDoor
open Go Go.Conc Go.RowKit
set_option linter.unusedVariables false
set_option maxRecDepth 100000

theorem RdB.smD {w w₁ : World} {v : Value} {n : Nat} (h : RdB w v n) (hs : Sm w w₁) : RdB w₁ v n := by
  obtain ⟨d, rfl⟩ := hs
  exact h
/-- What DrawRunDesk leaves, in company. -/
def BDrewL (w : World) (v : Value) (w' : World) : Prop := ∃ a ls cap, v = .slice a ls.length cap ∧ ls.length ≤ cap ∧ RdT w' v ls ∧ ls.length ≤ 5 ∧ (∀ k, (lineAt ls k).size ≤ 1048576) ∧ Below w.heap.size w w'
theorem drawRunDesk_b (v : Value) (n : Nat) (w w1 : World) (h : RdB w v n) (hS : Sm w w1) : BCalls Tryz.prog 5 #[v] w1 (BDrewL w) := by
  obtain ⟨d, rfl⟩ := hS
  exact (bcalls_of noinit (callees [5, 12, 13, 14, 15, 16, 17, 18, 19, 25] (by kernel_rfl)) Tryz.func5 rfl (by kernel_rfl) (fun w v w' => BDrewL w v w') (by
    rintro v w w1 τ d τ' d' d2 ⟨a, ls, cap, h1, h2, h3, h4, h5, h6⟩
    exact ⟨a, ls, cap, h1, h2, h3, h4, h5, below_blind h6⟩) (fun τ e => (drawRunDesk_any v n (reT (w.at d) τ e) h).mono fun q w' ⟨a, ls, cap, h1, h2, h3, h4, h5, h6⟩ => ⟨_, h1, a, ls, cap, rfl, h2, h3, h4, h5, h6⟩)).mono fun r w' ⟨a, ls, cap, h1, h2, h3, h4, h5, h6⟩ => ⟨a, ls, cap, h1, h2, h3, h4, h5, ⟨h6.os, h6.tape, h6.output, h6.size, h6.block⟩⟩
theorem newlines_b (s : ByteArray) (w : World) (hs : s.size ≤ 1048576) : BCalls Tryz.prog 8 #[.string s] w (BTells (nlN s.data.toList : Nat) w) :=
  btells_of [8] (by kernel_rfl) Tryz.func8 rfl (by kernel_rfl) (by kernel_rfl) fun τ d => (newlines_any s (reT w τ d) hs).mono fun e w' ⟨h1, h2⟩ => ⟨h1, by rw [h2]; exact Below.refl _ _⟩
/-- The first lines of a slice. -/
theorem RdT.take {w : World} {b off n cap : Nat} {ls : List ByteArray} (h : RdT w (.slice (some ⟨b, off, none⟩) n cap) ls) (hn : n = ls.length) (k : Nat) (hk : k ≤ n) : RdT w (.slice (some ⟨b, off, none⟩) k cap) (ls.take k) := by
  have hl : (ls.take k).length = k := by rw [List.length_take]; omega
  obtain ⟨a', c', e, hh⟩ := h
  simp only [Value.slice.injEq] at e
  obtain ⟨rfl, -, rfl⟩ := e
  refine ⟨_, _, by rw [hl], ?_⟩
  rcases hh with h0 | ⟨b', off', e2, h4, h5⟩
  · left; omega
  · refine .inr ⟨b', off', e2, h4, fun j hj => ?_⟩
    rw [h5 j (by omega)]
    simp only [lineAt, List.getD]
    rw [List.getElem?_take_of_lt (by omega)]
theorem take_size {ls : List ByteArray} (h : ∀ k, (lineAt ls k).size ≤ 1048576) (k j : Nat) : (lineAt (ls.take k) j).size ≤ 1048576 := by
  by_cases hj : j < k
  · have := h j
    simp only [lineAt, List.getD] at this ⊢
    rw [List.getElem?_take_of_lt hj]
    exact this
  · simp only [lineAt, List.getD]
    rw [List.getElem?_take_eq_none (by omega)]
    exact Nat.zero_le _
theorem deskT_take {ls : List ByteArray} (h : ls.length ≤ 5) (k : Nat) : (deskT (ls.take k)).size ≤ (deskT ls).size ∧ (deskT ls).extract 0 (deskT (ls.take k)).size = deskT (ls.take k) := by
  have e1 : deskT ls = bs (deskL ls) := if_neg (by omega)
  have e2 : deskT (ls.take k) = bs (deskL (ls.take k)) := if_neg (by rw [List.length_take]; omega)
  have e3 := desk_take ls k
  rw [e1, e2, e3]
  have e4 : (bs (deskL (ls.take k) ++ deskL (ls.drop k))) = bs (deskL (ls.take k)) ++ bs (deskL (ls.drop k)) := (bs_app _ _).symm
  rw [e4]
  refine ⟨by rw [ByteArray.size_append]; omega, ?_⟩
  exact ByteArray.extract_append_eq_left rfl
theorem deskT_nl {ls : List ByteArray} (h : ls.length ≤ 5) : nlN (deskT ls).data.toList = ls.length := by
  have e1 : deskT ls = bs (deskL ls) := if_neg (by omega)
  rw [e1, list_bs]
  exact desk_nl ls
theorem deskT_small {ls : List ByteArray} (h : ls.length ≤ 5) : (deskT ls).size ≤ 1048576 := by
  have e1 : deskT ls = bs (deskL ls) := if_neg (by omega)
  have := deskL_len ls
  rw [e1]
  show (deskL ls).toArray.size ≤ _
  rw [List.size_toArray]
  omega
theorem deskT_none {ls : List ByteArray} (h : ls.length = 0) : deskT ls = ⟨#[]⟩ := by
  obtain rfl : ls = [] := List.eq_nil_of_length_eq_zero h
  rfl
theorem deskT_some {ls : List ByteArray} (h : ls.length ≠ 0) (h5 : ls.length ≤ 5) : (deskT ls).toList.isEmpty = false := by
  have h1 := deskT_nl h5
  rw [ByteArray.toList_eq]
  cases e : (deskT ls).data.toList with
  | nil => rw [e] at h1; exact absurd h1.symm h
  | cons x l => rfl

set_option maxHeartbeats 40000000 in
theorem lawRunDesk_b (v : Value) (n : Nat) (w : World) (h : RdB w v n) (hD : Dsk w) :
    BCalls Tryz.prog 3 #[v] w (BSays true w) := by
  intro cs
  have h0 := h
  obtain ⟨ca, cap0, hv, h2, -, -⟩ := h0
  rw [enter_at _ Tryz.func3 rfl]
  simp only [Tryz.f3, List.size_toArray, List.length_cons, List.length_nil, Nat.reduceAdd, Nat.reduceSub, Array.replicate_succ, Array.replicate_zero, List.push_toArray, List.append_toArray, List.nil_append, List.cons_append]
  have hF : Sm w w := Sm.refl w
  subst hv
  by_cases hb1 : 1048576 < n
  · have i1 : (1048576 : Int) < (n : Int) := by omega
    have b := Below.refl w.heap.size w
    refine beside_by (n := 400) ?_
    repeat (first | a_ctl hF Sm.trans D0.nil | (refine Goes.step rfl (fun _ h₁ => ?_); replace hF := Sm.trans hF h₁; clear h₁; refine goes_oper_k rfl rfl (by decide) (fun K hK => ?_); go_simp; refine hK _ _ ⟨still_listed rfl, ?_⟩; clear hK K) | (refine Goes.step rfl (fun _ h₁ => ?_); rw [stepG_unwanted rfl rfl]; simp only [goes_go]; refine ⟨D0.nil, ?_⟩; replace hF := Sm.trans hF h₁; clear h₁; walk_nrm))
    a_cond true hF Sm.trans D0.nil
    repeat (first | a_ctl hF Sm.trans D0.nil | (refine Goes.step rfl (fun _ h₁ => ?_); replace hF := Sm.trans hF h₁; clear h₁; refine goes_oper_k rfl rfl (by decide) (fun K hK => ?_); go_simp; refine hK _ _ ⟨still_listed rfl, ?_⟩; clear hK K) | (refine Goes.step rfl (fun _ h₁ => ?_); rw [stepG_unwanted rfl rfl]; simp only [goes_go]; refine ⟨D0.nil, ?_⟩; replace hF := Sm.trans hF h₁; clear h₁; walk_nrm))
    refine Goes.step rfl (fun _ h₁ => ?_)
    rw [stepG_ret']
    simp only [goes_go]
    refine ⟨D0.nil, ?_⟩
    refine Goes.stop fun w₁ h₂ => .at0 fun d => ?_
    have hF := (Sm.trans hF h₁).trans (h₂.trans ⟨d, rfl⟩)
    exact leave1 Tryz.func3 rfl (R := BSays true w) ⟨rfl, b.sm hF⟩
  · have i1 : ¬ ((1048576 : Int) < (n : Int)) := by omega
    refine beside_by (n := 400) ?_
    repeat (first | a_ctl hF Sm.trans D0.nil | (refine Goes.step rfl (fun _ h₁ => ?_); replace hF := Sm.trans hF h₁; clear h₁; refine goes_oper_k rfl rfl (by decide) (fun K hK => ?_); go_simp; refine hK _ _ ⟨still_listed rfl, ?_⟩; clear hK K) | (refine Goes.step rfl (fun _ h₁ => ?_); rw [stepG_unwanted rfl rfl]; simp only [goes_go]; refine ⟨D0.nil, ?_⟩; replace hF := Sm.trans hF h₁; clear h₁; walk_nrm))
    a_cond false hF Sm.trans D0.nil
    repeat (first | a_ctl hF Sm.trans D0.nil | (refine Goes.step rfl (fun _ h₁ => ?_); replace hF := Sm.trans hF h₁; clear h₁; refine goes_oper_k rfl rfl (by decide) (fun K hK => ?_); go_simp; refine hK _ _ ⟨still_listed rfl, ?_⟩; clear hK K) | (refine Goes.step rfl (fun _ h₁ => ?_); rw [stepG_unwanted rfl rfl]; simp only [goes_go]; refine ⟨D0.nil, ?_⟩; replace hF := Sm.trans hF h₁; clear h₁; walk_nrm))
    refine Goes.stop fun w₁ h₁ => ?_
    replace hF := Sm.trans hF h₁
    clear h₁
    refine beside_call rfl rfl (by decide) rfl Tryz.func5 rfl rfl (by kernel_rfl) (show _ = (#[.slice ca n cap0] : Array Value) from by walk_nrm) (fun d => drawRunDesk_b _ n _ _ h (hF.trans ⟨d, rfl⟩)) ?_
    rintro r w1 ⟨a, ls, cap, rfl, hcap, hr, hl5, hs, b⟩
    have hD := hD.below b
    clear hF h i1 hb1
    have HS := Lib.hid hs
    clear hs
    have hF := Sm.refl w1
    walk_nrm
    obtain ⟨O, hO⟩ : ∃ O, O = deskT ls := ⟨_, rfl⟩
    have HO := Lib.hid hO
    have hOz : O.size ≤ 1048576 := by rw [hO]; exact deskT_small hl5
    clear hO
    obtain ⟨m, hm⟩ : ∃ m, m = ls.length := ⟨_, rfl⟩
    have HM := Lib.hid hm
    rw [← hm] at hcap hl5 hr ⊢
    clear hm
    refine beside_by (n := 400) ?_
    repeat (first | a_ctl hF Sm.trans D0.nil | (refine Goes.step rfl (fun _ h₁ => ?_); replace hF := Sm.trans hF h₁; clear h₁; refine goes_oper_k rfl rfl (by decide) (fun K hK => ?_); go_simp; refine hK _ _ ⟨still_listed rfl, ?_⟩; clear hK K) | (refine Goes.step rfl (fun _ h₁ => ?_); rw [stepG_unwanted rfl rfl]; simp only [goes_go]; refine ⟨D0.nil, ?_⟩; replace hF := Sm.trans hF h₁; clear h₁; walk_nrm))
    refine Goes.stop fun w₁ h₁ => ?_
    replace hF := Sm.trans hF h₁
    clear h₁
    refine beside_call rfl rfl (by decide) rfl Tryz.func6 rfl rfl (by kernel_rfl) (show _ = (#[.slice a m cap] : Array Value) from by walk_nrm) (fun d => bgives_sm (hF.trans ⟨d, rfl⟩) (runDesk_b _ ls _ (hr.sm (hF.trans ⟨d, rfl⟩)) (hD.sm (hF.trans ⟨d, rfl⟩)) HS.out (by have := HM.out; omega))) ?_
    rintro r w2 ⟨rfl, b2⟩
    have hr := hr.below b2
    have hD := hD.below b2
    have b := bel_nxt b b2
    rw [← HO.out]
    clear hF b2
    have hF := Sm.refl w2
    walk_nrm
    refine beside_by (n := 400) ?_
    repeat (first | a_ctl hF Sm.trans D0.nil | (refine Goes.step rfl (fun _ h₁ => ?_); replace hF := Sm.trans hF h₁; clear h₁; refine goes_oper_k rfl rfl (by decide) (fun K hK => ?_); go_simp; refine hK _ _ ⟨still_listed rfl, ?_⟩; clear hK K) | (refine Goes.step rfl (fun _ h₁ => ?_); rw [stepG_unwanted rfl rfl]; simp only [goes_go]; refine ⟨D0.nil, ?_⟩; replace hF := Sm.trans hF h₁; clear h₁; walk_nrm))
    refine Goes.stop fun w₁ h₁ => ?_
    replace hF := Sm.trans hF h₁
    clear h₁
    refine beside_call rfl rfl (by decide) rfl Tryz.func7 rfl rfl (by kernel_rfl) (show _ = (#[.slice a m cap] : Array Value) from by walk_nrm) (fun d => bgives_sm (hF.trans ⟨d, rfl⟩) (specRunDesk_b _ ls _ (hr.sm (hF.trans ⟨d, rfl⟩)) HS.out (by have := HM.out; omega))) ?_
    rintro r w3 ⟨rfl, b3⟩
    have hr := hr.below b3
    have hD := hD.below b3
    have b := bel_nxt b b3
    rw [← HO.out]
    clear hF b3
    have hF := Sm.refl w3
    walk_nrm
    by_cases hm0 : m = 0
    · have e0 : O.toList.isEmpty = true := by rw [HO.out, deskT_none (by rw [← HM.out]; exact hm0), ByteArray.toList_eq]; rfl
      clear hm0
      refine beside_by (n := 400) ?_
      repeat (first | a_ctl hF Sm.trans D0.nil | (refine Goes.step rfl (fun _ h₁ => ?_); replace hF := Sm.trans hF h₁; clear h₁; refine goes_oper_k rfl rfl (by decide) (fun K hK => ?_); go_simp; refine hK _ _ ⟨still_listed rfl, ?_⟩; clear hK K) | (refine Goes.step rfl (fun _ h₁ => ?_); rw [stepG_unwanted rfl rfl]; simp only [goes_go]; refine ⟨D0.nil, ?_⟩; replace hF := Sm.trans hF h₁; clear h₁; walk_nrm))
      a_cond true hF Sm.trans D0.nil
      repeat (first | a_ctl hF Sm.trans D0.nil | (refine Goes.step rfl (fun _ h₁ => ?_); replace hF := Sm.trans hF h₁; clear h₁; refine goes_oper_k rfl rfl (by decide) (fun K hK => ?_); go_simp; refine hK _ _ ⟨still_listed rfl, ?_⟩; clear hK K) | (refine Goes.step rfl (fun _ h₁ => ?_); rw [stepG_unwanted rfl rfl]; simp only [goes_go]; refine ⟨D0.nil, ?_⟩; replace hF := Sm.trans hF h₁; clear h₁; walk_nrm))
      refine Goes.stop fun w₁ h₁ => ?_
      replace hF := Sm.trans hF h₁
      clear h₁
      refine beside_call rfl rfl (by decide) rfl Tryz.func7 rfl rfl (by kernel_rfl) (show _ = (#[.slice a m cap] : Array Value) from by walk_nrm) (fun d => bgives_sm (hF.trans ⟨d, rfl⟩) (specRunDesk_b _ ls _ (hr.sm (hF.trans ⟨d, rfl⟩)) HS.out (by have := HM.out; omega))) ?_
      rintro r w4 ⟨rfl, b4⟩
      have hr := hr.below b4
      have hD := hD.below b4
      have b := bel_nxt b b4
      rw [← HO.out]
      clear hF b4
      have hF := Sm.refl w4
      walk_nrm
      refine beside_by (n := 400) ?_
      repeat (first | a_ctl hF Sm.trans D0.nil | (refine Goes.step rfl (fun _ h₁ => ?_); replace hF := Sm.trans hF h₁; clear h₁; refine goes_oper_k rfl rfl (by decide) (fun K hK => ?_); go_simp; refine hK _ _ ⟨still_listed rfl, ?_⟩; clear hK K) | (refine Goes.step rfl (fun _ h₁ => ?_); rw [stepG_unwanted rfl rfl]; simp only [goes_go]; refine ⟨D0.nil, ?_⟩; replace hF := Sm.trans hF h₁; clear h₁; walk_nrm))
      refine Goes.step rfl (fun _ h₁ => ?_)
      rw [stepG_ret']
      simp only [goes_go]
      refine ⟨D0.nil, ?_⟩
      refine Goes.stop fun w₁ h₂ => .at0 fun d => ?_
      have hF := (Sm.trans hF h₁).trans (h₂.trans ⟨d, rfl⟩)
      exact leave1 Tryz.func3 rfl (R := BSays true w) ⟨rfl, b.sm hF⟩
    · have e0 : O.toList.isEmpty = false := by rw [HO.out]; exact deskT_some (by rw [← HM.out]; exact hm0) (by rw [← HM.out]; exact hl5)
      obtain ⟨g, off, rfl⟩ : ∃ g off, a = some ⟨g, off, none⟩ := by
        obtain ⟨a2, c2, e2, hh⟩ := hr
        simp only [Value.slice.injEq] at e2
        obtain ⟨rfl, -, -⟩ := e2
        rcases hh with q | ⟨b0, off, q, -, -⟩
        · have := HM.out; omega
        · exact ⟨b0, off, q⟩
      refine beside_by (n := 400) ?_
      repeat (first | a_ctl hF Sm.trans D0.nil | (refine Goes.step rfl (fun _ h₁ => ?_); replace hF := Sm.trans hF h₁; clear h₁; refine goes_oper_k rfl rfl (by decide) (fun K hK => ?_); go_simp; refine hK _ _ ⟨still_listed rfl, ?_⟩; clear hK K) | (refine Goes.step rfl (fun _ h₁ => ?_); rw [stepG_unwanted rfl rfl]; simp only [goes_go]; refine ⟨D0.nil, ?_⟩; replace hF := Sm.trans hF h₁; clear h₁; walk_nrm))
      a_cond false hF Sm.trans D0.nil
      repeat a_ctl hF Sm.trans D0.nil
      (refine Goes.step rfl (fun _ h₁ => ?_); replace hF := Sm.trans hF h₁; clear h₁; refine goes_oper_k rfl rfl (by decide) (fun K hK => ?_); go_simp; refine hK _ _ ⟨still_listed rfl, ?_⟩; clear hK K)
      repeat a_ctl hF Sm.trans D0.nil
      refine Goes.stop fun w₁ h₁ => ?_
      have hr := hr.sm (hF.trans h₁)
      have hD := hD.sm (hF.trans h₁)
      have b := b.sm (hF.trans h₁)
      clear hF h₁
      refine (?_ : ∀ (j k : Nat) (v5 v6 v26 v27 v28 v29 v30 v31 v32 v33 v34 v35 v36 v37 v38 v39 v40 v41 v42 v43 v44 v45 v46 v47 v48 : Value) (w' : World), k + j = m + 1 → v5 = .int .i64 (k : Int) → RdT w' (.slice (some ⟨g, off, none⟩) m cap) ls → Dsk w' → Below w.heap.size w w' → Beside _ (G (Frame.at _ ⟨#[_, _, _, _, _, v5, v6, _, _, _, _, _, _, _, _, _, _, _, _, _, _, _, _, _, _, _, v26, v27, v28, v29, v30, v31, v32, v33, v34, v35, v36, v37, v38, v39, v40, v41, v42, v43, v44, v45, v46, v47, v48, _, _, _, _, _], []⟩ _) _) w' _) (m + 1) 0 _ _ _ _ _ _ _ _ _ _ _ _ _ _ _ _ _ _ _ _ _ _ _ _ _ _ (Nat.zero_add _) rfl hr hD b
      clear hr hD b
      intro j
      induction j with
      | zero =>
        intro k v5 v6 v26 v27 v28 v29 v30 v31 v32 v33 v34 v35 v36 v37 v38 v39 v40 v41 v42 v43 v44 v45 v46 v47 v48 w4 hk h5 hr hD b
        obtain rfl : k = m + 1 := by omega
        subst h5
        have hF := Sm.refl w4
        have i2 : ¬ (((m + 1 : Nat) : Int) ≤ (m : Int)) := by omega
        have i2b : ¬ ((m : Int) + 1 ≤ (m : Int)) := by omega
        have HNL : Hid (nlN O.data.toList = m) := Lib.hid (by rw [HO.out, HM.out]; exact deskT_nl (by rw [← HM.out]; exact hl5))
        refine beside_by (n := 400) ?_
        repeat (first | a_ctl hF Sm.trans D0.nil | (refine Goes.step rfl (fun _ h₁ => ?_); replace hF := Sm.trans hF h₁; clear h₁; refine goes_oper_k rfl rfl (by decide) (fun K hK => ?_); go_simp; refine hK _ _ ⟨still_listed rfl, ?_⟩; clear hK K) | (refine Goes.step rfl (fun _ h₁ => ?_); rw [stepG_unwanted rfl rfl]; simp only [goes_go]; refine ⟨D0.nil, ?_⟩; replace hF := Sm.trans hF h₁; clear h₁; walk_nrm))
        a_cond false hF Sm.trans D0.nil
        refine Goes.step rfl (fun _ h₁ => ?_)
        refine goes_of_eq (stepG_exit rfl) ?_
        simp only [goes_go]
        refine ⟨D0.nil, ?_⟩
        replace hF := Sm.trans hF h₁
        clear h₁
        repeat (first | a_ctl hF Sm.trans D0.nil | (refine Goes.step rfl (fun _ h₁ => ?_); replace hF := Sm.trans hF h₁; clear h₁; refine goes_oper_k rfl rfl (by decide) (fun K hK => ?_); go_simp; refine hK _ _ ⟨still_listed rfl, ?_⟩; clear hK K) | (refine Goes.step rfl (fun _ h₁ => ?_); rw [stepG_unwanted rfl rfl]; simp only [goes_go]; refine ⟨D0.nil, ?_⟩; replace hF := Sm.trans hF h₁; clear h₁; walk_nrm))
        refine Goes.stop fun w₁ h₁ => ?_
        replace hF := Sm.trans hF h₁
        clear h₁
        refine beside_call rfl rfl (by decide) rfl Tryz.func8 rfl rfl (by kernel_rfl) (show _ = (#[.string O] : Array Value) from by walk_nrm) (fun d => btells_sm (hF.trans ⟨d, rfl⟩) (newlines_b O _ hOz)) ?_
        rintro r w5 ⟨rfl, b5⟩
        rw [HNL.out]
        have hr := hr.below b5
        have hD := hD.below b5
        have b := bel_nxt b b5
        clear hF b5
        have hF := Sm.refl w5
        walk_nrm
        refine beside_by (n := 400) ?_
        repeat (first | a_ctl hF Sm.trans D0.nil | (refine Goes.step rfl (fun _ h₁ => ?_); replace hF := Sm.trans hF h₁; clear h₁; refine goes_oper_k rfl rfl (by decide) (fun K hK => ?_); go_simp; refine hK _ _ ⟨still_listed rfl, ?_⟩; clear hK K) | (refine Goes.step rfl (fun _ h₁ => ?_); rw [stepG_unwanted rfl rfl]; simp only [goes_go]; refine ⟨D0.nil, ?_⟩; replace hF := Sm.trans hF h₁; clear h₁; walk_nrm))
        refine Goes.step rfl (fun _ h₁ => ?_)
        rw [stepG_ret']
        simp only [goes_go]
        refine ⟨D0.nil, ?_⟩
        refine Goes.stop fun w₁ h₂ => .at0 fun d => ?_
        have hF := (Sm.trans hF h₁).trans (h₂.trans ⟨d, rfl⟩)
        exact leave1 Tryz.func3 rfl (R := BSays true w) ⟨rfl, b.sm hF⟩
      | succ j ih =>
        intro k v5 v6 v26 v27 v28 v29 v30 v31 v32 v33 v34 v35 v36 v37 v38 v39 v40 v41 v42 v43 v44 v45 v46 v47 v48 w4 hk h5 hr hD b
        have hkm : k ≤ m := by omega
        subst h5
        have hF := Sm.refl w4
        have i2 : (k : Int) ≤ (m : Int) := by omega
        have i3 : (k : Int) ≤ (cap : Int) := by omega
        have hT := deskT_take (ls := ls) (by rw [← HM.out]; exact hl5) k
        have hrk := hr.take HM.out k hkm
        refine beside_by (n := 400) ?_
        repeat (first | a_ctl hF Sm.trans D0.nil | (refine Goes.step rfl (fun _ h₁ => ?_); replace hF := Sm.trans hF h₁; clear h₁; refine goes_oper_k rfl rfl (by decide) (fun K hK => ?_); go_simp; refine hK _ _ ⟨still_listed rfl, ?_⟩; clear hK K) | (refine Goes.step rfl (fun _ h₁ => ?_); rw [stepG_unwanted rfl rfl]; simp only [goes_go]; refine ⟨D0.nil, ?_⟩; replace hF := Sm.trans hF h₁; clear h₁; walk_nrm))
        a_cond true hF Sm.trans D0.nil
        repeat (first | a_ctl hF Sm.trans D0.nil | (refine Goes.step rfl (fun _ h₁ => ?_); replace hF := Sm.trans hF h₁; clear h₁; refine goes_oper_k rfl rfl (by decide) (fun K hK => ?_); go_simp; refine hK _ _ ⟨still_listed rfl, ?_⟩; clear hK K) | (refine Goes.step rfl (fun _ h₁ => ?_); rw [stepG_unwanted rfl rfl]; simp only [goes_go]; refine ⟨D0.nil, ?_⟩; replace hF := Sm.trans hF h₁; clear h₁; walk_nrm))
        refine Goes.stop fun w₁ h₁ => ?_
        replace hF := Sm.trans hF h₁
        clear h₁
        refine beside_call rfl rfl (by decide) rfl Tryz.func6 rfl rfl (by kernel_rfl) (show _ = (#[.slice (some ⟨g, off, none⟩) k cap] : Array Value) from by walk_nrm) (fun d => bgives_sm (hF.trans ⟨d, rfl⟩) (runDesk_b _ (ls.take k) _ (hrk.sm (hF.trans ⟨d, rfl⟩)) (hD.sm (hF.trans ⟨d, rfl⟩)) (take_size HS.out k) (by rw [List.length_take]; omega))) ?_
        rintro r w5 ⟨rfl, b5⟩
        rw [← HO.out] at hT
        clear hrk
        obtain ⟨E, hE⟩ : ∃ E, E = deskT (ls.take k) := ⟨_, rfl⟩
        rw [← hE] at hT ⊢
        clear hE
        obtain ⟨hT1, hT2⟩ := hT
        have i4 : ¬ ((O.size : Int) < (E.size : Int)) := by omega
        have i5 : (E.size : Int) ≤ (O.size : Int) := by omega
        have hr := hr.below b5
        have hD := hD.below b5
        have b := bel_nxt b b5
        clear hF b5
        have hF := Sm.refl w5
        walk_nrm
        have e3 : IntKind.i64.wrap ((k : Int) + 1) = (k : Int) + 1 := IntWalk.i64_in _ (by omega)
        refine beside_by (n := 400) ?_
        repeat (first | a_ctl hF Sm.trans D0.nil | (refine Goes.step rfl (fun _ h₁ => ?_); replace hF := Sm.trans hF h₁; clear h₁; refine goes_oper_k rfl rfl (by decide) (fun K hK => ?_); go_simp; refine hK _ _ ⟨still_listed rfl, ?_⟩; clear hK K) | (refine Goes.step rfl (fun _ h₁ => ?_); rw [stepG_unwanted rfl rfl]; simp only [goes_go]; refine ⟨D0.nil, ?_⟩; replace hF := Sm.trans hF h₁; clear h₁; walk_nrm))
        a_cond false hF Sm.trans D0.nil
        repeat a_ctl hF Sm.trans D0.nil
        (refine Goes.step rfl (fun _ h₁ => ?_); replace hF := Sm.trans hF h₁; clear h₁; refine goes_oper_k rfl rfl (by decide) (fun K hK => ?_); go_simp; refine hK _ _ ⟨still_listed rfl, ?_⟩; clear hK K)
        (refine Goes.step rfl (fun _ h₁ => ?_); replace hF := Sm.trans hF h₁; clear h₁; refine goes_oper_k rfl rfl (by decide) (fun K hK => ?_); go_simp; refine hK _ _ ⟨still_listed rfl, ?_⟩; clear hK K)
        (refine Goes.step rfl (fun _ h₁ => ?_); replace hF := Sm.trans hF h₁; clear h₁; refine goes_oper_k rfl rfl (by decide) (fun K hK => ?_); go_simp; refine hK _ _ ⟨still_listed rfl, ?_⟩; clear hK K)
        repeat a_ctl hF Sm.trans D0.nil
        refine Goes.stop fun w₁ h₁ => ?_
        exact ih (k + 1) _ _ _ _ _ _ _ _ _ _ _ _ _ _ _ _ _ _ _ _ _ _ _ _ _ _ (by omega) (by simp) (hr.sm (Sm.trans hF h₁)) (hD.sm (Sm.trans hF h₁)) (b.sm (Sm.trans hF h₁))
end Go.Proofs.YtagncoahobghpacGreatDoor
