/-
  MixOf of the model, by its contract.
-/
import Derived.Test.YtpalmbcknjmmcaaMix
namespace Go.Proofs.Ytpalmbcknjmmcaa
open Go.RowKit
set_option linter.unusedVariables false

theorem bytes_ext {s : ByteArray} {l : List UInt8} (h : s.toList = l) : s = { data := l.toArray } := by
  rw [ByteArray.toList_eq] at h
  obtain ⟨d⟩ := s
  congr 1
  rw [← h]

theorem beq_len (a b : Nat) : ((a : Int) == (b : Int)) = decide (a = b) := by
  by_cases h : a = b
  · subst h; simp
  · have : ¬ (a : Int) = b := by omega
    simp [h, this]

set_option maxHeartbeats 2000000 in
theorem validTwo_any (u v : Value) (xs ys : List Int) (w : World) (h : Rd w u xs) (h' : Rd w v ys) (hl : xs.length ≤ maxLen) (hl' : ys.length ≤ maxLen) :
    Calls Try.prog 78 #[u, v] w (Says (cubeB xs && cubeB ys && decide (xs.length = ys.length)) w) := by
  have hv := validCube_any u xs w h hl
  have HV2 := Lib.hid fun w (h' : Rd w v ys) => validCube_any v ys w h' hl'
  cases hb : cubeB xs with
  | false =>
    rw [hb] at hv
    clear hb
    go_enter Try.func78, Try.ntmps78
    go_wp2_with fail
    refine hv.mono ?_
    rintro e w1 ⟨rfl, b1⟩
    go_wp2
    go_ret
    exact ⟨ret_bool (by simp), b1⟩
  | true =>
    rw [hb] at hv
    have hp := (vrB_of (cubeB_of hb).1).1
    clear hb
    cases hb2 : cubeB ys with
    | false =>
      rw [hb2] at HV2
      clear hb2
      go_enter Try.func78, Try.ntmps78
      go_wp2_with fail
      refine hv.mono ?_
      rintro e w1 ⟨rfl, b1⟩
      go_wp2_with fail
      refine (HV2.out _ (h'.below b1 (Nat.le_refl _))).mono ?_
      rintro e w2 ⟨rfl, b2⟩
      go_wp2
      go_ret
      exact ⟨ret_bool (by simp), bel_nxt b1 b2⟩
    | true =>
      rw [hb2] at HV2
      have hp2 := (vrB_of (cubeB_of hb2).1).1
      clear hb2
      have h0 := Lib.hid h'
      obtain ⟨a, cap, rfl, -⟩ := h
      obtain ⟨a', cap', rfl, -⟩ := h'
      go_enter Try.func78, Try.ntmps78
      go_wp2_with fail
      refine hv.mono ?_
      rintro e w1 ⟨rfl, b1⟩
      go_wp2_with fail
      refine (HV2.out _ (h0.out.below b1 (Nat.le_refl _))).mono ?_
      rintro e w2 ⟨rfl, b2⟩
      go_wp2
      go_ret
      exact ⟨ret_bool (by rw [Bool.true_and, Bool.true_and]; exact beq_len _ _), bel_nxt b1 b2⟩

theorem mixB_no {s : ByteArray} {xs ys : List Int} (h : (cubeB xs && cubeB ys && decide (xs.length = ys.length)) = false) : mixB s xs ys = false := by rw [mixB, h]; rfl
theorem mixB_kind {s : ByteArray} {xs ys : List Int} (h : ¬ (s = sOr ∨ s = sAnd ∨ s = sXor)) : mixB s xs ys = false := by
  have : kindB s = false := by simp only [kindB, decide_eq_false_iff_not]; exact h
  rw [mixB, this, Bool.and_false]
theorem mixB_yes {s : ByteArray} {xs ys : List Int} (h : (cubeB xs && cubeB ys && decide (xs.length = ys.length)) = true) (hs : s = sOr ∨ s = sAnd ∨ s = sXor) : mixB s xs ys = true := by
  have : kindB s = true := by simp only [kindB, decide_eq_true_eq]; exact hs
  rw [mixB, this, h]; rfl
theorem mixF_yes {s : ByteArray} {xs ys : List Int} (h : mixB s xs ys = true) : mixF s xs ys = mixL s xs ys := by unfold mixF; exact if_pos h
theorem mixF_no {s : ByteArray} {xs ys : List Int} (h : mixB s xs ys = false) : mixF s xs ys = [] := by unfold mixF; exact if_neg (by simp [h])

set_option maxHeartbeats 4000000 in
theorem specMixOf_any (u v : Value) (xs ys : List Int) (s : ByteArray) (w : World) (h : Rd w u xs) (h' : Rd w v ys) (hl : xs.length ≤ maxLen) (hl' : ys.length ≤ maxLen) :
    Calls Try.prog 42 #[u, v, .string s] w (Made 3 w (mixF s xs ys)) := by
  have hv := validTwo_any u v xs ys w h h' hl hl'
  cases hb : (cubeB xs && cubeB ys && decide (xs.length = ys.length)) with
  | false =>
    rw [hb] at hv
    have HF := Lib.hid (mixF_no (mixB_no (s := s) hb))
    clear hb
    go_enter Try.func42, Try.ntmps42
    go_wp2_with fail
    refine hv.mono ?_
    rintro e w1 ⟨rfl, b1⟩
    go_wp2
    go_ret
    exact ⟨_, rfl, by rw [HF.out]; exact Own.nil _ _ _, b1⟩
  | true =>
    rw [hb] at hv
    by_cases hs : s = sOr ∨ s = sAnd ∨ s = sXor
    · have HF := Lib.hid (mixF_yes (mixB_yes hb hs))
      have hb' := hb
      simp only [Bool.and_eq_true, decide_eq_true_eq] at hb'
      obtain ⟨⟨hc1, hc2⟩, hlen⟩ := hb'
      obtain ⟨k, hk, hn⟩ := (cubeB_of hc1).2
      have HM := Lib.hid fun w (h : Rd w u xs) (h' : Rd w v ys) => specmix_any u v xs ys s k w h h' hk hn hlen.symm hs
      have H1 := Lib.hid h
      have H2 := Lib.hid h'
      clear hb hc1 hc2 hlen hn hk h h'
      rcases hs with rfl | rfl | rfl
      all_goals
        first | unfold sOr at HM HF ⊢ | unfold sAnd at HM HF ⊢ | unfold sXor at HM HF ⊢
        go_enter Try.func42, Try.ntmps42
        go_wp2_with fail
        refine hv.mono ?_
        rintro e w1 ⟨rfl, b1⟩
        go_wp2_with fail
        refine (HM.out _ (H1.out.below b1 (Nat.le_refl _)) (H2.out.below b1 (Nat.le_refl _))).mono ?_
        rintro e w2 ⟨v2, rfl, o2, b2⟩
        go_wp2
        go_ret
        exact ⟨_, rfl, by rw [HF.out]; exact o2.mono b1.size, bel_nxt b1 b2⟩
    · have HF := Lib.hid (mixF_no (mixB_kind (xs := xs) (ys := ys) hs))
      clear hb
      have n1 : (s.toList == [111, 114]) = false := by rw [beq_eq_false_iff_ne]; exact fun e => hs (.inl (bytes_ext e))
      have n2 : (s.toList == [97, 110, 100]) = false := by rw [beq_eq_false_iff_ne]; exact fun e => hs (.inr (.inl (bytes_ext e)))
      have n3 : (s.toList == [120, 111, 114]) = false := by rw [beq_eq_false_iff_ne]; exact fun e => hs (.inr (.inr (bytes_ext e)))
      clear hs
      go_enter Try.func42, Try.ntmps42
      go_wp2_with fail
      refine hv.mono ?_
      rintro e w1 ⟨rfl, b1⟩
      go_wp2
      go_ret
      exact ⟨_, rfl, by rw [HF.out]; exact Own.nil _ _ _, b1⟩

end Go.Proofs.Ytpalmbcknjmmcaa
