/-
  MixOf of the program at all arguments, by its contract.
-/
import Derived.Test.YtpalmbcknjmmcaaMixO
namespace Go.Proofs.Ytpalmbcknjmmcaa
open Go.RowKit
set_option linter.unusedVariables false

set_option maxHeartbeats 8000000 in
theorem implMixOf_any (u v : Value) (xs ys : List Int) (s : ByteArray) (w : World) (h : Rd w u xs) (h' : Rd w v ys) (hl : xs.length ≤ maxLen) (hl' : ys.length ≤ maxLen) :
    Calls Try.prog 41 #[u, v, .string s] w (Made 3 w (mixF s xs ys)) := by
  have hv := isBinaryRow_any u xs w h hl
  have HV2 := Lib.hid fun w (h : Rd w v ys) => isBinaryRow_any v ys w h hl'
  unfold maxLen at hl hl'
  cases hb : cubeB xs with
  | false =>
    rw [hb] at hv
    have HF := Lib.hid (mixF_no (mixB_no (s := s) (xs := xs) (ys := ys) (by rw [hb]; rfl)))
    clear hb
    go_enter Try.func41, Try.ntmps41
    go_wp2_with fail
    refine hv.mono ?_
    rintro e w1 ⟨rfl, b1⟩
    go_wp2
    go_ret
    exact ⟨_, rfl, by rw [HF.out]; exact Own.nil _ _ _, b1⟩
  | true =>
    cases hb2 : cubeB ys with
    | false =>
      rw [hb] at hv
      rw [hb2] at HV2
      have HF := Lib.hid (mixF_no (mixB_no (s := s) (xs := xs) (ys := ys) (by rw [hb2, Bool.and_false]; rfl)))
      have H2 := Lib.hid h'
      clear hb hb2 h'
      go_enter Try.func41, Try.ntmps41
      go_wp2_with fail
      refine hv.mono ?_
      rintro e w1 ⟨rfl, b1⟩
      go_wp2_with fail
      refine (HV2.out _ (H2.out.below b1 (Nat.le_refl _))).mono ?_
      rintro e w2 ⟨rfl, b2⟩
      go_wp2
      go_ret
      exact ⟨_, rfl, by rw [HF.out]; exact Own.nil _ _ _, bel_nxt b1 b2⟩
    | true =>
      by_cases hn : xs.length = ys.length
      · have hall : (cubeB xs && cubeB ys && decide (xs.length = ys.length)) = true := by rw [hb, hb2, decide_eq_true hn]; rfl
        have hx16 := (vrB_of (cubeB_of hb).1).1
        have hy16 := (vrB_of (cubeB_of hb2).1).1
        by_cases hs : s = sOr ∨ s = sAnd ∨ s = sXor
        · have HF := mixF_yes (mixB_yes hall hs)
          rw [HF]
          rcases hs with rfl | rfl | rfl
          · exact implMixOr_any u v xs ys w h h' hx16 hy16 hn hb hb2
          · exact implMixAnd_any u v xs ys w h h' hx16 hy16 hn hb hb2
          · exact implMixXor_any u v xs ys w h h' hx16 hy16 hn hb hb2
        · have HF := Lib.hid (mixF_no (mixB_kind (xs := xs) (ys := ys) hs))
          have m1 : ([111, 114] == s.toList) = false := by rw [beq_eq_false_iff_ne]; exact fun e => hs (.inl (bytes_ext e.symm))
          have m2 : ([97, 110, 100] == s.toList) = false := by rw [beq_eq_false_iff_ne]; exact fun e => hs (.inr (.inl (bytes_ext e.symm)))
          have m3 : ([120, 111, 114] == s.toList) = false := by rw [beq_eq_false_iff_ne]; exact fun e => hs (.inr (.inr (bytes_ext e.symm)))
          have n1 : (s.toList == [111, 114]) = false := by rw [beq_eq_false_iff_ne]; exact fun e => hs (.inl (bytes_ext e))
          have n2 : (s.toList == [97, 110, 100]) = false := by rw [beq_eq_false_iff_ne]; exact fun e => hs (.inr (.inl (bytes_ext e)))
          have n3 : (s.toList == [120, 111, 114]) = false := by rw [beq_eq_false_iff_ne]; exact fun e => hs (.inr (.inr (bytes_ext e)))
          rw [hb] at hv
          rw [hb2] at HV2
          have hne : ((xs.length : Int) != (ys.length : Int)) = false := by simp [hn]
          have HI0 := kind_at0
          have HI1 := kind_at1
          have HI2 := kind_at2
          have HST0 := fun w => store_kind w (.string sOr) (.func (.func 86) #[] #[]) rfl rfl
          have HST1 := fun w => store_kind w (.string sAnd) (.func (.func 87) #[] #[]) rfl rfl
          have HST2 := fun w => store_kind w (.string sXor) (.func (.func 88) #[] #[]) rfl rfl
          simp only [kindCells, sOr, sAnd, sXor] at HI0 HI1 HI2 HST0 HST1 HST2
          have H2 := Lib.hid h'
          obtain ⟨a, cap, rfl, -⟩ := h
          obtain ⟨a', cap', rfl, -⟩ := h'
          clear hb hb2 hn hs hall hx16 hy16
          go_enter Try.func41, Try.ntmps41
          go_wp2_with fail
          refine hv.mono ?_
          rintro e w1 ⟨rfl, b1⟩
          go_wp2_with fail
          refine (HV2.out _ (H2.out.below b1 (Nat.le_refl _))).mono ?_
          rintro e w2 ⟨rfl, b2⟩
          go_wp2_with fail
          refine (mixKinds_any _).mono ?_
          rintro e w3 ⟨rfl, b3⟩
          have bb := bel_nxt (bel_nxt b1 b2) b3
          clear b1 b2 b3 hv HV2
          unfold kindCells sOr sAnd sXor
          go_wp2
          refine wp_loop_rounds 4 ?_
          rw [rounds_succ]
          go_wp2_with (with_reducible refine wpList_storev rfl (.tmp 8) (.tmp 28) 61 rfl _ rfl _ rfl (HST0 _ _ rfl) ?_)
          have bb := bb.alloc bb.size (.cells #[.string { data := #[111, 114] }, .func (.func 86) #[] #[]] 61)
          generalize w3.alloc (.cells #[.string { data := #[111, 114] }, .func (.func 86) #[] #[]] 61) = w30 at bb ⊢
          clear HI0 HST0
          rw [rounds_succ]
          go_wp2_with (with_reducible refine wpList_storev rfl (.tmp 8) (.tmp 28) 61 rfl _ rfl _ rfl (HST1 _ _ rfl) ?_)
          have bb := bb.alloc bb.size (.cells #[.string { data := #[97, 110, 100] }, .func (.func 87) #[] #[]] 61)
          generalize w30.alloc (.cells #[.string { data := #[97, 110, 100] }, .func (.func 87) #[] #[]] 61) = w31 at bb ⊢
          clear HI1 HST1
          rw [rounds_succ]
          go_wp2_with (with_reducible refine wpList_storev rfl (.tmp 8) (.tmp 28) 61 rfl _ rfl _ rfl (HST2 _ _ rfl) ?_)
          have bb := bb.alloc bb.size (.cells #[.string { data := #[120, 111, 114] }, .func (.func 88) #[] #[]] 61)
          generalize w31.alloc (.cells #[.string { data := #[120, 111, 114] }, .func (.func 88) #[] #[]] 61) = w32 at bb ⊢
          clear HI2 HST2
          rw [rounds_succ]
          go_wp2
          go_ret
          exact ⟨_, rfl, by rw [HF.out]; exact Own.nil _ _ _, bb⟩
      · rw [hb] at hv
        rw [hb2] at HV2
        have hne : ((xs.length : Int) != (ys.length : Int)) = true := by simp; omega
        have HF := Lib.hid (mixF_no (mixB_no (s := s) (xs := xs) (ys := ys) (by rw [hb, hb2, decide_eq_false hn]; rfl)))
        have H2 := Lib.hid h'
        obtain ⟨a, cap, rfl, -⟩ := h
        obtain ⟨a', cap', rfl, -⟩ := h'
        clear hb hb2 hn
        go_enter Try.func41, Try.ntmps41
        go_wp2_with fail
        refine hv.mono ?_
        rintro e w1 ⟨rfl, b1⟩
        go_wp2_with fail
        refine (HV2.out _ (H2.out.below b1 (Nat.le_refl _))).mono ?_
        rintro e w2 ⟨rfl, b2⟩
        go_wp2
        go_ret
        exact ⟨_, rfl, by rw [HF.out]; exact Own.nil _ _ _, bel_nxt b1 b2⟩

end Go.Proofs.Ytpalmbcknjmmcaa
