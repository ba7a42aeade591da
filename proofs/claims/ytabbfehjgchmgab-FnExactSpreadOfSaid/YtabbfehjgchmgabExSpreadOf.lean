/-
  The exact law of SpreadOf, as a contract of the law.
-/
import Derived.Test.YtabbfehjgchmgabHelp
import Derived.Test.YtabbfehjgchmgabWvY
namespace Go.Proofs.Ytabbfehjgchmgab
open Go.RowKit
set_option linter.unusedVariables false

set_option maxHeartbeats 4000000 in
theorem exactSpreadOf_any (v : Value) (xs : List Int) (w : World) (h : Rd w v xs) (hl : xs.length ≤ maxLen) (hw : ∀ n ∈ xs, (Lit.int .i64 n).wf = true) :
    Calls Try.prog 10 #[v] w (Says true w) := by
  have h0 := h
  obtain ⟨a, cap, rfl, -⟩ := h
  have h := h0
  unfold maxLen at hl
  by_cases hbig : xs.length ≤ 1048576
  · have hM : xs.length ≤ maxLen := by unfold maxLen; omega
    have bb := Below.refl w.heap.size w
    have HS := Lib.hid fun w (v : Value) (h : Rd w v xs) => specSpreadOf_any v xs w h hM
    have HI := Lib.hid fun w (v : Value) (h : Rd w v xs) => implSpreadOf_any v xs w h hM
    generalize sprA xs = y at HS HI
    generalize sprB xs = z at HS HI
    have e1 : (y == y) = true := by simp
    have e2 : (y != y) = false := by simp
    have e3 : (z == z) = true := by simp
    have e4 : (z != z) = false := by simp
    go_enter Try.func10, Try.ntmps10
    go_wp2_with fail
    refine (toIntS_any _ xs _ h hbig).mono ?_
    rintro e w1 ⟨v1, rfl, ov1, b1⟩
    have h := h.below b1 (Nat.le_refl _)
    have lo_v1 := bb.size
    have bb := bel_nxt bb b1
    go_wp2_with fail
    refine (HS.out _ _ ov1.rd).mono ?_
    rintro e w2 ⟨rfl, b2⟩
    have ov1 := ov1.below b2 (Nat.le_refl _)
    have h := h.below b2 (Nat.le_refl _)
    have bb := bel_nxt bb b2
    go_wp2_with fail
    refine (toIntS_any _ xs _ h hbig).mono ?_
    rintro e w3 ⟨v3, rfl, ov3, b3⟩
    have ap_v1_v3 := Own.apart ov1 ov3
    have ov1 := ov1.below b3 (Nat.le_refl _)
    have h := h.below b3 (Nat.le_refl _)
    have lo_v3 := bb.size
    have bb := bel_nxt bb b3
    go_wp2_with fail
    refine (HI.out _ _ ov3.rd).mono ?_
    rintro e w4 ⟨rfl, b4⟩
    have ov1 := ov1.below b4 (Nat.le_refl _)
    have ov3 := ov3.below b4 (Nat.le_refl _)
    have h := h.below b4 (Nat.le_refl _)
    have bb := bel_nxt bb b4
    go_wp2_with fail
    refine (toIntS_any _ xs _ h hbig).mono ?_
    rintro e w5 ⟨v6, rfl, ov6, b5⟩
    have ap_v1_v6 := Own.apart ov1 ov6
    have ov1 := ov1.below b5 (Nat.le_refl _)
    have ap_v3_v6 := Own.apart ov3 ov6
    have ov3 := ov3.below b5 (Nat.le_refl _)
    have h := h.below b5 (Nat.le_refl _)
    have lo_v6 := bb.size
    have bb := bel_nxt bb b5
    go_wp2_with fail
    refine (eqIntS_any _ _ xs xs _ ov3.rd ov6.rd hM hM).mono ?_
    rintro e w6 ⟨rfl, b6⟩
    have ov1 := ov1.below b6 (Nat.le_refl _)
    have ov3 := ov3.below b6 (Nat.le_refl _)
    have ov6 := ov6.below b6 (Nat.le_refl _)
    have h := h.below b6 (Nat.le_refl _)
    have bb := bel_nxt bb b6
    rw [eqB_self]
    go_wp2
    go_ret
    exact ⟨rfl, bb⟩
  · go_enter Try.func10, Try.ntmps10
    go_wp2
    go_ret
    exact ⟨rfl, Below.refl _ _⟩

end Go.Proofs.Ytabbfehjgchmgab
