/-
  The exact law of MiddlesOf, as a contract of the law.
-/
import Derived.Test.YtlglokbakmbpdabHelp
import Derived.Test.YtlglokbakmbpdabMdI
namespace Go.Proofs.Ytlglokbakmbpdab
open Go.RowKit
set_option linter.unusedVariables false

set_option maxHeartbeats 4000000 in
theorem exactMiddlesOf_any (v : Value) (xs : List Int) (k : Int) (w : World) (h : Rd w v xs) (hl : xs.length ≤ maxLen) (hk : -9223372036854775808 ≤ k ∧ k ≤ 9223372036854775807) (hw : ∀ n ∈ xs, (Lit.int .i64 n).wf = true) :
    Calls Try.prog 6 #[v, .int .i64 k] w (Says true w) := by
  have h0 := h
  obtain ⟨a, cap, rfl, -⟩ := h
  have h := h0
  unfold maxLen at hl
  by_cases hbig : xs.length ≤ 1048576
  · have hM : xs.length ≤ maxLen := by unfold maxLen; omega
    have hF : (midF xs k).length ≤ 1048576 := midF_len2 xs k hbig
    have hFM : (midF xs k).length ≤ maxLen := by unfold maxLen; omega
    obtain ⟨ys, hys⟩ : ∃ ys, ys = midF xs k := ⟨_, rfl⟩
    have bb := Below.refl w.heap.size w
    have HY := Lib.hid hys
    rw [← hys] at hF hFM
    clear hys
    go_enter Try.func6, Try.ntmps6
    go_wp2_with fail
    refine (toIntS_any _ xs _ h hbig).mono ?_
    rintro e w1 ⟨v1, rfl, ov1, b1⟩
    have h := h.below b1 (Nat.le_refl _)
    have lo_v1 := bb.size
    have bb := bel_nxt bb b1
    go_wp2_with fail
    refine (specMiddlesOf_any _ xs k _ ov1.rd (own_cap ov1) hM).mono ?_
    rintro e w2 ⟨v2, rfl, ov2, b2⟩
    have ap_v1_v2 := Own.apart ov1 ov2
    have ov1 := ov1.below b2 (Nat.le_refl _)
    have h := h.below b2 (Nat.le_refl _)
    have lo_v2 := bb.size
    have bb := bel_nxt bb b2
    rw [← HY.out] at ov2
    go_wp2_with fail
    refine (toIntS_any _ xs _ h hbig).mono ?_
    rintro e w3 ⟨v3, rfl, ov3, b3⟩
    have ap_v1_v3 := Own.apart ov1 ov3
    have ov1 := ov1.below b3 (Nat.le_refl _)
    have ap_v2_v3 := Own.apart ov2 ov3
    have ov2 := ov2.below b3 (Nat.le_refl _)
    have h := h.below b3 (Nat.le_refl _)
    have lo_v3 := bb.size
    have bb := bel_nxt bb b3
    go_wp2_with fail
    refine (implMiddlesOf_any _ xs k _ hk ov3.rd (own_cap ov3) hM).mono ?_
    rintro e w4 ⟨v4, rfl, ov4, b4⟩
    have ap_v1_v4 := Own.apart ov1 ov4
    have ov1 := ov1.below b4 (Nat.le_refl _)
    have ap_v2_v4 := Own.apart ov2 ov4
    have ov2 := ov2.below b4 (Nat.le_refl _)
    have ap_v3_v4 := Own.apart ov3 ov4
    have ov3 := ov3.below b4 (Nat.le_refl _)
    have h := h.below b4 (Nat.le_refl _)
    have lo_v4 := bb.size
    have bb := bel_nxt bb b4
    rw [← HY.out] at ov4
    go_wp2_with fail
    refine (eqIntS_any _ _ ys ys _ ov4.rd ov2.rd hFM hFM).mono ?_
    rintro e w5 ⟨rfl, b5⟩
    have ov1 := ov1.below b5 (Nat.le_refl _)
    have ov2 := ov2.below b5 (Nat.le_refl _)
    have ov3 := ov3.below b5 (Nat.le_refl _)
    have ov4 := ov4.below b5 (Nat.le_refl _)
    have h := h.below b5 (Nat.le_refl _)
    have bb := bel_nxt bb b5
    rw [eqB_self]
    go_wp2_with fail
    refine (toIntS_any _ xs _ h hbig).mono ?_
    rintro e w6 ⟨v6, rfl, ov6, b6⟩
    have ap_v1_v6 := Own.apart ov1 ov6
    have ov1 := ov1.below b6 (Nat.le_refl _)
    have ap_v2_v6 := Own.apart ov2 ov6
    have ov2 := ov2.below b6 (Nat.le_refl _)
    have ap_v3_v6 := Own.apart ov3 ov6
    have ov3 := ov3.below b6 (Nat.le_refl _)
    have ap_v4_v6 := Own.apart ov4 ov6
    have ov4 := ov4.below b6 (Nat.le_refl _)
    have h := h.below b6 (Nat.le_refl _)
    have lo_v6 := bb.size
    have bb := bel_nxt bb b6
    go_wp2_with fail
    refine (eqIntS_any _ _ xs xs _ ov3.rd ov6.rd hM hM).mono ?_
    rintro e w7 ⟨rfl, b7⟩
    have ov1 := ov1.below b7 (Nat.le_refl _)
    have ov2 := ov2.below b7 (Nat.le_refl _)
    have ov3 := ov3.below b7 (Nat.le_refl _)
    have ov4 := ov4.below b7 (Nat.le_refl _)
    have ov6 := ov6.below b7 (Nat.le_refl _)
    have h := h.below b7 (Nat.le_refl _)
    have bb := bel_nxt bb b7
    rw [eqB_self]
    go_wp2_with fail
    refine (markIntS_any _ _ xs 1 _ ov3 hbig (by omega) (by omega)).mono ?_
    rintro e w8 ⟨rfl, mv3, g8⟩
    have ov1 := ov1.kept g8 ap_v1_v3.1
    have ov2 := ov2.kept g8 ap_v2_v3.1
    have ov4 := ov4.kept g8 ap_v3_v4.2
    have ov6 := ov6.kept g8 ap_v3_v6.2
    have bb := bel_marked bb ov3 g8 (by omega)
    have h := h0.below bb (Nat.le_refl _)
    have ov3 := mv3
    go_wp2_with fail
    refine (eqIntS_any _ _ ys ys _ ov4.rd ov2.rd hFM hFM).mono ?_
    rintro e w9 ⟨rfl, b9⟩
    have ov1 := ov1.below b9 (Nat.le_refl _)
    have ov2 := ov2.below b9 (Nat.le_refl _)
    have ov3 := ov3.below b9 (Nat.le_refl _)
    have ov4 := ov4.below b9 (Nat.le_refl _)
    have ov6 := ov6.below b9 (Nat.le_refl _)
    have h := h.below b9 (Nat.le_refl _)
    have bb := bel_nxt bb b9
    rw [eqB_self]
    go_wp2_with fail
    refine (markIntS_any _ _ ys 1 _ ov4 hF (by omega) (by omega)).mono ?_
    rintro e w10 ⟨rfl, mv4, g10⟩
    have ov1 := ov1.kept g10 ap_v1_v4.1
    have ov2 := ov2.kept g10 ap_v2_v4.1
    have ov3 := ov3.kept g10 ap_v3_v4.1
    have ov6 := ov6.kept g10 ap_v4_v6.2
    have bb := bel_marked bb ov4 g10 (by omega)
    have h := h0.below bb (Nat.le_refl _)
    have ov4 := mv4
    go_wp2_with fail
    refine (heldIntS_any _ _ 1 _ ov4.rd hF (by omega) (by omega)).mono ?_
    rintro e w11 ⟨rfl, b11⟩
    have ov1 := ov1.below b11 (Nat.le_refl _)
    have ov2 := ov2.below b11 (Nat.le_refl _)
    have ov3 := ov3.below b11 (Nat.le_refl _)
    have ov4 := ov4.below b11 (Nat.le_refl _)
    have ov6 := ov6.below b11 (Nat.le_refl _)
    have h := h.below b11 (Nat.le_refl _)
    have bb := bel_nxt bb b11
    go_wp2_with fail
    refine (toIntS_any _ xs _ h hbig).mono ?_
    rintro e w12 ⟨v12, rfl, ov12, b12⟩
    have ap_v1_v12 := Own.apart ov1 ov12
    have ov1 := ov1.below b12 (Nat.le_refl _)
    have ap_v2_v12 := Own.apart ov2 ov12
    have ov2 := ov2.below b12 (Nat.le_refl _)
    have ap_v3_v12 := Own.apart ov3 ov12
    have ov3 := ov3.below b12 (Nat.le_refl _)
    have ap_v4_v12 := Own.apart ov4 ov12
    have ov4 := ov4.below b12 (Nat.le_refl _)
    have ap_v6_v12 := Own.apart ov6 ov12
    have ov6 := ov6.below b12 (Nat.le_refl _)
    have h := h.below b12 (Nat.le_refl _)
    have lo_v12 := bb.size
    have bb := bel_nxt bb b12
    go_wp2_with fail
    refine (implMiddlesOf_any _ xs k _ hk ov12.rd (own_cap ov12) hM).mono ?_
    rintro e w13 ⟨v13, rfl, ov13, b13⟩
    have ap_v1_v13 := Own.apart ov1 ov13
    have ov1 := ov1.below b13 (Nat.le_refl _)
    have ap_v2_v13 := Own.apart ov2 ov13
    have ov2 := ov2.below b13 (Nat.le_refl _)
    have ap_v3_v13 := Own.apart ov3 ov13
    have ov3 := ov3.below b13 (Nat.le_refl _)
    have ap_v4_v13 := Own.apart ov4 ov13
    have ov4 := ov4.below b13 (Nat.le_refl _)
    have ap_v6_v13 := Own.apart ov6 ov13
    have ov6 := ov6.below b13 (Nat.le_refl _)
    have ap_v12_v13 := Own.apart ov12 ov13
    have ov12 := ov12.below b13 (Nat.le_refl _)
    have h := h.below b13 (Nat.le_refl _)
    have lo_v13 := bb.size
    have bb := bel_nxt bb b13
    rw [← HY.out] at ov13
    go_wp2_with fail
    refine (eqIntS_any _ _ ys ys _ ov13.rd ov2.rd hFM hFM).mono ?_
    rintro e w14 ⟨rfl, b14⟩
    have ov1 := ov1.below b14 (Nat.le_refl _)
    have ov2 := ov2.below b14 (Nat.le_refl _)
    have ov3 := ov3.below b14 (Nat.le_refl _)
    have ov4 := ov4.below b14 (Nat.le_refl _)
    have ov6 := ov6.below b14 (Nat.le_refl _)
    have ov12 := ov12.below b14 (Nat.le_refl _)
    have ov13 := ov13.below b14 (Nat.le_refl _)
    have h := h.below b14 (Nat.le_refl _)
    have bb := bel_nxt bb b14
    rw [eqB_self]
    go_wp2_with fail
    refine (heldIntS_any _ _ 1 _ ov4.rd hF (by omega) (by omega)).mono ?_
    rintro e w15 ⟨rfl, b15⟩
    have ov1 := ov1.below b15 (Nat.le_refl _)
    have ov2 := ov2.below b15 (Nat.le_refl _)
    have ov3 := ov3.below b15 (Nat.le_refl _)
    have ov4 := ov4.below b15 (Nat.le_refl _)
    have ov6 := ov6.below b15 (Nat.le_refl _)
    have ov12 := ov12.below b15 (Nat.le_refl _)
    have ov13 := ov13.below b15 (Nat.le_refl _)
    have h := h.below b15 (Nat.le_refl _)
    have bb := bel_nxt bb b15
    go_wp2
    go_ret
    exact ⟨rfl, bb⟩
  · go_enter Try.func6, Try.ntmps6
    go_wp2
    go_ret
    exact ⟨rfl, Below.refl _ _⟩

end Go.Proofs.Ytlglokbakmbpdab
