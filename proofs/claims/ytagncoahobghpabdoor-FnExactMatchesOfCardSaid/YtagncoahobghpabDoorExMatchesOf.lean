/-
  The exact law of MatchesOf, as a contract of the law.
-/
import Derived.Test.YtagncoahobghpabDoorHelp
import Derived.Test.YtagncoahobghpabDoorMsS
namespace Go.Proofs.YtagncoahobghpabDoor
open Go.RowKit
set_option linter.unusedVariables false

set_option maxHeartbeats 4000000 in
theorem exactMatchesOf_any (s p : ByteArray) (w : World) (hs : s.size ≤ maxLen) (hp : p.size ≤ maxLen) :
    Calls Tryd.prog 3 #[.string s, .string p] w (Says true w) := by
  unfold maxLen at hs hp
  by_cases h1 : s.size ≤ 1048576
  · by_cases h2 : p.size ≤ 1048576
    · obtain ⟨ys, hys⟩ : ∃ ys, ys = mtF s p := ⟨_, rfl⟩
      have hF : ys.length ≤ 1048576 := by have := mtF_len s p; rw [← hys] at this; omega
      have hFM : ys.length ≤ maxLen := by unfold maxLen; omega
      have bb := Below.refl w.heap.size w
      have HY := Lib.hid hys
      clear hys
      go_enter Tryd.func3, Tryd.ntmps3
      go_wp2_with fail
      refine (specMatchesOf_any s p _ h1 h2).mono ?_
      rintro e w1 ⟨v2, rfl, ov2, b1⟩
      have lo_v2 := bb.size
      have bb := bel_nxt bb b1
      rw [← HY.out] at ov2
      go_wp2_with fail
      refine (implMatchesOf_any s p _ h1 h2).mono ?_
      rintro e w2 ⟨v4, rfl, ov4, b2⟩
      have ap_v2_v4 := Own.apart ov2 ov4
      have ov2 := ov2.below b2 (Nat.le_refl _)
      have lo_v4 := bb.size
      have bb := bel_nxt bb b2
      rw [← HY.out] at ov4
      go_wp2_with fail
      refine (eqIntS_any _ _ ys ys _ ov4.rd ov2.rd hFM hFM).mono ?_
      rintro e w3 ⟨rfl, b3⟩
      have ov2 := ov2.below b3 (Nat.le_refl _)
      have ov4 := ov4.below b3 (Nat.le_refl _)
      have bb := bel_nxt bb b3
      rw [eqB_self]
      go_wp2_with fail
      refine (markIntS_any _ _ ys 1 _ ov4 hF (by omega) (by omega)).mono ?_
      rintro e w4 ⟨rfl, mv4, g4⟩
      have ov2 := ov2.kept g4 ap_v2_v4.1
      have bb := bel_marked bb ov4 g4 (by omega)
      have ov4 := mv4
      go_wp2_with fail
      refine (heldIntS_any _ _ 1 _ ov4.rd hF (by omega) (by omega)).mono ?_
      rintro e w5 ⟨rfl, b5⟩
      have ov2 := ov2.below b5 (Nat.le_refl _)
      have ov4 := ov4.below b5 (Nat.le_refl _)
      have bb := bel_nxt bb b5
      go_wp2_with fail
      refine (implMatchesOf_any s p _ h1 h2).mono ?_
      rintro e w6 ⟨v13, rfl, ov13, b6⟩
      have ap_v2_v13 := Own.apart ov2 ov13
      have ov2 := ov2.below b6 (Nat.le_refl _)
      have ap_v4_v13 := Own.apart ov4 ov13
      have ov4 := ov4.below b6 (Nat.le_refl _)
      have lo_v13 := bb.size
      have bb := bel_nxt bb b6
      rw [← HY.out] at ov13
      go_wp2_with fail
      refine (eqIntS_any _ _ ys ys _ ov13.rd ov2.rd hFM hFM).mono ?_
      rintro e w7 ⟨rfl, b7⟩
      have ov2 := ov2.below b7 (Nat.le_refl _)
      have ov4 := ov4.below b7 (Nat.le_refl _)
      have ov13 := ov13.below b7 (Nat.le_refl _)
      have bb := bel_nxt bb b7
      rw [eqB_self]
      go_wp2_with fail
      refine (heldIntS_any _ _ 1 _ ov4.rd hF (by omega) (by omega)).mono ?_
      rintro e w8 ⟨rfl, b8⟩
      have ov2 := ov2.below b8 (Nat.le_refl _)
      have ov4 := ov4.below b8 (Nat.le_refl _)
      have ov13 := ov13.below b8 (Nat.le_refl _)
      have bb := bel_nxt bb b8
      go_wp2
      go_ret
      exact ⟨rfl, bb⟩
    · go_enter Tryd.func3, Tryd.ntmps3
      go_wp2
      go_ret
      exact ⟨rfl, Below.refl _ _⟩
  · go_enter Tryd.func3, Tryd.ntmps3
    go_wp2
    go_ret
    exact ⟨rfl, Below.refl _ _⟩

end Go.Proofs.YtagncoahobghpabDoor
