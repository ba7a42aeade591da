/-
  The exact law of RingOf, as a contract of the law.
-/
import Derived.Test.YtabbfehjgchmgabHelp
import Derived.Test.YtabbfehjgchmgabWvZ
namespace Go.Proofs.Ytabbfehjgchmgab
open Go.RowKit
set_option linter.unusedVariables false

set_option maxHeartbeats 8000000 in
theorem exactRingOf_any (u v : Value) (xs ys : List Int) (w : World) (h : Rd w u xs) (g : Rd w v ys) (hl1 : xs.length ≤ maxLen) (hl2 : ys.length ≤ maxLen) :
    Calls Try.prog 8 #[u, v] w (Says true w) := by
  have h0 := h
  have g0 := g
  obtain ⟨a, cap, rfl, -⟩ := h
  obtain ⟨a', cap', rfl, -⟩ := g
  have h := h0
  have g := g0
  unfold maxLen at hl1 hl2
  by_cases hb1 : xs.length ≤ 1048576
  · by_cases hb2 : ys.length ≤ 1048576
    · skip
      have hM1 : xs.length ≤ maxLen := by unfold maxLen; omega
      have hM2 : ys.length ≤ maxLen := by unfold maxLen; omega
      have hF : (ringF xs ys).length ≤ 1048576 := ringF_len xs ys hb1
      have hFM : (ringF xs ys).length ≤ maxLen := by unfold maxLen; omega
      obtain ⟨zs, hzs⟩ : ∃ zs, zs = ringF xs ys := ⟨_, rfl⟩
      have bb := Below.refl w.heap.size w
      have HY := Lib.hid hzs
      rw [← hzs] at hF hFM
      clear hzs
      go_enter Try.func8, Try.ntmps8
      go_wp2_with fail
      refine (toIntS_any _ xs _ h hb1).mono ?_
      rintro e w1 ⟨v1, rfl, ov1, b1⟩
      have h := h.below b1 (Nat.le_refl _)
      have g := g.below b1 (Nat.le_refl _)
      have lo_v1 := bb.size
      have bb := bel_nxt bb b1
      go_wp2_with fail
      refine (toIntS_any _ ys _ g hb2).mono ?_
      rintro e w2 ⟨v2, rfl, ov2, b2⟩
      have ap_v1_v2 := Own.apart ov1 ov2
      have ov1 := ov1.below b2 (Nat.le_refl _)
      have h := h.below b2 (Nat.le_refl _)
      have g := g.below b2 (Nat.le_refl _)
      have lo_v2 := bb.size
      have bb := bel_nxt bb b2
      go_wp2_with fail
      refine (specRingOf_any _ _ xs ys _ ov1.rd ov2.rd hM1 hM2).mono ?_
      rintro e w3 ⟨v3, rfl, ov3, b3⟩
      have ap_v1_v3 := Own.apart ov1 ov3
      have ov1 := ov1.below b3 (Nat.le_refl _)
      have ap_v2_v3 := Own.apart ov2 ov3
      have ov2 := ov2.below b3 (Nat.le_refl _)
      have h := h.below b3 (Nat.le_refl _)
      have g := g.below b3 (Nat.le_refl _)
      have lo_v3 := bb.size
      have bb := bel_nxt bb b3
      rw [← HY.out] at ov3
      go_wp2_with fail
      refine (toIntS_any _ xs _ h hb1).mono ?_
      rintro e w4 ⟨v4, rfl, ov4, b4⟩
      have ap_v1_v4 := Own.apart ov1 ov4
      have ov1 := ov1.below b4 (Nat.le_refl _)
      have ap_v2_v4 := Own.apart ov2 ov4
      have ov2 := ov2.below b4 (Nat.le_refl _)
      have ap_v3_v4 := Own.apart ov3 ov4
      have ov3 := ov3.below b4 (Nat.le_refl _)
      have h := h.below b4 (Nat.le_refl _)
      have g := g.below b4 (Nat.le_refl _)
      have lo_v4 := bb.size
      have bb := bel_nxt bb b4
      go_wp2_with fail
      refine (toIntS_any _ ys _ g hb2).mono ?_
      rintro e w5 ⟨v5, rfl, ov5, b5⟩
      have ap_v1_v5 := Own.apart ov1 ov5
      have ov1 := ov1.below b5 (Nat.le_refl _)
      have ap_v2_v5 := Own.apart ov2 ov5
      have ov2 := ov2.below b5 (Nat.le_refl _)
      have ap_v3_v5 := Own.apart ov3 ov5
      have ov3 := ov3.below b5 (Nat.le_refl _)
      have ap_v4_v5 := Own.apart ov4 ov5
      have ov4 := ov4.below b5 (Nat.le_refl _)
      have h := h.below b5 (Nat.le_refl _)
      have g := g.below b5 (Nat.le_refl _)
      have lo_v5 := bb.size
      have bb := bel_nxt bb b5
      go_wp2_with fail
      refine (implRingOf_any _ _ xs ys _ ov4.rd ov5.rd hM1 hM2).mono ?_
      rintro e w6 ⟨v6, rfl, ov6, b6⟩
      have ap_v1_v6 := Own.apart ov1 ov6
      have ov1 := ov1.below b6 (Nat.le_refl _)
      have ap_v2_v6 := Own.apart ov2 ov6
      have ov2 := ov2.below b6 (Nat.le_refl _)
      have ap_v3_v6 := Own.apart ov3 ov6
      have ov3 := ov3.below b6 (Nat.le_refl _)
      have ap_v4_v6 := Own.apart ov4 ov6
      have ov4 := ov4.below b6 (Nat.le_refl _)
      have ap_v5_v6 := Own.apart ov5 ov6
      have ov5 := ov5.below b6 (Nat.le_refl _)
      have h := h.below b6 (Nat.le_refl _)
      have g := g.below b6 (Nat.le_refl _)
      have lo_v6 := bb.size
      have bb := bel_nxt bb b6
      rw [← HY.out] at ov6
      go_wp2_with fail
      refine (eqIntS_any _ _ zs zs _ ov6.rd ov3.rd hFM hFM).mono ?_
      rintro e w7 ⟨rfl, b7⟩
      have ov1 := ov1.below b7 (Nat.le_refl _)
      have ov2 := ov2.below b7 (Nat.le_refl _)
      have ov3 := ov3.below b7 (Nat.le_refl _)
      have ov4 := ov4.below b7 (Nat.le_refl _)
      have ov5 := ov5.below b7 (Nat.le_refl _)
      have ov6 := ov6.below b7 (Nat.le_refl _)
      have h := h.below b7 (Nat.le_refl _)
      have g := g.below b7 (Nat.le_refl _)
      have bb := bel_nxt bb b7
      rw [eqB_self]
      go_wp2_with fail
      refine (toIntS_any _ xs _ h hb1).mono ?_
      rintro e w8 ⟨v7, rfl, ov7, b8⟩
      have ap_v1_v7 := Own.apart ov1 ov7
      have ov1 := ov1.below b8 (Nat.le_refl _)
      have ap_v2_v7 := Own.apart ov2 ov7
      have ov2 := ov2.below b8 (Nat.le_refl _)
      have ap_v3_v7 := Own.apart ov3 ov7
      have ov3 := ov3.below b8 (Nat.le_refl _)
      have ap_v4_v7 := Own.apart ov4 ov7
      have ov4 := ov4.below b8 (Nat.le_refl _)
      have ap_v5_v7 := Own.apart ov5 ov7
      have ov5 := ov5.below b8 (Nat.le_refl _)
      have ap_v6_v7 := Own.apart ov6 ov7
      have ov6 := ov6.below b8 (Nat.le_refl _)
      have h := h.below b8 (Nat.le_refl _)
      have g := g.below b8 (Nat.le_refl _)
      have lo_v7 := bb.size
      have bb := bel_nxt bb b8
      go_wp2_with fail
      refine (eqIntS_any _ _ xs xs _ ov4.rd ov7.rd hM1 hM1).mono ?_
      rintro e w9 ⟨rfl, b9⟩
      have ov1 := ov1.below b9 (Nat.le_refl _)
      have ov2 := ov2.below b9 (Nat.le_refl _)
      have ov3 := ov3.below b9 (Nat.le_refl _)
      have ov4 := ov4.below b9 (Nat.le_refl _)
      have ov5 := ov5.below b9 (Nat.le_refl _)
      have ov6 := ov6.below b9 (Nat.le_refl _)
      have ov7 := ov7.below b9 (Nat.le_refl _)
      have h := h.below b9 (Nat.le_refl _)
      have g := g.below b9 (Nat.le_refl _)
      have bb := bel_nxt bb b9
      rw [eqB_self]
      go_wp2_with fail
      refine (toIntS_any _ ys _ g hb2).mono ?_
      rintro e w10 ⟨v8, rfl, ov8, b10⟩
      have ap_v1_v8 := Own.apart ov1 ov8
      have ov1 := ov1.below b10 (Nat.le_refl _)
      have ap_v2_v8 := Own.apart ov2 ov8
      have ov2 := ov2.below b10 (Nat.le_refl _)
      have ap_v3_v8 := Own.apart ov3 ov8
      have ov3 := ov3.below b10 (Nat.le_refl _)
      have ap_v4_v8 := Own.apart ov4 ov8
      have ov4 := ov4.below b10 (Nat.le_refl _)
      have ap_v5_v8 := Own.apart ov5 ov8
      have ov5 := ov5.below b10 (Nat.le_refl _)
      have ap_v6_v8 := Own.apart ov6 ov8
      have ov6 := ov6.below b10 (Nat.le_refl _)
      have ap_v7_v8 := Own.apart ov7 ov8
      have ov7 := ov7.below b10 (Nat.le_refl _)
      have h := h.below b10 (Nat.le_refl _)
      have g := g.below b10 (Nat.le_refl _)
      have lo_v8 := bb.size
      have bb := bel_nxt bb b10
      go_wp2_with fail
      refine (eqIntS_any _ _ ys ys _ ov5.rd ov8.rd hM2 hM2).mono ?_
      rintro e w11 ⟨rfl, b11⟩
      have ov1 := ov1.below b11 (Nat.le_refl _)
      have ov2 := ov2.below b11 (Nat.le_refl _)
      have ov3 := ov3.below b11 (Nat.le_refl _)
      have ov4 := ov4.below b11 (Nat.le_refl _)
      have ov5 := ov5.below b11 (Nat.le_refl _)
      have ov6 := ov6.below b11 (Nat.le_refl _)
      have ov7 := ov7.below b11 (Nat.le_refl _)
      have ov8 := ov8.below b11 (Nat.le_refl _)
      have h := h.below b11 (Nat.le_refl _)
      have g := g.below b11 (Nat.le_refl _)
      have bb := bel_nxt bb b11
      rw [eqB_self]
      go_wp2_with fail
      refine (markIntS_any _ _ xs 1 _ ov4 hb1 (by omega) (by omega)).mono ?_
      rintro e w12 ⟨rfl, mv4, g12⟩
      have ov1 := ov1.kept g12 ap_v1_v4.1
      have ov2 := ov2.kept g12 ap_v2_v4.1
      have ov3 := ov3.kept g12 ap_v3_v4.1
      have ov5 := ov5.kept g12 ap_v4_v5.2
      have ov6 := ov6.kept g12 ap_v4_v6.2
      have ov7 := ov7.kept g12 ap_v4_v7.2
      have ov8 := ov8.kept g12 ap_v4_v8.2
      have bb := bel_marked bb ov4 g12 (by omega)
      have h := h0.below bb (Nat.le_refl _)
      have g := g0.below bb (Nat.le_refl _)
      have ov4 := mv4
      go_wp2_with fail
      refine (markIntS_any _ _ ys (1 + xs.length) _ ov5 hb2 (by omega) (by omega)).mono ?_
      rintro e w13 ⟨rfl, mv5, g13⟩
      have ov1 := ov1.kept g13 ap_v1_v5.1
      have ov2 := ov2.kept g13 ap_v2_v5.1
      have ov3 := ov3.kept g13 ap_v3_v5.1
      have ov4 := ov4.kept g13 ap_v4_v5.1
      have ov6 := ov6.kept g13 ap_v5_v6.2
      have ov7 := ov7.kept g13 ap_v5_v7.2
      have ov8 := ov8.kept g13 ap_v5_v8.2
      have bb := bel_marked bb ov5 g13 (by omega)
      have h := h0.below bb (Nat.le_refl _)
      have g := g0.below bb (Nat.le_refl _)
      have ov5 := mv5
      go_wp2_with fail
      refine (eqIntS_any _ _ zs zs _ ov6.rd ov3.rd hFM hFM).mono ?_
      rintro e w14 ⟨rfl, b14⟩
      have ov1 := ov1.below b14 (Nat.le_refl _)
      have ov2 := ov2.below b14 (Nat.le_refl _)
      have ov3 := ov3.below b14 (Nat.le_refl _)
      have ov4 := ov4.below b14 (Nat.le_refl _)
      have ov5 := ov5.below b14 (Nat.le_refl _)
      have ov6 := ov6.below b14 (Nat.le_refl _)
      have ov7 := ov7.below b14 (Nat.le_refl _)
      have ov8 := ov8.below b14 (Nat.le_refl _)
      have h := h.below b14 (Nat.le_refl _)
      have g := g.below b14 (Nat.le_refl _)
      have bb := bel_nxt bb b14
      rw [eqB_self]
      go_wp2_with fail
      refine (markIntS_any _ _ zs 1 _ ov6 hF (by omega) (by omega)).mono ?_
      rintro e w15 ⟨rfl, mv6, g15⟩
      have ov1 := ov1.kept g15 ap_v1_v6.1
      have ov2 := ov2.kept g15 ap_v2_v6.1
      have ov3 := ov3.kept g15 ap_v3_v6.1
      have ov4 := ov4.kept g15 ap_v4_v6.1
      have ov5 := ov5.kept g15 ap_v5_v6.1
      have ov7 := ov7.kept g15 ap_v6_v7.2
      have ov8 := ov8.kept g15 ap_v6_v8.2
      have bb := bel_marked bb ov6 g15 (by omega)
      have h := h0.below bb (Nat.le_refl _)
      have g := g0.below bb (Nat.le_refl _)
      have ov6 := mv6
      go_wp2_with fail
      refine (heldIntS_any _ _ 1 _ ov6.rd hF (by omega) (by omega)).mono ?_
      rintro e w16 ⟨rfl, b16⟩
      have ov1 := ov1.below b16 (Nat.le_refl _)
      have ov2 := ov2.below b16 (Nat.le_refl _)
      have ov3 := ov3.below b16 (Nat.le_refl _)
      have ov4 := ov4.below b16 (Nat.le_refl _)
      have ov5 := ov5.below b16 (Nat.le_refl _)
      have ov6 := ov6.below b16 (Nat.le_refl _)
      have ov7 := ov7.below b16 (Nat.le_refl _)
      have ov8 := ov8.below b16 (Nat.le_refl _)
      have h := h.below b16 (Nat.le_refl _)
      have g := g.below b16 (Nat.le_refl _)
      have bb := bel_nxt bb b16
      go_wp2_with fail
      refine (toIntS_any _ xs _ h hb1).mono ?_
      rintro e w17 ⟨v9, rfl, ov9, b17⟩
      have ap_v1_v9 := Own.apart ov1 ov9
      have ov1 := ov1.below b17 (Nat.le_refl _)
      have ap_v2_v9 := Own.apart ov2 ov9
      have ov2 := ov2.below b17 (Nat.le_refl _)
      have ap_v3_v9 := Own.apart ov3 ov9
      have ov3 := ov3.below b17 (Nat.le_refl _)
      have ap_v4_v9 := Own.apart ov4 ov9
      have ov4 := ov4.below b17 (Nat.le_refl _)
      have ap_v5_v9 := Own.apart ov5 ov9
      have ov5 := ov5.below b17 (Nat.le_refl _)
      have ap_v6_v9 := Own.apart ov6 ov9
      have ov6 := ov6.below b17 (Nat.le_refl _)
      have ap_v7_v9 := Own.apart ov7 ov9
      have ov7 := ov7.below b17 (Nat.le_refl _)
      have ap_v8_v9 := Own.apart ov8 ov9
      have ov8 := ov8.below b17 (Nat.le_refl _)
      have h := h.below b17 (Nat.le_refl _)
      have g := g.below b17 (Nat.le_refl _)
      have lo_v9 := bb.size
      have bb := bel_nxt bb b17
      go_wp2_with fail
      refine (toIntS_any _ ys _ g hb2).mono ?_
      rintro e w18 ⟨v10, rfl, ov10, b18⟩
      have ap_v1_v10 := Own.apart ov1 ov10
      have ov1 := ov1.below b18 (Nat.le_refl _)
      have ap_v2_v10 := Own.apart ov2 ov10
      have ov2 := ov2.below b18 (Nat.le_refl _)
      have ap_v3_v10 := Own.apart ov3 ov10
      have ov3 := ov3.below b18 (Nat.le_refl _)
      have ap_v4_v10 := Own.apart ov4 ov10
      have ov4 := ov4.below b18 (Nat.le_refl _)
      have ap_v5_v10 := Own.apart ov5 ov10
      have ov5 := ov5.below b18 (Nat.le_refl _)
      have ap_v6_v10 := Own.apart ov6 ov10
      have ov6 := ov6.below b18 (Nat.le_refl _)
      have ap_v7_v10 := Own.apart ov7 ov10
      have ov7 := ov7.below b18 (Nat.le_refl _)
      have ap_v8_v10 := Own.apart ov8 ov10
      have ov8 := ov8.below b18 (Nat.le_refl _)
      have ap_v9_v10 := Own.apart ov9 ov10
      have ov9 := ov9.below b18 (Nat.le_refl _)
      have h := h.below b18 (Nat.le_refl _)
      have g := g.below b18 (Nat.le_refl _)
      have lo_v10 := bb.size
      have bb := bel_nxt bb b18
      go_wp2_with fail
      refine (implRingOf_any _ _ xs ys _ ov9.rd ov10.rd hM1 hM2).mono ?_
      rintro e w19 ⟨v11, rfl, ov11, b19⟩
      have ap_v1_v11 := Own.apart ov1 ov11
      have ov1 := ov1.below b19 (Nat.le_refl _)
      have ap_v2_v11 := Own.apart ov2 ov11
      have ov2 := ov2.below b19 (Nat.le_refl _)
      have ap_v3_v11 := Own.apart ov3 ov11
      have ov3 := ov3.below b19 (Nat.le_refl _)
      have ap_v4_v11 := Own.apart ov4 ov11
      have ov4 := ov4.below b19 (Nat.le_refl _)
      have ap_v5_v11 := Own.apart ov5 ov11
      have ov5 := ov5.below b19 (Nat.le_refl _)
      have ap_v6_v11 := Own.apart ov6 ov11
      have ov6 := ov6.below b19 (Nat.le_refl _)
      have ap_v7_v11 := Own.apart ov7 ov11
      have ov7 := ov7.below b19 (Nat.le_refl _)
      have ap_v8_v11 := Own.apart ov8 ov11
      have ov8 := ov8.below b19 (Nat.le_refl _)
      have ap_v9_v11 := Own.apart ov9 ov11
      have ov9 := ov9.below b19 (Nat.le_refl _)
      have ap_v10_v11 := Own.apart ov10 ov11
      have ov10 := ov10.below b19 (Nat.le_refl _)
      have h := h.below b19 (Nat.le_refl _)
      have g := g.below b19 (Nat.le_refl _)
      have lo_v11 := bb.size
      have bb := bel_nxt bb b19
      rw [← HY.out] at ov11
      go_wp2_with fail
      refine (eqIntS_any _ _ zs zs _ ov11.rd ov3.rd hFM hFM).mono ?_
      rintro e w20 ⟨rfl, b20⟩
      have ov1 := ov1.below b20 (Nat.le_refl _)
      have ov2 := ov2.below b20 (Nat.le_refl _)
      have ov3 := ov3.below b20 (Nat.le_refl _)
      have ov4 := ov4.below b20 (Nat.le_refl _)
      have ov5 := ov5.below b20 (Nat.le_refl _)
      have ov6 := ov6.below b20 (Nat.le_refl _)
      have ov7 := ov7.below b20 (Nat.le_refl _)
      have ov8 := ov8.below b20 (Nat.le_refl _)
      have ov9 := ov9.below b20 (Nat.le_refl _)
      have ov10 := ov10.below b20 (Nat.le_refl _)
      have ov11 := ov11.below b20 (Nat.le_refl _)
      have h := h.below b20 (Nat.le_refl _)
      have g := g.below b20 (Nat.le_refl _)
      have bb := bel_nxt bb b20
      rw [eqB_self]
      go_wp2_with fail
      refine (heldIntS_any _ _ 1 _ ov6.rd hF (by omega) (by omega)).mono ?_
      rintro e w21 ⟨rfl, b21⟩
      have ov1 := ov1.below b21 (Nat.le_refl _)
      have ov2 := ov2.below b21 (Nat.le_refl _)
      have ov3 := ov3.below b21 (Nat.le_refl _)
      have ov4 := ov4.below b21 (Nat.le_refl _)
      have ov5 := ov5.below b21 (Nat.le_refl _)
      have ov6 := ov6.below b21 (Nat.le_refl _)
      have ov7 := ov7.below b21 (Nat.le_refl _)
      have ov8 := ov8.below b21 (Nat.le_refl _)
      have ov9 := ov9.below b21 (Nat.le_refl _)
      have ov10 := ov10.below b21 (Nat.le_refl _)
      have ov11 := ov11.below b21 (Nat.le_refl _)
      have h := h.below b21 (Nat.le_refl _)
      have g := g.below b21 (Nat.le_refl _)
      have bb := bel_nxt bb b21
      go_wp2
      go_ret
      exact ⟨rfl, bb⟩
    · go_enter Try.func8, Try.ntmps8
      go_wp2
      go_ret
      exact ⟨rfl, Below.refl _ _⟩
  · go_enter Try.func8, Try.ntmps8
    go_wp2
    go_ret
    exact ⟨rfl, Below.refl _ _⟩

end Go.Proofs.Ytabbfehjgchmgab
