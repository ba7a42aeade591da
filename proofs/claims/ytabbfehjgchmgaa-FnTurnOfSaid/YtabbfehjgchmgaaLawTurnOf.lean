/-
  The law FnTurnOf, as a contract.
-/
import Derived.Test.YtabbfehjgchmgaaHelpF
import Derived.Test.YtabbfehjgchmgaaDraw3
import Derived.Test.YtabbfehjgchmgaaWvZ
import Derived.Test.YtabbfehjgchmgaaWvY
namespace Go.Proofs.Ytabbfehjgchmgaa
open Go.RowKit
set_option linter.unusedVariables false

set_option maxHeartbeats 8000000 in
set_option maxRecDepth 100000 in
theorem lawTurnOf_any (v : Value) (n : Nat) (w : World) (h : RdB w v n) :
    Calls Try.prog 9 #[v] w (Says true w) := by
  have h0 := h
  obtain ⟨a, cap, rfl, h1, h2, -⟩ := h0
  unfold maxLen at h2
  by_cases hbig : n ≤ 1048576
  · go_enter Try.func9, Try.ntmps9
    go_wp2_with fail
    refine (drawTurnOf_any _ n _ h).mono ?_
    rintro e w1 ⟨u, xs, z, rfl, o, hl, hw, hz, bb⟩
    clear h h1 h2 hbig
    have HI := Lib.hid fun w (v : Value) (h : Rd w v xs) => implTurnOf_any v xs z w h (Own.max64 hl)
    have HS := Lib.hid fun w (v : Value) (h : Rd w v xs) => specTurnOf_any v xs z w h (Own.max64 hl)
    have hM := Own.max64 hl
    obtain ⟨ys, hys⟩ : ∃ ys, ys = turnF xs z := ⟨_, rfl⟩
    rw [← hys] at HI HS
    have hyl : ys.length ≤ 64 := by rw [hys]; exact (by unfold turnF; split <;> simp; exact hl)
    have hyM := Own.max64 hyl
    have HE := Lib.hid fun w (a b : Value) (h1 : Rd w a ys) (h2 : Rd w b ys) => equalInts_any a b ys ys w h1 h2 hyM hyM
    have HYS := Lib.hid hys
    clear hys
    go_wp2_with fail
    refine (HI.out _ _ o.rd).mono ?_
    rintro e w2 ⟨u, rfl, p, b2⟩
    have o := o.below b2 (Nat.le_refl _)
    have bb := bel_nxt bb b2
    go_wp2_with fail
    refine (HS.out _ _ o.rd).mono ?_
    rintro e w3 ⟨u3, rfl, p3, b3⟩
    have o := o.below b3 (Nat.le_refl _)
    have p := p.below b3 (Nat.le_refl _)
    have bb := bel_nxt bb b3
    go_wp2_with fail
    refine (HE.out _ _ _ p.rd p3.rd).mono ?_
    rintro e w4 ⟨rfl, b4⟩
    rw [eqB_self]
    have o := o.below b4 (Nat.le_refl _)
    have p := p.below b4 (Nat.le_refl _)
    have bb := bel_nxt bb b4
    clear b2 b3 b4 p3
    by_cases hy0 : ys.length = 0
    · obtain ⟨a1, c1, rfl⟩ := own_slD p
      rw [hy0]
      rw [hy0] at p
      go_wp2_with fail
      refine (HS.out _ _ o.rd).mono ?_
      rintro e w5 ⟨u5, rfl, p5, b5⟩
      have p := p.below b5 (Nat.le_refl _)
      have bb := bel_nxt bb b5
      go_wp2_with fail
      refine (HE.out _ _ _ p.rd p5.rd).mono ?_
      rintro e w6 ⟨rfl, b6⟩
      rw [eqB_self]
      have bb := bel_nxt bb b6
      go_wp2
      go_ret
      exact ⟨rfl, bb⟩
    · have hcb : vsB xs = true ∧ 0 ≤ z ∧ z ≤ 16 := by
        by_cases q : vsB xs = true ∧ 0 ≤ z ∧ z ≤ 16
        · exact q
        · have q2 := HYS.out; rw [turnF_no q] at q2; rw [q2] at hy0; simp at hy0
      obtain ⟨hvb, hz0, hz1⟩ := hcb
      obtain ⟨k, rfl⟩ : ∃ k : Nat, z = (k : Int) := ⟨z.toNat, by omega⟩
      have hk : k ≤ 16 := by omega
      have hV := (vsB_iff xs).1 hvb
      have hyL : ys = turnL k xs := by rw [HYS.out]; exact turnF_yes hvb hk
      have hYV : Vs ys := by rw [hyL]; exact vs_turn hV k
      have hyb := (vsB_iff ys).2 hYV
      have HA := Lib.hid fun w (v : Value) (h : Rd w v xs) => implSpreadOf_any v xs w h hM
      have HB := Lib.hid fun w (v : Value) (h : Rd w v ys) => implSpreadOf_any v ys w h hyM
      rw [show sprA ys = sprA xs by unfold sprA; rw [if_pos hvb, if_pos hyb, hyL]; exact some_turn k xs, show sprB ys = sprB xs by unfold sprB; rw [if_pos hvb, if_pos hyb, hyL]; exact some_wave_turn hV k] at HB
      have HT1 := Lib.hid fun w (v : Value) (h : Rd w v ys) => implTurnOf_any v ys 1 w h hyM
      have HT2 := Lib.hid fun w (v : Value) (h : Rd w v xs) => implTurnOf_any v xs ((k : Int) + 1) w h hM
      have HTT := Lib.hid fun (hk2 : k ≤ 15) => show turnF ys 1 = turnF xs ((k : Int) + 1) by
        rw [show (1 : Int) = ((1 : Nat) : Int) from rfl, turnF_yes hyb (by omega), show ((k : Int) + ((1 : Nat) : Int)) = ((k + 1 : Nat) : Int) from rfl, turnF_yes hvb (by omega), hyL]
        exact turn_turn k 1
      have HLL := Lib.hid fun (hk2 : k ≤ 15) => show (turnF xs ((k : Int) + 1)).length ≤ maxLen by
        have := turnF_len xs ((k : Int) + 1) (by omega)
        unfold maxLen; omega
      generalize sprA xs = c at HA HB
      generalize sprB xs = d at HA HB
      have e1 : (c == c) = true := by simp
      have e2 : (c != c) = false := by simp
      have e3 : (d == d) = true := by simp
      have e4 : (d != d) = false := by simp
      obtain ⟨a1, c1, rfl⟩ := own_slD p
      obtain ⟨a2, c2, rfl⟩ := own_slD o
      have i5 : ((ys.length : Int) == 0) = false := by rw [beq_eq_false_iff_ne]; omega
      clear hyL hV hYV hvb hyb hy0 HI HS HYS hz0 hz1
      go_wp2_with fail
      refine (HB.out _ _ p.rd).mono ?_
      rintro e w5 ⟨rfl, b5⟩
      have o := o.below b5 (Nat.le_refl _)
      have p := p.below b5 (Nat.le_refl _)
      have bb := bel_nxt bb b5
      go_wp2_with fail
      refine (HA.out _ _ o.rd).mono ?_
      rintro e w6 ⟨rfl, b6⟩
      have o := o.below b6 (Nat.le_refl _)
      have p := p.below b6 (Nat.le_refl _)
      have bb := bel_nxt bb b6
      clear b5 b6
      by_cases hk16 : k = 16
      · subst hk16
        go_wp2
        go_ret
        exact ⟨rfl, bb⟩
      · have g1 : ((k : Int) == 16) = false := by rw [beq_eq_false_iff_ne]; omega
        have hk2 : k ≤ 15 := by omega
        have hT := HTT.out hk2
        have hL := HLL.out hk2
        rw [hT] at HT1
        obtain ⟨zs, hzs⟩ : ∃ zs, zs = turnF xs ((k : Int) + 1) := ⟨_, rfl⟩
        rw [← hzs] at HT1 HT2 hL
        have HEZ := Lib.hid fun w (a b : Value) (h1 : Rd w a zs) (h2 : Rd w b zs) => equalInts_any a b zs zs w h1 h2 hL hL
        clear hk16 hT hL hzs
        go_wp2_with fail
        refine (HT2.out _ _ o.rd).mono ?_
        rintro e w7 ⟨u7, rfl, p7, b7⟩
        have p := p.below b7 (Nat.le_refl _)
        have bb := bel_nxt bb b7
        go_wp2_with fail
        refine (HT1.out _ _ p.rd).mono ?_
        rintro e w8 ⟨u8, rfl, p8, b8⟩
        have p7 := p7.below b8 (Nat.le_refl _)
        have bb := bel_nxt bb b8
        go_wp2_with fail
        refine (HEZ.out _ _ _ p7.rd p8.rd).mono ?_
        rintro e w9 ⟨rfl, b9⟩
        rw [eqB_self]
        have bb := bel_nxt bb b9
        go_wp2
        go_ret
        exact ⟨rfl, bb⟩
  · clear h
    go_enter Try.func9, Try.ntmps9
    go_wp2
    go_ret
    exact ⟨rfl, Below.refl _ _⟩

end Go.Proofs.Ytabbfehjgchmgaa
