/-
  The law FnEnergyOf, as a contract.
-/
import Derived.Test.YtpalmbcknjmmcaaFnM
import Derived.Test.YtpalmbcknjmmcaaHelpF
import Derived.Test.YtpalmbcknjmmcaaDraw2
import Derived.Test.YtpalmbcknjmmcaaSgLaw
import Derived.Deep.RegionHeld3
namespace Go.Proofs.Ytpalmbcknjmmcaa
open Go.RowKit
set_option linter.unusedVariables false

set_option maxHeartbeats 4000000 in
set_option maxRecDepth 100000 in
theorem lawEnergyOf_any (v : Value) (n : Nat) (w : World) (h : RdB w v n) :
    Calls Try.prog 11 #[v] w (Says true w) := by
  have h0 := h
  obtain ⟨a, cap, rfl, h1, h2, -⟩ := h0
  unfold maxLen at h2
  by_cases hbig : n ≤ 1048576
  · go_enter Try.func11, Try.ntmps11
    go_wp2_with fail
    refine (drawEnergyOf_any _ n _ h).mono ?_
    rintro e w1 ⟨v, xs, rfl, o, hl, hw, bb⟩
    have hM := Own.max64 hl
    clear h h1 h2 hbig
    have HI := Lib.hid fun w (v : Value) (h : Rd w v xs) => implEnergyOf_any v xs w h hM
    have HS := Lib.hid fun w (v : Value) (h : Rd w v xs) => specEnergyOf_any v xs w h hM
    obtain ⟨c, hc⟩ : ∃ c, c = energyF xs := ⟨_, rfl⟩
    rw [← hc] at HI HS
    have HC := Lib.hid hc
    clear hc
    obtain ⟨a1, c1, rfl⟩ := own_sl o
    have e0 : (c != c) = false := by simp
    have e1 : (c == c) = true := by simp
    go_wp2_with fail
    refine (HI.out _ _ o.rd).mono ?_
    rintro e w2 ⟨rfl, b2⟩
    have o := o.below b2 (Nat.le_refl _)
    have bb := bel_nxt bb b2
    by_cases hneg : c < 0
    · go_wp2_with fail
      refine (HS.out _ _ o.rd).mono ?_
      rintro e w3 ⟨rfl, b3⟩
      have o := o.below b3 (Nat.le_refl _)
      have bb := bel_nxt bb b3
      go_wp2_with fail
      refine (HS.out _ _ o.rd).mono ?_
      rintro e w4 ⟨rfl, b4⟩
      have bb := bel_nxt bb b4
      go_wp2
      go_ret
      exact ⟨rfl, bb⟩
    · have hvx : vrB xs = true := by
        cases hv : vrB xs with
        | true => rfl
        | false => have := HC.out; rw [energyF, if_neg (by simp [hv])] at this; omega
      go_wp2_with fail
      refine (HS.out _ _ o.rd).mono ?_
      rintro e w3 ⟨rfl, b3⟩
      have o := o.below b3 (Nat.le_refl _)
      have bb := bel_nxt bb b3
      clear HI HS b2 b3
      by_cases hn0 : xs.length = 0
      · have hx0 : xs = [] := List.eq_nil_of_length_eq_zero hn0
        have hc0 : c = 0 := by rw [HC.out, hx0]; decide +kernel
        subst hc0
        rw [hn0]
        go_wp2
        go_ret
        exact ⟨rfl, bb⟩
      · obtain ⟨m, hm⟩ : ∃ m, xs.length = m + 1 := ⟨xs.length - 1, by omega⟩
        have hpos : 0 < xs.length := by omega
        obtain ⟨g, c2, he, hg, hgs⟩ := o.form (by intro e; rw [e] at hm; simp at hm)
        simp only [Value.slice.injEq, true_and] at he
        obtain ⟨rfl, rfl⟩ := he
        have hcc : xs.length ≤ c1 := by
          rcases o.2 with ⟨h', h0⟩ | ⟨g, cap, cur, h', _, _, hn, _⟩
          · omega
          · simp only [Value.slice.injEq] at h'; omega
        have hen := energy_cons hvx hm
        rw [← HC.out] at hen
        have hent : energyF (turnedL xs) = c := (energy_turned hvx).trans HC.out.symm
        obtain ⟨r0, hr0⟩ : ∃ r, r = ix xs 0 := ⟨_, rfl⟩
        obtain ⟨E1, hE1⟩ : ∃ E, E = energyF (xs.drop 1) := ⟨_, rfl⟩
        obtain ⟨s0, hs0⟩ : ∃ s, s = wrap64 (r0 * r0) := ⟨_, rfl⟩
        rw [← hr0, ← hE1, ← hs0] at hen
        have hw1 : IntKind.i64.wrap (r0 * r0) = s0 := (IntWalk.i64_left _).trans hs0.symm
        have hw2 : IntKind.i64.wrap (s0 + E1) = c := (IntWalk.i64_left _).trans hen.symm
        have hdl : (xs.drop 1).length ≤ maxLen := by rw [List.length_drop]; unfold maxLen; omega
        have htl : (turnedL xs).length ≤ maxLen := by rw [len_turnedL]; exact hM
        have HN1 := Lib.hid fun w (v : Value) (h : Rd w v (xs.drop 1)) => implEnergyOf_any v (xs.drop 1) w h hdl
        rw [← hE1] at HN1
        have HN2 := Lib.hid fun w (v : Value) (h : Rd w v (turnedL xs)) => implEnergyOf_any v (turnedL xs) w h htl
        rw [hent] at HN2
        have HTU := Lib.hid fun w (v : Value) (h : Rd w v xs) => turned_any v xs w h (by omega)
        have hc0 := o.cell 0 hpos
        rw [← hr0] at hc0
        have HR0 : Hid (ix xs 0 = r0) := hr0.symm
        have HLS : Hid True := trivial
        have p0 : Hid True := trivial
        rw [hm] at o hcc ⊢
        have i1 : (1 : Int) ≤ (m : Int) + 1 := by omega
        have i2 : (0 : Int) ≤ (m : Int) := by omega
        have i3 : (0 : Int) < (m : Int) + 1 := by omega
        have i4 : (((m : Int) + 1) == 0) = false := by rw [beq_eq_false_iff_ne]; omega
        have hrd := o.rd
        clear hen hent hr0 hE1 hs0 hvx hn0 HC hw hM hdl htl
        by_cases hc : c1 = 1
        · subst hc
          obtain rfl : m = 0 := by omega
          have hLs : Rd w3 (.slice (some ⟨g, 0, none⟩) 0 0) (xs.drop 1) := by
            have : xs.drop 1 = [] := List.eq_nil_of_length_eq_zero (by simp; omega)
            rw [this]; exact ⟨_, 0, rfl, .inl rfl⟩
          clear hrd hm hcc
          clear HLS p0
          have oD := o.drew
          have lD := hLs.drew
          have bbD := bb.drew
          go_wp2
          go_region_held3 (fun w' => w'.cell? ⟨g, 0, none⟩ = some (.int .i64 r0)) (first | exact hc0 | go_keep)
            (first
              | (go_at_call 30; ((with_reducible refine (HN1.out _ _ lD).mono ?_); rintro e w5 ⟨rfl, b5⟩); have oD := oD.below b5 (Nat.le_refl _); have bbD := bel_nxt bbD b5; have hc0 := oD.cell 0 hpos; rw [HR0.out] at hc0)
              | (go_at_call 47; refine (HTU.out _ _ oD.rd).mono ?_; rintro e w6 ⟨u6, rfl, p6, b6⟩; have oD := oD.below b6 (Nat.le_refl _); have bbD := bel_nxt bbD b6; have hc0 := oD.cell 0 hpos; rw [HR0.out] at hc0)
              | (go_at_call 30; ((with_reducible refine (HN2.out _ _ p6.rd).mono ?_); rintro e w7 ⟨rfl, b7⟩); have oD := oD.below b7 (Nat.le_refl _); have bbD := bel_nxt bbD b7; have hc0 := oD.cell 0 hpos; rw [HR0.out] at hc0))
          all_goals go_wp2
          all_goals go_ret
          all_goals exact ⟨rfl, bbD⟩
        · have hLs : Rd w3 (.slice (some ⟨g, 1, none⟩) m (c1 - 1)) (xs.drop 1) := rd_drop1 hrd
          clear hrd hm hcc
          clear HLS p0
          have oD := o.drew
          have lD := hLs.drew
          have bbD := bb.drew
          go_wp2
          go_region_held3 (fun w' => w'.cell? ⟨g, 0, none⟩ = some (.int .i64 r0)) (first | exact hc0 | go_keep)
            (first
              | (go_at_call 30; ((with_reducible refine (HN1.out _ _ lD).mono ?_); rintro e w5 ⟨rfl, b5⟩); have oD := oD.below b5 (Nat.le_refl _); have bbD := bel_nxt bbD b5; have hc0 := oD.cell 0 hpos; rw [HR0.out] at hc0)
              | (go_at_call 47; refine (HTU.out _ _ oD.rd).mono ?_; rintro e w6 ⟨u6, rfl, p6, b6⟩; have oD := oD.below b6 (Nat.le_refl _); have bbD := bel_nxt bbD b6; have hc0 := oD.cell 0 hpos; rw [HR0.out] at hc0)
              | (go_at_call 30; ((with_reducible refine (HN2.out _ _ p6.rd).mono ?_); rintro e w7 ⟨rfl, b7⟩); have oD := oD.below b7 (Nat.le_refl _); have bbD := bel_nxt bbD b7; have hc0 := oD.cell 0 hpos; rw [HR0.out] at hc0))
          all_goals go_wp2
          all_goals go_ret
          all_goals exact ⟨rfl, bbD⟩
  · clear h
    go_enter Try.func11, Try.ntmps11
    go_wp2
    go_ret
    exact ⟨rfl, Below.refl _ _⟩

end Go.Proofs.Ytpalmbcknjmmcaa
