/-
  The law FnDegreeOf, as a contract.
-/
import Derived.Test.YtpalmbcknjmmcaaFnM
import Derived.Test.YtpalmbcknjmmcaaHelpF
import Derived.Test.YtpalmbcknjmmcaaLawM
import Derived.Test.YtpalmbcknjmmcaaDrawRow
import Derived.Test.YtpalmbcknjmmcaaSEdge
import Derived.Test.YtpalmbcknjmmcaaEdgeM
namespace Go.Proofs.Ytpalmbcknjmmcaa
open Go.RowKit
set_option linter.unusedVariables false

theorem stepsF_yes {xs : List Int} (h : vrB xs = true) : stepsF xs = stepsL xs := by unfold stepsF; exact if_pos h
theorem edgeF_yes {xs : List Int} (h : vrB xs = true) : edgeF xs = edgeL xs := by unfold edgeF; exact if_pos h
theorem degF_yes {xs : List Int} (h : vrB xs = true) : degF xs = degP (ix xs) xs.length := by unfold degF; exact if_pos h
theorem degF_no {xs : List Int} (h : vrB xs = false) : degF xs = -2 := by unfold degF; exact if_neg (by simp [h])

set_option maxHeartbeats 4000000 in
theorem lawDegreeOf_any (v : Value) (n : Nat) (w : World) (h : RdB w v n) :
    Calls Try.prog 5 #[v] w (Says true w) := by
  have h0 := h
  obtain ⟨a, cap, rfl, h1, h2, -⟩ := h0
  unfold maxLen at h2
  by_cases hbig : n ≤ 1048576
  · go_enter Try.func5, Try.ntmps5
    go_wp2_with fail
    refine (drawDegreeOf_any _ n _ h).mono ?_
    rintro e w1 ⟨v, xs, rfl, o, hl, hw, bb⟩
    have hM := Own.max64 hl
    clear h h1 h2 hbig
    have HI := Lib.hid fun w (v : Value) (h : Rd w v xs) => implDegreeOf_any v xs w h hM hw
    have HS := Lib.hid fun w (v : Value) (h : Rd w v xs) => specDegreeOf_any v xs w h hM hw
    obtain ⟨d, hd⟩ : ∃ d, d = degF xs := ⟨_, rfl⟩
    rw [← hd] at HI HS
    have HDD := Lib.hid hd
    clear hd
    obtain ⟨a1, c1, rfl⟩ := own_sl o
    have e0 : (d != d) = false := by simp
    have e1 : (d == d) = true := by simp
    go_wp2_with fail
    refine (HI.out _ _ o.rd).mono ?_
    rintro e w2 ⟨rfl, b2⟩
    have o := o.below b2 (Nat.le_refl _)
    have bb := bel_nxt bb b2
    by_cases hneg : d < 0
    · go_wp2_with fail
      refine (HS.out _ _ o.rd).mono ?_
      rintro e w3 ⟨rfl, b3⟩
      have o := o.below b3 (Nat.le_refl _)
      have bb := bel_nxt bb b3
      go_wp2_with fail
      refine (HS.out _ _ o.rd).mono ?_
      rintro e w4 ⟨rfl, b4⟩
      have bb := bel_nxt bb b4
      go_wp2
      go_ret
      exact ⟨rfl, bb⟩
    · have hvx : vrB xs = true := by
        cases hv : vrB xs with
        | true => rfl
        | false => have := HDD.out; rw [degF_no hv] at this; omega
      have hdP : d = degP (ix xs) xs.length := by rw [HDD.out, degF_yes hvx]
      obtain ⟨f1, f2, f3, f4⟩ := degP_facts (ix xs) xs.length
      rw [← hdP] at f1 f2 f3 f4
      obtain ⟨D, rfl⟩ : ∃ D : Nat, d = (D : Int) := ⟨d.toNat, by omega⟩
      obtain ⟨m, hm⟩ : ∃ m, xs.length = m + 1 := ⟨xs.length - 1, by omega⟩
      have hDm : D ≤ m := by omega
      have hx16 := (vrB_of hvx).1
      have hne := f4 D rfl
      obtain ⟨z, hz⟩ : ∃ z, z = wrap64 (dif (ix xs) D 0) := ⟨_, rfl⟩
      rw [← hz] at hne
      have ez : (z != 0) = true := by simpa using hne
      have hdeg := deg_steps hm (by rw [← hm, ← hdP]; omega)
      rw [← hm, ← hdP] at hdeg
      obtain ⟨ls, hls⟩ : ∃ ls, ls = (stepsL xs).drop 1 := ⟨_, rfl⟩
      rw [← hls] at hdeg
      have hsl : (stepsL xs).length = m + 1 := by simp [stepsL, hm]
      have hll : ls.length = m := by rw [hls, List.length_drop, hsl]; omega
      have hlM : ls.length ≤ maxLen := by unfold maxLen; omega
      have hlw : ∀ n ∈ ls, (Lit.int .i64 n).wf = true := fun n hn => by rw [hls] at hn; exact stepsL_wf hw n (List.mem_of_mem_drop hn)
      have HST := Lib.hid fun w (v : Value) (h : Rd w v xs) => implStepsOf_any v xs w h hM hw
      rw [stepsF_yes hvx] at HST
      have HED := Lib.hid fun w (v : Value) (h : Rd w v xs) => implEdgeOf_any v xs w h hM hw
      rw [edgeF_yes hvx] at HED
      have HV := Lib.hid fun w (v : Value) (h : Rd w v ls) => implValid_any v ls w h hlM
      have HDL := Lib.hid fun w (v : Value) (h : Rd w v ls) => implDegreeOf_any v ls w h hlM hlw
      have HLD : Hid (vrB ls = true → degF ls = (D : Int) - 1) := fun h => by rw [degF_yes h, hll, hdeg]
      have HEC : Hid (∀ k, k < m + 1 → ix (edgeL xs) k = wrap64 (dif (ix xs) k 0)) := fun k hk => ix_edgeL (by omega)
      have hel : (edgeL xs).length = m + 1 := by rw [len_edgeL, hm]
      have HZ := Lib.hid hz
      have HF3 : Hid (∀ i : Nat, D < i → i < m + 1 → wrap64 (dif (ix xs) i 0) = 0) := fun i a b => f3 i (by omega) (by omega)
      have HLS := Lib.hid hls
      have HEL := Lib.hid hel
      have HSL := Lib.hid hsl
      have HLL := Lib.hid hll
      have hl64 : m + 1 ≤ 64 := by omega
      rw [hm] at o ⊢
      clear HI f1 f2 f3 f4 hdP hdeg hls hz hvx hw hM hne HDD hlw hlM hel hsl hll hm hl hx16
      go_wp2_with fail
      refine (HS.out _ _ o.rd).mono ?_
      rintro e w3 ⟨rfl, b3⟩
      have o := o.below b3 (Nat.le_refl _)
      have bb := bel_nxt bb b3
      clear HS
      go_wp2_with fail
      refine (HST.out _ _ o.rd).mono ?_
      rintro e w4 ⟨u4, rfl, p, b4⟩
      have o := o.below b4 (Nat.le_refl _)
      have bb := bel_nxt bb b4
      have hsl := HSL.out
      obtain ⟨g, c, rfl, hg, hgs⟩ := p.form (by intro e; rw [e] at hsl; simp at hsl)
      have hcc : (stepsL xs).length ≤ c := by
        rcases p.2 with ⟨h', h0⟩ | ⟨g, cap, cur, h', _, _, hn, _⟩
        · omega
        · simp only [Value.slice.injEq] at h'; omega
      rw [hsl] at p hcc ⊢
      clear hsl
      have i1 : (1 : Int) ≤ (m : Int) + 1 := by omega
      have i2 : (0 : Int) ≤ (m : Int) := by omega
      by_cases hc : c = 1
      · subst hc
        obtain rfl : m = 0 := by omega
        have hLs : Rd w4 (.slice (some ⟨g, 0, none⟩) 0 0) ls := by
          have : ls = [] := List.eq_nil_of_length_eq_zero HLL.out
          rw [this]; exact ⟨_, 0, rfl, .inl rfl⟩
        clear p hcc HLS
        go_wp2_with fail
        refine (HED.out _ _ o.rd).mono ?_
        rintro e w5 ⟨u5, rfl, q, b5⟩
        have hLs := hLs.below b5 (Nat.le_refl _)
        have bb := bel_nxt bb b5
        obtain ⟨ge, ce, rfl, -, -⟩ := q.form (by intro e; have hel := HEL.out; rw [e] at hel; simp at hel)
        rw [HEL.out] at q ⊢
        clear HED HST b2 b3 b4 b5 o
        go_wp2
        go_loop [7] (fun i => ∃ k : Nat, D + 1 ≤ k ∧ k ≤ 0 + 1 ∧ i = .int .i64 k) (fun i => 0 + 1 - (intOf i).toNat)
        case atStart => exact ⟨D + 1, by omega, by omega, by go_num⟩
        case round =>
          obtain ⟨k, hk1, hk2, rfl⟩ := hrel
          by_cases hlt : k < 0 + 1
          · omega
          · obtain rfl : k = 0 + 1 := by omega
            have hcd := q.cell D (by rw [HEL.out]; omega)
            rw [HEC.out D (by omega), ← HZ.out] at hcd
            cases hv : vrB ls with
            | false =>
              rw [hv] at HV
              clear hv
              go_wp2_with fail
              refine (HV.out _ _ hLs).mono ?_
              rintro e w6 ⟨rfl, b6⟩
              have bb := bel_nxt bb b6
              go_wp2
              go_ret
              exact ⟨rfl, bb⟩
            | true =>
              rw [hv] at HV
              rw [HLD.out hv] at HDL
              clear hv
              go_wp2_with fail
              refine (HV.out _ _ hLs).mono ?_
              rintro e w6 ⟨rfl, b6⟩
              have hLs := hLs.below b6 (Nat.le_refl _)
              have bb := bel_nxt bb b6
              go_wp2_with fail
              refine (HDL.out _ _ hLs).mono ?_
              rintro e w7 ⟨rfl, b7⟩
              have bb := bel_nxt bb b7
              go_wp2
              go_ret
              exact ⟨rfl, bb⟩
      · have hLs : Rd w4 (.slice (some ⟨g, 1, none⟩) m (c - 1)) ls := by rw [HLS.out]; exact rd_drop1 p.rd
        clear p HLS
        go_wp2_with fail
        refine (HED.out _ _ o.rd).mono ?_
        rintro e w5 ⟨u5, rfl, q, b5⟩
        have hLs := hLs.below b5 (Nat.le_refl _)
        have bb := bel_nxt bb b5
        obtain ⟨ge, ce, rfl, -, -⟩ := q.form (by intro e; have hel := HEL.out; rw [e] at hel; simp at hel)
        rw [HEL.out] at q ⊢
        clear HED HST b2 b3 b4 b5 o
        go_wp2
        go_loop [7] (fun i => ∃ k : Nat, D + 1 ≤ k ∧ k ≤ m + 1 ∧ i = .int .i64 k) (fun i => m + 1 - (intOf i).toNat)
        case atStart => exact ⟨D + 1, by omega, by omega, by go_num⟩
        case round =>
          obtain ⟨k, hk1, hk2, rfl⟩ := hrel
          by_cases hlt : k < m + 1
          · have hck := q.cell k (by rw [HEL.out]; exact hlt)
            rw [HEC.out k hlt, HF3.out k (by omega) (by omega)] at hck
            go_wp2
            go_round
            case rel => exact ⟨k + 1, by omega, by omega, by go_num⟩
            case measure => simp [intOf]; omega
          · obtain rfl : k = m + 1 := by omega
            have hcd := q.cell D (by rw [HEL.out]; omega)
            rw [HEC.out D (by omega), ← HZ.out] at hcd
            cases hv : vrB ls with
            | false =>
              rw [hv] at HV
              clear hv
              go_wp2_with fail
              refine (HV.out _ _ hLs).mono ?_
              rintro e w6 ⟨rfl, b6⟩
              have bb := bel_nxt bb b6
              go_wp2
              go_ret
              exact ⟨rfl, bb⟩
            | true =>
              rw [hv] at HV
              rw [HLD.out hv] at HDL
              clear hv
              go_wp2_with fail
              refine (HV.out _ _ hLs).mono ?_
              rintro e w6 ⟨rfl, b6⟩
              have hLs := hLs.below b6 (Nat.le_refl _)
              have bb := bel_nxt bb b6
              go_wp2_with fail
              refine (HDL.out _ _ hLs).mono ?_
              rintro e w7 ⟨rfl, b7⟩
              have bb := bel_nxt bb b7
              go_wp2
              go_ret
              exact ⟨rfl, bb⟩
  · clear h
    go_enter Try.func5, Try.ntmps5
    go_wp2
    go_ret
    exact ⟨rfl, Below.refl _ _⟩

end Go.Proofs.Ytpalmbcknjmmcaa
