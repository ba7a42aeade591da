/-
  Rests out of numbers and back, valid rests, counts, and waves of the program, by their contracts.
-/
import Derived.Test.YtabbfehjgchmgabOrdBy
import Derived.Test.YtabbfehjgchmgabWvH
namespace Go.Proofs.Ytabbfehjgchmgab
open Go.RowKit
set_option linter.unusedVariables false

theorem infoRest : (Try.prog.info? 36).map (fun i => (i.zero, i.size, i.bytes)) = some (some (.agg #[.int .i64 0]), 1, 8) := by kernel_rfl

set_option maxHeartbeats 2000000 in
theorem restsOf_any (v : Value) (xs : List Int) (w : World) (h : Rd w v xs) (hn : 0 < xs.length) (hl : xs.length ≤ 96) (hr : ∀ j, j < xs.length → 0 ≤ ix xs j ∧ ix xs j ≤ 96) :
    Calls Try.prog 43 #[v] w (MadeAt 36 w xs) := by
  obtain ⟨a, cap, rfl, h⟩ := h
  obtain ⟨i0, hi, hz0, hz1, hz2⟩ := info_parts infoRest
  rcases h with rfl | ⟨b, off, rfl, hb, hc⟩
  · simp at hn
  obtain ⟨n, hnn⟩ : ∃ n, n = xs.length := ⟨_, rfl⟩
  have HN := Lib.hid hnn
  have HX := Lib.hid (show xs = tab n (ix xs) by rw [hnn]; exact (tab_self xs).symm)
  obtain ⟨F, hF⟩ : ∃ F, F = ix xs := ⟨_, rfl⟩
  rw [← hF, ← hnn] at hc hr
  rw [← hF] at HX
  rw [← hnn] at hn hl ⊢
  clear hF hnn
  go_enter Try.func43, Try.ntmps43
  go_wp2_with (at_make; refine wpList_make_full _ rfl _ _ 40 rfl w.heap.size 36 i0 (.agg #[.int .i64 0]) 1 Try.underlying40 hi hz0 hz1 _ _ _ _ n rfl rfl rfl rfl ?c1 ?c2 ?c3 ?_)
  case c1 => rw [hz2]; omega
  case c2 => unfold maxLen; omega
  case c3 => omega
  intro w1 hown hgrow
  have hO := own_made hown
  have hB := (Below.refl w.heap.size w).grown hgrow (Nat.le_refl _) (by simp)
  clear hown hgrow hi hz0 hz1 hz2
  go_wp2
  go_loopw [11] (fun i wr => ∃ k : Nat, k ≤ n ∧ i = .int .i64 k ∧ Own 36 w.heap.size wr (.slice (some ⟨w.heap.size, 0, none⟩) n n) (tab n (upto k F fun _ => 0)) ∧ Below w.heap.size w wr)
    (fun i _ => n - (intOf i).toNat)
  case atStart => exact ⟨0, Nat.zero_le _, rfl, by rw [upto_none]; exact hO, hB⟩
  case round =>
    obtain ⟨k, hk, rfl, hOr, hBr⟩ := hrel
    by_cases hlt : k < n
    · have hcx : wr.cell? ⟨b, off + k, none⟩ = some (.int .i64 (F k)) := (hBr.cell (by exact hb)).trans (hc k hlt)
      obtain ⟨hr0, hr1⟩ := hr k hlt
      have HM := Lib.hid (Int.emod_eq_of_lt hr0 (show F k < 97 by omega))
      have HO := Lib.hid hOr
      have HB := Lib.hid hBr
      clear hO hB hOr hBr hc hr
      go_wp2_with fail
      refine (restOf_any _ _ hr0 (by omega)).mono ?_
      rintro e w2 ⟨rfl, b2⟩
      rw [HM.out]
      have hO2 := HO.out.below b2 (Nat.le_refl _)
      have hB2 := bel_nxt HB.out b2
      have hck := hO2.cell k (by simpa using hlt)
      have hfk := hO2.frozen k
      have HO3 := hO2.set k (F k)
      rw [upto_set] at HO3
      have HO3 := Lib.hid HO3
      have HB3 := Lib.hid (hB2.setCell (p := ⟨w.heap.size, k, none⟩) (Nat.le_refl _) (.int .i64 (F k)))
      clear hO2 hB2 hcx
      go_wp2
      go_roundw
      case rel => exact ⟨k + 1, by omega, by go_num, HO3.out, HB3.out⟩
      case measure => simp [intOf]; omega
    · obtain rfl : k = n := by omega
      rw [upto_all] at hOr
      have HO := Lib.hid hOr
      clear hOr hO hB
      go_wp2
      go_ret
      exact ⟨w.heap.size, by rw [← HN.out]; rfl, Nat.le_refl _, by rw [HX.out, len_tab]; exact HO.out, hBr⟩

set_option maxHeartbeats 2000000 in
theorem numbersOf_any (v : Value) (xs : List Int) (w : World) (h : Rd w v xs) (hn : 0 < xs.length) (hl : xs.length ≤ 96) :
    Calls Try.prog 41 #[v] w (MadeAt 3 w xs) := by
  obtain ⟨a, cap, rfl, h⟩ := h
  obtain ⟨i0, hi, hz0, hz1, hz2⟩ := info_parts infoInt
  rcases h with rfl | ⟨b, off, rfl, hb, hc⟩
  · simp at hn
  obtain ⟨n, hnn⟩ : ∃ n, n = xs.length := ⟨_, rfl⟩
  have HN := Lib.hid hnn
  have HX := Lib.hid (show xs = tab n (ix xs) by rw [hnn]; exact (tab_self xs).symm)
  obtain ⟨F, hF⟩ : ∃ F, F = ix xs := ⟨_, rfl⟩
  rw [← hF, ← hnn] at hc
  rw [← hF] at HX
  rw [← hnn] at hn hl ⊢
  clear hF hnn
  go_enter Try.func41, Try.ntmps41
  go_wp2_with (at_make; refine wpList_make_full _ rfl _ _ 24 rfl w.heap.size 3 i0 (.int .i64 0) 1 Try.underlying24 hi hz0 hz1 _ _ _ _ n rfl rfl rfl rfl ?c1 ?c2 ?c3 ?_)
  case c1 => rw [hz2]; omega
  case c2 => unfold maxLen; omega
  case c3 => omega
  intro w1 hown hgrow
  have hO := own_made hown
  have hB := (Below.refl w.heap.size w).grown hgrow (Nat.le_refl _) (by simp)
  clear hown hgrow hi hz0 hz1 hz2
  go_wp2
  go_loopw [11] (fun i wr => ∃ k : Nat, k ≤ n ∧ i = .int .i64 k ∧ Own 3 w.heap.size wr (.slice (some ⟨w.heap.size, 0, none⟩) n n) (tab n (upto k F fun _ => 0)) ∧ Below w.heap.size w wr)
    (fun i _ => n - (intOf i).toNat)
  case atStart => exact ⟨0, Nat.zero_le _, rfl, by rw [upto_none]; exact hO, hB⟩
  case round =>
    obtain ⟨k, hk, rfl, hOr, hBr⟩ := hrel
    by_cases hlt : k < n
    · have hcx : wr.cell? ⟨b, off + k, none⟩ = some (.int .i64 (F k)) := (hBr.cell (by exact hb)).trans (hc k hlt)
      have hO2 := hOr.grow (.cells #[.int .i64 (F k)] 36)
      have hB2 := hBr.alloc hBr.size (.cells #[.int .i64 (F k)] 36)
      have hck := hO2.cell k (by simpa using hlt)
      have hfk := hO2.frozen k
      have HO3 := (hOr.set k (F k)).grow (.cells #[.int .i64 (F k)] 36)
      rw [upto_set] at HO3
      have HO3 := Lib.hid HO3
      have hsw : w.heap.size ≤ (wr.setCell ⟨w.heap.size, k, none⟩ (.int .i64 (F k))).heap.size := by have := hBr.size; simpa [World.setCell] using this
      have HB3 := Lib.hid ((hBr.setCell (p := ⟨w.heap.size, k, none⟩) (Nat.le_refl _) (.int .i64 (F k))).alloc hsw (.cells #[.int .i64 (F k)] 36))
      clear hsw
      have hsz := (World.ownsRow.lt hOr w.heap.size rfl).2
      clear hO2 hB2 hO hB hOr hBr hc
      go_wp2
      go_roundw
      case rel => exact ⟨k + 1, by omega, by go_num, HO3.out, HB3.out⟩
      case measure => simp [intOf]; omega
    · obtain rfl : k = n := by omega
      rw [upto_all] at hOr
      have HO := Lib.hid hOr
      clear hOr hO hB
      go_wp2
      go_ret
      exact ⟨w.heap.size, by rw [← HN.out]; rfl, Nat.le_refl _, by rw [HX.out, len_tab]; exact HO.out, hBr⟩

theorem vsB_no_div {xs : List Int} (h : ¬ (0 < xs.length ∧ 96 % xs.length = 0)) : vsB xs = false := by
  cases hb : vsB xs with
  | false => rfl
  | true => have := (vsB_iff xs).1 hb; exact absurd ⟨this.some, this.div⟩ h
theorem vsB_no_at {xs : List Int} (k : Nat) (hk : k < xs.length) (h : ¬ (0 ≤ ix xs k ∧ ix xs k ≤ 96)) : vsB xs = false := by
  cases hb : vsB xs with
  | false => rfl
  | true => have := (vsB_iff xs).1 hb; exact absurd (this.rest k hk) h
theorem vsB_yes {xs : List Int} (h : ∀ j, j < xs.length → 0 ≤ ix xs j ∧ ix xs j ≤ 96) (h0 : 0 < xs.length) (h1 : 96 % xs.length = 0) : vsB xs = true := by
  refine (vsB_iff xs).2 ⟨h, h0, ?_, h1⟩
  apply Classical.byContradiction
  intro hn
  rw [Nat.mod_eq_of_lt (by omega)] at h1
  omega
theorem mod96 (n : Nat) : (96 : Int) % (n : Int) = ((96 % n : Nat) : Int) := by rw [show (96 : Int) = ((96 : Nat) : Int) from rfl, ← Int.natCast_emod]

set_option maxHeartbeats 2000000 in
theorem implValidRests_any (v : Value) (xs : List Int) (w : World) (h : Rd w v xs) (hl : xs.length ≤ maxLen) :
    Calls Try.prog 18 #[v] w fun e w' => e = .returned (.bool (vsB xs)) ∧ w = w' := by
  unfold maxLen at hl
  obtain ⟨a, cap, rfl, h⟩ := h
  by_cases h0 : xs.length = 0
  · have hno := Lib.hid (vsB_no_div (xs := xs) (fun hh => by have := hh.1; omega))
    have e0 : ((xs.length : Int) == 0) = true := by rw [beq_iff_eq]; omega
    clear h h0
    go_enter Try.func18, Try.ntmps18
    go_wp2
    go_ret
    exact ⟨ret_bool hno.out.symm, rfl⟩
  rcases h with rfl | ⟨b, off, rfl, hb, hc⟩
  · simp at h0
  have hpos : 0 < xs.length := by omega
  have hposi : (0 : Int) < (xs.length : Int) := by omega
  have e0 : ((xs.length : Int) == 0) = false := by rw [beq_eq_false_iff_ne]; omega
  clear h0
  by_cases hd : 96 % xs.length = 0
  · have HD := Lib.hid hd
    have e1 : ((96 : Int) % (xs.length : Int) != 0) = false := by rw [mod96, hd]; rfl
    have e2 : ((96 : Int) % (xs.length : Int) == 0) = true := by rw [mod96, hd]; rfl
    clear hd
    go_enter Try.func18, Try.ntmps18
    go_wp2
    go_loop [16] (fun i => ∃ k : Nat, k ≤ xs.length ∧ i = .int .i64 k ∧ Hid (∀ j, j < k → 0 ≤ ix xs j ∧ ix xs j ≤ 96)) (fun i => xs.length - (intOf i).toNat)
    case atStart => exact ⟨0, Nat.zero_le _, rfl, fun j hj => absurd hj (Nat.not_lt_zero j)⟩
    case round =>
      obtain ⟨k, hk, rfl, hok⟩ := hrel
      by_cases hlt : k < xs.length
      · have hck := hc k hlt
        clear hc
        by_cases h1 : 0 ≤ ix xs k
        · by_cases h2 : ix xs k ≤ 96
          · have h1' : ¬ ix xs k < 0 := by omega
            have h2' : ¬ 97 ≤ ix xs k := by omega
            go_wp2
            go_round
            case rel =>
              refine ⟨k + 1, by omega, by go_num, fun j hj => ?_⟩
              by_cases e : j = k
              · subst e; exact ⟨h1, h2⟩
              · exact hok.out j (by omega)
            case measure => simp [intOf]; omega
          · have hno := Lib.hid (vsB_no_at k hlt (fun e => h2 e.2))
            have h1' : ¬ ix xs k < 0 := by omega
            have h2' : 97 ≤ ix xs k := by omega
            clear h2
            go_wp2
            go_ret
            exact ⟨ret_bool hno.out.symm, rfl⟩
        · have hno := Lib.hid (vsB_no_at k hlt (fun e => h1 e.1))
          have h1' : ix xs k < 0 := by omega
          clear h1
          go_wp2
          go_ret
          exact ⟨ret_bool hno.out.symm, rfl⟩
      · have hkl : k = xs.length := by omega
        subst hkl
        have hyes := Lib.hid (vsB_yes hok.out hpos HD.out)
        go_wp2
        go_ret
        exact ⟨ret_bool hyes.out.symm, rfl⟩
  · have hno := Lib.hid (vsB_no_div (xs := xs) (fun hh => hd hh.2))
    have e1 : ((96 : Int) % (xs.length : Int) != 0) = true := by rw [mod96, bne_iff_ne]; omega
    have e2 : ((96 : Int) % (xs.length : Int) == 0) = false := by rw [mod96, beq_eq_false_iff_ne]; omega
    clear hc hd
    go_enter Try.func18, Try.ntmps18
    go_wp2
    go_ret
    exact ⟨ret_bool hno.out.symm, rfl⟩

/-- How many of the first k are other than 0. -/
def cntN (xs : List Int) (k : Nat) : Int := sumN (fun i => nz (ix xs i)) k
theorem cntN_bd (xs : List Int) (k : Nat) : 0 ≤ cntN xs k ∧ cntN xs k ≤ k := by
  induction k with
  | zero => exact ⟨Int.le_refl _, Int.le_refl _⟩
  | succ k ih =>
    show 0 ≤ cntN xs k + nz (ix xs k) ∧ cntN xs k + nz (ix xs k) ≤ _
    rcases nz_01 (ix xs k) with q | q <;> omega

set_option maxHeartbeats 2000000 in
theorem countNonzero_any (v : Value) (xs : List Int) (w : World) (h : Rd w v xs) (hn : 0 < xs.length) (hl : xs.length ≤ 96) (hr : ∀ j, j < xs.length → 0 ≤ ix xs j ∧ ix xs j ≤ 96) :
    Calls Try.prog 50 #[v] w fun e w' => e = .returned (.int .i64 (someN xs)) ∧ w = w' := by
  obtain ⟨a, cap, rfl, h⟩ := h
  rcases h with rfl | ⟨b, off, rfl, hb, hc⟩
  · simp at hn
  have HS : Hid (cntN xs xs.length = someN xs) := rfl
  go_enter Try.func50, Try.ntmps50
  go_wp2
  go_loop [3, 8] (fun s i => ∃ k : Nat, k ≤ xs.length ∧ i = .int .i64 k ∧ s = .int .i64 (cntN xs k)) (fun _ i => xs.length - (intOf i).toNat)
  case atStart => exact ⟨0, Nat.zero_le _, rfl, rfl⟩
  case round =>
    obtain ⟨k, hk, rfl, rfl⟩ := hrel
    by_cases hlt : k < xs.length
    · have hck := hc k hlt
      have hrk := hr k hlt
      obtain ⟨hc0, hc1⟩ := cntN_bd xs k
      have HN : Hid (cntN xs (k + 1) = cntN xs k + if ix xs k = 0 then 0 else 1) := by show cntN xs k + nz (ix xs k) = _; rw [nz_rest hrk]
      clear hc hr
      by_cases h0 : ix xs k = 0
      · rw [if_pos h0, Int.add_zero] at HN
        have e1 : (ix xs k == 0) = true := by simpa using h0
        have e2 : (ix xs k != 0) = false := by simpa using h0
        clear h0
        go_wp2
        go_round
        case rel => exact ⟨k + 1, by omega, by go_num, by rw [HN.out]⟩
        case measure => simp [intOf]; omega
      · rw [if_neg h0] at HN
        have e1 : (ix xs k == 0) = false := by simpa using h0
        have e2 : (ix xs k != 0) = true := by simpa using h0
        clear h0
        go_wp2
        go_round
        case rel => exact ⟨k + 1, by omega, by go_num, by rw [HN.out]⟩
        case measure => simp [intOf]; omega
    · obtain rfl : k = xs.length := by omega
      go_wp2
      go_ret
      exact ⟨ret_int HS.out, rfl⟩

end Go.Proofs.Ytabbfehjgchmgab
