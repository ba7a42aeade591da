/-
  isIn and ascends of the laws.
-/
import Derived.Test.YtagncoahobghpaaDoorInfo
import Derived.Test.YtagncoahobghpaaDoorMsT
import Derived.Deep.QuietTactic
namespace Go.Proofs.YtagncoahobghpaaDoor
open Go.RowKit
set_option linter.unusedVariables false

theorem isIn_at (v : Value) (xs : List Int) (z : Int) (w : World) (h : Rd w v xs) (hl : xs.length ≤ 1048576) :
    Calls Tryd.prog 10 #[v, .int .i64 z] w fun e w' => e = .returned (.bool (decide (z ∈ xs))) ∧ w = w' := by
  obtain ⟨a, c, rfl, h⟩ := h
  have HX := Lib.hid h
  obtain ⟨n, hn⟩ : ∃ n, n = xs.length := ⟨_, rfl⟩
  have HN := Lib.hid hn
  rw [← hn] at hl ⊢
  clear h hn
  go_enter Tryd.func10, Tryd.ntmps10
  go_wp2
  go_loop [5] (fun i => ∃ k : Nat, k ≤ n ∧ i = .int .i64 k ∧ Hid (∀ j, j < k → ix xs j ≠ z)) (fun i => n - (intOf i).toNat)
  case atStart => exact ⟨0, Nat.zero_le _, rfl, Lib.hid fun j hj => absurd hj (Nat.not_lt_zero j)⟩
  case round =>
    obtain ⟨k, hk, rfl, hno⟩ := hrel
    by_cases hlt : k < n
    · have hkz : k < xs.length := by rw [← HN.out]; exact hlt
      obtain ⟨b, off, ha, hc⟩ : ∃ b off, a = some ⟨b, off, none⟩ ∧ w.cell? ⟨b, off + k, none⟩ = some (.int .i64 (ix xs k)) := by
        rcases HX.out with h | ⟨b, off, h, _, hc⟩
        · rw [h] at hkz; exact absurd hkz (Nat.not_lt_zero k)
        · exact ⟨b, off, h, hc k hkz⟩
      subst ha
      have i1 : (k : Int) < (n : Int) := by omega
      have hmem := ix_mem hkz
      have HS := Lib.hid (fun (q : ix xs k ≠ z) j (hj : j < k + 1) => show ix xs j ≠ z by
        by_cases e : j = k
        · subst e; exact q
        · exact hno.out j (by omega))
      obtain ⟨x, hx⟩ : ∃ x, x = ix xs k := ⟨_, rfl⟩
      rw [← hx] at hc hmem HS
      clear hx hno hkz
      by_cases he : x = z
      · have e1 : (x == z) = true := by simp [he]
        have HY := Lib.hid (decide_eq_true (he ▸ hmem : z ∈ xs))
        clear he hmem HS
        go_wp2
        go_ret
        exact ⟨ret_bool HY.out.symm, rfl⟩
      · have e1 : (x == z) = false := by simp [he]
        have HY := Lib.hid (HS.out he)
        clear he hmem HS
        go_wp2
        go_round
        case rel => exact ⟨k + 1, by omega, by go_num, HY⟩
        case measure => simp [intOf]; omega
    · have HF := Lib.hid (decide_eq_false (show ¬ z ∈ xs from fun hm => by
        obtain ⟨j, hj, e⟩ := List.getElem_of_mem hm
        refine hno.out j (by rw [← HN.out] at hj; omega) ?_
        simp only [ix, List.getD_eq_getElem?_getD, List.getElem?_eq_getElem hj, Option.getD_some]; exact e))
      have HK := Lib.hid (show k = n by omega)
      clear hno
      go_wp2
      go_ret
      exact ⟨ret_bool HF.out.symm, rfl⟩

theorem ascends_at (v : Value) (xs : List Int) (w : World) (h : Rd w v xs) (hl : xs.length ≤ 1048576) (ha : ∀ j, j + 1 < xs.length → ix xs j < ix xs (j + 1)) :
    Calls Tryd.prog 11 #[v] w (Says true w) := by
  obtain ⟨a, c, rfl, h⟩ := h
  have HX := Lib.hid h
  have HA := Lib.hid ha
  obtain ⟨n, hn⟩ : ∃ n, n = xs.length := ⟨_, rfl⟩
  have HN := Lib.hid hn
  rw [← hn] at hl ⊢
  clear h hn ha
  go_enter Tryd.func11, Tryd.ntmps11
  go_wp2
  go_loopw [3] (fun i wr => ∃ k : Nat, (k ≤ n ∨ k = 0) ∧ i = .int .i64 ((k : Int) + 1) ∧ Below w.heap.size w wr) (fun i _ => n + 1 - (intOf i).toNat)
  case atStart => exact ⟨0, .inr rfl, rfl, Below.refl _ _⟩
  case round =>
    obtain ⟨k, hk, rfl, hB⟩ := hrel
    by_cases hlt : k + 1 < n
    · have hkz : k + 1 < xs.length := by rw [← HN.out]; exact hlt
      obtain ⟨b, off, ha, hbl, hc0, hc1⟩ : ∃ b off, a = some ⟨b, off, none⟩ ∧ b < w.heap.size ∧ w.cell? ⟨b, off + k, none⟩ = some (.int .i64 (ix xs k)) ∧ w.cell? ⟨b, off + (k + 1), none⟩ = some (.int .i64 (ix xs (k + 1))) := by
        rcases HX.out with h | ⟨b, off, h, hb, hc⟩
        · rw [h] at hkz; exact absurd hkz (Nat.not_lt_zero _)
        · exact ⟨b, off, h, hb, hc k (by omega), hc (k + 1) hkz⟩
      subst ha
      have c0 := (hB.cell (p := ⟨b, off + k, none⟩) hbl).trans hc0
      have c1 := (hB.cell (p := ⟨b, off + (k + 1), none⟩) hbl).trans hc1
      have hlt2 := HA.out k hkz
      obtain ⟨x, hx⟩ : ∃ x, x = ix xs k := ⟨_, rfl⟩
      obtain ⟨y, hy⟩ : ∃ y, y = ix xs (k + 1) := ⟨_, rfl⟩
      rw [← hx] at c0 hlt2
      rw [← hy] at c1 hlt2
      have i1 : (k : Int) + 1 < (n : Int) := by omega
      have i2 : ¬ y ≤ x := by omega
      have i3 : (k : Int) + 1 - 1 = (k : Int) := by omega
      have i4 : ((k : Int) + 1).toNat = k + 1 := by omega
      have i5 : (0 : Int) ≤ (k : Int) + 1 := by omega
      have i6 : (k : Int) < (n : Int) := by omega
      have i7 : k < n := by omega
      have HB := Lib.hid hB
      have HK := Lib.hid (show k + 1 ≤ n by omega)
      have j1 : IntKind.i64.wrap (k : Int) = (k : Int) := IntWalk.i64_in _ (by omega)
      have j2 : IntKind.i64.wrap ((k : Int) + 1 + 1) = (k : Int) + 1 + 1 := IntWalk.i64_in _ (by clear j1; omega)
      clear hx hy hc0 hc1 hkz hB
      go_wp2
      go_quiet (fail)
      go_wp2
      go_roundw
      case rel => exact ⟨k + 1, .inl HK.out, by go_num, below_drewN HB.out _⟩
      case measure => simp [intOf]; omega
    · have i1 : ¬ (k : Int) + 1 < (n : Int) := by omega
      go_wp2
      go_ret
      exact ⟨rfl, hB⟩

end Go.Proofs.YtagncoahobghpaaDoor
