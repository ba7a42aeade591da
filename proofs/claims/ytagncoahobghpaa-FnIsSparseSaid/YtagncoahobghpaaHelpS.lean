/-
  Small facts of the laws of sets; ones of the laws.
-/
import Derived.Test.YtagncoahobghpaaFnM
import Derived.Test.YtagncoahobghpaaSpJ
namespace Go.Proofs.Ytagncoahobghpaa
open Go.RowKit
set_option linter.unusedVariables false

theorem ss_lt (x y : Nat) : ssN (bitS x) (bitS y) < 8192 := msk_lt _ 13
theorem bitS_zero (i : Nat) : bitS 0 i = false := by unfold bitS; simp
theorem ss_none {x y : Nat} (h : x = 0 ∨ y = 0) : ssN (bitS x) (bitS y) = 0 := by
  have e : ∀ z, z < 13 → decide (0 < cntP (bitS x) (bitS y) z) = false := fun z hz => by
    apply decide_eq_false
    rw [cntP_pos hz]
    rintro ⟨p, _, q, _, hp, hq, _⟩
    rcases h with h | h
    · rw [h, bitS_zero] at hp; cases hp
    · rw [h, bitS_zero] at hq; cases hq
  unfold ssN
  rw [msk_congr (Q := fun _ => false) e]; rfl
theorem on_some {x : Nat} (hx : x < 8192) (h : x ≠ 0) : ∃ i, i < 13 ∧ bitS x i = true := by
  apply Classical.byContradiction
  intro q
  have := msk_self (s := x) (n := 13) hx
  rw [msk_congr (Q := fun _ => false) fun i hi => by
    cases e : bitS x i with
    | false => rfl
    | true => exact absurd ⟨i, hi, e⟩ q] at this
  exact h this.symm
theorem ss_many {x y : Nat} (hx : x < 8192) (hy : y < 8192) (x0 : x ≠ 0) (y0 : y ≠ 0) : onF 13 x + onF 13 y ≤ onF 13 (ssN (bitS x) (bitS y)) + 1 ∨ 13 ≤ onF 13 (ssN (bitS x) (bitS y)) := by
  have h := sums_many (bitS (ssN (bitS x) (bitS y))) 13 (bitS x) (bitS y) (cntS_range _).2 (on_some hx x0) (on_some hy y0) fun p hp q hq ap aq => by
    unfold ssN
    rw [msk_bit (Nat.mod_lt _ (by decide))]
    exact decide_eq_true ((cntP_pos (Nat.mod_lt _ (by decide))).mpr ⟨p, hp, q, hq, ap, aq, rfl⟩)
  rw [← onF_cnt, ← onF_cnt, ← onF_cnt] at h
  omega
theorem seB_nat {s : Nat} (h : s < 8192) : seB (s : Int) = true := decide_eq_true (by omega)
theorem ssF_nat {x y : Nat} (hx : x < 8192) (hy : y < 8192) : ssF x y = (ssN (bitS x) (bitS y) : Int) := by
  unfold ssF; rw [if_pos ⟨seB_nat hx, seB_nat hy⟩, Int.toNat_natCast, Int.toNat_natCast]
theorem ssF_no {a b : Int} (h : ¬ (seB a = true ∧ seB b = true)) : ssF a b = -1 := if_neg h

set_option maxHeartbeats 2000000 in
theorem lawones_any (x : Nat) (w : World) (hx : x < 8192) :
    Calls Try.prog 10 #[.int .i64 x] w fun e w' => e = .returned (.int .i64 (onF 13 x : Nat)) ∧ w = w' := by
  have hle := onF_le 13 x
  go_enter Try.func10, Try.ntmps10
  go_wp2
  go_loop [0, 3] (fun r n => ∃ k m : Nat, k < 8192 ∧ r = .int .i64 k ∧ n = .int .i64 m ∧ Hid (∃ f, f ≤ 13 ∧ k < 2 ^ f ∧ m + onF f k = onF 13 x)) (fun r _ => (intOf r).toNat)
  case atStart => exact ⟨x, 0, hx, rfl, rfl, 13, Nat.le_refl _, hx, by omega⟩
  case round =>
    obtain ⟨k, m, hk, rfl, rfl, hs⟩ := hrel
    by_cases h0 : k = 0
    · subst h0
      have HE := Lib.hid (show m = onF 13 x by obtain ⟨f, _, _, h⟩ := hs.out; rw [onF_zero] at h; omega)
      clear hs
      go_wp2
      go_ret
      exact ⟨ret_int (by rw [HE.out]), rfl⟩
    · have hs2 : Hid (∃ f, f ≤ 13 ∧ k / 2 < 2 ^ f ∧ (m + k % 2) + onF f (k / 2) = onF 13 x) := by
        obtain ⟨f, h1, h2, h3⟩ := hs.out
        cases f with
        | zero => exact absurd h2 (by simp; omega)
        | succ f =>
          rw [onF] at h3
          rw [Nat.pow_succ] at h2
          exact ⟨f, by omega, by omega, by omega⟩
      have hm2 : m + k % 2 ≤ 13 := by obtain ⟨f, _, _, h⟩ := hs2.out; omega
      have hk2 : k / 2 < 8192 := by omega
      clear hs
      go_wp2
      go_round
      case rel => exact ⟨k / 2, m + k % 2, hk2, by go_num, by go_num, hs2⟩
      case measure => simp [intOf]; omega

end Go.Proofs.Ytagncoahobghpaa
