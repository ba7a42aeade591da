/-
  The law FnMostSparse, as a contract.
-/
import Derived.Test.YtagncoahobghpaaHelpS
import Derived.Test.YtagncoahobghpaaDrawS
namespace Go.Proofs.Ytagncoahobghpaa
open Go.RowKit
set_option linter.unusedVariables false

theorem most_no : ∀ k, k < 13 → 83 &&& 2 ^ k = 0 → spF ((83 ||| 2 ^ k : Nat) : Int) = false := by
  intro k hk h
  have e : ∀ k, k < 13 → 83 &&& 2 ^ k = 0 → apE (83 ||| 2 ^ k) = false := by decide +kernel
  have := e k hk h
  rw [apE_is] at this
  unfold spF
  rw [Int.toNat_natCast, this, Bool.and_false]
theorem spF_most : spF 83 = true := by
  unfold spF
  have : apE 83 = true := by decide +kernel
  rw [apE_is] at this
  rw [show (83 : Int).toNat = 83 from rfl, this, Bool.and_true]
  exact decide_eq_true (by decide)

set_option maxHeartbeats 8000000 in
set_option maxRecDepth 100000 in
theorem lawMostSparse_any (v : Value) (n : Nat) (w : World) (h : RdB w v n) :
    Calls Try.prog 6 #[v] w (Says true w) := by
  have h0 := h
  obtain ⟨a, cap, rfl, h1, h2, -⟩ := h0
  unfold maxLen at h2
  by_cases hbig : n ≤ 1048576
  · go_enter Try.func6, Try.ntmps6
    have i0 : ¬ ((1048576 : Int) < (n : Int)) := by omega
    clear h h1 h2 hbig
    have HSP := Lib.hid fun w => implIsSparse_any 83 w
    have e83 : spF 83 = true := spF_most
    rw [e83] at HSP
    clear e83
    go_wp2_with fail
    refine (implMostSparse_any _).mono ?_
    rintro e w2 ⟨rfl, bb⟩
    go_wp2_with fail
    refine (specMostSparse_any _).mono ?_
    rintro e w3 ⟨rfl, rfl⟩
    go_wp2
    go_loopw [4] (fun i wr => ∃ k : Nat, k ≤ 13 ∧ i = .int .i64 ((2 ^ k : Nat) : Int) ∧ Below w.heap.size w wr) (fun i _ => 8192 - (intOf i).toNat)
    case atStart => exact ⟨0, Nat.zero_le _, rfl, bb⟩
    case round =>
      obtain ⟨k, hk, rfl, hB⟩ := hrel
      clear bb
      by_cases hlt : k < 13
      · have hp1 : 2 ^ k ≤ 4096 := Nat.pow_le_pow_right (by decide) (show k ≤ 12 by omega)
        have hp0 : 0 < 2 ^ k := Nat.pow_pos (by decide)
        have hp2 : 2 ^ (k + 1) = 2 * 2 ^ k := by rw [Nat.pow_succ]; omega
        have j1 := i64_and_nat 83 (2 ^ k) (by decide) (by omega)
        have j2 := i64_or_nat 83 (2 ^ k) (by decide) (by omega)
        have hno := most_no k hlt
        have HN := Lib.hid (show ∀ wr : World, Below w.heap.size w wr → ∃ k' : Nat, k' ≤ 13 ∧ Value.int .i64 (2 * ((2 ^ k : Nat) : Int)) = .int .i64 ((2 ^ k' : Nat) : Int) ∧ Below w.heap.size w wr from fun wr b => ⟨k + 1, by omega, by rw [hp2]; simp, b⟩)
        obtain ⟨q, hq⟩ : ∃ q, q = 2 ^ k := ⟨_, rfl⟩
        rw [← hq] at hp0 hp1 j1 j2 hno HN ⊢
        have j1 : bits .and .i64 83 (q : Int) = ((83 &&& q : Nat) : Int) := j1
        have j2 : bits .or .i64 83 (q : Int) = ((83 ||| q : Nat) : Int) := j2
        clear hq hp2 hlt hk
        by_cases h0 : 83 &&& q = 0
        · have HI := Lib.hid fun w => implIsSparse_any ((83 ||| q : Nat) : Int) w
          rw [hno h0] at HI
          rw [h0] at j1
          have j1 : bits .and .i64 83 (q : Int) = 0 := j1
          obtain ⟨r, hr⟩ : ∃ r, r = (83 ||| q) := ⟨_, rfl⟩
          rw [← hr] at j2 HI
          clear h0 hno hr
          have j3 : IntKind.i64.wrap (2 * (q : Int)) = 2 * (q : Int) := i64_sm (by clear j1 j2; omega)
          go_wp2_with fail
          refine (HI.out _).mono ?_
          rintro e w4 ⟨rfl, b4⟩
          have hB := bel_nxt hB b4
          clear b4
          go_wp2
          go_roundw
          case rel => exact HN.out _ hB
          case measure => simp [intOf]; omega
        · have e0 : (((83 &&& q : Nat) : Int) == 0) = false := by simp; omega
          obtain ⟨r, hr⟩ : ∃ r, r = (83 &&& q) := ⟨_, rfl⟩
          rw [← hr] at j1 e0
          clear h0 hno hr j2
          have j3 : IntKind.i64.wrap (2 * (q : Int)) = 2 * (q : Int) := i64_sm (by clear j1; omega)
          go_wp2
          go_roundw
          case rel => exact HN.out _ hB
          case measure => simp [intOf]; omega
      · obtain rfl : k = 13 := by omega
        go_wp2_with fail
        refine (HSP.out _).mono ?_
        rintro e w4 ⟨rfl, b4⟩
        have bb := bel_nxt hB b4
        go_wp2
        go_ret
        exact ⟨rfl, bb⟩
  · clear h
    go_enter Try.func6, Try.ntmps6
    go_wp2
    go_ret
    exact ⟨rfl, Below.refl _ _⟩

end Go.Proofs.Ytagncoahobghpaa
