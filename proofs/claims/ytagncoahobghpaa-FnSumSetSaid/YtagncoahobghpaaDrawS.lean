/-
  The Draw functions of sets: what they draw are small numbers.
-/
import Derived.Test.YtagncoahobghpaaDraw3
import Derived.Test.YtagncoahobghpaaStS
namespace Go.Proofs.Ytagncoahobghpaa
open Go.RowKit
set_option linter.unusedVariables false

/-- A number drawn: the reader some places on. -/
def SomeZ (T : Nat) (w : World) (R p : Nat) (e : Ending) (w' : World) : Prop :=
  ∃ (z : Int) (p' : Nat), e = .returned (.int .i64 z) ∧ (-1000000 ≤ z ∧ z ≤ 1000000) ∧ p' ≤ p + 6 ∧ Rdr T w' R p' ∧ w.grownBy w' (some R)
def DrewTwo (w : World) (e : Ending) (w' : World) : Prop := ∃ y z : Int, e = .returned (.tuple #[.int .i64 y, .int .i64 z]) ∧ (-1000000 ≤ y ∧ y ≤ 1000000) ∧ (-1000000 ≤ z ∧ z ≤ 1000000) ∧ Below w.heap.size w w'
theorem grown_two {a b c : World} {R : Nat} (h : a.grownBy b (some R)) (k : b.grownBy c (some R)) : a.grownBy c (some R) :=
  ⟨k.os.trans h.os, k.tape.trans h.tape, k.output.trans h.output, Nat.le_trans h.size k.size, fun i hi hne => (k.block i (Nat.lt_of_lt_of_le hi h.size) hne).trans (h.block i hi hne)⟩

set_option maxHeartbeats 4000000 in
theorem someSet_any (R p : Nat) (w : World) (h : Rdr 45 w R p) (hp : p ≤ 500) :
    Calls Try.prog 22 #[.pointer (some ⟨R, 0, none⟩)] w (SomeZ 45 w R p) := by
  go_enter Try.func22, Try.ntmps22
  go_wp2_with fail
  refine (pick_any R p 24 _ h (by omega) (by omega) (by omega)).mono ?_
  rintro e w1 ⟨x0, rfl, hx0, hR1, g1⟩
  clear h
  by_cases h0 : x0 = 0
  · have e1 : ((x0 : Int) == 0) = true := by simp [h0]
    clear h0
    go_wp2_with fail
    have hlit := own_lit 3 0 w1.heap.size w1 #[.int .i64 (-1), .int .i64 (8192), .int .i64 (0), .int .i64 (8191)] [-1, 8192, 0, 8191] 4 rfl (Nat.zero_le _) rfl rfl (by unfold maxLen; omega)
    have hlt := hR1.lt
    have h1 := hR1.kept (World.grownBy_alloc w1 (.cells #[.int .i64 (-1), .int .i64 (8192), .int .i64 (0), .int .i64 (8191)] 3) none) (by simp)
    refine (one_any R (p + 1) _ [-1, 8192, 0, 8191] _ h1 (by omega) hlit.rd (by simp) (by simp) (by simp [Value.ownBlock]; omega)).mono ?_
    rintro e w4 ⟨k, hk, rfl, hR4, g4⟩
    have hZ := ix_range (lo := -1) (hi := 8192) (xs := [-1, 8192, 0, 8191]) (by intro z hz; simp only [List.mem_cons, List.not_mem_nil, or_false] at hz; omega) hk
    have g4 := grown_thru (World.grownBy_alloc w1 (.cells #[.int .i64 (-1), .int .i64 (8192), .int .i64 (0), .int .i64 (8191)] 3) none) g4
    have g4 := grown_two g1 g4
    generalize ix [-1, 8192, 0, 8191] k = z at hZ ⊢
    clear hlit h1 g1
    go_wp2
    go_ret
    exact ⟨z, p + 2, rfl, by omega, by omega, hR4, g4⟩
  · have e1 : ((x0 : Int) == 0) = false := by simp; omega
    clear h0
    go_wp2_with fail
    refine (pick_any R (p + 1) 256 _ hR1 (by omega) (by omega) (by omega)).mono ?_
    rintro e w2 ⟨x1, rfl, hx1, hR2, g2⟩
    go_wp2_with fail
    refine (pick_any R (p + 1 + 1) 32 _ hR2 (by omega) (by omega) (by omega)).mono ?_
    rintro e w3 ⟨x2, rfl, hx2, hR3, g3⟩
    obtain ⟨y, hy⟩ : ∃ y : Nat, y = x1 + 256 * x2 := ⟨_, rfl⟩
    have hy8 : y < 8192 := by omega
    have b1 : -1000000 ≤ 256 * (x2 : Int) ∧ 256 * (x2 : Int) ≤ 1000000 := by omega
    have b2 : -1000000 ≤ (x1 : Int) + 256 * (x2 : Int) ∧ (x1 : Int) + 256 * (x2 : Int) ≤ 1000000 := by omega
    have k1 : (x1 : Int) + 256 * (x2 : Int) = (y : Int) := by omega
    have j1 : IntKind.i64.wrap (256 * (x2 : Int)) = 256 * (x2 : Int) := i64_sm b1
    have j2 : IntKind.i64.wrap ((x1 : Int) + 256 * (x2 : Int)) = (y : Int) := by rw [i64_sm b2, k1]
    clear b1 b2 hR1 hR2 hy
    go_wp2_with fail
    refine (pick_any R (p + 1 + 1 + 1) 2 _ hR3 (by omega) (by omega) (by omega)).mono ?_
    rintro e w4 ⟨x3, rfl, hx3, hR4, g4⟩
    clear hR3
    have g4 := grown_two (grown_two (grown_two g1 g2) g3) g4
    clear g1 g2 g3
    by_cases h3 : x3 = 0
    · have e3 : ((x3 : Int) == 0) = true := by simp [h3]
      clear h3 j1 j2 k1
      go_wp2_with fail
      refine (pick_any R (p + 1 + 1 + 1 + 1) 256 _ hR4 (by omega) (by omega) (by omega)).mono ?_
      rintro e w5 ⟨x4, rfl, hx4, hR5, g5⟩
      go_wp2_with fail
      refine (pick_any R (p + 1 + 1 + 1 + 1 + 1) 32 _ hR5 (by omega) (by omega) (by omega)).mono ?_
      rintro e w6 ⟨x5, rfl, hx5, hR6, g6⟩
      have g6 := grown_two (grown_two g4 g5) g6
      obtain ⟨q, hq⟩ : ∃ q : Nat, q = x4 + 256 * x5 := ⟨_, rfl⟩
      have hq8 : q < 8192 := by omega
      have b1 : -1000000 ≤ 256 * (x5 : Int) ∧ 256 * (x5 : Int) ≤ 1000000 := by omega
      have b2 : -1000000 ≤ (x4 : Int) + 256 * (x5 : Int) ∧ (x4 : Int) + 256 * (x5 : Int) ≤ 1000000 := by omega
      have k1 : (x4 : Int) + 256 * (x5 : Int) = (q : Int) := by omega
      have hle : y &&& q ≤ y := Nat.and_le_left
      have j3 := i64_and_nat y q (by omega) (by omega)
      obtain ⟨r, hr⟩ : ∃ r, r = y &&& q := ⟨_, rfl⟩
      rw [← hr] at j3 hle
      have hr8 : r < 8192 := by omega
      have HZ := Lib.hid (show -1000000 ≤ (r : Int) ∧ (r : Int) ≤ 1000000 by omega)
      have HP := Lib.hid (show p + 1 + 1 + 1 + 1 + 1 + 1 ≤ p + 6 by omega)
      have j1 : IntKind.i64.wrap (256 * (x5 : Int)) = 256 * (x5 : Int) := i64_sm b1
      have j2 : IntKind.i64.wrap ((x4 : Int) + 256 * (x5 : Int)) = (q : Int) := by rw [i64_sm b2, k1]
      clear b1 b2 hR4 hR5 hq g4 g5 hr hle k1
      go_wp2
      go_ret
      exact ⟨r, _, rfl, HZ.out, HP.out, hR6, g6⟩
    · have e3 : ((x3 : Int) == 0) = false := by simp; omega
      have HZ := Lib.hid (show -1000000 ≤ (y : Int) ∧ (y : Int) ≤ 1000000 by clear j1 j2; omega)
      have HP := Lib.hid (show p + 1 + 1 + 1 + 1 ≤ p + 6 by clear j1 j2; omega)
      clear h3 j1 j2 k1
      go_wp2
      go_ret
      exact ⟨y, _, rfl, HZ.out, HP.out, hR4, g4⟩

set_option maxHeartbeats 4000000 in
theorem drawSumSet_any (v : Value) (n : Nat) (w : World) (h : RdB w v n) :
    Calls Try.prog 7 #[v] w (DrewTwo w) := by
  go_enter Try.func7, Try.ntmps7
  go_wp2_with fail
  refine (newReader_any v n _ h).mono ?_
  rintro e w1 ⟨R, rfl, hR, b1, hRs⟩
  go_wp2_with fail
  refine (someSet_any R 0 _ hR (by omega)).mono ?_
  rintro e w2 ⟨y, p, rfl, hy, hp, hR2, g2⟩
  have b2 := bel_rdr b1 g2 hRs
  clear b1 hR g2
  go_wp2_with fail
  refine (someSet_any R p _ hR2 (by omega)).mono ?_
  rintro e w3 ⟨z, q, rfl, hz, hq, hR3, g3⟩
  have b3 := bel_rdr b2 g3 hRs
  clear b2 hR2 g3 hR3
  go_wp2
  go_ret2
  exact ⟨y, z, rfl, hy, hz, b3⟩

set_option maxHeartbeats 4000000 in
theorem drawSumCounts_any (v : Value) (n : Nat) (w : World) (h : RdB w v n) :
    Calls Try.prog 11 #[v] w (DrewTwo w) := by
  go_enter Try.func11, Try.ntmps11
  go_wp2_with fail
  refine (drawSumSet_any v n _ h).mono ?_
  rintro e w1 ⟨y, z, rfl, hy, hz, b⟩
  go_wp2
  go_ret2
  exact ⟨y, z, rfl, hy, hz, b⟩

set_option maxHeartbeats 4000000 in
theorem drawIsSparse_any (v : Value) (n : Nat) (w : World) (h : RdB w v n) :
    Calls Try.prog 16 #[v] w (DrewOne w) := by
  go_enter Try.func16, Try.ntmps16
  go_wp2_with fail
  refine (newReader_any v n _ h).mono ?_
  rintro e w1 ⟨R, rfl, hR, b1, hRs⟩
  go_wp2_with fail
  refine (pick_any R 0 2 _ hR (by omega) (by omega) (by omega)).mono ?_
  rintro e w2 ⟨x0, rfl, hx0, hR2, g2⟩
  have b2 := bel_rdr b1 g2 hRs
  clear b1 hR g2
  by_cases h0 : x0 = 0
  · have e1 : ((x0 : Int) == 0) = true := by simp [h0]
    clear h0
    go_wp2_with fail
    refine (pick_any R 1 13 _ hR2 (by omega) (by omega) (by omega)).mono ?_
    rintro e w3 ⟨x1, rfl, hx1, hR3, g3⟩
    have b3 := bel_rdr b2 g3 hRs
    have q1 : 2 ^ x1 < 8192 := Nat.pow_lt_pow_right (by decide) hx1
    have P1 := Lib.hid fun w => power_any x1 _ w (by omega) rfl
    obtain ⟨p1, hp1⟩ : ∃ p, p = 2 ^ x1 := ⟨_, rfl⟩
    rw [← hp1] at q1 P1
    clear hp1 hR2 b2 g3
    go_wp2_with fail
    refine (P1.out _).mono ?_
    rintro e w3 ⟨rfl, rfl⟩
    go_wp2_with fail
    refine (pick_any R 2 13 _ hR3 (by omega) (by omega) (by omega)).mono ?_
    rintro e w4 ⟨x2, rfl, hx2, hR4, g4⟩
    have b4 := bel_rdr b3 g4 hRs
    have q2 : 2 ^ x2 < 8192 := Nat.pow_lt_pow_right (by decide) hx2
    have P2 := Lib.hid fun w => power_any x2 _ w (by omega) rfl
    obtain ⟨p2, hp2⟩ : ∃ p, p = 2 ^ x2 := ⟨_, rfl⟩
    rw [← hp2] at q2 P2
    clear hp2 hR3 b3 g4
    go_wp2_with fail
    refine (P2.out _).mono ?_
    rintro e w4 ⟨rfl, rfl⟩
    have m12 : p1 ||| p2 < 2 ^ 13 := Nat.or_lt_two_pow (by omega) (by omega)
    have j1 := i64_or_nat p1 p2 (by omega) (by omega)
    obtain ⟨r, hr⟩ : ∃ r, r = p1 ||| p2 := ⟨_, rfl⟩
    rw [← hr] at m12 j1
    clear hr
    go_wp2_with fail
    refine (pick_any R 3 13 _ hR4 (by omega) (by omega) (by omega)).mono ?_
    rintro e w5 ⟨x3, rfl, hx3, hR5, g5⟩
    have b5 := bel_rdr b4 g5 hRs
    have q3 : 2 ^ x3 < 8192 := Nat.pow_lt_pow_right (by decide) hx3
    have P3 := Lib.hid fun w => power_any x3 _ w (by omega) rfl
    obtain ⟨p3, hp3⟩ : ∃ p, p = 2 ^ x3 := ⟨_, rfl⟩
    rw [← hp3] at q3 P3
    clear hp3 hR4 b4 g5
    go_wp2_with fail
    refine (P3.out _).mono ?_
    rintro e w5 ⟨rfl, rfl⟩
    have m123 : r ||| p3 < 2 ^ 13 := Nat.or_lt_two_pow (by omega) (by omega)
    have j2 := i64_or_nat r p3 (by omega) (by omega)
    obtain ⟨s, hs⟩ : ∃ s, s = r ||| p3 := ⟨_, rfl⟩
    rw [← hs] at m123 j2
    have HZ := Lib.hid (show -1000000 ≤ (s : Int) ∧ (s : Int) ≤ 1000000 by clear j1 j2; omega)
    clear hs hR5
    go_wp2
    go_ret
    exact ⟨s, rfl, HZ.out, b5⟩
  · have e1 : ((x0 : Int) == 0) = false := by simp; omega
    clear h0
    go_wp2_with fail
    refine (someSet_any R 1 _ hR2 (by omega)).mono ?_
    rintro e w3 ⟨y, p, rfl, hy, hp, hR3, g3⟩
    have b3 := bel_rdr b2 g3 hRs
    clear b2 hR2 g3 hR3
    go_wp2
    go_ret
    exact ⟨y, rfl, hy, b3⟩
end Go.Proofs.Ytagncoahobghpaa
