/-
  bits.OnesCount of small numbers.
-/
import Derived.Test.YtagncoahobghpaaSpN
import Derived.Test.YtagncoahobghpaaInfo
namespace Go.Proofs.Ytagncoahobghpaa
open Go.RowKit
set_option linter.unusedVariables false

theorem ofInt_u64 (a : Nat) (ha : a < 18446744073709551616) : (BitVec.ofInt 64 (a : Int)).toNat = a := by
  rw [BitVec.ofInt_natCast, BitVec.toNat_ofNat]; exact Nat.mod_eq_of_lt (by omega)
theorem u64_and_nat (a b : Nat) (ha : a < 18446744073709551616) (hb : b < 18446744073709551616) : bits .and .u64 (a : Int) (b : Int) = ((a &&& b : Nat) : Int) := by
  have hx : a &&& b < 2 ^ 64 := Nat.and_lt_two_pow _ (by omega)
  show IntKind.u64.wrap ((BitVec.ofInt 64 (a : Int) &&& BitVec.ofInt 64 (b : Int)).toNat : Int) = _
  rw [BitVec.toNat_and, ofInt_u64 a ha, ofInt_u64 b hb, IntKind.wrap_u64]
  omega
theorem u64_sm {z : Int} (h : 0 ≤ z ∧ z ≤ 1000000) : IntKind.u64.wrap z = z := by rw [IntKind.wrap_u64]; omega
/-- The steps of the count. -/
def oc1 (x : Nat) : Nat := (x / 2 &&& 6148914691236517205) + (x &&& 6148914691236517205)
def oc2 (y : Nat) : Nat := (y / 4 &&& 3689348814741910323) + (y &&& 3689348814741910323)
def oc3 (y : Nat) : Nat := (y / 16 + y) &&& 1085102592571150095
def oc4 (y : Nat) : Nat := y + y / 256
def oc5 (y : Nat) : Nat := y + y / 65536
def oc6 (y : Nat) : Nat := y + y / 4294967296
/-- All of them for the numbers below n. -/
def ocAll : Nat → Bool
  | 0 => true
  | n + 1 => ((oc6 (oc5 (oc4 (oc3 (oc2 (oc1 n)))))) &&& 127) == onF 13 n && ocAll n
theorem ocAll_of : ∀ n, ocAll n = true → ∀ x, x < n → (oc6 (oc5 (oc4 (oc3 (oc2 (oc1 x))))) &&& 127) = onF 13 x := by
  intro n
  induction n with
  | zero => intro _ x hx; omega
  | succ n ih =>
    intro h x hx
    rw [ocAll, Bool.and_eq_true] at h
    by_cases e : x = n
    · subst e; simpa using h.1
    · exact ih h.2 x (by omega)
set_option maxRecDepth 100000 in
theorem oc_is (x : Nat) (hx : x < 8192) : (oc6 (oc5 (oc4 (oc3 (oc2 (oc1 x))))) &&& 127) = onF 13 x := ocAll_of 8192 (by decide +kernel) x hx

set_option maxHeartbeats 4000000 in
theorem onesCount64_any (x : Nat) (w : World) (hx : x < 8192) :
    Calls Try.prog 38 #[.int .u64 x] w fun e w' => e = .returned (.int .i64 (onF 13 x : Nat)) ∧ w = w' := by
  have HE := Lib.hid (oc_is x hx)
  have a1 : x / 2 &&& 6148914691236517205 ≤ x / 2 := Nat.and_le_left
  have a2 : x &&& 6148914691236517205 ≤ x := Nat.and_le_left
  have f1 := u64_and_nat (x / 2) 6148914691236517205 (by omega) (by decide)
  have f2 := u64_and_nat x 6148914691236517205 (by omega) (by decide)
  obtain ⟨p1, hp1⟩ : ∃ p, p = (x / 2 &&& 6148914691236517205) := ⟨_, rfl⟩
  obtain ⟨p2, hp2⟩ : ∃ p, p = (x &&& 6148914691236517205) := ⟨_, rfl⟩
  obtain ⟨y1, hy1⟩ : ∃ y, y = oc1 x := ⟨_, rfl⟩
  have e1 : p1 + p2 = y1 := by rw [hy1, hp1, hp2]; rfl
  rw [← hp1] at a1 f1
  rw [← hp2] at a2 f2
  have b1 : y1 ≤ 20000 := by omega
  have a3 : y1 / 4 &&& 3689348814741910323 ≤ y1 / 4 := Nat.and_le_left
  have a4 : y1 &&& 3689348814741910323 ≤ y1 := Nat.and_le_left
  have f3 := u64_and_nat (y1 / 4) 3689348814741910323 (by omega) (by decide)
  have f4 := u64_and_nat y1 3689348814741910323 (by omega) (by decide)
  obtain ⟨p3, hp3⟩ : ∃ p, p = (y1 / 4 &&& 3689348814741910323) := ⟨_, rfl⟩
  obtain ⟨p4, hp4⟩ : ∃ p, p = (y1 &&& 3689348814741910323) := ⟨_, rfl⟩
  obtain ⟨y2, hy2⟩ : ∃ y, y = oc2 y1 := ⟨_, rfl⟩
  have e2 : p3 + p4 = y2 := by rw [hy2, hp3, hp4]; rfl
  rw [← hp3] at a3 f3
  rw [← hp4] at a4 f4
  have b2 : y2 ≤ 40000 := by omega
  have a5 : (y2 / 16 + y2) &&& 1085102592571150095 ≤ y2 / 16 + y2 := Nat.and_le_left
  have f5 := u64_and_nat (y2 / 16 + y2) 1085102592571150095 (by omega) (by decide)
  obtain ⟨y3, hy3⟩ : ∃ y, y = oc3 y2 := ⟨_, rfl⟩
  rw [show ((y2 / 16 + y2) &&& 1085102592571150095) = y3 from hy3.symm] at a5 f5
  have b3 : y3 ≤ 80000 := by omega
  obtain ⟨y4, hy4⟩ : ∃ y, y = oc4 y3 := ⟨_, rfl⟩
  have e4 : y3 + y3 / 256 = y4 := hy4.symm
  have b4 : y4 ≤ 160000 := by omega
  obtain ⟨y5, hy5⟩ : ∃ y, y = oc5 y4 := ⟨_, rfl⟩
  have e5 : y4 + y4 / 65536 = y5 := hy5.symm
  have b5 : y5 ≤ 320000 := by omega
  obtain ⟨y6, hy6⟩ : ∃ y, y = oc6 y5 := ⟨_, rfl⟩
  have e6 : y5 + y5 / 4294967296 = y6 := hy6.symm
  have b6 : y6 ≤ 640000 := by omega
  have f7 := i64_and_nat y6 127 (by omega) (by decide)
  obtain ⟨r, hr⟩ : ∃ r, r = y6 &&& 127 := ⟨_, rfl⟩
  rw [← hr] at f7
  have HR := Lib.hid (show r = onF 13 x by rw [hr, hy6, hy5, hy4, hy3, hy2, hy1]; exact HE.out)
  have g1 : (p1 : Int) + (p2 : Int) = (y1 : Int) := by omega
  have g2 : (p3 : Int) + (p4 : Int) = (y2 : Int) := by omega
  have g4 : (y3 : Int) + (y3 : Int) / 256 = (y4 : Int) := by omega
  have g5 : (y4 : Int) + (y4 : Int) / 65536 = (y5 : Int) := by omega
  have g6 : (y5 : Int) + (y5 : Int) / 4294967296 = (y6 : Int) := by omega
  have c3 : 0 ≤ (y2 : Int) / 16 + (y2 : Int) ∧ (y2 : Int) / 16 + (y2 : Int) ≤ 1000000 := by omega
  have c1 : 0 ≤ (y1 : Int) ∧ (y1 : Int) ≤ 1000000 := by omega
  have c2 : 0 ≤ (y2 : Int) ∧ (y2 : Int) ≤ 1000000 := by omega
  have c4 : 0 ≤ (y4 : Int) ∧ (y4 : Int) ≤ 1000000 := by omega
  have c5 : 0 ≤ (y5 : Int) ∧ (y5 : Int) ≤ 1000000 := by omega
  have c6 : 0 ≤ (y6 : Int) ∧ (y6 : Int) ≤ 1000000 := by omega
  have d6 : -1000000 ≤ (y6 : Int) ∧ (y6 : Int) ≤ 1000000 := by omega
  rw [Int.natCast_ediv] at f1 f3
  rw [Int.natCast_add, Int.natCast_ediv] at f5
  have f1 : bits .and .u64 ((x : Int) / 2) 6148914691236517205 = (p1 : Int) := f1
  have f2 : bits .and .u64 (x : Int) 6148914691236517205 = (p2 : Int) := f2
  have f3 : bits .and .u64 ((y1 : Int) / 4) 3689348814741910323 = (p3 : Int) := f3
  have f4 : bits .and .u64 (y1 : Int) 3689348814741910323 = (p4 : Int) := f4
  have f5 : bits .and .u64 ((y2 : Int) / 16 + (y2 : Int)) 1085102592571150095 = (y3 : Int) := f5
  have f7 : bits .and .i64 (y6 : Int) 127 = (r : Int) := f7
  have w1 := u64_sm c1
  have w2 := u64_sm c2
  have w3 := u64_sm c3
  have w4 := u64_sm c4
  have w5 := u64_sm c5
  have w6 := u64_sm c6
  have w7 : IntKind.i64.wrap (y6 : Int) = (y6 : Int) := IntWalk.i64_in _ (by clear w1 w2 w3 w4 w5 w6; omega)
  clear a1 a2 a3 a4 a5 b1 b2 b3 b4 b5 b6 e1 e2 e4 e5 e6 c1 c2 c3 c4 c5 c6 d6 hp1 hp2 hp3 hp4 hy1 hy2 hy3 hy4 hy5 hy6 hr HE hx
  go_enter Try.func38, Try.ntmps38
  go_wp2
  go_ret
  exact ⟨ret_int (by rw [HR.out]), rfl⟩

theorem onesCount_any (x : Nat) (w : World) (hx : x < 8192) :
    Calls Try.prog 33 #[.int .u64 x] w fun e w' => e = .returned (.int .i64 (onF 13 x : Nat)) ∧ w = w' := by
  have h := fun w => onesCount64_any x w hx
  have w1 : IntKind.u64.wrap (x : Int) = (x : Int) := u64_sm (by omega)
  obtain ⟨r, hr⟩ : ∃ r, r = onF 13 x := ⟨_, rfl⟩
  rw [← hr] at h ⊢
  clear hr hx
  go_enter Try.func33, Try.ntmps33
  go_wp2_with fail
  refine (h _).mono ?_
  rintro e w1 ⟨rfl, rfl⟩
  go_wp2
  go_ret
  exact ⟨rfl, rfl⟩
end Go.Proofs.Ytagncoahobghpaa
