/-
  SumSet and SumCounts of the model.
-/
import Derived.Test.YtagncoahobghpaaStJ
import Derived.Test.YtagncoahobghpaaCube
namespace Go.Proofs.Ytagncoahobghpaa
open Go.RowKit
set_option linter.unusedVariables false

theorem i64_or_nat (a b : Nat) (ha : a < 9223372036854775808) (hb : b < 9223372036854775808) : bits .or .i64 (a : Int) (b : Int) = ((a ||| b : Nat) : Int) := by
  have hx : a ||| b < 2 ^ 63 := Nat.or_lt_two_pow (by omega) (by omega)
  show IntKind.i64.wrap ((BitVec.ofInt 64 (a : Int) ||| BitVec.ofInt 64 (b : Int)).toNat : Int) = _
  rw [BitVec.toNat_or, ofInt_i64 a ha, ofInt_i64 b hb, IntKind.wrap_i64]
  omega
theorem i64_sm {z : Int} (h : -1000000 ≤ z ∧ z ≤ 1000000) : IntKind.i64.wrap z = z := IntWalk.i64_in _ (by omega)
theorem inS_bit (s j : Nat) : ((s / 2 ^ j % 2 : Nat) : Int) = inS (bitS s) j := by
  unfold inS bitS
  rcases Nat.mod_two_eq_zero_or_one (s / 2 ^ j) with h | h <;> rw [h] <;> rfl
theorem bit_in (s j : Nat) (w : World) (hs : s ≤ 1048576) (hj : j ≤ 16) :
    Calls Try.prog 29 #[.int .i64 s, .int .i64 j] w fun e w' => e = .returned (.int .i64 (inS (bitS s) j)) ∧ w = w' := by
  rw [← inS_bit]
  exact bit_any s j _ w hs hj rfl

theorem validMarks_any (k : Int) (w : World) :
    Calls Try.prog 27 #[.int .i64 k] w fun e w' => e = .returned (.bool (seB k)) ∧ w = w' := by
  have hp := fun w => power_any 13 8192 w (by omega) (by decide)
  have hr := fun w => inRange_any k 0 8191 w
  have e : inR k 0 8191 = seB k := rfl
  rw [e] at hr
  clear e
  go_enter Try.func27, Try.ntmps27
  go_wp2_with fail
  refine (hp _).mono ?_
  rintro e w1 ⟨rfl, rfl⟩
  go_wp2_with fail
  refine (hr _).mono ?_
  rintro e w1 ⟨rfl, rfl⟩
  go_wp2
  go_ret
  exact ⟨rfl, rfl⟩

/-- Sums round the circle. -/
def rnd (x y : Nat) : Nat := (x + y) % 13
theorem mP_one (op : Nat → Nat → Nat) (F G : Nat → Int) (n x y j : Nat) : mP op F G n x (y + 1) j = mP op F G n x y j + if op x y = j then F x * G y else 0 := by
  simp only [mP, sumN]; omega
theorem mP_01 (A B : Nat → Bool) (x y z : Nat) : 0 ≤ mP rnd (inS A) (inS B) 13 x y z ∧ mP rnd (inS A) (inS B) 13 x y z ≤ 13 * x + y := by
  have ht : ∀ i j, 0 ≤ (if rnd i j = z then inS A i * inS B j else 0) ∧ (if rnd i j = z then inS A i * inS B j else 0) ≤ 1 := by
    intro i j
    rw [inS_mul]
    split
    · split <;> decide
    · decide
  have hr : ∀ i m, 0 ≤ sumN (fun j => if rnd i j = z then inS A i * inS B j else 0) m ∧ sumN (fun j => if rnd i j = z then inS A i * inS B j else 0) m ≤ m := by
    intro i m
    induction m with
    | zero => exact ⟨Int.le_refl _, Int.le_refl _⟩
    | succ m ih => have := ht i m; rw [sumN]; omega
  have hx : 0 ≤ sumN (fun i => sumN (fun j => if rnd i j = z then inS A i * inS B j else 0) 13) x ∧ sumN (fun i => sumN (fun j => if rnd i j = z then inS A i * inS B j else 0) 13) x ≤ 13 * x := by
    induction x with
    | zero => exact ⟨Int.le_refl _, Int.le_refl _⟩
    | succ x ih => have := hr x 13; rw [sumN]; omega
  have := hr x y
  unfold mP; omega
theorem cntP_all (A B : Nat → Bool) (z : Nat) : mP rnd (inS A) (inS B) 13 13 0 z = cntP A B z := by
  show _ + 0 = _
  rw [Int.add_zero]; rfl
/-- The mask of the sums of the pairs ahead of (x, y). -/
def mkP (A B : Nat → Bool) (x y : Nat) : Nat := mskN (fun z => decide (0 < mP rnd (inS A) (inS B) 13 x y z)) 13
theorem mkP_zero (A B : Nat → Bool) : mkP A B 0 0 = 0 := by
  unfold mkP
  rw [msk_congr (Q := fun _ => false) fun z _ => by rw [mP_zero]; rfl]; rfl
theorem mkP_row (A B : Nat → Bool) (x : Nat) : mkP A B x 13 = mkP A B (x + 1) 0 := msk_congr fun z _ => by rw [mP_next]
theorem mkP_all (A B : Nat → Bool) : mkP A B 13 0 = ssN A B := msk_congr fun z _ => by rw [cntP_all]
theorem mkP_no (A B : Nat → Bool) (x y : Nat) (h : ¬ (A x = true ∧ B y = true)) : mkP A B x (y + 1) = mkP A B x y := msk_congr fun z _ => by
  rw [mP_one, show inS A x * inS B y = 0 by rw [inS_mul, if_neg h]]; simp
theorem mkP_yes (A B : Nat → Bool) (x y : Nat) (ha : A x = true) (hb : B y = true) : mkP A B x (y + 1) = mkP A B x y ||| 2 ^ ((x + y) % 13) := by
  unfold mkP
  rw [msk_or _ (Nat.mod_lt _ (by decide))]
  refine msk_congr fun z _ => ?_
  rw [mP_one, show inS A x * inS B y = 1 by rw [inS_yes ha, inS_yes hb]; rfl]
  have h0 := (mP_01 A B x y z).1
  by_cases e : z = (x + y) % 13
  · have e2 : (z == (x + y) % 13) = true := by simp [e]
    rw [if_pos (show rnd x y = z from e.symm), e2, Bool.or_true]
    exact decide_eq_true (by omega)
  · have e2 : (z == (x + y) % 13) = false := by simp [e]
    rw [if_neg (show ¬ rnd x y = z from fun q => e q.symm), e2, Bool.or_false, Int.add_zero]

set_option maxHeartbeats 4000000 in
theorem specsumSet_any (a b : Nat) (w : World) (ha : a < 8192) (hb : b < 8192) :
    Calls Try.prog 28 #[.int .i64 a, .int .i64 b] w fun e w' => e = .returned (.int .i64 (ssN (bitS a) (bitS b) : Nat)) ∧ w = w' := by
  have H0 := Lib.hid (mkP_zero (bitS a) (bitS b))
  have H9 := Lib.hid (mkP_all (bitS a) (bitS b))
  go_enter Try.func28, Try.ntmps28
  go_wp2
  go_loop [6, 5] (fun i o => ∃ x : Nat, x ≤ 13 ∧ i = .int .i64 x ∧ o = .int .i64 (mkP (bitS a) (bitS b) x 0 : Nat)) (fun i _ => 13 - (intOf i).toNat)
  case atStart => exact ⟨0, Nat.zero_le _, rfl, by rw [H0.out]; rfl⟩
  case round =>
    obtain ⟨x, hx, rfl, rfl⟩ := hrel
    by_cases hlt : x < 13
    · have i1 : (x : Int) < 13 := by omega
      go_wp2
      go_loop [7, 5] (fun i o => ∃ y : Nat, y ≤ 13 ∧ i = .int .i64 y ∧ o = .int .i64 (mkP (bitS a) (bitS b) x y : Nat)) (fun i _ => 13 - (intOf i).toNat)
      case atStart => exact ⟨0, Nat.zero_le _, rfl, rfl⟩
      case round =>
        obtain ⟨y, hy, rfl, rfl⟩ := hrel
        by_cases hly : y < 13
        · have i2 : (y : Int) < 13 := by omega
          have hA := fun w => bit_in a x w (by omega) (by omega)
          have hB := fun w => bit_in b y w (by omega) (by omega)
          have hml := msk_lt (fun z => decide (0 < mP rnd (inS (bitS a)) (inS (bitS b)) 13 x y z)) 13
          have hno := mkP_no (bitS a) (bitS b) x y
          have hyes := mkP_yes (bitS a) (bitS b) x y
          obtain ⟨m, hm⟩ : ∃ m, m = mkP (bitS a) (bitS b) x y := ⟨_, rfl⟩
          rw [show mskN (fun z => decide (0 < mP rnd (inS (bitS a)) (inS (bitS b)) 13 x y z)) 13 = m from hm.symm] at hml
          rw [← hm] at hno hyes ⊢
          cases qa : bitS a x with
          | false =>
            rw [inS_no (by rw [qa]; simp)] at hA
            have HN := Lib.hid (hno (by rw [qa]; simp))
            clear hno hyes hB qa hm
            go_wp2_with fail
            refine (hA _).mono ?_
            rintro e w1 ⟨rfl, rfl⟩
            go_wp2
            go_round
            case rel => exact ⟨y + 1, by omega, by go_num, by rw [HN.out]⟩
            case measure => simp [intOf]; omega
          | true =>
            rw [inS_yes qa] at hA
            cases qb : bitS b y with
            | false =>
              rw [inS_no (by rw [qb]; simp)] at hB
              have HN := Lib.hid (hno (by rw [qb]; simp))
              clear hno hyes qa qb hm
              go_wp2_with fail
              refine (hA _).mono ?_
              rintro e w1 ⟨rfl, rfl⟩
              go_wp2_with fail
              refine (hB _).mono ?_
              rintro e w1 ⟨rfl, rfl⟩
              go_wp2
              go_round
              case rel => exact ⟨y + 1, by omega, by go_num, by rw [HN.out]⟩
              case measure => simp [intOf]; omega
            | true =>
              rw [inS_yes qb] at hB
              have HN := hyes qa qb
              have ht : (x + y) % 13 < 13 := Nat.mod_lt _ (by decide)
              obtain ⟨t, hte⟩ : ∃ t, t = (x + y) % 13 := ⟨_, rfl⟩
              rw [← hte] at HN ht
              have hp2 : 2 ^ t < 8192 := Nat.pow_lt_pow_right (by decide) ht
              have ht16 : t ≤ 16 := by omega
              have hP := fun w => power_any t _ w ht16 rfl
              obtain ⟨p, hpe⟩ : ∃ p, p = 2 ^ t := ⟨_, rfl⟩
              rw [← hpe] at HN hp2 hP
              have hm63 : m < 9223372036854775808 := by omega
              have hp63 : p < 9223372036854775808 := by omega
              have e3 : (((x : Int) + (y : Int)).tmod 13) = (t : Int) := by rw [Int.tmod_eq_emod_of_nonneg (by omega)]; omega
              have b1 : -1000000 ≤ (x : Int) + (y : Int) ∧ (x : Int) + (y : Int) ≤ 1000000 := by omega
              have b2 : -1000000 ≤ (t : Int) ∧ (t : Int) ≤ 1000000 := by omega
              have j1 : IntKind.i64.wrap ((x : Int) + (y : Int)) = (x : Int) + (y : Int) := i64_sm b1
              have j2 : ((x : Int) + (y : Int)) % 13 = (t : Int) := by clear j1; omega
              have j3 : bits BinOp.or IntKind.i64 (m : Int) (p : Int) = ((m ||| p : Nat) : Int) := i64_or_nat m p hm63 hp63
              clear e3 b1 b2 hm63 hp63 ht16
              have HN := Lib.hid HN
              clear hno hyes qa qb hm hte hpe
              go_wp2_with fail
              refine (hA _).mono ?_
              rintro e w1 ⟨rfl, rfl⟩
              go_wp2_with fail
              refine (hB _).mono ?_
              rintro e w1 ⟨rfl, rfl⟩
              go_wp2_with fail
              refine (hP _).mono ?_
              rintro e w1 ⟨rfl, rfl⟩
              go_wp2
              go_round
              case rel => exact ⟨y + 1, by omega, by go_num, by rw [HN.out]⟩
              case measure => simp [intOf]; omega
        · obtain rfl : y = 13 := by omega
          have HN := Lib.hid (mkP_row (bitS a) (bitS b) x)
          go_wp2
          go_round
          case rel => exact ⟨x + 1, by omega, by go_num, by rw [HN.out]⟩
          case measure => simp [intOf]; omega
    · obtain rfl : x = 13 := by omega
      go_wp2
      go_ret
      exact ⟨ret_int (by rw [H9.out]), rfl⟩

theorem scF_len (a b : Int) : (scF a b).length ≤ 13 := by
  unfold scF
  split
  · rw [len_tab]; exact Nat.le_refl _
  · exact Nat.zero_le _

theorem specSumSet_any (a b : Int) (w : World) :
    Calls Try.prog 9 #[.int .i64 a, .int .i64 b] w fun e w' => e = .returned (.int .i64 (ssF a b)) ∧ w = w' := by
  have hA := fun w => validMarks_any a w
  have hB := fun w => validMarks_any b w
  cases qa : seB a with
  | false =>
    have e : ssF a b = -1 := if_neg (by rw [qa]; simp)
    rw [qa] at hA
    rw [e]
    clear hB qa e
    go_enter Try.func9, Try.ntmps9
    go_wp2_with fail
    refine (hA _).mono ?_
    rintro e w1 ⟨rfl, rfl⟩
    go_wp2
    go_ret
    exact ⟨rfl, rfl⟩
  | true =>
    cases qb : seB b with
    | false =>
      have e : ssF a b = -1 := if_neg (by rw [qb]; simp)
      rw [qa] at hA
      rw [qb] at hB
      rw [e]
      clear qa qb e
      go_enter Try.func9, Try.ntmps9
      go_wp2_with fail
      refine (hA _).mono ?_
      rintro e w1 ⟨rfl, rfl⟩
      go_wp2_with fail
      refine (hB _).mono ?_
      rintro e w1 ⟨rfl, rfl⟩
      go_wp2
      go_ret
      exact ⟨rfl, rfl⟩
    | true =>
      rw [qa] at hA
      rw [qb] at hB
      have e : ssF a b = (ssN (bitS a.toNat) (bitS b.toNat) : Int) := if_pos ⟨qa, qb⟩
      rw [e]
      obtain ⟨x, rfl, hx⟩ := seB_of qa
      obtain ⟨y, rfl, hy⟩ := seB_of qb
      have hS := fun w => specsumSet_any x y w hx hy
      rw [Int.toNat_natCast, Int.toNat_natCast]
      clear qa qb e
      go_enter Try.func9, Try.ntmps9
      go_wp2_with fail
      refine (hA _).mono ?_
      rintro e w1 ⟨rfl, rfl⟩
      go_wp2_with fail
      refine (hB _).mono ?_
      rintro e w1 ⟨rfl, rfl⟩
      go_wp2_with fail
      refine (hS _).mono ?_
      rintro e w1 ⟨rfl, rfl⟩
      go_wp2
      go_ret
      exact ⟨rfl, rfl⟩
end Go.Proofs.Ytagncoahobghpaa
