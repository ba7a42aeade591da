/-
  Joined texts: Cube, Below, PtB, PtC.
-/
import Derived.Test.YtagncoahobghpacGreatDoorJGdE08
import Derived.Test.YtagncoahobghpacGreatDoorJGdE10
import Derived.Test.YtagncoahobghpacGreatDoorJGdE19
import Derived.Test.YtagncoahobghpacGreatDoorJGdEPtI
import Derived.Test.YtagncoahobghpacGreatDoorT1
namespace Go.Proofs.YtagncoahobghpacGreatDoor
open Go.RowKit
set_option linter.unusedVariables false

theorem pow_bound {k p r : Nat} (hk : k ≤ 16) (h : p * 2 ^ r = 2 ^ k) : p ≤ 65536 := by
  have h1 : 2 ^ k ≤ 2 ^ 16 := Nat.pow_le_pow_right (by omega) hk
  have h2 : 1 ≤ 2 ^ r := Nat.one_le_two_pow
  have h3 : p * 1 ≤ p * 2 ^ r := Nat.mul_le_mul_left p h2
  omega

set_option maxHeartbeats 1000000 in
theorem power_any (k p : Nat) (w : World) (hk : k ≤ 16) (hp : 2 ^ k = p) :
    Calls Tryz.prog 79 #[.int .i64 k] w fun e w' => e = .returned (.int .i64 p) ∧ w = w' := by
  have HP := Lib.hid hp
  clear hp
  go_enter Tryz.func79, Tryz.ntmps79
  go_wp2
  go_loop [0, 3] (fun n o => ∃ r q : Nat, r ≤ k ∧ n = .int .i64 r ∧ o = .int .i64 q ∧ Hid (q * 2 ^ r = 2 ^ k)) (fun n _ => (intOf n).toNat)
  case atStart => exact ⟨k, 1, Nat.le_refl _, rfl, rfl, by show 1 * 2 ^ k = 2 ^ k; omega⟩
  case round =>
    obtain ⟨r, q, hr, rfl, rfl, hq⟩ := hrel
    have hb := pow_bound hk hq.out
    by_cases h0 : r = 0
    · subst h0
      have hqp : q = p := by have := hq.out; have := HP.out; omega
      subst hqp
      go_wp2
      go_ret
      exact ⟨rfl, rfl⟩
    · obtain ⟨s, rfl⟩ : ∃ s, r = s + 1 := ⟨r - 1, by omega⟩
      have hq2 : Hid ((2 * q) * 2 ^ s = 2 ^ k) := by
        have := hq.out
        show (2 * q) * 2 ^ s = 2 ^ k
        rw [← this, Nat.pow_succ, Nat.mul_comm 2 q, Nat.mul_assoc, Nat.mul_comm 2]
      clear hq h0
      go_wp2
      go_round
      case rel => exact ⟨s, 2 * q, by omega, by go_num, by go_num, hq2⟩
      case measure => simp [intOf]

/-- Which power of two is n, up to 16? -/
def bitsN (n : Nat) : Int := if n = 1 then 0 else if n = 2 then 1 else if n = 4 then 2 else if n = 8 then 3 else if n = 16 then 4 else -1
theorem bitsN_pow {n k : Nat} (hk : k ≤ 4) (h : n = 2 ^ k) : bitsN n = k := by
  rcases (show k = 0 ∨ k = 1 ∨ k = 2 ∨ k = 3 ∨ k = 4 by omega) with rfl | rfl | rfl | rfl | rfl <;> subst h <;> decide
theorem bitsN_none {n : Nat} (h : ∀ k, k < 5 → n ≠ 2 ^ k) : bitsN n = -1 := by
  have h0 := h 0 (by omega); have h1 := h 1 (by omega); have h2 := h 2 (by omega); have h3 := h 3 (by omega); have h4 := h 4 (by omega)
  unfold bitsN
  rw [if_neg (by omega), if_neg (by omega), if_neg (by omega), if_neg (by omega), if_neg (by omega)]
theorem bitsN_some {n : Nat} (h : 0 ≤ bitsN n) : ∃ k, k ≤ 4 ∧ n = 2 ^ k := by
  unfold bitsN at h
  by_cases h0 : n = 1
  · exact ⟨0, by omega, h0⟩
  by_cases h1 : n = 2
  · exact ⟨1, by omega, h1⟩
  by_cases h2 : n = 4
  · exact ⟨2, by omega, h2⟩
  by_cases h3 : n = 8
  · exact ⟨3, by omega, h3⟩
  by_cases h4 : n = 16
  · exact ⟨4, by omega, h4⟩
  rw [if_neg h0, if_neg h1, if_neg h2, if_neg h3, if_neg h4] at h
  omega

set_option maxHeartbeats 1000000 in
theorem bitsOf_any (v : Value) (xs : List Int) (w : World) (h : Rd w v xs) (hl : xs.length ≤ maxLen) :
    Calls Tryz.prog 54 #[v] w fun e w' => e = .returned (.int .i64 (bitsN xs.length)) ∧ w = w' := by
  unfold maxLen at hl
  obtain ⟨a, cap, rfl, h⟩ := h
  clear h
  go_enter Tryz.func54, Tryz.ntmps54
  go_wp2
  go_loop [3] (fun i => ∃ k : Nat, k ≤ 5 ∧ i = .int .i64 k ∧ Hid (∀ j, j < k → xs.length ≠ 2 ^ j)) (fun i => 5 - (intOf i).toNat)
  case atStart => exact ⟨0, by omega, rfl, fun j hj => absurd hj (Nat.not_lt_zero j)⟩
  case round =>
    obtain ⟨k, hk, rfl, hno⟩ := hrel
    by_cases hlt : k < 5
    · obtain ⟨p, hp⟩ : ∃ p, 2 ^ k = p := ⟨_, rfl⟩
      have HPW := Lib.hid fun w => power_any k p w (by omega) hp
      have HP := Lib.hid hp
      clear hp
      by_cases heq : xs.length = p
      · have hyes : Hid (bitsN xs.length = k) := bitsN_pow (by omega) (heq.trans HP.out.symm)
        have e1 : ((xs.length : Int) == (p : Int)) = true := by simp [heq]
        clear heq
        go_wp2_with fail
        refine (HPW.out _).mono ?_
        rintro e w' ⟨rfl, rfl⟩
        go_wp2
        go_ret
        exact ⟨ret_int hyes.out.symm, rfl⟩
      · have e1 : ((xs.length : Int) == (p : Int)) = false := by simp; omega
        have HE := Lib.hid heq
        clear heq
        go_wp2_with fail
        refine (HPW.out _).mono ?_
        rintro e w' ⟨rfl, rfl⟩
        go_wp2
        go_round
        case rel =>
          refine ⟨k + 1, by omega, by go_num, fun j hj => ?_⟩
          by_cases e : j = k
          · subst e; rw [HP.out]; exact HE.out
          · exact hno.out j (by omega)
        case measure => simp [intOf]; omega
    · have hk5 : k = 5 := by omega
      subst hk5
      have hnone : Hid (bitsN xs.length = -1) := bitsN_none hno.out
      go_wp2
      go_ret
      exact ⟨ret_int hnone.out.symm, rfl⟩

/-- Are the numbers a row of 2 to the power k? -/
def cubeB (xs : List Int) : Bool := vrB xs && decide (0 ≤ bitsN xs.length)
theorem cubeB_of {xs : List Int} (h : cubeB xs = true) : vrB xs = true ∧ ∃ k, k ≤ 4 ∧ xs.length = 2 ^ k := by
  unfold cubeB at h
  simp only [Bool.and_eq_true, decide_eq_true_eq] at h
  exact ⟨h.1, bitsN_some h.2⟩
theorem cube_max {xs : List Int} (h : cubeB xs = true) : xs.length ≤ 1048576 := vr_max (cubeB_of h).1

set_option maxHeartbeats 1000000 in
theorem validCube_any (v : Value) (xs : List Int) (w : World) (h : Rd w v xs) (hl : xs.length ≤ maxLen) :
    Calls Tryz.prog 33 #[v] w (Says (cubeB xs) w) := by
  have hv := specvalid_any v xs w h hl
  cases hb : vrB xs with
  | false =>
    rw [hb] at hv
    have HC : Hid (cubeB xs = false) := by show cubeB xs = false; simp [cubeB, hb]
    go_enter Tryz.func33, Tryz.ntmps33
    go_wp2_with fail
    refine hv.mono ?_
    rintro e w1 ⟨rfl, b1⟩
    go_wp2
    go_ret
    exact ⟨ret_bool HC.out.symm, b1⟩
  | true =>
    rw [hb] at hv
    by_cases hbits : 0 ≤ bitsN xs.length
    · have HC : Hid (cubeB xs = true) := by show cubeB xs = true; simp [cubeB, hb, hbits]
      have hd : decide (0 ≤ bitsN xs.length) = true := by simpa using hbits
      go_enter Tryz.func33, Tryz.ntmps33
      go_wp2_with fail
      refine hv.mono ?_
      rintro e w1 ⟨rfl, b1⟩
      go_wp2_with fail
      refine (bitsOf_any v xs _ (h.below b1 (Nat.le_refl _)) hl).mono ?_
      rintro e w2 ⟨rfl, rfl⟩
      go_wp2
      go_ret
      exact ⟨ret_bool HC.out.symm, b1⟩
    · have HC : Hid (cubeB xs = false) := by show cubeB xs = false; simp [cubeB, hb, hbits]
      have hd : decide (0 ≤ bitsN xs.length) = false := by simpa using hbits
      go_enter Tryz.func33, Tryz.ntmps33
      go_wp2_with fail
      refine hv.mono ?_
      rintro e w1 ⟨rfl, b1⟩
      go_wp2_with fail
      refine (bitsOf_any v xs _ (h.below b1 (Nat.le_refl _)) hl).mono ?_
      rintro e w2 ⟨rfl, rfl⟩
      go_wp2
      go_ret
      exact ⟨ret_bool HC.out.symm, b1⟩

set_option maxHeartbeats 2000000 in
theorem isBinaryRow_any (v : Value) (xs : List Int) (w : World) (h : Rd w v xs) (hl : xs.length ≤ maxLen) :
    Calls Tryz.prog 85 #[v] w (Says (cubeB xs) w) := by
  have hv := implValid_any v xs w h hl
  unfold maxLen at hl
  obtain ⟨a, cap, rfl, -⟩ := h
  cases hb : vrB xs with
  | false =>
    rw [hb] at hv
    have HC : Hid (cubeB xs = false) := by show cubeB xs = false; simp [cubeB, hb]
    go_enter Tryz.func85, Tryz.ntmps85
    go_wp2_with fail
    refine hv.mono ?_
    rintro e w1 ⟨rfl, b1⟩
    go_wp2
    go_ret
    exact ⟨ret_bool HC.out.symm, b1⟩
  | true =>
    rw [hb] at hv
    have HB := Lib.hid hb
    clear hb
    go_enter Tryz.func85, Tryz.ntmps85
    go_wp2_with fail
    refine hv.mono ?_
    rintro e w1 ⟨rfl, b1⟩
    clear hv
    go_wp2
    go_loop [3] (fun i => ∃ k : Nat, k ≤ 5 ∧ i = .int .i64 k ∧ Hid (∀ j, j < k → xs.length ≠ 2 ^ j)) (fun i => 5 - (intOf i).toNat)
    case atStart => exact ⟨0, by omega, rfl, fun j hj => absurd hj (Nat.not_lt_zero j)⟩
    case round =>
      obtain ⟨k, hk, rfl, hno⟩ := hrel
      by_cases hk5 : k = 5
      · subst hk5
        have HC : Hid (cubeB xs = false) := by show cubeB xs = false; simp [cubeB, HB.out, bitsN_none hno.out]
        go_wp2
        go_ret
        exact ⟨ret_bool HC.out.symm, b1⟩
      · by_cases heq : xs.length = 2 ^ k
        · have HC : Hid (cubeB xs = true) := by show cubeB xs = true; simp [cubeB, HB.out, bitsN_pow (k := k) (by omega) heq]
          rcases (show k = 0 ∨ k = 1 ∨ k = 2 ∨ k = 3 ∨ k = 4 by omega) with rfl | rfl | rfl | rfl | rfl
          all_goals
            simp at heq
            have e1 : (xs.length : Int) = ((2 ^ 0 : Nat) : Int) ∨ True := .inr trivial
            clear hno
            go_wp2
            go_ret
            exact ⟨ret_bool HC.out.symm, b1⟩
        · have hno2 : Hid (∀ j, j < k + 1 → xs.length ≠ 2 ^ j) := by
            intro j hj
            by_cases e : j = k
            · subst e; exact heq
            · exact hno.out j (by omega)
          clear hno
          rcases (show k = 0 ∨ k = 1 ∨ k = 2 ∨ k = 3 ∨ k = 4 by omega) with rfl | rfl | rfl | rfl | rfl
          all_goals
            simp at heq
            have HE := Lib.hid heq
            go_wp2
            go_round
            case rel => first | exact ⟨1, by omega, rfl, hno2⟩ | exact ⟨2, by omega, rfl, hno2⟩ | exact ⟨3, by omega, rfl, hno2⟩ | exact ⟨4, by omega, rfl, hno2⟩ | exact ⟨5, by omega, rfl, hno2⟩
            case measure => simp [intOf]

end Go.Proofs.YtagncoahobghpacGreatDoor

namespace Go.Proofs.YtagncoahobghpacGreatDoor
open Go.RowKit
set_option linter.unusedVariables false

theorem w64_mod (x q : Int) : wrap64 (x + 18446744073709551616 * q) = wrap64 x := by unfold wrap64; omega
theorem w64_q (x : Int) : ∃ q, wrap64 x = x + 18446744073709551616 * q := ⟨- ((x + 9223372036854775808) / 18446744073709551616), by unfold wrap64; omega⟩
theorem w64_mulR (a b : Int) : wrap64 (a * wrap64 b) = wrap64 (a * b) := by
  obtain ⟨q, hq⟩ := w64_q b
  rw [hq, Int.mul_add, ← Int.mul_assoc, Int.mul_comm a 18446744073709551616, Int.mul_assoc, w64_mod]
theorem w64_mulL (a b : Int) : wrap64 (wrap64 a * b) = wrap64 (a * b) := by rw [Int.mul_comm, w64_mulR, Int.mul_comm]

/-- One digit's pass. -/
def bstep (s : Int) (d : Nat) (F : Nat → Int) (x : Nat) : Int := if x / d % 2 = 1 then F x + s * F (x - d) else F x
/-- The passes of the first j digits. -/
def bpass (s : Int) (F : Nat → Int) : Nat → Nat → Int
  | 0 => F
  | j + 1 => bstep s (2 ^ j) (bpass s F j)
def belowL (s : Int) (xs : List Int) : List Int := tab xs.length fun x => wrap64 (bpass s (ix xs) (bitsN xs.length).toNat x)
def belowF (s : Int) (xs : List Int) : List Int := if cubeB xs = true then belowL s xs else []
theorem belowF_len (s : Int) (xs : List Int) (h : xs.length ≤ 1048576) : (belowF s xs).length ≤ 1048576 := by unfold belowF; split <;> simp [belowL, h]

theorem bit_le {x d : Nat} (h : x / d % 2 = 1) : d ≤ x := by
  rcases Nat.lt_or_ge x d with hlt | hge
  · rw [Nat.div_eq_of_lt hlt] at h; omega
  · exact hge
theorem bit_down {x d : Nat} (hd : 1 ≤ d) (h : x / d % 2 = 1) : (x - d) / d % 2 = 0 := by
  have hle := bit_le h
  have : (x - d) / d = x / d - 1 := by
    have e : x = x - d + d := by omega
    rw [e, Nat.add_div_right _ (by omega)]; simp
  rw [this]; omega

/-- The row in the middle of a pass: the first x numbers are done. -/
def midB (s : Int) (d : Nat) (F : Nat → Int) (x : Nat) (y : Nat) : Int := if y < x then bstep s d F y else F y
theorem midB_zero (s : Int) (d : Nat) (F : Nat → Int) (y : Nat) : midB s d F 0 y = F y := by simp [midB]
theorem midB_skip {s : Int} {d : Nat} {F : Nat → Int} {x : Nat} (h : ¬ x / d % 2 = 1) (y : Nat) : midB s d F (x + 1) y = midB s d F x y := by
  unfold midB
  by_cases h1 : y < x
  · rw [if_pos h1, if_pos (by omega)]
  · rw [if_neg h1]
    by_cases h2 : y = x
    · subst h2; rw [if_pos (by omega)]; unfold bstep; rw [if_neg h]
    · rw [if_neg (by omega)]

/-- What is carried round the passes. -/
def BelInv (E B : Nat) (w wr : World) (g n c : Nat) (s : Int) (d : Nat) (F : Nat → Int) (x : Nat) : Prop :=
  Own E B wr (.slice (some ⟨g, 0, none⟩) n c) (tab n fun y => wrap64 (midB s d F x y)) ∧ Below w.heap.size w wr
theorem BelInv.drew {E B : Nat} {w wr : World} {g n c : Nat} {s : Int} {d : Nat} {F : Nat → Int} {x : Nat} (h : BelInv E B w wr g n c s d F x) : BelInv E B w wr.drew g n c s d F x := ⟨h.1, h.2.drew⟩
theorem BelInv.skip {E B : Nat} {w wr : World} {g n c : Nat} {s : Int} {d : Nat} {F : Nat → Int} {x : Nat} (h : BelInv E B w wr g n c s d F x) (hx : ¬ x / d % 2 = 1) : BelInv E B w wr g n c s d F (x + 1) := by
  refine ⟨?_, h.2⟩
  rw [tab_congr (g := fun y => wrap64 (midB s d F x y)) (fun y _ => by rw [midB_skip hx])]
  exact h.1
theorem BelInv.step {E B : Nat} {w wr : World} {g n c : Nat} {s : Int} {d : Nat} {F : Nat → Int} {x : Nat} (h : BelInv E B w wr g n c s d F x) (hg : w.heap.size ≤ g) (hd : 1 ≤ d) (hx : x / d % 2 = 1) :
    BelInv E B w (wr.setCell ⟨g, x, none⟩ (.int .i64 (wrap64 (wrap64 (F x) + wrap64 (s * wrap64 (F (x - d))))))) g n c s d F (x + 1) := by
  refine ⟨?_, h.2.setCell hg _⟩
  have := h.1.set x (wrap64 (wrap64 (F x) + wrap64 (s * wrap64 (F (x - d)))))
  rw [tab_set] at this
  rw [tab_congr (g := fun y => wrap64 (midB s d F (x + 1) y))] at this
  · exact this
  · intro y hy
    by_cases e : y = x
    · subst e
      rw [if_pos rfl, w64_mulR, w64_add]
      unfold midB; rw [if_pos (by omega)]; unfold bstep; rw [if_pos hx]
    · rw [if_neg e]
      unfold midB
      by_cases h1 : y < x
      · rw [if_pos h1, if_pos (by omega)]
      · rw [if_neg h1, if_neg (by omega)]
theorem BelInv.cellx {E B : Nat} {w wr : World} {g n c : Nat} {s : Int} {d : Nat} {F : Nat → Int} {x : Nat} (h : BelInv E B w wr g n c s d F x) (hx : x < n) : wr.cell? ⟨g, x, none⟩ = some (.int .i64 (wrap64 (F x))) := by
  have := h.1.cell x (by simpa using hx)
  rw [ix_tab _ _ _ hx] at this
  unfold midB at this
  rw [if_neg (by omega)] at this
  exact this
theorem BelInv.celly {E B : Nat} {w wr : World} {g n c : Nat} {s : Int} {d : Nat} {F : Nat → Int} {x : Nat} (h : BelInv E B w wr g n c s d F x) (hx : x < n) (hd : 1 ≤ d) (hb : x / d % 2 = 1) : wr.cell? ⟨g, x - d, none⟩ = some (.int .i64 (wrap64 (F (x - d)))) := by
  have hle := bit_le hb
  have := h.1.cell (x - d) (by simp; omega)
  rw [ix_tab _ _ _ (by omega)] at this
  unfold midB at this
  rw [if_pos (by omega)] at this
  unfold bstep at this
  rw [if_neg (by have := bit_down hd hb; omega)] at this
  exact this
theorem BelInv.next {E B : Nat} {w wr : World} {g n c : Nat} {s : Int} {j : Nat} {F : Nat → Int} (h : BelInv E B w wr g n c s (2 ^ j) (bpass s F j) n) : BelInv E B w wr g n c s (2 ^ (j + 1)) (bpass s F (j + 1)) 0 := by
  refine ⟨?_, h.2⟩
  rw [tab_congr (g := fun y => wrap64 (midB s (2 ^ j) (bpass s F j) n y)) (fun y hy => by rw [midB_zero]; unfold midB; rw [if_pos hy]; rfl)]
  exact h.1

end Go.Proofs.YtagncoahobghpacGreatDoor

namespace Go.Proofs.YtagncoahobghpacGreatDoor
open Go Go.Conc Go.RowKit
set_option linter.unusedVariables false

/-- It makes, in company. -/
def BMade (E : Nat) (w : World) (xs : List Int) (v : Value) (w' : World) : Prop := Own E w.heap.size w' v xs ∧ Below w.heap.size w w'

theorem timesI_b (u v : Value) (xs ys : List Int) (w : World) (hx : Rd w u xs) (hy : Rd w v ys) (h1 : 0 < xs.length) (h2 : 0 < ys.length) (hl1 : xs.length ≤ 1048576) (hl2 : ys.length ≤ 1048576) :
    BCalls Tryz.prog 119 #[u, v] w (BMade 3 w (mulL xs ys)) := by
  intro cs
  obtain ⟨a1, c1, rfl, hx⟩ := hx
  obtain ⟨a2, c2, rfl, hy⟩ := hy
  rcases hx with rfl | ⟨b1, o1, rfl, hb1, hc1⟩
  · simp at h1
  rcases hy with rfl | ⟨b2, o2, rfl, hb2, hc2⟩
  · simp at h2
  have e : ∀ (b o j : Nat), (Addr.mk b o none).add j = ⟨b, o + j, none⟩ := fun b o j => by simp [Addr.add]
  refine (TmsI.runs (xs.length + ys.length - 1) w (some ⟨b1, o1, none⟩) (some ⟨b2, o2, none⟩) xs.length ys.length c1 c2 xs ys cs h1 h2 hl1 hl2 rfl (fun ad h _ => by cases h; exact hb1) ⟨_, rfl⟩ (fun ad h _ => by cases h; exact hb2) ⟨_, rfl⟩
    (fun j ad hj h => by cases h; rw [e]; exact hc1 j hj) (fun j ad hj h => by cases h; rw [e]; exact hc2 j hj)).mono fun a' w' hq => ?_
  obtain ⟨T, k, rfl, h4, hF⟩ := hq
  have hf : ∀ i j, (TmsI.fp xs ys i j).1 = i + j ∧ ∀ z, wrap64 (z + (TmsI.fp xs ys i j).2) = wrap64 (z + ix xs i * ix ys j) := fun i j => ⟨rfl, fun z => by
    show wrap64 (z + IntKind.i64.wrap _) = _
    rw [show IntKind.i64.wrap (ix xs i * ix ys j) = wrap64 (ix xs i * ix ys j) by rw [IntKind.wrap_i64]; unfold wrap64; rfl, w64_addR]⟩
  rw [prod_fold hf (by omega), ← mulL_some (by omega) (by omega)] at hF
  have hlen : (mulL xs ys).length = xs.length + ys.length - 1 := by rw [mulL_some (by omega) (by omega), len_tab]
  have hO := RF_own (by omega) rfl (by rw [hlen]; unfold maxLen; omega) hF
  rw [hlen] at hO
  refine ⟨_, _, rfl, rfl, ⟨rfl, rfl, rfl, _, Tryz.func119, _root_.Go.results_tmp rfl _ _ _⟩, ?_, hO.2⟩
  show Own _ _ _ (T.getD 4 undef) _
  rw [h4]
  exact hO.1
end Go.Proofs.YtagncoahobghpacGreatDoor

namespace Go.Proofs.YtagncoahobghpacGreatDoor
open Go Go.Conc Go.RowKit
set_option linter.unusedVariables false

theorem beside_by {P : Program} {n : Nat} {g : Goroutine} {w : World} {Q : Goroutine → World → Prop} (h : Goes P true Sm D0 (fun g w => Beside P g w Q) n g w) : Beside P g w Q := (beside_goes h).trans fun _ _ h => h

theorem bmade_blind (E : Nat) (xs : List Int) : Blind fun w v w' => BMade E w xs v w' := by
  rintro v w w1 τ d τ' d' d2 ⟨h1, h2⟩
  exact ⟨h1, ⟨h2.os, rfl, h2.output, h2.size, h2.block⟩⟩
theorem below_blind {w w1 : World} {τ τ' : Nat → Question → Nat} {d d' d2 : Nat} {B : Nat} (h2 : Below B (reT w τ d) (reT w1 τ' d')) : Below B w (reT w1 w.tape d2) := ⟨h2.os, rfl, h2.output, h2.size, h2.block⟩

/-- It says, in company. -/
def BSays (b : Bool) (w : World) (v : Value) (w' : World) : Prop := v = .bool b ∧ Below w.heap.size w w'
theorem bsays_blind (b : Bool) : Blind fun w v w' => BSays b w v w' := by
  rintro v w w1 τ d τ' d' d2 ⟨h1, h2⟩
  exact ⟨h1, below_blind h2⟩
def BTells (z : Int) (w : World) (v : Value) (w' : World) : Prop := v = .int .i64 z ∧ Below w.heap.size w w'
theorem btells_blind (z : Int) : Blind fun w v w' => BTells z w v w' := by
  rintro v w w1 τ d τ' d' d2 ⟨h1, h2⟩
  exact ⟨h1, below_blind h2⟩

theorem noinit : NoInit Tryz.prog := noInit_of (by kernel_rfl) (by kernel_rfl)

/-- A call that goes: one by one, for whoever has a plain callee. -/
theorem callees (l : List FuncId) (h : (l.all fun f => match Tryz.prog.funcs[f]? with | some fn => okFn Tryz.prog (fun g => l.contains g) fn | none => false) = true) : okFns Tryz.prog fun g => l.contains g := by
  intro f hf
  have hm : f ∈ l := by simpa using hf
  have := List.all_eq_true.1 h f hm
  cases hx : Tryz.prog.funcs[f]? with
  | none => rw [hx] at this; cases this
  | some fn => rw [hx] at this; exact ⟨fn, rfl, this⟩

section
variable {f : FuncId} {fn : Func} {c : Code} {args : Array Value} {w : World}
theorem bmade_of {E : Nat} {xs : List Int} (l : List FuncId) (hok : (l.all fun f => match Tryz.prog.funcs[f]? with | some fn => okFn Tryz.prog (fun g => l.contains g) fn | none => false) = true)
    (hf : Tryz.prog.funcs[f]? = some fn) (hb : fn.body = some c) (hc : okC Tryz.prog (fun g => l.contains g) c = true) (hr : fn.results.all tmpR = true)
    (h : ∀ τ d, Calls Tryz.prog f args (reT w τ d) (Made E (reT w τ d) xs)) : BCalls Tryz.prog f args w (BMade E w xs) :=
  bcalls_of_calls noinit (callees l hok) hf hb hc hr (fun w v w' => BMade E w xs v w') (bmade_blind E xs) fun τ d => (h τ d).mono fun e w' ⟨v, h1, h2, h3⟩ => ⟨v, h1, h2, h3⟩
theorem bsays_of {b : Bool} (l : List FuncId) (hok : (l.all fun f => match Tryz.prog.funcs[f]? with | some fn => okFn Tryz.prog (fun g => l.contains g) fn | none => false) = true)
    (hf : Tryz.prog.funcs[f]? = some fn) (hb : fn.body = some c) (hc : okC Tryz.prog (fun g => l.contains g) c = true) (hr : fn.results.all tmpR = true)
    (h : ∀ τ d, Calls Tryz.prog f args (reT w τ d) (Says b (reT w τ d))) : BCalls Tryz.prog f args w (BSays b w) :=
  bcalls_of_calls noinit (callees l hok) hf hb hc hr (fun w v w' => BSays b w v w') (bsays_blind b) fun τ d => (h τ d).mono fun e w' ⟨h1, h2⟩ => ⟨_, h1, rfl, h2⟩
theorem btells_of {z : Int} (l : List FuncId) (hok : (l.all fun f => match Tryz.prog.funcs[f]? with | some fn => okFn Tryz.prog (fun g => l.contains g) fn | none => false) = true)
    (hf : Tryz.prog.funcs[f]? = some fn) (hb : fn.body = some c) (hc : okC Tryz.prog (fun g => l.contains g) c = true) (hr : fn.results.all tmpR = true)
    (h : ∀ τ d, Calls Tryz.prog f args (reT w τ d) (Tells z (reT w τ d))) : BCalls Tryz.prog f args w (BTells z w) :=
  bcalls_of_calls noinit (callees l hok) hf hb hc hr (fun w v w' => BTells z w v w') (btells_blind z) fun τ d => (h τ d).mono fun e w' ⟨h1, h2⟩ => ⟨_, h1, rfl, h2⟩
end

theorem implValid_b (v : Value) (xs : List Int) (w : World) (h : Rd w v xs) (hl : xs.length ≤ maxLen) : BCalls Tryz.prog 73 #[v] w (BSays (vrB xs) w) :=
  bsays_of [73] (by kernel_rfl) Tryz.func73 rfl (by kernel_rfl) (by kernel_rfl) fun τ d => implValid_any v xs (reT w τ d) h hl

theorem rd_nil_own {w : World} : Own 3 w.heap.size w (.slice none 0 0) [] := ⟨rfl, .inl ⟨rfl, rfl⟩⟩

set_option maxRecDepth 100000 in
set_option maxHeartbeats 4000000 in
theorem timesI_nil (u v : Value) (xs ys : List Int) (w : World) (hx : Rd w u xs) (hy : Rd w v ys) (h : xs.length = 0 ∨ ys.length = 0) :
    BCalls Tryz.prog 119 #[u, v] w (BMade 3 w []) := by
  intro cs
  obtain ⟨a1, c1, rfl, hx⟩ := hx
  obtain ⟨a2, c2, rfl, hy⟩ := hy
  clear hx hy
  generalize xs.length = n at h ⊢
  generalize ys.length = m at h ⊢
  have key : ∀ (T : Array Value) (k : List Item) (w' : World), T[4]? = some (.slice none 0 0) → Sm w w' → ∃ fr v, G { (base 119).at ⟨T, []⟩ k with mode := .returning } cs = G fr cs ∧ fr.fn = 119 ∧ fr.leaving Tryz.prog w' (.returned v) ∧ BMade 3 w [] v w' := by
    intro T k w' hT hw
    obtain ⟨d, rfl⟩ := hw
    refine ⟨_, _, rfl, rfl, ⟨rfl, rfl, rfl, _, Tryz.func119, _root_.Go.results_tmp rfl _ _ _⟩, ?_⟩
    show BMade _ _ _ (T.getD 4 undef) _
    rw [Array.getD_eq_getD_getElem?, hT]
    exact ⟨⟨rfl, .inl ⟨rfl, rfl⟩⟩, ⟨rfl, rfl, rfl, Nat.le_refl _, fun _ _ => rfl⟩⟩
  rw [enter_at _ Tryz.func119 rfl]
  simp only [Tryz.f119, List.size_toArray, List.length_cons, List.length_nil, Nat.reduceAdd, Nat.reduceSub, Array.replicate_succ, Array.replicate_zero, List.push_toArray, List.append_toArray, List.nil_append, List.cons_append]
  have hF : Sm w w := Sm.refl w
  rcases h with rfl | rfl
  · refine beside_goes (n := 60) ?_
    repeat (first | a_ctl hF Sm.trans D0.nil | a_op hF Sm.trans [] D0.evs ⟨by simp, by simp⟩ | (refine Goes.step rfl (fun _ h₁ => ?_); rw [stepG_unwanted rfl rfl]; simp only [goes_go]; refine ⟨D0.nil, ?_⟩; replace hF := Sm.trans hF h₁; clear h₁; walk_nrm))
    a_cond true hF Sm.trans D0.nil
    repeat (first | a_ctl hF Sm.trans D0.nil | a_op hF Sm.trans [] D0.evs ⟨by simp, by simp⟩)
    refine Goes.step rfl (fun _ h₁ => ?_)
    rw [stepG_ret']
    simp only [goes_go]
    refine ⟨D0.nil, ?_⟩
    exact Goes.stop fun w₁ h₂ => key _ _ _ rfl ((Sm.trans hF h₁).trans h₂)
  · by_cases hn : n = 0
    · subst hn
      refine beside_goes (n := 60) ?_
      repeat (first | a_ctl hF Sm.trans D0.nil | a_op hF Sm.trans [] D0.evs ⟨by simp, by simp⟩ | (refine Goes.step rfl (fun _ h₁ => ?_); rw [stepG_unwanted rfl rfl]; simp only [goes_go]; refine ⟨D0.nil, ?_⟩; replace hF := Sm.trans hF h₁; clear h₁; walk_nrm))
      a_cond true hF Sm.trans D0.nil
      repeat (first | a_ctl hF Sm.trans D0.nil | a_op hF Sm.trans [] D0.evs ⟨by simp, by simp⟩)
      refine Goes.step rfl (fun _ h₁ => ?_)
      rw [stepG_ret']
      simp only [goes_go]
      refine ⟨D0.nil, ?_⟩
      exact Goes.stop fun w₁ h₂ => key _ _ _ rfl ((Sm.trans hF h₁).trans h₂)
    · have h3 : ((n : Int) == 0) = false := by simp; omega
      refine beside_goes (n := 60) ?_
      repeat (first | a_ctl hF Sm.trans D0.nil | a_op hF Sm.trans [] D0.evs ⟨by simp, by simp⟩ | (refine Goes.step rfl (fun _ h₁ => ?_); rw [stepG_unwanted rfl rfl]; simp only [goes_go]; refine ⟨D0.nil, ?_⟩; replace hF := Sm.trans hF h₁; clear h₁; walk_nrm))
      a_cond true hF Sm.trans D0.nil
      repeat (first | a_ctl hF Sm.trans D0.nil | a_op hF Sm.trans [] D0.evs ⟨by simp, by simp⟩)
      refine Goes.step rfl (fun _ h₁ => ?_)
      rw [stepG_ret']
      simp only [goes_go]
      refine ⟨D0.nil, ?_⟩
      exact Goes.stop fun w₁ h₂ => key _ _ _ rfl ((Sm.trans hF h₁).trans h₂)

theorem timesI_all (u v : Value) (xs ys : List Int) (w : World) (hx : Rd w u xs) (hy : Rd w v ys) (hl1 : xs.length ≤ 1048576) (hl2 : ys.length ≤ 1048576) :
    BCalls Tryz.prog 119 #[u, v] w (BMade 3 w (mulL xs ys)) := by
  by_cases h : xs.length = 0 ∨ ys.length = 0
  · rw [mulL_none h]
    exact timesI_nil u v xs ys w hx hy h
  · exact timesI_b u v xs ys w hx hy (by omega) (by omega) hl1 hl2
end Go.Proofs.YtagncoahobghpacGreatDoor
