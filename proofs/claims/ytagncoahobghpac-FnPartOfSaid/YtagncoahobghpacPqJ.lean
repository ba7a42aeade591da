/-
  isDivisor of the program, by its lone contract.
-/
import Derived.Test.YtagncoahobghpacPqM
import Derived.Test.YtagncoahobghpacValid
import Derived.OwnWalk
namespace Go.Proofs.Ytagncoahobghpac
open Go.RowKit
set_option linter.unusedVariables false

/-- Is it a row that ends in one? -/
def divB (xs : List Int) : Bool := vrB xs && decide (0 < xs.length) && decide (ix xs (xs.length - 1) = 1)

set_option maxHeartbeats 1000000 in
theorem isDivisor_any (v : Value) (xs : List Int) (w : World) (h : Rd w v xs) (hl : xs.length ≤ 1048576) :
    Calls Try.prog 26 #[v] w fun e w' => e = .returned (.bool (divB xs)) ∧ w = w' := by
  have hv := implValid_q v xs w h (by unfold maxLen; omega)
  obtain ⟨a, cap, rfl, h⟩ := h
  cases hb : vrB xs with
  | false =>
    have e : divB xs = false := by unfold divB; rw [hb]; rfl
    rw [hb] at hv
    rw [e]
    clear hb e
    go_enter Try.func26, Try.ntmps26
    go_wp2_with fail
    refine hv.mono ?_
    rintro e w1 ⟨rfl, rfl⟩
    go_wp2
    go_ret
    exact ⟨rfl, rfl⟩
  | true =>
    rw [hb] at hv
    rcases h with rfl | ⟨b, off, rfl, hlt, hc⟩
    · have e : divB [] = false := by unfold divB; simp
      rw [e]
      clear hb e
      go_enter Try.func26, Try.ntmps26
      go_wp2_with fail
      refine hv.mono ?_
      rintro e w1 ⟨rfl, rfl⟩
      go_wp2
      go_ret
      exact ⟨rfl, rfl⟩
    · obtain ⟨n, hn⟩ : ∃ n, n = xs.length := ⟨_, rfl⟩
      rcases Nat.eq_zero_or_pos n with e0 | e0
      · have e : divB xs = false := by unfold divB; rw [← hn, e0]; simp
        rw [e, ← hn, e0]
        rw [← hn, e0] at hv
        clear hb e hc
        go_enter Try.func26, Try.ntmps26
        go_wp2_with fail
        refine hv.mono ?_
        rintro e w1 ⟨rfl, rfl⟩
        go_wp2
        go_ret
        exact ⟨rfl, rfl⟩
      · obtain ⟨m, rfl⟩ : ∃ m, n = m + 1 := ⟨n - 1, by omega⟩
        have hck := hc m (by omega)
        have e : divB xs = (ix xs m == 1) := by
          unfold divB
          rw [hb, ← hn, Nat.add_sub_cancel, decide_eq_true (show 0 < m + 1 by omega)]
          by_cases q : ix xs m = 1
          · simp [q]
          · simp [q]
        obtain ⟨z, hz⟩ : ∃ z, z = ix xs m := ⟨_, rfl⟩
        rw [← hz] at hck e
        rw [e, ← hn]
        rw [← hn] at hv
        have hq := hl
        rw [← hn] at hq
        have j0 : (m : Int) + 1 - 1 = (m : Int) := by clear hl hn; omega
        have j1 : IntKind.i64.wrap (m : Int) = (m : Int) := IntWalk.i64_in _ (by clear hl hn; omega)
        have j2 : wrap64 (m : Int) = (m : Int) := w64_id (by clear hl hn; omega)
        clear hq
        have HV := Lib.hid hv
        clear hb e hc hz hv hl hn
        go_enter Try.func26, Try.ntmps26
        go_wp2_with fail
        refine HV.out.mono ?_
        rintro e w1 ⟨rfl, rfl⟩
        go_wp2
        go_ret
        exact ⟨rfl, rfl⟩

theorem divB_of {xs : List Int} (h : divB xs = true) : vrB xs = true ∧ 0 < xs.length ∧ ix xs (xs.length - 1) = 1 := by
  unfold divB at h
  simp only [Bool.and_eq_true, decide_eq_true_eq] at h
  exact ⟨h.1.1, h.1.2, h.2⟩
/-- May the first row be divided by the second? -/
def ptB (xs ys : List Int) : Bool := vrB xs && divB ys && decide (ys.length ≤ xs.length)
theorem ptB_of {xs ys : List Int} (h : ptB xs ys = true) : vrB xs = true ∧ divB ys = true ∧ ys.length ≤ xs.length := by
  unfold ptB at h
  simp only [Bool.and_eq_true, decide_eq_true_eq] at h
  exact ⟨h.1.1, h.1.2, h.2⟩
/-- What PartOf makes: how often, and what is left; by a row of l numbers and a one. -/
def ptQ (xs ys : List Int) : List Int := tab (xs.length + 1 - ys.length) (dvQ (ix ys) ys.length (xs.length + 1 - ys.length) (ix xs))
def ptR (xs ys : List Int) : List Int := tab (ys.length - 1) (dvA (ix ys) ys.length (xs.length + 1 - ys.length) (ix xs))
/-- Two rows and a bool are told. -/
def Parts (E : Nat) (w : World) (xs ys : List Int) (b : Bool) (e : Ending) (w' : World) : Prop :=
  ∃ u v, e = .returned (.tuple #[u, v, .bool b]) ∧ Own E w.heap.size w' u xs ∧ Own E w.heap.size w' v ys ∧ (u.ownBlock = none ∨ u.ownBlock ≠ v.ownBlock) ∧ Below w.heap.size w w'

set_option maxHeartbeats 4000000 in
theorem partOf_no (v u : Value) (xs ys : List Int) (w : World) (h : Rd w v xs) (h2 : Rd w u ys) (hl : xs.length ≤ 1048576) (hm : ys.length ≤ 1048576) (hb : ptB xs ys = false) :
    Calls Try.prog 7 #[v, u] w (Parts 3 w [] [] false) := by
  have hv := implValid_q v xs w h (by unfold maxLen; omega)
  have hd := isDivisor_any u ys w h2 hm
  obtain ⟨a, c1, rfl, -⟩ := h
  obtain ⟨b, c2, rfl, -⟩ := h2
  have hN := Own.nil 3 w.heap.size w
  cases q1 : vrB xs with
  | false =>
    rw [q1] at hv
    clear q1 hb hd
    go_enter Try.func7, Try.ntmps7
    go_wp2_with fail
    refine hv.mono ?_
    rintro e w1 ⟨rfl, rfl⟩
    go_wp2
    go_ret3
    exact ⟨_, _, rfl, hN, hN, Or.inl rfl, Below.refl _ _⟩
  | true =>
    rw [q1] at hv
    cases q2 : divB ys with
    | false =>
      rw [q2] at hd
      clear q1 q2 hb
      have HD := Lib.hid hd
      clear hd
      go_enter Try.func7, Try.ntmps7
      go_wp2_with fail
      refine hv.mono ?_
      rintro e w1 ⟨rfl, rfl⟩
      go_wp2_with fail
      refine HD.out.mono ?_
      rintro e w1 ⟨rfl, rfl⟩
      go_wp2
      go_ret3
      exact ⟨_, _, rfl, hN, hN, Or.inl rfl, Below.refl _ _⟩
    | true =>
      have q3 : (xs.length : Int) < (ys.length : Int) := by
        have : ¬ ys.length ≤ xs.length := by
          intro q
          unfold ptB at hb
          rw [q1, q2, decide_eq_true q] at hb
          cases hb
        omega
      rw [q2] at hd
      clear q1 q2 hb
      have HD := Lib.hid hd
      clear hd
      go_enter Try.func7, Try.ntmps7
      go_wp2_with fail
      refine hv.mono ?_
      rintro e w1 ⟨rfl, rfl⟩
      go_wp2_with fail
      refine HD.out.mono ?_
      rintro e w1 ⟨rfl, rfl⟩
      go_wp2
      go_ret3
      exact ⟨_, _, rfl, hN, hN, Or.inl rfl, Below.refl _ _⟩
end Go.Proofs.Ytagncoahobghpac
