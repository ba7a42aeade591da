/-
  The reader of drawn numbers: newReader, pick, one: what they hand back lies in its range.
-/
import Derived.Test.YtlglokbakmbpdabInfo
import Derived.Test.YtlglokbakmbpdabMany
namespace Go.Proofs.Ytlglokbakmbpdab
open Go.RowKit
set_option linter.unusedVariables false

/-- Slice value v reads as n bytes. -/
def RdB (w : World) (v : Value) (n : Nat) : Prop :=
  ∃ a cap, v = .slice a n cap ∧ n ≤ cap ∧ cap ≤ maxLen ∧ (n = 0 ∨ ∃ b off, a = some ⟨b, off, none⟩ ∧ b < w.heap.size ∧ ∀ j, j < n → ∃ c : Nat, c ≤ 255 ∧ w.cell? ⟨b, off + j, none⟩ = some (.int .u8 c))

/-- Block R is a reader that stands at place p. T: the struct's type. -/
def Rdr (T : Nat) (w : World) (R : Nat) (p : Nat) : Prop :=
  ∃ cd n cc, w.heap[R]? = some (.cells #[.slice cd n cc, .int .i64 p] T (0, 0)) ∧ n ≤ 2000 ∧ (n = 0 ∨ ∃ b off, cd = some ⟨b, off, none⟩ ∧ b < R ∧ ∀ j, j < n → ∃ c : Nat, c ≤ 255 ∧ w.cell? ⟨b, off + j, none⟩ = some (.int .u8 c))

theorem two_cell0 {w : World} {b : Nat} {u v : Value} {t : TypeId} (h : w.heap[b]? = some (.cells #[u, v] t (0, 0))) : w.cell? ⟨b, 0, none⟩ = some u := by simp [World.cell?, h]
theorem two_cell1 {w : World} {b : Nat} {u v : Value} {t : TypeId} (h : w.heap[b]? = some (.cells #[u, v] t (0, 0))) : w.cell? ⟨b, 1, none⟩ = some v := by simp [World.cell?, h]
theorem two_free1 {w : World} {b : Nat} {u v : Value} {t : TypeId} (h : w.heap[b]? = some (.cells #[u, v] t (0, 0))) : w.frozen? ⟨b, 1, none⟩ = false := by simp [World.frozen?, h]
theorem two_set1 {w : World} {b : Nat} {u v x : Value} {t : TypeId} (h : w.heap[b]? = some (.cells #[u, v] t (0, 0))) : (w.setCell ⟨b, 1, none⟩ x).heap[b]? = some (.cells #[u, x] t (0, 0)) := by
  have hlt := (Array.getElem?_eq_some_iff.1 h).1
  have h' : w.heap[b] = .cells #[u, v] t (0, 0) := by simpa [Array.getElem?_eq_getElem hlt] using h
  show (w.heap.modify b _)[b]? = _
  rw [Array.getElem?_eq_getElem (by simpa using hlt), Array.getElem_modify_self, h']
  rfl

theorem Rdr.moved {T R p : Nat} {w : World} (h : Rdr T w R p) : Rdr T (w.setCell ⟨R, 1, none⟩ (.int .i64 ((p : Int) + 1))) R (p + 1) := by
  obtain ⟨cd, n, cc, hh, hn, h⟩ := h
  refine ⟨cd, n, cc, two_set1 hh, hn, ?_⟩
  rcases h with h | ⟨b, off, rfl, hb, hc⟩
  · exact .inl h
  · refine .inr ⟨b, off, rfl, hb, fun j hj => ?_⟩
    obtain ⟨c, h1, h2⟩ := hc j hj
    refine ⟨c, h1, ?_⟩
    rw [World.cell?_of_block (w := w) (Below.heap_setCell _ _ _ _ (by show b ≠ R; omega))]
    exact h2
theorem Rdr.kept {T R p : Nat} {w w' : World} {r : Option Nat} (h : Rdr T w R p) (hg : w.grownBy w' r) (hr : ∀ k, r = some k → R < k) : Rdr T w' R p := by
  obtain ⟨cd, n, cc, hh, hn, h⟩ := h
  have hR := (Array.getElem?_eq_some_iff.1 hh).1
  refine ⟨cd, n, cc, (hg.block R hR (fun e => by have := hr R e.symm; omega)).trans hh, hn, ?_⟩
  rcases h with h | ⟨b, off, rfl, hb, hc⟩
  · exact .inl h
  · refine .inr ⟨b, off, rfl, hb, fun j hj => ?_⟩
    obtain ⟨c, h1, h2⟩ := hc j hj
    exact ⟨c, h1, hg.cell h2 (fun e => by have := hr b e.symm; omega)⟩
theorem Rdr.drewN {T R p : Nat} {w : World} (h : Rdr T w R p) (n : Nat) : Rdr T (w.drewN n) R p := h.kept (grown_drew (World.grownBy.refl w none) n) (by simp)
theorem Rdr.lt {T R p : Nat} {w : World} (h : Rdr T w R p) : R < w.heap.size := by
  obtain ⟨cd, n, cc, hh, _⟩ := h
  exact (Array.getElem?_eq_some_iff.1 hh).1

/-- What pick leaves: a number from 0 up to less than m; the reader one place on; nothing else is turned. -/
def Picked (T : Nat) (w : World) (R p m : Nat) (e : Ending) (w' : World) : Prop :=
  ∃ x : Nat, e = .returned (.int .i64 x) ∧ x < m ∧ Rdr T w' R (p + 1) ∧ w.grownBy w' (some R)

theorem i64_xor_nat (a b : Nat) (ha : a < 9223372036854775808) (hb : b < 9223372036854775808) : bits .xor .i64 (a : Int) (b : Int) = ((a ^^^ b : Nat) : Int) := by
  have hx : a ^^^ b < 2 ^ 63 := Nat.xor_lt_two_pow (by omega) (by omega)
  show IntKind.i64.wrap ((BitVec.ofInt 64 (a : Int) ^^^ BitVec.ofInt 64 (b : Int)).toNat : Int) = _
  rw [BitVec.toNat_xor, ofInt_i64 a ha, ofInt_i64 b hb, IntKind.wrap_i64]
  omega

end Go.Proofs.Ytlglokbakmbpdab
