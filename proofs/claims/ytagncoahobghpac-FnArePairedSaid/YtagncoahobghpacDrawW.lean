/-
  What the Draw functions leave, in words.
-/
import Derived.Test.YtagncoahobghpacRowOf
import Derived.Test.YtagncoahobghpacDrawRow
namespace Go.Proofs.Ytagncoahobghpac
open Go.RowKit
set_option linter.unusedVariables false

/-- What a Draw function of one int leaves. -/
def DrewOne (w : World) (e : Ending) (w' : World) : Prop := ∃ z : Int, e = .returned (.int .i64 z) ∧ (-1000000 ≤ z ∧ z ≤ 1000000) ∧ Below w.heap.size w w'
def DrewRow2 (E : Nat) (w : World) (e : Ending) (w' : World) : Prop := ∃ u v xs ys, e = .returned (.tuple #[u, v]) ∧ Own E w.heap.size w' u xs ∧ Own E w.heap.size w' v ys ∧ xs.length ≤ 64 ∧ ys.length ≤ 64 ∧ (∀ n ∈ xs, (Lit.int .i64 n).wf = true) ∧ (∀ n ∈ ys, (Lit.int .i64 n).wf = true) ∧ Below w.heap.size w w'
def DrewRowInt (E : Nat) (w : World) (e : Ending) (w' : World) : Prop := ∃ u xs z, e = .returned (.tuple #[u, .int .i64 z]) ∧ Own E w.heap.size w' u xs ∧ xs.length ≤ 64 ∧ (∀ n ∈ xs, (Lit.int .i64 n).wf = true) ∧ (-1000000 ≤ z ∧ z ≤ 1000000) ∧ Below w.heap.size w w'
theorem bel_rdr {w a b : World} {R : Nat} (h : Below w.heap.size w a) (g : a.grownBy b (some R)) (hR : w.heap.size ≤ R) : Below w.heap.size w b := h.grown g h.size (fun k hk => by injection hk with hk; omega)
theorem own_slD {E B : Nat} {w : World} {v : Value} {xs : List Int} (h : Own E B w v xs) : ∃ a cap, v = .slice a xs.length cap := by
  rcases h.shape with ⟨rfl, rfl⟩ | ⟨g, cap, rfl, _⟩
  · exact ⟨none, 0, rfl⟩
  · exact ⟨_, _, rfl⟩

end Go.Proofs.Ytagncoahobghpac
