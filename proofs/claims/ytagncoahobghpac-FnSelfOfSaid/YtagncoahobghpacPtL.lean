/-
  The helpers of the laws, in company (written by ch5laws.py).
-/
import Derived.Test.YtagncoahobghpacPtC
import Derived.Test.YtagncoahobghpacHelpF
import Derived.Test.YtagncoahobghpacHelpG
import Derived.Test.YtagncoahobghpacDrawRow
namespace Go.Proofs.Ytagncoahobghpac
open Go Go.Conc Go.RowKit
set_option linter.unusedVariables false

/-- What a Draw function of two rows leaves, in company. -/
def BDrew2 (E : Nat) (w : World) (r : Value) (w' : World) : Prop := ∃ u v xs ys, r = .tuple #[u, v] ∧ Own E w.heap.size w' u xs ∧ Own E w.heap.size w' v ys ∧ xs.length ≤ 64 ∧ ys.length ≤ 64 ∧ (∀ n ∈ xs, (Lit.int .i64 n).wf = true) ∧ (∀ n ∈ ys, (Lit.int .i64 n).wf = true) ∧ Below w.heap.size w w'
theorem bdrew2_blind (E : Nat) : Blind fun w r w' => BDrew2 E w r w' := by
  rintro r w w1 τ d τ' d' d2 ⟨u, v, xs, ys, h1, h2, h3, h4, h5, h6, h7, h8⟩
  exact ⟨u, v, xs, ys, h1, h2, h3, h4, h5, h6, h7, below_blind h8⟩
theorem bdrew2_sm {w w₁ : World} {f : FuncId} {args : Array Value} {E : Nat} (hs : Sm w w₁) (h : BCalls Try.prog f args w₁ (BDrew2 E w₁)) : BCalls Try.prog f args w₁ (BDrew2 E w) :=
  h.mono fun r w' q => by
    obtain ⟨d, rfl⟩ := hs
    obtain ⟨u, v, xs, ys, h1, h2, h3, h4, h5, h6, h7, h8⟩ := q
    exact ⟨u, v, xs, ys, h1, h2, h3, h4, h5, h6, h7, ⟨h8.os, h8.tape, h8.output, h8.size, h8.block⟩⟩
/-- What a Draw function of one row leaves, in company. -/
def BDrew1 (E : Nat) (w : World) (r : Value) (w' : World) : Prop := ∃ xs, Own E w.heap.size w' r xs ∧ xs.length ≤ 64 ∧ (∀ n ∈ xs, (Lit.int .i64 n).wf = true) ∧ Below w.heap.size w w'
theorem bdrew1_blind (E : Nat) : Blind fun w r w' => BDrew1 E w r w' := by
  rintro r w w1 τ d τ' d' d2 ⟨xs, h2, h4, h6, h8⟩
  exact ⟨xs, h2, h4, h6, below_blind h8⟩
theorem bdrew1_sm {w w₁ : World} {f : FuncId} {args : Array Value} {E : Nat} (hs : Sm w w₁) (h : BCalls Try.prog f args w₁ (BDrew1 E w₁)) : BCalls Try.prog f args w₁ (BDrew1 E w) :=
  h.mono fun r w' q => by
    obtain ⟨d, rfl⟩ := hs
    obtain ⟨xs, h2, h4, h6, h8⟩ := q
    exact ⟨xs, h2, h4, h6, ⟨h8.os, h8.tape, h8.output, h8.size, h8.block⟩⟩
theorem RdB.sm {w w₁ : World} {v : Value} {n : Nat} (h : RdB w v n) (hs : Sm w w₁) : RdB w₁ v n := by
  obtain ⟨d, rfl⟩ := hs
  exact h

theorem equalInts_b (u v : Value) (xs ys : List Int) (w : World) (hx : Rd w u xs) (hy : Rd w v ys) (hl : xs.length ≤ maxLen) (hl2 : ys.length ≤ maxLen) : BCalls Try.prog 9 #[u, v] w (BSays (eqB xs ys) w) :=
  bsays_of [9] (by kernel_rfl) Try.func9 rfl (by kernel_rfl) (by kernel_rfl) fun τ d => equalInts_any u v xs ys (reT w τ d) hx hy hl hl2

theorem total_b (v : Value) (xs : List Int) (w : World) (h : Rd w v xs) (hl : xs.length ≤ 1048576) : BCalls Try.prog 17 #[v] w (BTells (wrap64 (sumN (ix xs) xs.length)) w) :=
  btells_of [17] (by kernel_rfl) Try.func17 rfl (by kernel_rfl) (by kernel_rfl) fun τ d => total_any v xs (reT w τ d) h hl

theorem turned_b (v : Value) (xs : List Int) (w : World) (h : Rd w v xs) (hl : xs.length ≤ 1048576) : BCalls Try.prog 15 #[v] w (BMade 3 w (turnedL xs)) :=
  bmade_of [15] (by kernel_rfl) Try.func15 rfl (by kernel_rfl) (by kernel_rfl) fun τ d => turned_any v xs (reT w τ d) h hl

end Go.Proofs.Ytagncoahobghpac
