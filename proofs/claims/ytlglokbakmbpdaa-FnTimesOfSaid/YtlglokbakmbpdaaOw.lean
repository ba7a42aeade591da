/-
  What an operation that calls no Go function lists is still. No program is named here.
-/
import Derived.Test.YtlglokbakmbpdaaTg
namespace Go.Proofs.Ytlglokbakmbpdaa
open Go Go.Conc
set_option linter.unusedVariables false

theorem okFns_none (P : Program) : okFns P fun _ => false := fun f hf => by cases hf
theorem still_events {P : Program} {α : Type} {L : α → Prop} {s : Sem α} (h : Tame P L s) (w : World) : ∀ e ∈ s.events P w #[], stillE e := by
  obtain ⟨R, es, c, h1, _, h3⟩ := tame_run h w w.tape w.drawn #[]
  have h4 := h3 w.tape w.drawn fun _ _ => rfl
  have e : s.events P w #[] = es := by
    show (s.runT P w #[]).2 = es
    have : reT w w.tape w.drawn = w := rfl
    rw [this] at h4
    rw [h4]
  rw [e]
  exact h1 (by simp)
theorem still_listed {P : Program} {fn : FuncId} {a : Act} {o : Oper} {w : World} (h : okOp P (fun _ => false) o.op = true) : D0 w w (listed P fn a o w) := fun e he =>
  still_events (tame_exec (okFns_none P) (ρ := a.eval) (fun _ => rfl) o h) w e (mem_listed he)
end Go.Proofs.Ytlglokbakmbpdaa
