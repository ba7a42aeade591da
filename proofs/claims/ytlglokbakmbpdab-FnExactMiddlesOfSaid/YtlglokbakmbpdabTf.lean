/-
  From a lone contract to one good run of a row that bears 'leaving'. No program is named here.
-/
import Derived.Test.YtlglokbakmbpdabTe
import Derived.LoneHanded
namespace Go.Proofs.Ytlglokbakmbpdab
open Go Go.Conc
set_option linter.unusedVariables false

theorem good_of_calls {P : Program} {f : FuncId} {fn : Func} (hf : P.funcs[f]? = some fn) (hr : fn.results.all tmpR = true) (hin : P.inits.idxOf? f = none) {args : Array Value} {W : World} {R : Value → World → Prop} (h : Calls P f args W fun e w' => ∃ v, e = .returned v ∧ R v w') :
    ∃ M last o w' t', runNT P (M + 1) (solo (G (Frame.enter P f args .normal) []) W) #[] = (.ended o w', t') ∧ runN P M (solo (G (Frame.enter P f args .normal) []) W) = .next last ∧
      step P last = .ended o w' ∧ Conc.Good P R last o w' t' := by
  obtain ⟨e, w', fr, ⟨v, rfl, hp⟩, ⟨N, hN⟩, hfn, hlv⟩ := h []
  have hN' : runN P N (solo (G (Frame.enter P f args .normal) []) W) = .next (lone fr [] w') := hN
  have hs : step P (lone fr [] w') = .ended (.done v) w' := step_of_ended (leaving_end hlv ⟨fn, by rw [hfn]; exact hf, hr⟩ (by rw [hfn]; exact hin))
  have hall : runN P (N + 1) (solo (G (Frame.enter P f args .normal) []) W) = .ended (.done v) w' := by
    rw [runN_add, hN']
    simp [runN, hs]
  refine ⟨N, lone fr [] w', .done v, w', (runNT P (N + 1) (solo (G (Frame.enter P f args .normal) []) W) #[]).2, Prod.ext (by rw [runNT_fst, hall]) rfl, hN', hs, v, rfl, hp, fun said => (no_race_of_lone P N _ _ hN' (by simp [lone]) rfl).2, handedOver_of_lone hN', ⟨fun g hg => ?_, rfl⟩, fun i g hg hi => ?_⟩
  · simp [lone] at hg
  · exfalso
    have := (Array.getElem?_eq_some_iff.1 hg).1
    simp [lone] at this
    omega
end Go.Proofs.Ytlglokbakmbpdab
