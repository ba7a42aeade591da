/-
  From a contract in company to one good run from the start. No program is named here.
-/
import Derived.Test.YtlglokbakmbpdabTg
import Derived.Conc.LeavingOf
import Derived.Conc.Beside
namespace Go.Proofs.Ytlglokbakmbpdab
open Go Go.Conc
open Go.ConcN (sumTo upd sumTo_upd upd_ne upd_same)
set_option linter.unusedVariables false
set_option linter.unusedSimpArgs false

section
variable {P : Program}

theorem leaving_end {fr : Frame} {w : World} {v : Value} (h : fr.leaving P w (.returned v)) (hr : ∃ fn, P.funcs[fr.fn]? = some fn ∧ fn.results.all tmpR = true) (hin : P.inits.idxOf? fr.fn = none) :
    stepG P true (G fr []) w = .ended (.done v) w #[] := by
  obtain ⟨hm, hd, hk, fn, hf, hv⟩ := h
  obtain ⟨fn', hf', hr⟩ := hr
  obtain rfl : fn' = fn := by rw [hf] at hf'; exact (Option.some.inj hf').symm
  obtain ⟨v', hv'⟩ := results_tmp (P := P) hr fr.tmps
  rw [hv'] at hv
  simp only [Sem.run_pure, Result.ok.injEq] at hv
  obtain ⟨rfl, _⟩ := hv
  simp [stepG, unwind, doReturn, hm, hd, hk, hf, hv', seen, GStep.after, G, hin]

theorem fr_start (a : Goroutine) : Fr P a #[a] #[] fun _ => 0 := by
  refine ⟨rfl, ⟨fun i g hi hg => ?_, fun j hj => rfl⟩, pastC_nil⟩
  exfalso
  rw [Array.getElem?_eq_none (by simp; omega)] at hg
  cases hg

/-- ONE GOOD RUN. -/
theorem good_of_bcalls {f : FuncId} {fn : Func} (hf : P.funcs[f]? = some fn) (hr : fn.results.all tmpR = true) (hin : P.inits.idxOf? f = none) {args : Array Value} {W : World} {R : Value → World → Prop} (hR : ∀ v w d, R v w → R v (w.at d)) (h : BCalls P f args W R) :
    ∃ M last o w' t', runNT P (M + 1) (solo (G (Frame.enter P f args .normal) []) W) #[] = (.ended o w', t') ∧ runN P M (solo (G (Frame.enter P f args .normal) []) W) = .next last ∧
      step P last = .ended o w' ∧ Conc.Good P R last o w' t' := by
  obtain ⟨N, gs1, t1, q1, sl1, a1, w1, h1, h2, fr, v, rfl, hfn, hlv, hp⟩ := h [] _ _ _ none W.drawn (fr_start _)
  have e0 : crowd #[G (Frame.enter P f args .normal) []] (W.at W.drawn) none = solo (G (Frame.enter P f args .normal) []) W := rfl
  rw [e0] at h1
  obtain ⟨N2, gs2, d2, sl2, t2, q2, k1, k2, k3, e, sl3, k4⟩ := Fr.turn (w := w1) (sl := sl1) _ (Nat.le_refl _) h2 rfl
  have hx : ∃ fn, P.funcs[fr.fn]? = some fn ∧ fn.results.all tmpR = true := ⟨fn, by rw [hfn]; exact hf, hr⟩
  have hlv' : fr.leaving P (w1.at e) (.returned v) := by
    obtain ⟨m1, m2, m3, fn', m4, m5⟩ := hlv
    refine ⟨m1, m2, m3, fn', m4, ?_⟩
    obtain rfl : fn' = fn := by rw [hfn, hf] at m4; exact (Option.some.inj m4).symm
    obtain ⟨v', hv'⟩ := results_tmp (P := P) hr fr.tmps
    rw [hv'] at m5 ⊢
    simp only [Sem.run_pure, Result.ok.injEq] at m5 ⊢
    exact ⟨m5.1, trivial⟩
  have hend := leaving_end hlv' hx (by rw [hfn]; exact hin)
  have hrunT := runT_many_ended (P := P) (sl := sl3) (i := 0) k1.h0 (show stepG P (0 == 0) (G fr []) (w1.at e) = _ from hend)
  have hst := k4.trans hrunT
  have hP' := k1.past.own (fn := (G fr []).frame.fn) (pos := (G fr []).frame.place) (es := #[]) fun e he => by simp at he
  have hall := runNT_app h1 k3
  refine ⟨N + N2, crowd gs2 (w1.at d2) sl2, _, _, _, runNT_app hall (by simp only [runNT]; rw [hst]), ?_, ?_, v, rfl, hR _ _ _ hp, hP'.clean, hP'.over, ⟨fun x hx => ?_, rfl⟩, fun j x hx hj => ?_⟩
  · rw [← runNT_fst P _ _ #[], hall]
  · simp [step, hst]
  · obtain ⟨j, hj⟩ := List.mem_iff_getElem?.1 hx
    rw [List.getElem?_drop] at hj
    exact ⟨_, (k1.lv.old (1 + j) x (by omega) (by simpa [crowd] using hj)).leaves⟩
  · have hq := k1.lv.old j x (by omega) hx
    refine ⟨q2 j, ?_⟩
    have e2 : (t2 ++ MemOp.ofEvents 0 (G fr []).frame.fn (G fr []).frame.place #[]).deaf j (t2 ++ MemOp.ofEvents 0 (G fr []).frame.fn (G fr []).frame.place #[]).size = Deaf t2 j :=
      Deaf_other t2 (g := j) (g' := 0) (by omega) _ (fun op hop => by obtain ⟨e, _, rfl⟩ := Go.Conc.mem_ofEvents hop; rfl)
    rw [e2]
    exact hq.hears _
end
end Go.Proofs.Ytlglokbakmbpdab
