/-
  A text is walked beside leavers piece by piece: a plain piece by its lone walk, a plain function by its lone contract, a function that starts goroutines by a contract of its own. No program is named here.
-/
import Derived.Test.YtlglokbakmbpdabTn
import Derived.Conc.Own4
import Derived.Conc.CompanyCalls
namespace Go.Proofs.Ytlglokbakmbpdab
open Go Go.Conc
set_option linter.unusedVariables false
set_option linter.unusedSimpArgs false

theorem Beside.at {P : Program} {a : Goroutine} {w : World} {Q : Goroutine → World → Prop} (h : Beside P a w Q) (d : Nat) : Beside P a (w.at d) Q := fun gs t q sl d' hF => h gs t q sl d' hF

/-- What is said of the world behind (in view of the world ahead) does not hang on the tape. -/
def Blind {α : Type} (C : World → α → World → Prop) : Prop := ∀ x w w1 τ d τ' d' d2, C (reT w τ d) x (reT w1 τ' d') → C w x (reT w1 w.tape d2)

section
variable {P : Program} {ok : FuncId → Bool}

theorem arr_normal {m : Machine} {b : Frame} {k : List Item} {cs : List Frame} {a : Act} {w : World} (h : Arrives P m b k cs .normal a w) : ∃ N, runN P N m = .next (lone (b.at a k) cs w) := h
theorem arr_ret {m : Machine} {b : Frame} {k : List Item} {cs : List Frame} {a : Act} {w : World} (h : Arrives P m b k cs .ret a w) : ∃ todo N, runN P N m = .next (lone { b.at a todo with mode := .returning } cs w) := h

/-- A PLAIN PIECE OF TEXT. -/
theorem beside_piece (hP : NoInit P) (hok : okFns P ok) {c : Code} (hc : okC P ok c = true) {b : Frame} (hf : ∃ f, P.funcs[b.fn]? = some f ∧ f.results.all tmpR = true) (hk : b.kind = .normal) {a : Act} (ha : a.defers = [])
    {k : List Item} {cs : List Frame} {w : World} {Q : Goroutine → World → Prop} (C : World → Exit × Act → World → Prop) (hB : Blind C)
    (h : ∀ τ d, c.wp P (fun e a' w' => (e = .normal ∨ e = .ret) ∧ C (reT w τ d) (e, a') w') a (reT w τ d))
    (next : ∀ a' w', C w (.normal, a') w' → Beside P (G (b.at a' k) cs) w' Q)
    (leave : ∀ a' w' todo, C w (.ret, a') w' → Q (G { b.at a' todo with mode := .returning } cs) w') : Beside P (G (b.at a (.code c :: k)) cs) w Q := by
  let R : Frame → World → Prop := fun fr w1 => ∃ e a' τ d, C (reT w τ d) (e, a') w1 ∧ ((e = .normal ∧ fr = b.at a' kT) ∨ (e = .ret ∧ ∃ todo, fr = { b.at a' todo with mode := .returning }))
  have hS : okS P ok [b.at a [.code c]] := ⟨⟨hf, ha, hk, rfl, fun x hx => by rw [List.mem_singleton.1 hx]; exact hc⟩, .inl rfl, fun x hx => by cases hx⟩
  have A := ahead_of hP hok (z0 := kT) (.inr rfl) hS (w0 := w) (R := R) (fun τ' d' => by
    obtain ⟨e, a', w', ⟨he, hC⟩, harr⟩ := h τ' d' b kT [trap P]
    have e0 : onTrap P kT [b.at a [.code c]] (reT w τ' d') = lone (b.at a (.code c :: kT)) [trap P] (reT w τ' d') := rfl
    rw [e0]
    rcases he with rfl | rfl
    · obtain ⟨N, hN⟩ := arr_normal harr
      exact ⟨N, _, _, hN, .inr ⟨rfl, rfl, rfl⟩, _, a', τ', d', hC, .inl ⟨rfl, rfl⟩⟩
    · obtain ⟨todo, N, hN⟩ := arr_ret harr
      exact ⟨N, _, _, hN, .inl rfl, _, a', τ', d', hC, .inr ⟨rfl, todo, rfl⟩⟩) w.tape
  have hb := beside_ahead A k (fun h => by cases h) cs w.drawn
  have e1 : GL (plug k [b.at a [.code c]]) cs = G (b.at a (.code c :: k)) cs := rfl
  rw [e1, show reT w w.tape w.drawn = w from rfl] at hb
  refine hb.trans fun a1 w1 hq => ?_
  obtain ⟨fr, w2, d2, rfl, rfl, hdone, τ', d', e, a', τ, d, hC, hh⟩ := hq
  have hC' := hB _ _ _ _ _ _ _ d2 hC
  rcases hh with ⟨rfl, hfr⟩ | ⟨rfl, todo, hfr⟩
  · have e2 : GL (plug k [fr]) cs = G (b.at a' k) cs := by
      have h1 : fr.todo = [] := by
        have := congrArg Frame.todo hfr
        have h2 : fr.todo ++ kT = kT := this
        exact List.append_left_eq_self.1 h2
      have h3 : addT fr k = b.at a' k := by
        have h4 : { addT fr kT with todo := fr.todo ++ k } = { b.at a' kT with todo := k } := by rw [hfr, h1]; rfl
        exact h4
      show G (addT fr k) ([] ++ cs) = _
      rw [h3]; rfl
    rw [e2]
    exact next a' _ hC'
  · have e2 : ∃ todo', GL (plug k [fr]) cs = G { b.at a' todo' with mode := .returning } cs := by
      refine ⟨fr.todo ++ k, ?_⟩
      have h4 : { addT fr kT with todo := fr.todo ++ k } = { ({ b.at a' todo with mode := .returning } : Frame) with todo := fr.todo ++ k } := by rw [hfr]
      show G (addT fr k) ([] ++ cs) = _
      exact congrArg (fun f => G f cs) h4
    obtain ⟨todo', e2⟩ := e2
    rw [e2]
    exact .at0 fun d3 => leave a' _ todo' (hB _ _ _ _ _ _ _ d3 hC)

/-- A CONTRACT IN COMPANY. -/
def BCalls (P : Program) (f : FuncId) (args : Array Value) (w : World) (R : Value → World → Prop) : Prop :=
  ∀ cs, Beside P (G (Frame.enter P f args .normal) cs) w fun a' w' => ∃ fr v, a' = G fr cs ∧ fr.fn = f ∧ fr.leaving P w' (.returned v) ∧ R v w'

theorem BCalls.mono {f : FuncId} {args : Array Value} {w : World} {R R' : Value → World → Prop} (h : BCalls P f args w R) (hr : ∀ v w', R v w' → R' v w') : BCalls P f args w R' := fun cs =>
  (h cs).mono fun a' w' ⟨fr, v, h1, h2, h3, h4⟩ => ⟨fr, v, h1, h2, h3, hr _ _ h4⟩

/-- A plain function: its lone contract. -/
theorem bcalls_of_calls (hP : NoInit P) (hok : okFns P ok) {f : FuncId} {fn : Func} {c : Code} (hf : P.funcs[f]? = some fn) (hb : fn.body = some c) (hc : okC P ok c = true) (hr : fn.results.all tmpR = true) {args : Array Value} {w : World} (C : World → Value → World → Prop) (hB : Blind C)
    (h : ∀ τ d, Calls P f args (reT w τ d) fun e w' => ∃ v, e = .returned v ∧ C (reT w τ d) v w') : BCalls P f args w (C w) := by
  intro cs
  have hen := enter_at (P := P) args hf hb
  let R : Frame → World → Prop := fun fr w1 => ∃ v τ d, C (reT w τ d) v w1 ∧ fr.fn = f ∧ fr.leaving P w1 (.returned v)
  have hS : okS P ok [Frame.enter P f args .normal] := by
    rw [hen]
    exact ⟨⟨⟨fn, hf, hr⟩, rfl, rfl, rfl, fun x hx => by rw [List.mem_singleton.1 hx]; exact hc⟩, .inl rfl, fun x hx => by cases hx⟩
  have e0 : ∀ fr : Frame, addT fr [] = fr := fun fr => by unfold addT; rw [List.append_nil]
  have A := ahead_of hP hok (z0 := []) (.inl rfl) hS (w0 := w) (R := R) (fun τ' d' => by
    obtain ⟨e, w', fr, ⟨v, rfl, hC⟩, ⟨N, hN⟩, h1, h2⟩ := h τ' d' [trap P]
    have e1 : onTrap P [] [Frame.enter P f args .normal] (reT w τ' d') = lone (Frame.enter P f args .normal) [trap P] (reT w τ' d') := by
      show lone (addT _ []) [trap P] _ = _
      rw [e0]
    rw [e1]
    exact ⟨N, fr, w', hN, .inl h2.1, v, τ', d', hC, h1, h2⟩) w.tape
  have hb2 := beside_ahead A [] (fun h => rfl) cs w.drawn
  have e1 : GL (plug [] [Frame.enter P f args .normal]) cs = G (Frame.enter P f args .normal) cs := by
    show G (addT _ []) ([] ++ cs) = _
    rw [e0]; rfl
  rw [e1, show reT w w.tape w.drawn = w from rfl] at hb2
  refine hb2.mono fun a1 w1 hq => ?_
  obtain ⟨fr, w2, d2, rfl, rfl, hdone, τ', d', v, τ, d, hC, hfn, hlv⟩ := hq
  rw [e0] at hfn hlv
  refine ⟨fr, v, ?_, hfn, ?_, hB _ _ _ _ _ _ _ d2 hC⟩
  · show G (addT _ []) ([] ++ cs) = _
    rw [e0]; rfl
  · obtain ⟨k1, k2, k3, fn', k4, k5⟩ := hlv
    obtain rfl : fn' = fn := by rw [hfn, hf] at k4; exact (Option.some.inj k4).symm
    obtain ⟨v', hv'⟩ := results_tmp (P := P) hr fr.tmps
    refine ⟨k1, k2, k3, fn', k4, ?_⟩
    rw [hv'] at k5 ⊢
    simp only [Sem.run_pure, Result.ok.injEq] at k5 ⊢
    exact ⟨k5.1, trivial⟩

theorem leaving_step {main : Bool} {fr c : Frame} {cs : List Frame} {w : World} {v : Value} (h : fr.leaving P w (.returned v)) (hr : ∃ fn, P.funcs[fr.fn]? = some fn ∧ fn.results.all tmpR = true) :
    stepG P main (G fr (c :: cs)) w = .go (G (c.finish v) cs) w #[] := by
  obtain ⟨hm, hd, hk, fn, hf, hv⟩ := h
  obtain ⟨fn', hf', hr⟩ := hr
  obtain rfl : fn' = fn := by rw [hf] at hf'; exact (Option.some.inj hf').symm
  obtain ⟨v', hv'⟩ := results_tmp (P := P) hr fr.tmps
  rw [hv'] at hv
  simp only [Sem.run_pure, Result.ok.injEq] at hv
  obtain ⟨rfl, _⟩ := hv
  simp [stepG, unwind, doReturn, hm, hd, hk, hf, hv', seen, GStep.after, G]

/-- THROUGH A CALL. -/
theorem beside_call {b : Frame} {a : Act} {k : List Item} {cs : List Frame} {w : World} {ops : Array Oper} {i : Nat} {rest : List Nat} {o : Oper} {f : FuncId} {fn : Func} {args : Array Operand} {ats : Array TypeId} {R : Value → World → Prop} {Q : Goroutine → World → Prop}
    (ho : ops[i]? = some o) (hw : Region.wanted o (yielded ops a.tmps) = true) (hk : b.kind ≠ .early) (hop : o.op = .call { callee := .value (.func f), args, argTypes := ats })
    (hf : P.funcs[f]? = some fn) (hname : (fn.name == "runtime.NumGoroutine") = false) (hb : fn.body.isNone = false) (hr : fn.results.all tmpR = true) {as : Array Value} (has : args.map a.eval = as) (hC : ∀ d, BCalls P f as (w.at d) R)
    (next : ∀ v w', R v w' → Beside P (G (b.at (a.put o.dst v) (.inRegion ops rest :: k)) cs) w' Q) : Beside P (G (b.at a (.inRegion ops (i :: rest) :: k)) cs) w Q := by
  have hfin : ∀ v, (b.at a (.inRegion ops (i :: rest) :: k)).finish v = b.at (a.put o.dst v) (.inRegion ops rest :: k) := fun v => by rw [Frame.finish_at, ho]; rfl
  subst has
  refine .step rfl fun d => ⟨_, _, _, stepG_enter ho hw hk (run_call_body hop hf hname hb), ?_, ?_⟩
  · have e : listed P b.fn a o (w.at d) = #[] := by
      obtain ⟨c, hc⟩ : ∃ c, fn.body = some c := by cases h : fn.body with
        | none => rw [h] at hb; cases hb
        | some c => exact ⟨c, rfl⟩
      unfold listed
      rw [events_call_body hop hf hname hb]
      exact seen_none P _
    rw [e]
    exact D0.nil (w := w) (w' := w)
  · refine (hC d _).trans fun a1 w1 hq => ?_
    obtain ⟨fr, v, rfl, h1, h2, h3⟩ := hq
    have hlv : ∀ d1, fr.leaving P (w1.at d1) (.returned v) := fun d1 => by
      obtain ⟨k1, k2, k3, fn', k4, k5⟩ := h2
      refine ⟨k1, k2, k3, fn', k4, ?_⟩
      obtain rfl : fn' = fn := by rw [h1, hf] at k4; exact (Option.some.inj k4).symm
      obtain ⟨v', hv'⟩ := results_tmp (P := P) hr fr.tmps
      rw [hv'] at k5 ⊢
      simp only [Sem.run_pure, Result.ok.injEq] at k5 ⊢
      exact ⟨k5.1, trivial⟩
    refine .step rfl fun d1 => ⟨_, _, _, leaving_step (w := w1.at d1) (hlv d1) ⟨fn, by rw [h1]; exact hf, hr⟩, D0.nil (w := w) (w' := w), ?_⟩
    rw [hfin]
    exact (next v w1 h3).at d1
end
end Go.Proofs.Ytlglokbakmbpdab
