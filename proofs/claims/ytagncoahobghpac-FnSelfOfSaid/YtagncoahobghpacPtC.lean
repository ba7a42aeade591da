/-
  times of an empty row; the small contracts in company.
-/
import Derived.Test.YtagncoahobghpacPtB
namespace Go.Proofs.Ytagncoahobghpac
open Go Go.Conc Go.RowKit
set_option linter.unusedVariables false

theorem beside_by {P : Program} {n : Nat} {g : Goroutine} {w : World} {Q : Goroutine → World → Prop} (h : Goes P true Sm D0 (fun g w => Beside P g w Q) n g w) : Beside P g w Q := (beside_goes h).trans fun _ _ h => h

theorem bmade_blind (E : Nat) (xs : List Int) : Blind fun w v w' => BMade E w xs v w' := by
  rintro v w w1 τ d τ' d' d2 ⟨h1, h2⟩
  exact ⟨h1, ⟨h2.os, rfl, h2.output, h2.size, h2.block⟩⟩
theorem below_blind {w w1 : World} {τ τ' : Nat → Question → Nat} {d d' d2 : Nat} {B : Nat} (h2 : Below B (reT w τ d) (reT w1 τ' d')) : Below B w (reT w1 w.tape d2) := ⟨h2.os, rfl, h2.output, h2.size, h2.block⟩

/-- It says, in company. -/
def BSays (b : Bool) (w : World) (v : Value) (w' : World) : Prop := v = .bool b ∧ Below w.heap.size w w'
theorem bsays_blind (b : Bool) : Blind fun w v w' => BSays b w v w' := by
  rintro v w w1 τ d τ' d' d2 ⟨h1, h2⟩
  exact ⟨h1, below_blind h2⟩
def BTells (z : Int) (w : World) (v : Value) (w' : World) : Prop := v = .int .i64 z ∧ Below w.heap.size w w'
theorem btells_blind (z : Int) : Blind fun w v w' => BTells z w v w' := by
  rintro v w w1 τ d τ' d' d2 ⟨h1, h2⟩
  exact ⟨h1, below_blind h2⟩

theorem noinit : NoInit Try.prog := noInit_of (by kernel_rfl) (by kernel_rfl)

/-- A call that goes: one by one, for whoever has a plain callee. -/
theorem callees (l : List FuncId) (h : (l.all fun f => match Try.prog.funcs[f]? with | some fn => okFn Try.prog (fun g => l.contains g) fn | none => false) = true) : okFns Try.prog fun g => l.contains g := by
  intro f hf
  have hm : f ∈ l := by simpa using hf
  have := List.all_eq_true.1 h f hm
  cases hx : Try.prog.funcs[f]? with
  | none => rw [hx] at this; cases this
  | some fn => rw [hx] at this; exact ⟨fn, rfl, this⟩

section
variable {f : FuncId} {fn : Func} {c : Code} {args : Array Value} {w : World}
theorem bmade_of {E : Nat} {xs : List Int} (l : List FuncId) (hok : (l.all fun f => match Try.prog.funcs[f]? with | some fn => okFn Try.prog (fun g => l.contains g) fn | none => false) = true)
    (hf : Try.prog.funcs[f]? = some fn) (hb : fn.body = some c) (hc : okC Try.prog (fun g => l.contains g) c = true) (hr : fn.results.all tmpR = true)
    (h : ∀ τ d, Calls Try.prog f args (reT w τ d) (Made E (reT w τ d) xs)) : BCalls Try.prog f args w (BMade E w xs) :=
  bcalls_of_calls noinit (callees l hok) hf hb hc hr (fun w v w' => BMade E w xs v w') (bmade_blind E xs) fun τ d => (h τ d).mono fun e w' ⟨v, h1, h2, h3⟩ => ⟨v, h1, h2, h3⟩
theorem bsays_of {b : Bool} (l : List FuncId) (hok : (l.all fun f => match Try.prog.funcs[f]? with | some fn => okFn Try.prog (fun g => l.contains g) fn | none => false) = true)
    (hf : Try.prog.funcs[f]? = some fn) (hb : fn.body = some c) (hc : okC Try.prog (fun g => l.contains g) c = true) (hr : fn.results.all tmpR = true)
    (h : ∀ τ d, Calls Try.prog f args (reT w τ d) (Says b (reT w τ d))) : BCalls Try.prog f args w (BSays b w) :=
  bcalls_of_calls noinit (callees l hok) hf hb hc hr (fun w v w' => BSays b w v w') (bsays_blind b) fun τ d => (h τ d).mono fun e w' ⟨h1, h2⟩ => ⟨_, h1, rfl, h2⟩
theorem btells_of {z : Int} (l : List FuncId) (hok : (l.all fun f => match Try.prog.funcs[f]? with | some fn => okFn Try.prog (fun g => l.contains g) fn | none => false) = true)
    (hf : Try.prog.funcs[f]? = some fn) (hb : fn.body = some c) (hc : okC Try.prog (fun g => l.contains g) c = true) (hr : fn.results.all tmpR = true)
    (h : ∀ τ d, Calls Try.prog f args (reT w τ d) (Tells z (reT w τ d))) : BCalls Try.prog f args w (BTells z w) :=
  bcalls_of_calls noinit (callees l hok) hf hb hc hr (fun w v w' => BTells z w v w') (btells_blind z) fun τ d => (h τ d).mono fun e w' ⟨h1, h2⟩ => ⟨_, h1, rfl, h2⟩
end

theorem implValid_b (v : Value) (xs : List Int) (w : World) (h : Rd w v xs) (hl : xs.length ≤ maxLen) : BCalls Try.prog 10 #[v] w (BSays (vrB xs) w) :=
  bsays_of [10] (by kernel_rfl) Try.func10 rfl (by kernel_rfl) (by kernel_rfl) fun τ d => implValid_any v xs (reT w τ d) h hl

theorem rd_nil_own {w : World} : Own 3 w.heap.size w (.slice none 0 0) [] := ⟨rfl, .inl ⟨rfl, rfl⟩⟩

set_option maxRecDepth 100000 in
set_option maxHeartbeats 4000000 in
theorem timesI_nil (u v : Value) (xs ys : List Int) (w : World) (hx : Rd w u xs) (hy : Rd w v ys) (h : xs.length = 0 ∨ ys.length = 0) :
    BCalls Try.prog 30 #[u, v] w (BMade 3 w []) := by
  intro cs
  obtain ⟨a1, c1, rfl, hx⟩ := hx
  obtain ⟨a2, c2, rfl, hy⟩ := hy
  clear hx hy
  generalize xs.length = n at h ⊢
  generalize ys.length = m at h ⊢
  have key : ∀ (T : Array Value) (k : List Item) (w' : World), T[4]? = some (.slice none 0 0) → Sm w w' → ∃ fr v, G { (base 30).at ⟨T, []⟩ k with mode := .returning } cs = G fr cs ∧ fr.fn = 30 ∧ fr.leaving Try.prog w' (.returned v) ∧ BMade 3 w [] v w' := by
    intro T k w' hT hw
    obtain ⟨d, rfl⟩ := hw
    refine ⟨_, _, rfl, rfl, ⟨rfl, rfl, rfl, _, Try.func30, _root_.Go.results_tmp rfl _ _ _⟩, ?_⟩
    show BMade _ _ _ (T.getD 4 undef) _
    rw [Array.getD_eq_getD_getElem?, hT]
    exact ⟨⟨rfl, .inl ⟨rfl, rfl⟩⟩, ⟨rfl, rfl, rfl, Nat.le_refl _, fun _ _ => rfl⟩⟩
  rw [enter_at _ Try.func30 rfl]
  simp only [Try.f30, List.size_toArray, List.length_cons, List.length_nil, Nat.reduceAdd, Nat.reduceSub, Array.replicate_succ, Array.replicate_zero, List.push_toArray, List.append_toArray, List.nil_append, List.cons_append]
  have hF : Sm w w := Sm.refl w
  rcases h with rfl | rfl
  · refine beside_goes (n := 60) ?_
    repeat (first | a_ctl hF Sm.trans D0.nil | a_op hF Sm.trans [] D0.evs ⟨by simp, by simp⟩ | (refine Goes.step rfl (fun _ h₁ => ?_); rw [stepG_unwanted rfl rfl]; simp only [goes_go]; refine ⟨D0.nil, ?_⟩; replace hF := Sm.trans hF h₁; clear h₁; walk_nrm))
    a_cond true hF Sm.trans D0.nil
    repeat (first | a_ctl hF Sm.trans D0.nil | a_op hF Sm.trans [] D0.evs ⟨by simp, by simp⟩)
    refine Goes.step rfl (fun _ h₁ => ?_)
    rw [stepG_ret']
    simp only [goes_go]
    refine ⟨D0.nil, ?_⟩
    exact Goes.stop fun w₁ h₂ => key _ _ _ rfl ((Sm.trans hF h₁).trans h₂)
  · by_cases hn : n = 0
    · subst hn
      refine beside_goes (n := 60) ?_
      repeat (first | a_ctl hF Sm.trans D0.nil | a_op hF Sm.trans [] D0.evs ⟨by simp, by simp⟩ | (refine Goes.step rfl (fun _ h₁ => ?_); rw [stepG_unwanted rfl rfl]; simp only [goes_go]; refine ⟨D0.nil, ?_⟩; replace hF := Sm.trans hF h₁; clear h₁; walk_nrm))
      a_cond true hF Sm.trans D0.nil
      repeat (first | a_ctl hF Sm.trans D0.nil | a_op hF Sm.trans [] D0.evs ⟨by simp, by simp⟩)
      refine Goes.step rfl (fun _ h₁ => ?_)
      rw [stepG_ret']
      simp only [goes_go]
      refine ⟨D0.nil, ?_⟩
      exact Goes.stop fun w₁ h₂ => key _ _ _ rfl ((Sm.trans hF h₁).trans h₂)
    · have h3 : ((n : Int) == 0) = false := by simp; omega
      refine beside_goes (n := 60) ?_
      repeat (first | a_ctl hF Sm.trans D0.nil | a_op hF Sm.trans [] D0.evs ⟨by simp, by simp⟩ | (refine Goes.step rfl (fun _ h₁ => ?_); rw [stepG_unwanted rfl rfl]; simp only [goes_go]; refine ⟨D0.nil, ?_⟩; replace hF := Sm.trans hF h₁; clear h₁; walk_nrm))
      a_cond true hF Sm.trans D0.nil
      repeat (first | a_ctl hF Sm.trans D0.nil | a_op hF Sm.trans [] D0.evs ⟨by simp, by simp⟩)
      refine Goes.step rfl (fun _ h₁ => ?_)
      rw [stepG_ret']
      simp only [goes_go]
      refine ⟨D0.nil, ?_⟩
      exact Goes.stop fun w₁ h₂ => key _ _ _ rfl ((Sm.trans hF h₁).trans h₂)

theorem timesI_all (u v : Value) (xs ys : List Int) (w : World) (hx : Rd w u xs) (hy : Rd w v ys) (hl1 : xs.length ≤ 1048576) (hl2 : ys.length ≤ 1048576) :
    BCalls Try.prog 30 #[u, v] w (BMade 3 w (mulL xs ys)) := by
  by_cases h : xs.length = 0 ∨ ys.length = 0
  · rw [mulL_none h]
    exact timesI_nil u v xs ys w hx hy h
  · exact timesI_b u v xs ys w hx hy (by omega) (by omega) hl1 hl2
end Go.Proofs.Ytagncoahobghpac
