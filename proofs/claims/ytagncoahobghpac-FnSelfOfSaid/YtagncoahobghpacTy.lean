/-
  A region that asks the tape for its order, beside leavers, with calls by contracts in company. No program is named here.
-/
import Derived.Test.YtagncoahobghpacT1
import Derived.Conc.CompanyDraw
import Derived.OrdersHeld
namespace Go.Proofs.Ytagncoahobghpac
open Go Go.Conc
set_option linter.unusedVariables false

section
variable {P : Program} {fn : FuncId} {ops : Array Oper} {md : Region.Mode} {S : World → Prop}

/-- What is asked of what an operation comes to. -/
def uponB (P : Program) (o : Oper) (a : Act) (K : Act → World → Prop) : Result Next → Prop
  | .ok (.value v) w => K (a.put o.dst v) w
  | .ok (.enter f args) w => (∃ fn, P.funcs[f]? = some fn ∧ fn.results.all tmpR = true) ∧ BCalls P f args w fun v w' => K (a.put o.dst v) w'
  | _ => False

/-- Operation number i comes up in state a, w, beside leavers. -/
def OpB (P : Program) (fn : FuncId) (ops : Array Oper) (i : Nat) (K : Act → World → Prop) (a : Act) (w : World) : Prop :=
  match ops[i]? with
  | none => False
  | some o => if Region.wanted o (yielded ops a.tmps) then ∀ d, stillA (listed P fn a o (w.at d)) ∧ uponB P o a K ((execOp a.eval o).run P (w.at d)) else ∀ d, K (a.put o.dst undef) (w.at d)

theorem uponB_mono {o : Oper} {a : Act} {K K' : Act → World → Prop} (h : ∀ a w, K a w → K' a w) {r : Result Next} (hh : uponB P o a K r) : uponB P o a K' r := by
  cases r with
  | ok n w' =>
    cases n <;> first | exact h _ _ hh | exact ⟨hh.1, hh.2.mono fun v w h' => h _ _ h'⟩ | exact hh.elim
  | halt x w' => exact hh
theorem OpB_mono {i : Nat} {a : Act} {w : World} {K K' : Act → World → Prop} (h : ∀ a w, K a w → K' a w) (hh : OpB P fn ops i K a w) : OpB P fn ops i K' a w := by
  unfold OpB at *
  split
  · simp_all
  · rename_i o ho
    simp only [ho] at hh
    split
    · rename_i hw; simp only [hw, if_true] at hh; exact fun d => ⟨(hh d).1, uponB_mono h (hh d).2⟩
    · rename_i hw; simp only [hw] at hh; exact fun d => h _ _ (hh d)

/-- The rest of the region, in the order is. -/
def RestB (P : Program) (fn : FuncId) (ops : Array Oper) (is : List Nat) (Q : Act → World → Prop) (a : Act) (w : World) : Prop :=
  ∀ (b : Frame) (k : List Item) (cs : List Frame) (Qf : Goroutine → World → Prop), b.fn = fn → b.kind ≠ .early → (∀ a' w', Q a' w' → Beside P (G (b.at a' k) cs) w' Qf) → Beside P (G (b.at a (.inRegion ops is :: k)) cs) w Qf

theorem restB_nil {Q : Act → World → Prop} {a : Act} {w : World} (h : Q a w) : RestB P fn ops [] Q a w := fun b k cs Qf hb hk hq =>
  .step rfl fun d => ⟨_, _, _, stepG_region_end, D0.nil (w := w) (w' := w), (hq _ _ h).at d⟩

theorem restB_cons {Q : Act → World → Prop} {i : Nat} {rest : List Nat} {a : Act} {w : World} (h : OpB P fn ops i (fun a' w' => RestB P fn ops rest Q a' w') a w) : RestB P fn ops (i :: rest) Q a w := by
  intro b k cs Qf hb hk hq
  unfold OpB at h
  split at h
  · exact h.elim
  rename_i o ho
  have hfin : ∀ v, (b.at a (.inRegion ops (i :: rest) :: k)).finish v = b.at (a.put o.dst v) (.inRegion ops rest :: k) := fun v => by rw [Frame.finish_at, ho]; rfl
  split at h
  · rename_i hw
    have hk' : (b.kind == CallKind.early) = false := by simpa using hk
    refine .step rfl fun d => ?_
    obtain ⟨h1, h2⟩ := h d
    subst hb
    generalize hr : (execOp a.eval o).run P (w.at d) = r at h2
    cases r with
    | halt x w' => exact h2.elim
    | ok n w' =>
      cases n <;> first | exact h2.elim | skip
      case value v =>
        refine ⟨G (b.at (a.put o.dst v) (.inRegion ops rest :: k)) cs, w', listed P b.fn a o (w.at d), ?_, h1, h2 b k cs Qf rfl hk hq⟩
        rw [stepG_oper ho hw, ← hfin]
        simp [stepG.apply, hr, G, Frame.at, hk', GStep.after, listed]
      case enter f args =>
        refine ⟨_, _, _, stepG_enter ho hw hk hr, h1, ?_⟩
        obtain ⟨⟨fn, hf, hrs⟩, hC⟩ := h2
        refine (hC _).trans fun a1 w1 hq1 => ?_
        obtain ⟨fr, v, rfl, g1, g2, g3⟩ := hq1
        have hlv : ∀ d1, fr.leaving P (w1.at d1) (.returned v) := fun d1 => by
          obtain ⟨k1, k2, k3, fn', k4, k5⟩ := g2
          refine ⟨k1, k2, k3, fn', k4, ?_⟩
          obtain rfl : fn' = fn := by rw [g1, hf] at k4; exact (Option.some.inj k4).symm
          obtain ⟨v', hv'⟩ := results_tmp (P := P) hrs fr.tmps
          rw [hv'] at k5 ⊢
          simp only [Sem.run_pure, Result.ok.injEq] at k5 ⊢
          exact ⟨k5.1, trivial⟩
        refine .step rfl fun d1 => ⟨_, _, _, leaving_step (w := w1.at d1) (hlv d1) ⟨fn, by rw [g1]; exact hf, hrs⟩, D0.nil (w := w) (w' := w), ?_⟩
        rw [hfin]
        exact (g3 b k cs Qf rfl hk hq).at d1
  · rename_i hw
    have hw' : Region.wanted o (yielded ops a.tmps) = false := by simpa using hw
    refine .step rfl fun d => ⟨_, _, _, stepG_unwanted ho hw', D0.nil (w := w) (w' := w), h d b k cs Qf hb hk hq⟩

/-- In state a, in every world that meets S, operation o leaves v in its temporary and does nothing else. -/
def YieldsB (P : Program) (fn : FuncId) (ops : Array Oper) (S : World → Prop) (o : Oper) (v : Value) (a : Act) : Prop :=
  (Region.wanted o (yielded ops a.tmps) = true ∧ ∀ w, S w → (execOp a.eval o).run P w = .ok (.value v) w ∧ stillA (listed P fn a o w)) ∨
  (Region.wanted o (yielded ops a.tmps) = false ∧ v = undef)
theorem YieldsB.of_same {o : Oper} {v : Value} {a a' : Act} (hy : YieldsB P fn ops S o v a) (he : execOp a'.eval o = execOp a.eval o)
    (hw : Region.wanted o (yielded ops a'.tmps) = Region.wanted o (yielded ops a.tmps)) : YieldsB P fn ops S o v a' := by
  unfold YieldsB listed at *
  rw [he, hw]
  exact hy

/-- Whatever order is picked from here on, and S holds behind every operation that is carried out. -/
def AnyB (P : Program) (fn : FuncId) (md : Region.Mode) (ops : Array Oper) (Q : Act → World → Prop) (S : World → Prop) : Nat → Array Bool → Act → World → Prop
  | 0, listed, a, w => Region.ready md ops listed = [] ∧ ∀ d, Q a (w.at d)
  | fuel + 1, listed, a, w =>
    (Region.ready md ops listed = [] → ∀ d, Q a (w.at d)) ∧
    ∀ i ∈ Region.ready md ops listed, OpB P fn ops i (fun a' w' => S w' ∧ AnyB P fn md ops Q S fuel (listed.setIfInBounds i true) a' w') a w

theorem OpB.at {i : Nat} {a : Act} {w : World} {K : Act → World → Prop} (h : OpB P fn ops i K a w) (d : Nat) : OpB P fn ops i K a (w.at d) := by
  unfold OpB at *
  split
  · simp_all
  · rename_i o ho
    simp only [ho] at h
    split
    · rename_i hw; simp only [hw, if_true] at h; exact fun e => h e
    · rename_i hw; simp only [hw] at h; exact fun e => h e
theorem AnyB.at {Q : Act → World → Prop} : ∀ {fuel : Nat} {listed : Array Bool} {a : Act} {w : World}, AnyB P fn md ops Q S fuel listed a w → ∀ d, AnyB P fn md ops Q S fuel listed a (w.at d)
  | 0, _, _, _, h, d => ⟨h.1, fun e => h.2 e⟩
  | fuel + 1, _, _, _, h, d => ⟨fun e e2 => h.1 e e2, fun i hi => (h.2 i hi).at d⟩

/-- It serves every order that the tape can pick. -/
theorem anyB_sound {Q : Act → World → Prop} : ∀ (fuel t : Nat) (listed : Array Bool) (a : Act) (w : World), AnyB P fn md ops Q S fuel listed a w → RestB P fn ops (Region.linearise.go md ops fuel t listed []) Q a w := by
  intro fuel
  induction fuel with
  | zero =>
    intro t listed a w h
    simp only [Region.linearise.go, List.reverse_nil]
    exact restB_nil (w := w) (h.2 w.drawn)
  | succ fuel ih =>
    intro t listed a w h
    obtain ⟨h₀, h₁⟩ := h
    simp only [Region.linearise.go]
    change RestB P fn ops (match (Region.ready md ops listed)[t % (Region.ready md ops listed).length]? with
      | some i => Region.linearise.go md ops fuel (t / (Region.ready md ops listed).length) (listed.setIfInBounds i true) [i]
      | none => [].reverse) Q a w
    cases hi : (Region.ready md ops listed)[t % (Region.ready md ops listed).length]? with
    | none =>
      have hnil : Region.ready md ops listed = [] := by
        cases hr : Region.ready md ops listed with
        | nil => rfl
        | cons x xs =>
          rw [hr] at hi
          have hlt : t % (x :: xs).length < (x :: xs).length := Nat.mod_lt _ (by simp)
          simp at hi
          simp at hlt
          omega
      simp only [List.reverse_nil]
      exact restB_nil (w := w) (h₀ hnil w.drawn)
    | some i =>
      simp only []
      rw [linearise_go_acc, List.reverse_singleton, List.singleton_append]
      exact restB_cons (OpB_mono (fun a' w' x => ih _ _ a' w' x.2) (h₁ i (List.mem_of_getElem? hi)))

theorem YieldsB.opB (hS : ∀ w d, S w → S (w.at d)) {i : Nat} {o : Oper} {v : Value} {a : Act} (hi : ops[i]? = some o) (hy : YieldsB P fn ops S o v a)
    {K : Act → World → Prop} {w : World} (hw : S w) (h : ∀ d, K (a.put o.dst v) (w.at d)) : OpB P fn ops i K a w := by
  unfold OpB
  simp only [hi]
  rcases hy with ⟨hwt, hv⟩ | ⟨hwt, rfl⟩
  · simp only [hwt, if_true]
    intro d
    refine ⟨(hv _ (hS _ d hw)).2, ?_⟩
    rw [(hv _ (hS _ d hw)).1]
    exact h d
  · simp only [hwt, Bool.false_eq_true, if_false]
    exact h

theorem OpB_putIf {j : Nat} {oi oj : Oper} {v : Value} (hj : ops[j]? = some oj) (hap : oi.apart ops oj = true)
    (hsi : ∀ cs b, oi.op ≠ .select cs b) (hsj : ∀ cs b, oj.op ≠ .select cs b) {K : Act → World → Prop} {a : Act} {w : World}
    (hy : YieldsB P fn ops S oi v a) (h : OpB P fn ops j K (a.put oi.dst v) w) :
    OpB P fn ops j (fun a' w' => YieldsB P fn ops S oi v a' ∧ K (a'.put oi.dst v) w') a w := by
  obtain ⟨h1, h2, h3⟩ := Oper.apart_spec hap
  have keep : ∀ (a : Act), YieldsB P fn ops S oi v a → ∀ u, YieldsB P fn ops S oi v (a.put oj.dst u) := fun a hy u =>
    hy.of_same (execOp_put oi hsi a oj.dst u h3) (wanted_put oi a oj.dst u h3)
  unfold OpB at *
  simp only [hj] at *
  rw [wanted_put oj a oi.dst v h1] at h
  split
  · rename_i hw
    simp only [hw, if_true] at h
    intro d
    have h := h d
    unfold listed at *
    rw [execOp_put oj hsj a oi.dst v h1] at h
    refine ⟨h.1, ?_⟩
    replace h := h.2
    generalize (execOp a.eval oj).run P (w.at d) = r at h ⊢
    cases r with
    | ok n w' =>
      cases n with
      | value u =>
        simp only [uponB] at h ⊢
        exact ⟨keep a hy u, by rw [← Act.put_comm a v u h2]; exact h⟩
      | enter f args =>
        simp only [uponB] at h ⊢
        exact ⟨h.1, h.2.mono fun u w'' he => ⟨keep a hy u, by rw [← Act.put_comm a v u h2]; exact he⟩⟩
      | _ => simp only [uponB] at h
    | halt x w' => simp only [uponB] at h
  · rename_i hw
    simp only [hw] at h
    intro d
    exact ⟨keep a hy _, by rw [← Act.put_comm a v undef h2]; exact h d⟩

/-- An operation that may come up now may be taken first. -/
theorem anyB_first (hS : ∀ w d, S w → S (w.at d)) {Q : Act → World → Prop} {i : Nat} {oi : Oper} {v : Value} (hi : ops[i]? = some oi)
    (hsel : ∀ (j : Nat) (o : Oper) cs b, ops[j]? = some o → o.op ≠ .select cs b) :
    ∀ (fuel : Nat) (listed : Array Bool) (a : Act) (w : World),
      (∀ j oj, ops[j]? = some oj → j ≠ i → listed.getD j true = false → (∀ e ∈ oj.after, Region.binds md e = true → e.on ≠ i) → oi.apart ops oj = true) →
      i ∈ Region.ready md ops listed → YieldsB P fn ops S oi v a → S w →
      AnyB P fn md ops Q S fuel (listed.setIfInBounds i true) (a.put oi.dst v) w → AnyB P fn md ops Q S (fuel + 1) listed a w := by
  intro fuel
  induction fuel with
  | zero =>
    intro listed a w _ hr hy hw H
    refine ⟨fun h => (by rw [h] at hr; cases hr), fun j hj => ?_⟩
    by_cases hji : j = i
    · subst hji; exact hy.opB hS hi hw fun d => ⟨hS _ d hw, H.at d⟩
    · have := ready_mono hj hji
      rw [H.1] at this
      cases this
  | succ fuel ih =>
    intro listed a w hfree hr hy hw H
    refine ⟨fun h => (by rw [h] at hr; cases hr), fun j hj => ?_⟩
    by_cases hji : j = i
    · subst hji; exact hy.opB hS hi hw fun d => ⟨hS _ d hw, H.at d⟩
    · have h1 := H.2 j (ready_mono hj hji)
      obtain ⟨hjun, oj, hoj, hall⟩ := mem_ready.1 hj
      have hnot : ∀ e ∈ oj.after, Region.binds md e = true → e.on ≠ i := fun e he hb heq => by
        have h1 := hall e he hb
        have h0 := (mem_ready.1 hr).1
        rw [heq] at h1
        rcases Nat.lt_or_ge i listed.size with h' | h'
        · simp [h'] at h0 h1; rw [h0] at h1; cases h1
        · simp [Array.getElem?_eq_none h'] at h1
      have h2 := OpB_putIf hoj (hfree j oj hoj hji hjun hnot) (fun cs b => hsel i oi cs b hi) (fun cs b => hsel j oj cs b hoj) hy h1
      have hfree' : ∀ k ok, ops[k]? = some ok → k ≠ i → (listed.setIfInBounds j true).getD k true = false →
          (∀ e ∈ ok.after, Region.binds md e = true → e.on ≠ i) → oi.apart ops ok = true := fun k ok hk hki hun hno => by
        refine hfree k ok hk hki ?_ hno
        by_cases hjk : j = k
        · subst hjk; exact hjun
        · rw [getD_set_ne true hjk] at hun; exact hun
      refine OpB_mono (fun a' w' h3 => ⟨h3.2.1, ih (listed.setIfInBounds j true) a' w' hfree' (ready_mono hr (Ne.symm hji)) h3.1 h3.2.1 ?_⟩) h2
      rw [Array.setIfInBounds_comm _ _ hji]
      exact h3.2.2

/-- Take number i first. -/
theorem anyB_take {fn : FuncId} (i : Nat) (oi : Oper) (v : Value) {Q : Act → World → Prop} (hS : ∀ w d, S w → S (w.at d)) {fuel : Nat} {listed : Array Bool} {a : Act} {w : World} (hi : ops[i]? = some oi)
    (hs : Region.noSelect ops = true) (hf : Region.free md ops listed i = true) (hr : (Region.ready md ops listed).contains i = true)
    (hy : YieldsB P fn ops S oi v a) (hw : S w) (h : AnyB P fn md ops Q S fuel (listed.setIfInBounds i true) (a.put oi.dst v) w) : AnyB P fn md ops Q S (fuel + 1) listed a w :=
  anyB_first hS hi (Region.noSelect_spec hs) fuel listed a w (Region.free_spec hi hf) (by simpa using hr) hy hw h

/-- Number i alone may come up: a call. -/
theorem anyB_call {fn : FuncId} (i : Nat) (o : Oper) {Q : Act → World → Prop} {fuel : Nat} {listed : Array Bool} {a : Act} {w : World} (hr : Region.ready md ops listed = [i]) (ho : ops[i]? = some o) (hwt : Region.wanted o (yielded ops a.tmps) = true)
    {f : FuncId} {fn' : Func} {args : Array Operand} {ats : Array TypeId} (hop : o.op = .call { callee := .value (.func f), args, argTypes := ats })
    (hf : P.funcs[f]? = some fn') (hname : (fn'.name == "runtime.NumGoroutine") = false) (hb : fn'.body.isNone = false) (hrs : fn'.results.all tmpR = true) {zs : Array Value} (has : args.map a.eval = zs) {R : Value → World → Prop}
    (hC : ∀ d, BCalls P f zs (w.at d) R) (h : ∀ v w', R v w' → S w' ∧ AnyB P fn md ops Q S fuel (listed.setIfInBounds i true) (a.put o.dst v) w') : AnyB P fn md ops Q S (fuel + 1) listed a w := by
  refine ⟨fun h0 => absurd (hr.symm.trans h0) (by simp), fun j hj => ?_⟩
  rw [hr] at hj
  obtain rfl := List.mem_singleton.1 hj
  subst has
  unfold OpB
  simp only [ho, hwt, if_true]
  intro d
  refine ⟨?_, ?_⟩
  · unfold Go.Conc.listed
    rw [events_call_body hop hf hname hb]
    have : seen P fn #[] = #[] := seen_none P _
    rw [this]
    exact D0.nil (w := w) (w' := w)
  · rw [run_call_body hop hf hname hb]
    exact ⟨⟨fn', hf, hrs⟩, (hC d).mono fun v w' hv => h v w' hv⟩

/-- All have come up. -/
theorem anyB_done {Q : Act → World → Prop} {listed : Array Bool} {a : Act} {w : World} (hr : Region.ready md ops listed = []) (h : ∀ d, Q a (w.at d)) : ∀ fuel, AnyB P fn md ops Q S fuel listed a w
  | 0 => ⟨hr, h⟩
  | _ + 1 => ⟨fun _ => h, fun i hi => by rw [hr] at hi; cases hi⟩

/-- THE BEGINNING: a region that asks the tape. -/
theorem beside_region (S : World → Prop) {Q : Act → World → Prop} {id : Nat} {a : Act} {b : Frame} {k : List Item} {cs : List Frame} {w : World} {Qf : Goroutine → World → Prop} (hm : P.follows .mixedOrders = true) (hk : b.kind ≠ .early)
    (h : ∀ d, AnyB P b.fn .any ops Q S ops.size (Array.replicate ops.size false) a (w.at d)) (next : ∀ a' w', Q a' w' → Beside P (G (b.at a' k) cs) w' Qf) : Beside P (G (b.at a (.code (.region id ops true) :: k)) cs) w Qf :=
  .step rfl fun d => ⟨_, _, _, stepG_region_draw, D0.nil (w := w) (w' := w), by
    simp only [Region.schedule, hm, Bool.true_or, if_true]
    exact anyB_sound (S := S) ops.size _ _ a _ (h (d + 1)) b k cs Qf rfl hk next⟩
end
end Go.Proofs.Ytagncoahobghpac
