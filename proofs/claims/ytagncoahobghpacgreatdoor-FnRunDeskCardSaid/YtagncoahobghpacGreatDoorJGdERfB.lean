/-
  A range over a function beside leavers (written by ch6rf.py): the statement, a round, its end, and what is left behind it. No program is named here.
-/
import Derived.Test.YtagncoahobghpacGreatDoorT1
import Derived.Test.YtagncoahobghpacGreatDoorJGdE30
import Derived.Conc.CompanyDraw
import Derived.OrdersHeld
import Derived.AtR
import Derived.RangeFuncIn
import Derived.RangeFuncRecord
namespace Go.Proofs.YtagncoahobghpacGreatDoor
open Go Go.Conc Go.RowKit
set_option linter.unusedVariables false
set_option linter.unusedSimpArgs false

section
variable {P : Program} {main : Bool} {b : Frame} {a : Act} {k : List Item} {cs : List Frame} {w : World}

def noDef (ops : Array Oper) : Bool := ops.all fun o => match o.op with | .defer _ => false | _ => true
theorem noDef_spec {ops : Array Oper} (h : noDef ops = true) {i : Nat} {o : Oper} (ho : ops[i]? = some o) : ∀ c, o.op ≠ .defer c := by
  intro c hc
  have := Array.all_eq_true_iff_forall_mem.1 h o (Array.mem_of_getElem? ho)
  rw [hc] at this
  cases this

theorem stepGR_oper {ops : Array Oper} {i : Nat} {rest : List Nat} {o : Oper} (ho : ops[i]? = some o) (hw : Region.wanted o (yielded ops a.tmps) = true) (hd : ∀ c, o.op ≠ .defer c) :
    stepG P main (G (b.atR a (.inRegion ops (i :: rest) :: k)) cs) w = stepG.apply P true (b.atR a (.inRegion ops (i :: rest) :: k)) cs none (execOp a.eval o) w := by
  have he := Frame.eval_atR b a (.inRegion ops (i :: rest) :: k)
  simp only [Frame.atR] at he
  simp only [G, stepG, stepG.exec, stepG.oper, Frame.oper?, Frame.atR, ho, hw, he, Option.map_some, Option.getD_some, if_true]
  cases b.roundOf with
  | none => rfl
  | some l => cases hx : o.op <;> first | rfl | exact absurd hx (hd _)
theorem stepGR_region_end {ops : Array Oper} : stepG P main (G (b.atR a (.inRegion ops [] :: k)) cs) w = .go (G (b.atR a k) cs) w := by simp [G, stepG, stepG.exec, Frame.atR]
theorem stepGR_unwanted {ops : Array Oper} {i : Nat} {rest : List Nat} {o : Oper} (ho : ops[i]? = some o) (hw : Region.wanted o (yielded ops a.tmps) = false) :
    stepG P main (G (b.atR a (.inRegion ops (i :: rest) :: k)) cs) w = .go (G (b.atR (a.put o.dst undef) (.inRegion ops rest :: k)) cs) w #[] := by
  have hfin : (b.atR a (.inRegion ops (i :: rest) :: k)).finish undef = b.atR (a.put o.dst undef) (.inRegion ops rest :: k) := by rw [Frame.finish_atR, ho]; rfl
  rw [← hfin]
  simp [G, stepG, stepG.exec, Frame.atR, ho, hw]
theorem stepGR_region_draw {ops : Array Oper} {id : Nat} :
    stepG P main (G (b.atR a (.code (.region id ops true) :: k)) cs) w =
      .go (G (b.atR a (.inRegion ops (Region.schedule (P.follows .mixedOrders) ops (w.tape w.drawn (.order b.fn id))) :: k)) cs) { w with drawn := w.drawn + 1 } := by
  simp [G, stepG, stepG.exec, Frame.atR, choose, Sem.run, Question.forced, Question.cut]
theorem stepGR_region {ops : Array Oper} {id : Nat} :
    stepG P main (G (b.atR a (.code (.region id ops false) :: k)) cs) w = .go (G (b.atR a (.inRegion ops (List.range ops.size) :: k)) cs) w := by
  simp [G, stepG, stepG.exec, Frame.atR]
theorem stepGR_seq {x y : Code} : stepG P main (G (b.atR a (.code (.seq x y) :: k)) cs) w = .go (G (b.atR a (.code x :: .code y :: k)) cs) w := by
  simp [G, stepG, stepG.exec, Frame.atR]
end

section
variable {P : Program} {fn : FuncId} {ops : Array Oper} {md : Region.Mode} {S : World → Prop}

/-- What is asked of what an operation comes to. -/
def uponR (P : Program) (o : Oper) (a : Act) (K : Act → World → Prop) : Result Next → Prop
  | .ok (.value v) w => K (a.put o.dst v) w
  | .ok .skip w => K (a.put o.dst undef) w
  | _ => False

/-- Operation number i comes up in state a, w, beside leavers. -/
def OpR (P : Program) (fn : FuncId) (ops : Array Oper) (i : Nat) (K : Act → World → Prop) (a : Act) (w : World) : Prop :=
  match ops[i]? with
  | none => False
  | some o => if Region.wanted o (yielded ops a.tmps) then ∀ d, stillA (listed P fn a o (w.at d)) ∧ uponR P o a K ((execOp a.eval o).run P (w.at d)) else ∀ d, K (a.put o.dst undef) (w.at d)

theorem uponR_mono {o : Oper} {a : Act} {K K' : Act → World → Prop} (h : ∀ a w, K a w → K' a w) {r : Result Next} (hh : uponR P o a K r) : uponR P o a K' r := by
  cases r with
  | ok n w' =>
    cases n <;> first | exact h _ _ hh | exact hh.elim
  | halt x w' => exact hh
theorem OpR_mono {i : Nat} {a : Act} {w : World} {K K' : Act → World → Prop} (h : ∀ a w, K a w → K' a w) (hh : OpR P fn ops i K a w) : OpR P fn ops i K' a w := by
  unfold OpR at *
  split
  · simp_all
  · rename_i o ho
    simp only [ho] at hh
    split
    · rename_i hw; simp only [hw, if_true] at hh; exact fun d => ⟨(hh d).1, uponR_mono h (hh d).2⟩
    · rename_i hw; simp only [hw] at hh; exact fun d => h _ _ (hh d)

/-- The rest of the region, in the order is. -/
def RestR (P : Program) (fn : FuncId) (ops : Array Oper) (is : List Nat) (Q : Act → World → Prop) (a : Act) (w : World) : Prop :=
  ∀ (b : Frame) (k : List Item) (cs : List Frame) (Qf : Goroutine → World → Prop), b.fn = fn → b.kind ≠ .early → (∀ a' w', Q a' w' → Beside P (G (b.atR a' k) cs) w' Qf) → Beside P (G (b.atR a (.inRegion ops is :: k)) cs) w Qf

theorem restR_nil {Q : Act → World → Prop} {a : Act} {w : World} (h : Q a w) : RestR P fn ops [] Q a w := fun b k cs Qf hb hk hq =>
  .step rfl fun d => ⟨_, _, _, stepGR_region_end, D0.nil (w := w) (w' := w), (hq _ _ h).at d⟩

theorem restR_cons (hnd : noDef ops = true) {Q : Act → World → Prop} {i : Nat} {rest : List Nat} {a : Act} {w : World} (h : OpR P fn ops i (fun a' w' => RestR P fn ops rest Q a' w') a w) : RestR P fn ops (i :: rest) Q a w := by
  intro b k cs Qf hb hk hq
  unfold OpR at h
  split at h
  · exact h.elim
  rename_i o ho
  have hfin : ∀ v, (b.atR a (.inRegion ops (i :: rest) :: k)).finish v = b.atR (a.put o.dst v) (.inRegion ops rest :: k) := fun v => by rw [Frame.finish_atR, ho]; rfl
  split at h
  · rename_i hw
    have hk' : (b.kind == CallKind.early) = false := by simpa using hk
    refine .step rfl fun d => ?_
    obtain ⟨h1, h2⟩ := h d
    subst hb
    generalize hr : (execOp a.eval o).run P (w.at d) = r at h2
    cases r with
    | halt x w' => exact h2.elim
    | ok n w' =>
      cases n <;> first | exact h2.elim | skip
      case value v =>
        refine ⟨G (b.atR (a.put o.dst v) (.inRegion ops rest :: k)) cs, w', listed P b.fn a o (w.at d), ?_, h1, h2 b k cs Qf rfl hk hq⟩
        rw [stepGR_oper ho hw (noDef_spec hnd ho), ← hfin]
        simp [stepG.apply, hr, G, Frame.atR, hk', GStep.after, listed]
      case skip =>
        refine ⟨G (b.atR (a.put o.dst undef) (.inRegion ops rest :: k)) cs, w', listed P b.fn a o (w.at d), ?_, h1, h2 b k cs Qf rfl hk hq⟩
        rw [stepGR_oper ho hw (noDef_spec hnd ho), ← hfin]
        simp [stepG.apply, hr, G, Frame.atR, hk', GStep.after, listed]
  · rename_i hw
    have hw' : Region.wanted o (yielded ops a.tmps) = false := by simpa using hw
    refine .step rfl fun d => ⟨_, _, _, stepGR_unwanted ho hw', D0.nil (w := w) (w' := w), h d b k cs Qf hb hk hq⟩

/-- In state a, in every world that meets S, operation o leaves v in its temporary and does nothing else. -/
def YieldsR (P : Program) (fn : FuncId) (ops : Array Oper) (S : World → Prop) (o : Oper) (v : Value) (a : Act) : Prop :=
  (Region.wanted o (yielded ops a.tmps) = true ∧ ∀ w, S w → (execOp a.eval o).run P w = .ok (.value v) w ∧ stillA (listed P fn a o w)) ∨
  (Region.wanted o (yielded ops a.tmps) = false ∧ v = undef)
theorem YieldsR.of_same {o : Oper} {v : Value} {a a' : Act} (hy : YieldsR P fn ops S o v a) (he : execOp a'.eval o = execOp a.eval o)
    (hw : Region.wanted o (yielded ops a'.tmps) = Region.wanted o (yielded ops a.tmps)) : YieldsR P fn ops S o v a' := by
  unfold YieldsR listed at *
  rw [he, hw]
  exact hy

/-- Whatever order is picked from here on, and S holds behind every operation that is carried out. -/
def AnyR (P : Program) (fn : FuncId) (md : Region.Mode) (ops : Array Oper) (Q : Act → World → Prop) (S : World → Prop) : Nat → Array Bool → Act → World → Prop
  | 0, listed, a, w => Region.ready md ops listed = [] ∧ ∀ d, Q a (w.at d)
  | fuel + 1, listed, a, w =>
    (Region.ready md ops listed = [] → ∀ d, Q a (w.at d)) ∧
    ∀ i ∈ Region.ready md ops listed, OpR P fn ops i (fun a' w' => S w' ∧ AnyR P fn md ops Q S fuel (listed.setIfInBounds i true) a' w') a w

theorem OpR.at {i : Nat} {a : Act} {w : World} {K : Act → World → Prop} (h : OpR P fn ops i K a w) (d : Nat) : OpR P fn ops i K a (w.at d) := by
  unfold OpR at *
  split
  · simp_all
  · rename_i o ho
    simp only [ho] at h
    split
    · rename_i hw; simp only [hw, if_true] at h; exact fun e => h e
    · rename_i hw; simp only [hw] at h; exact fun e => h e
theorem AnyR.at {Q : Act → World → Prop} : ∀ {fuel : Nat} {listed : Array Bool} {a : Act} {w : World}, AnyR P fn md ops Q S fuel listed a w → ∀ d, AnyR P fn md ops Q S fuel listed a (w.at d)
  | 0, _, _, _, h, d => ⟨h.1, fun e => h.2 e⟩
  | fuel + 1, _, _, _, h, d => ⟨fun e e2 => h.1 e e2, fun i hi => (h.2 i hi).at d⟩

/-- It serves every order that the tape can pick. -/
theorem anyR_sound (hnd : noDef ops = true) {Q : Act → World → Prop} : ∀ (fuel t : Nat) (listed : Array Bool) (a : Act) (w : World), AnyR P fn md ops Q S fuel listed a w → RestR P fn ops (Region.linearise.go md ops fuel t listed []) Q a w := by
  intro fuel
  induction fuel with
  | zero =>
    intro t listed a w h
    simp only [Region.linearise.go, List.reverse_nil]
    exact restR_nil (w := w) (h.2 w.drawn)
  | succ fuel ih =>
    intro t listed a w h
    obtain ⟨h₀, h₁⟩ := h
    simp only [Region.linearise.go]
    change RestR P fn ops (match (Region.ready md ops listed)[t % (Region.ready md ops listed).length]? with
      | some i => Region.linearise.go md ops fuel (t / (Region.ready md ops listed).length) (listed.setIfInBounds i true) [i]
      | none => [].reverse) Q a w
    cases hi : (Region.ready md ops listed)[t % (Region.ready md ops listed).length]? with
    | none =>
      have hnil : Region.ready md ops listed = [] := by
        cases hr : Region.ready md ops listed with
        | nil => rfl
        | cons x xs =>
          rw [hr] at hi
          have hlt : t % (x :: xs).length < (x :: xs).length := Nat.mod_lt _ (by simp)
          simp at hi
          simp at hlt
          omega
      simp only [List.reverse_nil]
      exact restR_nil (w := w) (h₀ hnil w.drawn)
    | some i =>
      simp only []
      rw [linearise_go_acc, List.reverse_singleton, List.singleton_append]
      exact restR_cons hnd (OpR_mono (fun a' w' x => ih _ _ a' w' x.2) (h₁ i (List.mem_of_getElem? hi)))

theorem YieldsR.opR (hS : ∀ w d, S w → S (w.at d)) {i : Nat} {o : Oper} {v : Value} {a : Act} (hi : ops[i]? = some o) (hy : YieldsR P fn ops S o v a)
    {K : Act → World → Prop} {w : World} (hw : S w) (h : ∀ d, K (a.put o.dst v) (w.at d)) : OpR P fn ops i K a w := by
  unfold OpR
  simp only [hi]
  rcases hy with ⟨hwt, hv⟩ | ⟨hwt, rfl⟩
  · simp only [hwt, if_true]
    intro d
    refine ⟨(hv _ (hS _ d hw)).2, ?_⟩
    rw [(hv _ (hS _ d hw)).1]
    exact h d
  · simp only [hwt, Bool.false_eq_true, if_false]
    exact h

theorem OpR_putIf {j : Nat} {oi oj : Oper} {v : Value} (hj : ops[j]? = some oj) (hap : oi.apart ops oj = true)
    (hsi : ∀ cs b, oi.op ≠ .select cs b) (hsj : ∀ cs b, oj.op ≠ .select cs b) {K : Act → World → Prop} {a : Act} {w : World}
    (hy : YieldsR P fn ops S oi v a) (h : OpR P fn ops j K (a.put oi.dst v) w) :
    OpR P fn ops j (fun a' w' => YieldsR P fn ops S oi v a' ∧ K (a'.put oi.dst v) w') a w := by
  obtain ⟨h1, h2, h3⟩ := Oper.apart_spec hap
  have keep : ∀ (a : Act), YieldsR P fn ops S oi v a → ∀ u, YieldsR P fn ops S oi v (a.put oj.dst u) := fun a hy u =>
    hy.of_same (execOp_put oi hsi a oj.dst u h3) (wanted_put oi a oj.dst u h3)
  unfold OpR at *
  simp only [hj] at *
  rw [wanted_put oj a oi.dst v h1] at h
  split
  · rename_i hw
    simp only [hw, if_true] at h
    intro d
    have h := h d
    unfold listed at *
    rw [execOp_put oj hsj a oi.dst v h1] at h
    refine ⟨h.1, ?_⟩
    replace h := h.2
    generalize (execOp a.eval oj).run P (w.at d) = r at h ⊢
    cases r with
    | ok n w' =>
      cases n with
      | value u =>
        simp only [uponR] at h ⊢
        exact ⟨keep a hy u, by rw [← Act.put_comm a v u h2]; exact h⟩
      | skip =>
        simp only [uponR] at h ⊢
        exact ⟨keep a hy undef, by rw [← Act.put_comm a v undef h2]; exact h⟩
      | _ => simp only [uponR] at h
    | halt x w' => simp only [uponR] at h
  · rename_i hw
    simp only [hw] at h
    intro d
    exact ⟨keep a hy _, by rw [← Act.put_comm a v undef h2]; exact h d⟩

/-- An operation that may come up now may be taken first. -/
theorem anyR_first (hS : ∀ w d, S w → S (w.at d)) {Q : Act → World → Prop} {i : Nat} {oi : Oper} {v : Value} (hi : ops[i]? = some oi)
    (hsel : ∀ (j : Nat) (o : Oper) cs b, ops[j]? = some o → o.op ≠ .select cs b) :
    ∀ (fuel : Nat) (listed : Array Bool) (a : Act) (w : World),
      (∀ j oj, ops[j]? = some oj → j ≠ i → listed.getD j true = false → (∀ e ∈ oj.after, Region.binds md e = true → e.on ≠ i) → oi.apart ops oj = true) →
      i ∈ Region.ready md ops listed → YieldsR P fn ops S oi v a → S w →
      AnyR P fn md ops Q S fuel (listed.setIfInBounds i true) (a.put oi.dst v) w → AnyR P fn md ops Q S (fuel + 1) listed a w := by
  intro fuel
  induction fuel with
  | zero =>
    intro listed a w _ hr hy hw H
    refine ⟨fun h => (by rw [h] at hr; cases hr), fun j hj => ?_⟩
    by_cases hji : j = i
    · subst hji; exact hy.opR hS hi hw fun d => ⟨hS _ d hw, H.at d⟩
    · have := ready_mono hj hji
      rw [H.1] at this
      cases this
  | succ fuel ih =>
    intro listed a w hfree hr hy hw H
    refine ⟨fun h => (by rw [h] at hr; cases hr), fun j hj => ?_⟩
    by_cases hji : j = i
    · subst hji; exact hy.opR hS hi hw fun d => ⟨hS _ d hw, H.at d⟩
    · have h1 := H.2 j (ready_mono hj hji)
      obtain ⟨hjun, oj, hoj, hall⟩ := mem_ready.1 hj
      have hnot : ∀ e ∈ oj.after, Region.binds md e = true → e.on ≠ i := fun e he hb heq => by
        have h1 := hall e he hb
        have h0 := (mem_ready.1 hr).1
        rw [heq] at h1
        rcases Nat.lt_or_ge i listed.size with h' | h'
        · simp [h'] at h0 h1; rw [h0] at h1; cases h1
        · simp [Array.getElem?_eq_none h'] at h1
      have h2 := OpR_putIf hoj (hfree j oj hoj hji hjun hnot) (fun cs b => hsel i oi cs b hi) (fun cs b => hsel j oj cs b hoj) hy h1
      have hfree' : ∀ k ok, ops[k]? = some ok → k ≠ i → (listed.setIfInBounds j true).getD k true = false →
          (∀ e ∈ ok.after, Region.binds md e = true → e.on ≠ i) → oi.apart ops ok = true := fun k ok hk hki hun hno => by
        refine hfree k ok hk hki ?_ hno
        by_cases hjk : j = k
        · subst hjk; exact hjun
        · rw [getD_set_ne true hjk] at hun; exact hun
      refine OpR_mono (fun a' w' h3 => ⟨h3.2.1, ih (listed.setIfInBounds j true) a' w' hfree' (ready_mono hr (Ne.symm hji)) h3.1 h3.2.1 ?_⟩) h2
      rw [Array.setIfInBounds_comm _ _ hji]
      exact h3.2.2

/-- Take number i first. -/
theorem anyR_take {fn : FuncId} (i : Nat) (oi : Oper) (v : Value) {Q : Act → World → Prop} (hS : ∀ w d, S w → S (w.at d)) {fuel : Nat} {listed : Array Bool} {a : Act} {w : World} (hi : ops[i]? = some oi)
    (hs : Region.noSelect ops = true) (hf : Region.free md ops listed i = true) (hr : (Region.ready md ops listed).contains i = true)
    (hy : YieldsR P fn ops S oi v a) (hw : S w) (h : AnyR P fn md ops Q S fuel (listed.setIfInBounds i true) (a.put oi.dst v) w) : AnyR P fn md ops Q S (fuel + 1) listed a w :=
  anyR_first hS hi (Region.noSelect_spec hs) fuel listed a w (Region.free_spec hi hf) (by simpa using hr) hy hw h

/-- Number i alone may come up. -/
theorem anyR_one {fn : FuncId} (i : Nat) {Q : Act → World → Prop} {fuel : Nat} {listed : Array Bool} {a : Act} {w : World} (hr : Region.ready md ops listed = [i])
    (h : OpR P fn ops i (fun a' w' => S w' ∧ AnyR P fn md ops Q S fuel (listed.setIfInBounds i true) a' w') a w) : AnyR P fn md ops Q S (fuel + 1) listed a w := by
  refine ⟨fun h0 => absurd (hr.symm.trans h0) (by simp), fun j hj => ?_⟩
  rw [hr] at hj
  obtain rfl := List.mem_singleton.1 hj
  exact h
theorem anyR_two {fn : FuncId} (i j : Nat) {Q : Act → World → Prop} {fuel : Nat} {listed : Array Bool} {a : Act} {w : World} (hr : Region.ready md ops listed = [i, j])
    (h : OpR P fn ops i (fun a' w' => S w' ∧ AnyR P fn md ops Q S fuel (listed.setIfInBounds i true) a' w') a w) (h' : OpR P fn ops j (fun a' w' => S w' ∧ AnyR P fn md ops Q S fuel (listed.setIfInBounds j true) a' w') a w) : AnyR P fn md ops Q S (fuel + 1) listed a w := by
  refine ⟨fun h0 => absurd (hr.symm.trans h0) (by simp), fun q hq => ?_⟩
  rw [hr] at hq
  rcases List.mem_cons.1 hq with rfl | hq
  · exact h
  · obtain rfl := List.mem_singleton.1 hq
    exact h'

/-- All have come up. -/
theorem anyR_done {Q : Act → World → Prop} {listed : Array Bool} {a : Act} {w : World} (hr : Region.ready md ops listed = []) (h : ∀ d, Q a (w.at d)) : ∀ fuel, AnyR P fn md ops Q S fuel listed a w
  | 0 => ⟨hr, h⟩
  | _ + 1 => ⟨fun _ => h, fun i hi => by rw [hr] at hi; cases hi⟩

/-- THE BEGINNING: a region that asks the tape. -/
theorem besideR_region (hnd : noDef ops = true) (S : World → Prop) {Q : Act → World → Prop} {id : Nat} {a : Act} {b : Frame} {k : List Item} {cs : List Frame} {w : World} {Qf : Goroutine → World → Prop} (hm : P.follows .mixedOrders = true) (hk : b.kind ≠ .early)
    (h : ∀ d, AnyR P b.fn .any ops Q S ops.size (Array.replicate ops.size false) a (w.at d)) (next : ∀ a' w', Q a' w' → Beside P (G (b.atR a' k) cs) w' Qf) : Beside P (G (b.atR a (.code (.region id ops true) :: k)) cs) w Qf :=
  .step rfl fun d => ⟨_, _, _, stepGR_region_draw, D0.nil (w := w) (w' := w), by
    simp only [Region.schedule, hm, Bool.true_or, if_true]
    exact anyR_sound hnd (S := S) ops.size _ _ a _ (h (d + 1)) b k cs Qf rfl hk next⟩
end

section
variable {P : Program} {b : Frame} {a : Act} {k : List Item} {cs : List Frame} {w : World} {Q : Goroutine → World → Prop}

theorem opR_k {fn : FuncId} {ops : Array Oper} {i : Nat} {o : Oper} {K : Act → World → Prop} (ho : ops[i]? = some o) (hw : Region.wanted o (yielded ops a.tmps) = true)
    (h : ∀ d, stillA (listed P fn a o (w.at d)) ∧ ∀ K' : Act → World → Prop, (∀ a' w', K a' w' → K' a' w') → uponK o a K' ((execOp a.eval o).run P (w.at d))) : OpR P fn ops i K a w := by
  unfold OpR
  simp only [ho, hw, if_true]
  intro d
  obtain ⟨h1, h2⟩ := h d
  refine ⟨h1, ?_⟩
  have h3 := h2 K (fun _ _ x => x)
  revert h3
  cases (execOp a.eval o).run P (w.at d) with
  | ok x w' => cases x <;> exact id
  | halt x w' => exact id
theorem besideR_seq {x y : Code} (h : Beside P (G (b.atR a (.code x :: .code y :: k)) cs) w Q) : Beside P (G (b.atR a (.code (.seq x y) :: k)) cs) w Q :=
  .step rfl fun d => ⟨_, _, _, stepGR_seq, D0.nil (w := w) (w' := w), h.at d⟩
theorem besideR_block {id : Nat} {x : Code} (h : Beside P (G (b.atR a (.code x :: .inBlock id :: k)) cs) w Q) : Beside P (G (b.atR a (.code (.block id x) :: k)) cs) w Q :=
  .step rfl fun d => ⟨_, _, _, by simp only [G, stepG, stepG.exec, Frame.atR], D0.nil (w := w) (w' := w), h.at d⟩
theorem besideR_inBlock {id : Nat} (h : Beside P (G (b.atR a k) cs) w Q) : Beside P (G (b.atR a (.inBlock id :: k)) cs) w Q :=
  .step rfl fun d => ⟨_, _, _, by simp only [G, stepG, stepG.exec, Frame.atR], D0.nil (w := w) (w' := w), h.at d⟩
theorem besideR_plain {ops : Array Oper} {id : Nat} {Qr : Act → World → Prop} (hk : b.kind ≠ .early) (h : ∀ d, RestR P b.fn ops (List.range ops.size) Qr a (w.at d)) (next : ∀ a' w', Qr a' w' → Beside P (G (b.atR a' k) cs) w' Q) : Beside P (G (b.atR a (.code (.region id ops false) :: k)) cs) w Q :=
  .step rfl fun d => ⟨_, _, _, stepGR_region, D0.nil (w := w) (w' := w), h d b k cs Q rfl hk next⟩

theorem tm_setObj (r : Nat) (o : Obj) : Tame P TT (setObj r o) := trivial
theorem tm_getLoop (l : Nat) : Tame P TT (Instr.getLoop l) := by
  unfold Instr.getLoop
  refine tame_bind (tm_getObj _) fun o => ?_
  cases o <;> first | exact tm_pure _ | exact tm_stuck _
theorem tm_enterLoop (fn : FuncId) (tmps : Array Value) (ps : Array Tmp) (assign body : Code) : Tame P TT (Instr.enterLoop fn tmps ps assign body none) := by
  exact fun _ _ => trivial
theorem tm_yield (l : Nat) (args : Array Value) : Tame P TT (Instr.yield l args) := by
  unfold Instr.yield
  refine tame_bind (tm_getLoop l) fun r => ?_
  dsimp only
  split
  · exact tame_bind (tm_stuck _) fun _ => tm_pure _
  · exact tm_pure _
theorem tm_beginRound (l : Nat) : Tame P TT (Instr.beginRound l) := by
  unfold Instr.beginRound
  refine tame_bind (tm_getLoop l) fun r => tame_bind (tm_setObj _ _) fun _ => ?_
  split <;> first | exact tm_pure _ | exact tm_rp _
theorem tm_endRound (l : Nat) (j : Option Code) : Tame P TT (Instr.endRound l j) := by
  unfold Instr.endRound
  exact tame_bind (tm_getLoop l) fun r => tame_bind (tm_setObj _ _) fun _ => tm_pure _
theorem tm_endLoop (l : Nat) : Tame P TT (Instr.endLoop l) := by
  unfold Instr.endLoop
  refine tame_bind (tm_getLoop l) fun r => ?_
  dsimp only
  split
  · exact tame_bind (tm_rp _) fun _ => tame_bind (tm_setObj _ _) fun _ => tm_pure _
  · exact tame_bind (tm_setObj _ _) fun _ => tm_pure _
theorem tm_takeDeferred (l : Nat) : Tame P TT (Instr.takeDeferred l) := by
  unfold Instr.takeDeferred
  refine tame_bind (tm_getObj _) fun o => ?_
  split <;> first | exact tm_stuck _ | exact tame_bind (tm_setObj _ _) fun _ => tm_pure _
theorem still_seen {α : Type} {L : α → Prop} {s : Sem α} (h : Tame P L s) (fn : FuncId) (w : World) : stillA (seen P fn (s.events P w #[])) := fun e he => still_events h w e (seen_sub he)
theorem still_app {x y : Array Event} (h : stillA x) (h' : stillA y) : stillA (x ++ y) := fun e he => (Array.mem_append.1 he).elim (h e) (h' e)

/-- The record of an outermost loop. -/
def recOf (fn : FuncId) (tmps : Array Value) (ps : Array Tmp) (assign body : Code) (D : Nat) (st : LoopState) : Loop := { state := st, pending := none, fn, tmps, params := ps, assign, body, defers := D }

/-- THE STATEMENT: the record is laid; the function is called with yield. -/
theorem beside_rangeFunc {g : Operand} {ps : Array Tmp} {assign body : Code} {gf : Nat} {lb : Array Value} {fn : Func} (hk : b.kind ≠ .early) (hg : a.eval g = .func (.func gf) #[] lb) (hf : P.funcs[gf]? = some fn) (hname : (fn.name == "runtime.NumGoroutine") = false) (hb : fn.body.isNone = false)
    (next : ∀ (d D : Nat) (rec : Loop) (c : Frame), D = w.heap.size → Hid (rec = recOf b.fn a.tmps ps assign body D .ready) → Hid (c = b.at { a with defers := { target := .collected D, args := #[] } :: a.defers } (.inRangeFunc (D + 1) :: k)) →
      Beside P (G (Frame.enter P gf (#[.func (.yield (D + 1)) #[] #[]] ++ lb) .normal) (c :: cs)) (((w.at d).alloc (.deferred (some []))).alloc (.loop rec)) Q) :
    Beside P (G (b.at a (.code (.rangeFunc g ps assign body) :: k)) cs) w Q := by
  refine .step rfl fun d => ?_
  have he := run_enterLoop_outer (P := P) (w := w.at d) b.fn a.tmps ps assign body
  have h1 : ¬ fn.name = "runtime.NumGoroutine" := by simpa using hname
  have h2 : ¬ fn.body = none := by cases hx : fn.body <;> simp_all
  have hk' : (b.kind == CallKind.early) = false := by simpa using hk
  obtain ⟨W1, hW1⟩ : ∃ W1, W1 = ((w.at d).alloc (.deferred (some []))).alloc (.loop (recOf b.fn a.tmps ps assign body w.heap.size .ready)) := ⟨_, rfl⟩
  have he' : (Instr.enterLoop b.fn a.tmps ps assign body none).run P (w.at d) = .ok (w.heap.size + 1, [{ target := .collected w.heap.size, args := #[] }]) W1 := by rw [hW1]; exact he
  obtain ⟨S, hS⟩ : ∃ S : Sem Next, S = (do let d ← resolve (b.at { a with defers := { target := .collected w.heap.size, args := #[] } :: a.defers } (.inRangeFunc (w.heap.size + 1) :: k)).eval { callee := .value g, args := #[.const (.func (.yield (w.heap.size + 1)) #[] #[])], argTypes := #[] } 0; invoke d.target d.args) := ⟨_, rfl⟩
  have hS0 := hS
  have hgA : (b.at { a with defers := { target := .collected w.heap.size, args := #[] } :: a.defers } (.inRangeFunc (w.heap.size + 1) :: k)).eval g = .func (.func gf) #[] lb := by rw [Frame.eval_at']; exact hg
  have hcA : ∀ v, (b.at { a with defers := { target := .collected w.heap.size, args := #[] } :: a.defers } (.inRangeFunc (w.heap.size + 1) :: k)).eval (.const v) = v := fun v => rfl
  generalize (b.at { a with defers := { target := .collected w.heap.size, args := #[] } :: a.defers } (.inRangeFunc (w.heap.size + 1) :: k)).eval = ev at hS hgA hcA
  have hrun : S.run P W1 = .ok (.enter gf (#[.func (.yield (w.heap.size + 1)) #[] #[]] ++ lb)) W1 := by
    rw [hS]
    simp [resolve, hgA, hcA, Deferred.ofValue, invoke, callFunc, hf, h1, h2]
  have hev : S.events P W1 #[] = #[] := by
    rw [hS]
    simp [resolve, hgA, hcA, Deferred.ofValue, invoke, callFunc, hf, h1, h2]
  refine ⟨_, W1, seen P b.fn ((Instr.enterLoop b.fn a.tmps ps assign body none).events P (w.at d) #[]) ++ seen P b.fn #[], ?_, still_app (still_seen (tm_enterLoop _ _ _ _ _) _ _) (by rw [show seen P b.fn #[] = #[] from seen_none P _]; exact D0.nil (w := w) (w' := w)), by rw [hW1]; exact next d w.heap.size _ _ rfl (Lib.hid rfl) (Lib.hid rfl)⟩
  have hstep : stepG P true (G (b.at a (.code (.rangeFunc g ps assign body) :: k)) cs) (w.at d) = GStep.after (seen P b.fn ((Instr.enterLoop b.fn a.tmps ps assign body none).events P (w.at d) #[])) (stepG.apply P true (b.at { a with defers := { target := .collected w.heap.size, args := #[] } :: a.defers } (.inRangeFunc (w.heap.size + 1) :: k)) cs none S W1) := by
    rw [hS0]
    simp only [G, stepG, stepG.exec, Frame.at, Sem.runT_eq, he', List.cons_append, List.nil_append]
  rw [hstep]
  simp [stepG.apply, Sem.runT_eq, hrun, hev, G, Frame.at, hk', GStep.after]

/-- yield is called: a round begins. -/
theorem beside_yield {ops : Array Oper} {i : Nat} {rest : List Nat} {o : Oper} {x : Operand} {args : Array Operand} {ats : Array TypeId} {l : Nat} {r : Loop} {vals : Array Value} (ho : ops[i]? = some o) (hw : Region.wanted o (yielded ops a.tmps) = true) (hk : b.kind ≠ .early)
    (hop : o.op = .call { callee := .value x, args, argTypes := ats }) (hx : a.eval x = .func (.yield l) #[] #[]) (has : args.map a.eval = vals) (hl : w.heap[l]? = some (.loop r)) (hs : vals.size = r.params.size)
    (next : ∀ d, Beside P (G (Frame.round l r.fn ((r.params.zip vals).foldl (fun tmps (t, a) => tmps.setIfInBounds t a) r.tmps) r.assign r.body .normal) (b.at a (.inRegion ops (i :: rest) :: k) :: cs)) (w.at d) Q) :
    Beside P (G (b.at a (.inRegion ops (i :: rest) :: k)) cs) w Q := by
  refine .step rfl fun d => ?_
  subst has
  have hk' : (b.kind == CallKind.early) = false := by simpa using hk
  have hy := run_yield (P := P) (w := w.at d) (args := args.map a.eval) hl hs
  have hS : execOp a.eval o = Instr.yield l (args.map a.eval) := by
    unfold execOp
    simp [hop, resolve, hx, Deferred.ofValue, invoke]
  rw [← hS] at hy
  refine ⟨_, _, seen P b.fn ((execOp a.eval o).events P (w.at d) #[]), ?_, by rw [hS]; exact still_seen (tm_yield _ _) _ _, next d⟩
  rw [stepG_oper ho hw]
  simp only [stepG.apply, Sem.runT_eq, hy, G, Frame.at, hk', GStep.after]
  simp

theorem besideR_begin {l : Nat} {r : Loop} (hb : b.roundOf = some l) (hk : b.kind ≠ .early) (hl : w.heap[l]? = some (.loop r)) (hr : r.state = .ready)
    (next : ∀ d, Beside P (G (b.atR a k) cs) ((w.at d).putObj l (.loop { r with state := .busy })) Q) : Beside P (G (b.atR a (.beginRound :: k)) cs) w Q := by
  refine .step rfl fun d => ?_
  have hk' : (b.kind == CallKind.early) = false := by simpa using hk
  have h1 := run_beginRound (P := P) (w := w.at d) hl hr
  obtain ⟨S, hS⟩ : ∃ S : Sem Next, S = (do b.roundOf.elim (stuck "beginRound: no round") Instr.beginRound; pure .skip) := ⟨_, rfl⟩
  have hrun : S.run P (w.at d) = .ok .skip ((w.at d).putObj l (.loop { r with state := .busy })) := by
    rw [hS, hb]
    simp [h1, Result.andThen]
  have hT : Tame P TT S := by
    rw [hS, hb]
    exact tame_bind (tm_beginRound l) fun _ => tm_pure _
  refine ⟨_, _, seen P b.fn (S.events P (w.at d) #[]), ?_, still_seen hT _ _, next d⟩
  have hstep : stepG P true (G (b.atR a (.beginRound :: k)) cs) (w.at d) = stepG.apply P true (b.atR a (.beginRound :: k)) cs none S (w.at d) := by
    rw [hS]
    simp only [G, stepG, stepG.exec, Frame.atR]
  rw [hstep]
  simp [stepG.apply, Sem.runT_eq, hrun, G, Frame.atR, hk', GStep.after, Frame.finish]

theorem besideR_end {l : Nat} {r : Loop} {c : Frame} (hb : b.roundOf = some l) (hk : b.kind = .normal) (hl : w.heap[l]? = some (.loop r))
    (next : ∀ d, Beside P (G (c.finish (.bool true)) cs) ((w.at d).putObj l (.loop { r with state := .ready, pending := none })) Q) : Beside P (G (b.atR a []) (c :: cs)) w Q := by
  refine .step rfl fun d => ?_
  have h1 := run_endRound (P := P) (w := w.at d) none hl
  refine ⟨_, _, seen P b.fn ((Instr.endRound l none).events P (w.at d) #[]) ++ #[], ?_, still_app (still_seen (tm_endRound _ _) _ _) (D0.nil (w := w) (w' := w)), next d⟩
  simp [G, stepG, stepG.exec, Frame.atR, hb, hk, Sem.runT_eq, h1, doReturn, GStep.after]

theorem beside_endRange {l : Nat} {r : Loop} (hl : w.heap[l]? = some (.loop r)) (hr : r.state ≠ .busy) (hp : r.pending = none)
    (next : ∀ d, Beside P (G (b.at a k) cs) ((w.at d).putObj l (.loop { r with state := .exhausted })) Q) : Beside P (G (b.at a (.endRangeFunc l :: k)) cs) w Q := by
  refine .step rfl fun d => ?_
  have h1 := run_endLoop (P := P) (w := w.at d) hl hr
  refine ⟨_, _, seen P b.fn ((Instr.endLoop l).events P (w.at d) #[]) ++ #[], ?_, still_app (still_seen (tm_endLoop _) _ _) (D0.nil (w := w) (w' := w)), next d⟩
  simp [G, stepG, stepG.exec, Frame.at, Sem.runT_eq, h1, hp, GStep.after]

theorem finish_at_inRangeFunc (b : Frame) (a : Act) (k : List Item) (l : Nat) (v : Value) : (b.at a (.inRangeFunc l :: k)).finish v = b.at a (.endRangeFunc l :: k) := by
  simp [Frame.finish, Frame.at]
theorem zip_one (p : Tmp) (x : Value) (T : Array Value) : ((#[p] : Array Tmp).zip #[x]).foldl (fun tmps (q : Tmp × Value) => tmps.setIfInBounds q.1 q.2) T = T.setIfInBounds p x := by simp
/-- The frame of a round. -/
def bRound (l : Nat) (f : FuncId) : Frame := { (default : Frame) with fn := f, kind := .normal, roundOf := some l }
theorem round_atR (l : Nat) (f : FuncId) (T : Array Value) (x y : Code) : Frame.round l f T x y .normal = (bRound l f).atR ⟨T, []⟩ [.code x, .beginRound, .code y] := by
  simp [Frame.round, Frame.atR, bRound]
/-- The mark among the deferred calls. -/
theorem beside_mark {D : Nat} {k' : List Item} {ds : List Deferred} (hd : a.defers = { target := .collected D, args := #[] } :: ds) (hl : w.heap[D]? = some (.deferred (some [])))
    (next : ∀ d, Beside P (G { b.at { a with defers := ds } k' with mode := .returning } cs) ((w.at d).putObj D (.deferred none)) Q) : Beside P (G { b.at a k' with mode := .returning } cs) w Q := by
  refine .step rfl fun d => ?_
  have h1 := run_takeDeferred (P := P) (w := w.at d) hl
  refine ⟨_, _, seen P b.fn ((Instr.takeDeferred D).events P (w.at d) #[]) ++ #[], ?_, still_app (still_seen (tm_takeDeferred _) _ _) (D0.nil (w := w) (w' := w)), next d⟩
  simp [G, stepG, unwind, Frame.at, hd, Sem.runT_eq, h1, GStep.after]
end
end Go.Proofs.YtagncoahobghpacGreatDoor
