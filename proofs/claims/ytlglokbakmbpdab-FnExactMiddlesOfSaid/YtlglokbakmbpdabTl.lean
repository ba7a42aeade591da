/-
  One step of a goroutine that stands in a plain text: it hangs on the tape only through the answers that it takes, and not on what lies behind the text or below it. No program is named here.
-/
import Derived.Test.YtlglokbakmbpdabTq
import Derived.Conc.Own
import Derived.KernelRfl
namespace Go.Proofs.Ytlglokbakmbpdab
open Go Go.Conc
set_option linter.unusedVariables false
set_option linter.unusedSimpArgs false

def stillA (es : Array Event) : Prop := ∀ e ∈ es, stillE e
def agree (τ τ' : Nat → Question → Nat) (d d' c : Nat) : Prop := ∀ j, j < c → τ' (d' + j) = τ (d + j)

/-- No variable waits for its initialiser, and none has a step of its own. -/
structure NoInit (P : Program) : Prop where
  ahead : P.follows .staticDataAhead = true
  none : ∀ g, P.stepOf g = none

theorem noInit_of {P : Program} (h1 : P.follows .staticDataAhead = true) (h2 : (P.funcs.all fun f => match f.body with | some c => (readies c).isEmpty | none => true) = true) : NoInit P := by
  refine ⟨h1, fun g => ?_⟩
  unfold Program.stepOf
  rw [Array.findIdx?_eq_none_iff]
  intro f hf
  have := (Array.all_eq_true_iff_forall_mem.1 h2) f hf
  cases hb : f.body with
  | none => simp [hb]
  | some c =>
    rw [hb] at this
    have e : readies c = [] := by simpa using this
    simp [hb, e]

theorem early_ends {P : Program} (hP : NoInit P) (fr : Frame) (cs : List Frame) (dy : Option Dying) (g : Nat) (w : World) : ∃ o w' es, early P fr cs dy g w = .ended o w' es := by
  unfold early
  rw [hP.ahead]
  simp only [hP.none]
  exact ⟨_, _, _, rfl⟩

theorem seen_sub {P : Program} {fn : FuncId} {es : Array Event} {e : Event} (h : e ∈ seen P fn es) : e ∈ es := by
  obtain ⟨l⟩ := es
  unfold seen at h
  simp only [List.foldl_toArray', List.size_toArray] at h
  suffices H : ∀ (l : List Event) (a : Bool × Array Event), e ∈ (l.foldl (fun (x : Bool × Array Event) (y : Event) => match x with | (q, kept) => match y.loc with
      | .mark (.extern f) => ((P.funcs[f]?).any (·.norace), kept)
      | _ => (q, if q && !y.sync then kept else kept.push y)) a).2 → e ∈ a.2 ∨ e ∈ l by
    rcases H l _ h with h | h
    · simp at h
    · simpa using h
  intro l
  induction l with
  | nil => intro a h; exact .inl h
  | cons y l ih =>
    intro a h
    rcases ih _ h with h | h
    · obtain ⟨q, kept⟩ := a
      dsimp only at h
      split at h
      · exact .inl h
      · dsimp only at h
        split at h
        · exact .inl h
        · rcases Array.mem_push.1 h with h | h
          · exact .inl h
          · exact .inr (by rw [h]; simp)
    · exact .inr (List.mem_cons_of_mem _ h)

/-- The frame with more to do behind. -/
def addT (fr : Frame) (z : List Item) : Frame := { fr with todo := fr.todo ++ z }

def okItem (P : Program) (ok : FuncId → Bool) : Item → Bool
  | .code c => okC P ok c
  | .inBlock _ => true
  | .inLoop c => okC P ok c
  | .inRegion ops _ => ops.all fun o => okOp P ok o.op
  | _ => false

structure okFr (P : Program) (ok : FuncId → Bool) (fr : Frame) : Prop where
  fn : ∃ f, P.funcs[fr.fn]? = some f ∧ f.results.all tmpR = true
  defers : fr.defers = []
  kind : fr.kind = .normal
  round : fr.roundOf = none
  items : ∀ x ∈ fr.todo, okItem P ok x = true

theorem exitTo_append (id : Nat) (z : List Item) : ∀ (k k' : List Item), exitTo id k = some k' → exitTo id (k ++ z) = some (k' ++ z)
  | [], _, h => by cases h
  | x :: k, k', h => by
    have ih := exitTo_append id z k k'
    cases x <;> simp only [exitTo, List.cons_append] at h ⊢ <;> first | exact ih h | skip
    split at h
    · simp only [Option.some.injEq] at h; subst h; rename_i hh; rw [if_pos hh]
    · rename_i hh; rw [if_neg hh]; exact ih h

theorem exitTo_none (id : Nat) : ∀ (k z : List Item), exitTo id k = none → exitTo id z = none → exitTo id (k ++ z) = none
  | [], z, _, h => h
  | x :: k, z, h, hz => by
    have ih := exitTo_none id k z
    cases x <;> simp only [exitTo, List.cons_append] at h ⊢ <;> first | exact ih h hz | skip
    split at h
    · cases h
    · rename_i hh; rw [if_neg hh]; exact ih h hz

theorem exitTo_mem (id : Nat) : ∀ (k k' : List Item), exitTo id k = some k' → ∀ x ∈ k', x ∈ k
  | [], _, h => by cases h
  | y :: k, k', h => by
    have ih := exitTo_mem id k k'
    cases y <;> simp only [exitTo] at h <;> first | exact fun x hx => List.mem_cons_of_mem _ (ih h x hx) | skip
    split at h
    · simp only [Option.some.injEq] at h; subst h; exact fun x hx => List.mem_cons_of_mem _ hx
    · exact fun x hx => List.mem_cons_of_mem _ (ih h x hx)

/-- What lies behind a piece of text, where it must be seen that the piece is left. -/
def kT : List Item := [.code (.refuse "")]

/-- What one step comes to. -/
inductive Out (P : Program) (ok : FuncId → Bool) (fr : Frame) (τ : Nat → Question → Nat) (d : Nat) (w : World) : Prop
  | go (fr' : Frame) (w' : World) (es : Array Event) (c : Nat) (hf : okFr P ok fr') (hm : fr'.mode = .run ∨ fr'.mode = .returning) (he : stillA es)
      (h : ∀ (z : List Item) (cs : List Frame) (main : Bool) τ' d', agree τ τ' d d' c → stepG P main (G (addT fr z) cs) (reT w τ' d') = .go (G (addT fr' z) cs) (reT w' τ' (d' + c)) es)
  | enter (f : FuncId) (args : Array Value) (w' : World) (es : Array Event) (c : Nat) (hf : ok f = true) (hr : ∃ ops i rest k, fr.todo = .inRegion ops (i :: rest) :: k) (he : stillA es)
      (h : ∀ (z : List Item) (cs : List Frame) (main : Bool) τ' d', agree τ τ' d d' c → stepG P main (G (addT fr z) cs) (reT w τ' d') = .go (G (Frame.enter P f args .normal) (addT fr z :: cs)) (reT w' τ' (d' + c)) es)
  | panic (v : PanicEntry) (c : Nat) (h : ∀ (z : List Item) (cs : List Frame) (main : Bool) τ' d', agree τ τ' d d' c → ∃ w' es, stepG P main (G (addT fr z) cs) (reT w τ' d') = .go (G ((addT fr z).raise [v]) cs) w' es)
  | ended (c : Nat) (h : ∀ (z : List Item), z = [] ∨ z = kT → ∀ (cs : List Frame) (main : Bool) τ' d', agree τ τ' d d' c → ∃ o w' es, stepG P main (G (addT fr z) cs) (reT w τ' d') = .ended o w' es)

theorem addT_at {fr : Frame} (hd : fr.defers = []) (hm : fr.mode = .run) (hr : fr.roundOf = none) (z : List Item) : addT fr z = fr.at ⟨fr.tmps, []⟩ (fr.todo ++ z) := by
  obtain ⟨fn, tmps, todo, defers, mode, kind, round⟩ := fr
  simp only at hd hm hr
  subst hd hm hr
  rfl

/-- The frame, standing elsewhere in its text. -/
def toT (fr : Frame) (t : List Item) : Frame := fr.at ⟨fr.tmps, []⟩ t
theorem addT_toT (fr : Frame) (t z : List Item) : addT (toT fr t) z = fr.at ⟨fr.tmps, []⟩ (t ++ z) := rfl

section
variable {P : Program} {ok : FuncId → Bool} {fr : Frame} {w : World} {τ : Nat → Question → Nat} {d : Nat}

theorem okFr_to (hf : okFr P ok fr) {t : List Item} (ht : ∀ x ∈ t, okItem P ok x = true) : okFr P ok (toT fr t) := ⟨hf.fn, rfl, hf.kind, rfl, ht⟩

theorem Out.move (hf : okFr P ok fr) (hm : fr.mode = .run) {t : List Item} (ht : ∀ x ∈ t, okItem P ok x = true)
    (h : ∀ (z : List Item) (cs : List Frame) (main : Bool) (w : World), stepG P main (G (fr.at ⟨fr.tmps, []⟩ (fr.todo ++ z)) cs) w = .go (G (fr.at ⟨fr.tmps, []⟩ (t ++ z)) cs) w #[]) : Out P ok fr τ d w :=
  .go (toT fr t) w #[] 0 (okFr_to hf ht) (.inl rfl) (by intro e he; simp at he) fun z cs main τ' d' _ => by
    rw [addT_at hf.defers hm hf.round, h, addT_toT]; rfl

theorem Out.stop (hf : okFr P ok fr) (hm : fr.mode = .run)
    (h : ∀ (z : List Item), z = [] ∨ z = kT → ∀ (cs : List Frame) (main : Bool) (w : World), ∃ o w' es, stepG P main (G (fr.at ⟨fr.tmps, []⟩ (fr.todo ++ z)) cs) w = .ended o w' es) : Out P ok fr τ d w :=
  .ended 0 fun z hz cs main τ' d' _ => by rw [addT_at hf.defers hm hf.round]; exact h z hz cs main _

/-- The step of an operation. -/
theorem step_oper (hP : NoInit P) (hok : okFns P ok) (hf : okFr P ok fr) (hm : fr.mode = .run) {ops : Array Oper} {i : Nat} {rest : List Nat} {k : List Item} (ht : fr.todo = .inRegion ops (i :: rest) :: k)
    {o : Oper} (ho : ops[i]? = some o) (hw : Region.wanted o (yielded ops fr.tmps) = true) : Out P ok fr τ d w := by
  have hitems := hf.items
  rw [ht] at hitems
  have hops : okOp P ok o.op = true := by
    have := hitems _ (List.mem_cons_self ..)
    simp only [okItem, Array.all_eq_true_iff_forall_mem] at this
    exact this o (Array.mem_of_getElem? ho)
  have hrest : ∀ x ∈ (.inRegion ops rest :: k : List Item), okItem P ok x = true := by
    intro x hx
    rcases List.mem_cons.1 hx with rfl | hx
    · exact (show okItem P ok (.inRegion ops (i :: rest)) = true from hitems _ (List.mem_cons_self ..))
    · exact hitems x (List.mem_cons_of_mem _ hx)
  obtain ⟨R, es, c, h1, h2, h3⟩ := tame_run (tame_exec hok (ρ := (⟨fr.tmps, []⟩ : Act).eval) (fun _ => rfl) o hops) w τ d #[]
  have hes : stillA es := h1 (by simp)
  have hkind : (fr.kind == CallKind.early) = false := by rw [hf.kind]; rfl
  have key : ∀ (z : List Item) (cs : List Frame) (main : Bool) τ' d', stepG P main (G (addT fr z) cs) (reT w τ' d') =
      stepG.apply P true (fr.at ⟨fr.tmps, []⟩ (.inRegion ops (i :: rest) :: (k ++ z))) cs none (execOp (⟨fr.tmps, []⟩ : Act).eval o) (reT w τ' d') := by
    intro z cs main τ' d'
    rw [addT_at hf.defers hm hf.round, ht]
    exact stepG_oper ho hw
  have fin : ∀ (v : Value) (z : List Item), (fr.at ⟨fr.tmps, []⟩ (.inRegion ops (i :: rest) :: (k ++ z))).finish v = addT (fr.at ((⟨fr.tmps, []⟩ : Act).put o.dst v) (.inRegion ops rest :: k)) z := by
    intro v z
    rw [Frame.finish_at, ho]
    rfl
  have okf : ∀ (v : Value), okFr P ok (fr.at ((⟨fr.tmps, []⟩ : Act).put o.dst v) (.inRegion ops rest :: k)) := by
    intro v
    refine ⟨hf.fn, ?_, hf.kind, rfl, hrest⟩
    cases ho' : o.dst <;> simp [Act.put, Frame.at]
  have hse : stillA (seen P fr.fn es) := fun e he => hes e (seen_sub he)
  cases R with
  | ok nx w' =>
    cases nx <;> first | exact h2.elim | skip
    case value v =>
      refine .go _ w' (seen P fr.fn es) c (okf v) (.inl rfl) hse fun z cs main τ' d' hj => ?_
      have e := h3 τ' d' hj
      rw [key]
      simp only [stepG.apply, e, Rre, if_true]
      have hk' : ((fr.at ⟨fr.tmps, []⟩ (.inRegion ops (i :: rest) :: (k ++ z))).kind == CallKind.early) = false := hkind
      simp only [hk', GStep.after, fin]
      simp [G, Frame.at]
    case skip =>
      refine .go _ w' (seen P fr.fn es) c (okf undef) (.inl rfl) hse fun z cs main τ' d' hj => ?_
      have e := h3 τ' d' hj
      rw [key]
      simp only [stepG.apply, e, Rre, if_true]
      have hk' : ((fr.at ⟨fr.tmps, []⟩ (.inRegion ops (i :: rest) :: (k ++ z))).kind == CallKind.early) = false := hkind
      simp only [hk', GStep.after, fin]
      simp [G, Frame.at]
    case enter f args =>
      refine .enter f args w' (seen P fr.fn es) c h2 ⟨ops, i, rest, k, ht⟩ hse fun z cs main τ' d' hj => ?_
      have e := h3 τ' d' hj
      rw [key]
      simp only [stepG.apply, e, Rre, if_true]
      have hk' : ((fr.at ⟨fr.tmps, []⟩ (.inRegion ops (i :: rest) :: (k ++ z))).kind == CallKind.early) = false := hkind
      simp only [hk', GStep.after]
      rw [addT_at hf.defers hm hf.round, ht]
      simp [G, Frame.at]
  | halt hh w' =>
    cases hh <;> first | exact h2.elim | skip
    case panic v =>
      refine .panic { v, recovered := false } c fun z cs main τ' d' hj => ?_
      have e := h3 τ' d' hj
      refine ⟨reT w' τ' (d' + c), seen P fr.fn es, ?_⟩
      rw [key]
      simp only [stepG.apply, e, Rre, if_true]
      have hk' : ((fr.at ⟨fr.tmps, []⟩ (.inRegion ops (i :: rest) :: (k ++ z))).kind == CallKind.early) = false := hkind
      simp only [hk', GStep.after]
      rw [addT_at hf.defers hm hf.round, ht]
      simp [G, Frame.at]
    case unsupported u =>
      refine .ended c fun z hz cs main τ' d' hj => ?_
      have e := h3 τ' d' hj
      rw [key]
      simp only [stepG.apply, e, Rre, if_true]
      cases u <;> first | exact ⟨_, _, _, rfl⟩ | skip
      rename_i g
      obtain ⟨oo, w2, es2, hh⟩ := early_ends hP (fr.at ⟨fr.tmps, []⟩ (.inRegion ops (i :: rest) :: (k ++ z))) cs none g (reT w' τ' (d' + c))
      simp only [hh, GStep.after]
      exact ⟨_, _, _, rfl⟩
    case stuck s =>
      refine .ended c fun z hz cs main τ' d' hj => ?_
      have e := h3 τ' d' hj
      rw [key]
      simp only [stepG.apply, e, Rre, if_true]
      exact ⟨_, _, _, rfl⟩

theorem step_run (hP : NoInit P) (hok : okFns P ok) (hf : okFr P ok fr) (hm : fr.mode = .run) (hne : fr.todo ≠ []) : Out P ok fr τ d w := by
  cases ht : fr.todo with
  | nil => exact absurd ht hne
  | cons x k =>
    have hitems := hf.items
    rw [ht] at hitems
    have hx := hitems x (List.mem_cons_self ..)
    have hk : ∀ y ∈ k, okItem P ok y = true := fun y hy => hitems y (List.mem_cons_of_mem _ hy)
    have two : ∀ {y1 y2 : Item}, okItem P ok y1 = true → okItem P ok y2 = true → ∀ y ∈ y1 :: y2 :: k, okItem P ok y = true := by
      intro y1 y2 h1 h2 y hy
      rcases List.mem_cons.1 hy with rfl | hy
      · exact h1
      rcases List.mem_cons.1 hy with rfl | hy
      · exact h2
      · exact hk y hy
    have one : ∀ {y1 : Item}, okItem P ok y1 = true → ∀ y ∈ y1 :: k, okItem P ok y = true := by
      intro y1 h1 y hy
      rcases List.mem_cons.1 hy with rfl | hy
      · exact h1
      · exact hk y hy
    cases x <;> first | (cases hx; done) | skip
    case code c =>
      cases c <;> first | (cases hx; done) | skip
      case skip => exact .move hf hm hk fun z cs main w => by rw [ht]; exact stepG_skip
      case ret =>
        refine .go { fr with mode := .returning } w #[] 0 ⟨hf.fn, hf.defers, hf.kind, hf.round, hf.items⟩ (.inr rfl) (by intro e he; simp at he) fun z cs main τ' d' _ => ?_
        rw [addT_at hf.defers hm hf.round, ht]
        obtain ⟨fn, tmps, todo, defers, mode, kind, round⟩ := fr
        have e1 := hf.defers
        have e2 := hf.round
        simp only at e1 e2 hm ht
        subst e1 e2 hm ht
        simp [G, stepG, stepG.exec, Frame.at, addT]
      case seq a b =>
        simp only [okItem, okC, Bool.and_eq_true] at hx
        exact .move hf hm (two (y1 := .code a) (y2 := .code b) hx.1 hx.2) fun z cs main w => by rw [ht]; exact stepG_seq
      case cond c a b =>
        simp only [okItem, okC, Bool.and_eq_true] at hx
        by_cases hb : ∃ t, (⟨fr.tmps, []⟩ : Act).eval c = .bool t
        · obtain ⟨t, hb⟩ := hb
          exact .move hf hm (one (y1 := .code (if t then a else b)) (by cases t <;> first | exact hx.2 | exact hx.1)) fun z cs main w => by rw [ht]; exact stepG_cond hb
        · refine .stop hf hm fun z hz cs main w => ?_
          rw [ht]
          have h' : (fr.at ⟨fr.tmps, []⟩ (.code (.cond c a b) :: (k ++ z))).eval c = (⟨fr.tmps, []⟩ : Act).eval c := Frame.eval_at _ _ _ _
          simp only [Frame.at] at h'
          cases hv : (⟨fr.tmps, []⟩ : Act).eval c
          case bool t => exact absurd ⟨t, hv⟩ hb
          all_goals
            rw [hv] at h'
            exact ⟨_, _, _, by simp [G, stepG, stepG.exec, Frame.at, h']; exact ⟨rfl, rfl, rfl⟩⟩
      case block id c => exact .move hf hm (two (y1 := .code c) (y2 := .inBlock id) hx rfl) fun z cs main w => by rw [ht]; exact stepG_block
      case loop c => exact .move hf hm (two (y1 := .code c) (y2 := .inLoop c) hx hx) fun z cs main w => by rw [ht]; exact stepG_loop
      case exit id =>
        cases he : exitTo id k with
        | some k' => exact .move hf hm (fun y hy => hk y (exitTo_mem id k k' he y hy)) fun z cs main w => by rw [ht]; exact stepG_exit (exitTo_append id z k k' he)
        | none =>
          refine .stop hf hm fun z hz cs main w => ?_
          have he' : exitTo id (k ++ z) = none := exitTo_none id k z he (by rcases hz with rfl | rfl <;> rfl)
          rw [ht]
          exact ⟨_, _, _, by simp [G, stepG, stepG.exec, Frame.at, he']; exact ⟨rfl, rfl, rfl⟩⟩
      case region id ops draw =>
        cases draw with
        | false => exact .move hf hm (one (y1 := .inRegion ops (List.range ops.size)) hx) fun z cs main w => by rw [ht]; exact stepG_region
        | true =>
          refine .go (toT fr (.inRegion ops (Region.schedule (P.follows .mixedOrders) ops (τ d (.order fr.fn id))) :: k)) w #[] 1 (okFr_to hf (one hx)) (.inl rfl) (by intro e he; simp at he) fun z cs main τ' d' hj => ?_
          have e0 : τ' d' = τ d := by have := hj 0 (by omega); simpa using this
          rw [addT_at hf.defers hm hf.round, ht, addT_toT]
          simp [G, stepG, stepG.exec, Frame.at, choose, Sem.run, Question.forced, Question.cut, reT, e0]
    case inBlock id => exact .move hf hm hk fun z cs main w => by rw [ht]; exact stepG_inBlock
    case inLoop c => exact .move hf hm (two (y1 := .code c) (y2 := .inLoop c) hx hx) fun z cs main w => by rw [ht]; exact stepG_inLoop
    case inRegion ops l =>
      cases l with
      | nil => exact .move hf hm hk fun z cs main w => by rw [ht]; exact stepG_region_end
      | cons i rest =>
        cases ho : ops[i]? with
        | none =>
          refine .move (t := .inRegion ops rest :: k) hf hm (one (y1 := .inRegion ops rest) hx) fun z cs main w => ?_
          rw [ht]
          simp [G, stepG, stepG.exec, Frame.at, ho, Frame.finish]
        | some o =>
          by_cases hw : Region.wanted o (yielded ops fr.tmps) = true
          · exact step_oper hP hok hf hm ht ho hw
          · have hw' : Region.wanted o (yielded ops fr.tmps) = false := by simpa using hw
            refine .go (fr.at ((⟨fr.tmps, []⟩ : Act).put o.dst undef) (.inRegion ops rest :: k)) w #[] 0 ⟨hf.fn, ?_, hf.kind, rfl, one (y1 := .inRegion ops rest) hx⟩ (.inl rfl) (by intro e he; simp at he) fun z cs main τ' d' _ => ?_
            · cases ho' : o.dst <;> simp [Act.put, Frame.at]
            rw [addT_at hf.defers hm hf.round, ht]
            have hfin : (fr.at ⟨fr.tmps, []⟩ (.inRegion ops (i :: rest) :: (k ++ z))).finish undef = addT (fr.at ((⟨fr.tmps, []⟩ : Act).put o.dst undef) (.inRegion ops rest :: k)) z := by
              rw [Frame.finish_at, ho]; rfl
            have e : stepG P main (G (fr.at ⟨fr.tmps, []⟩ (.inRegion ops (i :: rest) :: (k ++ z))) cs) (reT w τ' d') = .go (G ((fr.at ⟨fr.tmps, []⟩ (.inRegion ops (i :: rest) :: (k ++ z))).finish undef) cs) (reT w τ' d') #[] := by
              simp [G, stepG, stepG.exec, Frame.at, ho, hw']
            rw [hfin] at e
            exact e

end
end Go.Proofs.Ytlglokbakmbpdab
