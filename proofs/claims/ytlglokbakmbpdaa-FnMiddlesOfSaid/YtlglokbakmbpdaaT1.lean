/-
  Tl: One step of a goroutine that stands in a plain text: it hangs on the tape only through the answers that it takes, and not on what lies behind the text or below it. No program is named here.
  Tk: A run of a plain text alone, on every tape, is a walk that the answers of no tape can turn aside ('Ahead'). No program is named here.
  Tj: From runs alone on every tape to the walk that no tape turns aside. No program is named here.
  Th: A plain text beside goroutines that only leave: its lone contract, carried out by the machine of many on whatever schedule. No program is named here.
  Tr: The trace of a sender (goroutine m) and a receiver (goroutine 0) over a channel, beside goroutines that only leave. No program is named here.
  Tc: A sender and a ranging receiver over a channel with a buffer, at which either may sleep, beside goroutines that only leave: on whatever schedule the receiver comes to its end, and the sender only leaves. No program is named here.
  Td: The run of a sender and a receiver over a channel with a buffer. No program is named here.
  Tn: Goroutine 0 beside leavers: a walk by steps that list nothing but what is still, and the go statement behind which both talk over a channel with a buffer. No program is named here.
  Tg: A text is walked beside leavers piece by piece: a plain piece by its lone walk, a plain function by its lone contract, a function that starts goroutines by a contract of its own. No program is named here.
  Te: From a contract in company to one good run from the start. No program is named here.
  Tf: From a lone contract to one good run of a row that bears 'leaving'. No program is named here.
  Ow: What an operation that calls no Go function lists is still. No program is named here.
  (Merged by merge.py.)
-/
import Derived.Test.YtlglokbakmbpdaaTq
import Derived.Conc.Own
import Derived.KernelRfl
import Derived.Conc.CrowdComm
import Derived.Conc.Own4
import Derived.Conc.CompanyCalls
import Derived.Conc.LeavingOf
import Derived.Conc.Beside
import Derived.LoneHanded
namespace Go.Proofs.Ytlglokbakmbpdaa
open Go Go.Conc
set_option linter.unusedVariables false
set_option linter.unusedSimpArgs false

def stillA (es : Array Event) : Prop := ∀ e ∈ es, stillE e
def agree (τ τ' : Nat → Question → Nat) (d d' c : Nat) : Prop := ∀ j, j < c → τ' (d' + j) = τ (d + j)

/-- No variable waits for its initialiser, and none has a step of its own. -/
structure NoInit (P : Program) : Prop where
  ahead : P.follows .staticDataAhead = true
  none : ∀ g, P.stepOf g = none

theorem noInit_of {P : Program} (h1 : P.follows .staticDataAhead = true) (h2 : (P.funcs.all fun f => match f.body with | some c => (readies c).isEmpty | none => true) = true) : NoInit P := by
  refine ⟨h1, fun g => ?_⟩
  unfold Program.stepOf
  rw [Array.findIdx?_eq_none_iff]
  intro f hf
  have := (Array.all_eq_true_iff_forall_mem.1 h2) f hf
  cases hb : f.body with
  | none => simp [hb]
  | some c =>
    rw [hb] at this
    have e : readies c = [] := by simpa using this
    simp [hb, e]

theorem early_ends {P : Program} (hP : NoInit P) (fr : Frame) (cs : List Frame) (dy : Option Dying) (g : Nat) (w : World) : ∃ o w' es, early P fr cs dy g w = .ended o w' es := by
  unfold early
  rw [hP.ahead]
  simp only [hP.none]
  exact ⟨_, _, _, rfl⟩

theorem seen_sub {P : Program} {fn : FuncId} {es : Array Event} {e : Event} (h : e ∈ seen P fn es) : e ∈ es := by
  obtain ⟨l⟩ := es
  unfold seen at h
  simp only [List.foldl_toArray', List.size_toArray] at h
  suffices H : ∀ (l : List Event) (a : Bool × Array Event), e ∈ (l.foldl (fun (x : Bool × Array Event) (y : Event) => match x with | (q, kept) => match y.loc with
      | .mark (.extern f) => ((P.funcs[f]?).any (·.norace), kept)
      | _ => (q, if q && !y.sync then kept else kept.push y)) a).2 → e ∈ a.2 ∨ e ∈ l by
    rcases H l _ h with h | h
    · simp at h
    · simpa using h
  intro l
  induction l with
  | nil => intro a h; exact .inl h
  | cons y l ih =>
    intro a h
    rcases ih _ h with h | h
    · obtain ⟨q, kept⟩ := a
      dsimp only at h
      split at h
      · exact .inl h
      · dsimp only at h
        split at h
        · exact .inl h
        · rcases Array.mem_push.1 h with h | h
          · exact .inl h
          · exact .inr (by rw [h]; simp)
    · exact .inr (List.mem_cons_of_mem _ h)

/-- The frame with more to do behind. -/
def addT (fr : Frame) (z : List Item) : Frame := { fr with todo := fr.todo ++ z }

def okItem (P : Program) (ok : FuncId → Bool) : Item → Bool
  | .code c => okC P ok c
  | .inBlock _ => true
  | .inLoop c => okC P ok c
  | .inRegion ops _ => ops.all fun o => okOp P ok o.op
  | _ => false

structure okFr (P : Program) (ok : FuncId → Bool) (fr : Frame) : Prop where
  fn : ∃ f, P.funcs[fr.fn]? = some f
  defers : fr.defers = []
  kind : fr.kind = .normal
  round : fr.roundOf = none
  items : ∀ x ∈ fr.todo, okItem P ok x = true

theorem exitTo_append (id : Nat) (z : List Item) : ∀ (k k' : List Item), exitTo id k = some k' → exitTo id (k ++ z) = some (k' ++ z)
  | [], _, h => by cases h
  | x :: k, k', h => by
    have ih := exitTo_append id z k k'
    cases x <;> simp only [exitTo, List.cons_append] at h ⊢ <;> first | exact ih h | skip
    split at h
    · simp only [Option.some.injEq] at h; subst h; rename_i hh; rw [if_pos hh]
    · rename_i hh; rw [if_neg hh]; exact ih h

theorem exitTo_none (id : Nat) : ∀ (k z : List Item), exitTo id k = none → exitTo id z = none → exitTo id (k ++ z) = none
  | [], z, _, h => h
  | x :: k, z, h, hz => by
    have ih := exitTo_none id k z
    cases x <;> simp only [exitTo, List.cons_append] at h ⊢ <;> first | exact ih h hz | skip
    split at h
    · cases h
    · rename_i hh; rw [if_neg hh]; exact ih h hz

theorem exitTo_mem (id : Nat) : ∀ (k k' : List Item), exitTo id k = some k' → ∀ x ∈ k', x ∈ k
  | [], _, h => by cases h
  | y :: k, k', h => by
    have ih := exitTo_mem id k k'
    cases y <;> simp only [exitTo] at h <;> first | exact fun x hx => List.mem_cons_of_mem _ (ih h x hx) | skip
    split at h
    · simp only [Option.some.injEq] at h; subst h; exact fun x hx => List.mem_cons_of_mem _ hx
    · exact fun x hx => List.mem_cons_of_mem _ (ih h x hx)

/-- What lies behind a piece of text, where it must be seen that the piece is left. -/
def kT : List Item := [.code (.refuse "")]

/-- What one step comes to. -/
inductive Out (P : Program) (ok : FuncId → Bool) (fr : Frame) (τ : Nat → Question → Nat) (d : Nat) (w : World) : Prop
  | go (fr' : Frame) (w' : World) (es : Array Event) (c : Nat) (hf : okFr P ok fr') (hm : fr'.mode = .run ∨ fr'.mode = .returning) (he : stillA es)
      (h : ∀ (z : List Item) (cs : List Frame) (main : Bool) τ' d', agree τ τ' d d' c → stepG P main (G (addT fr z) cs) (reT w τ' d') = .go (G (addT fr' z) cs) (reT w' τ' (d' + c)) es)
  | enter (f : FuncId) (args : Array Value) (w' : World) (es : Array Event) (c : Nat) (hf : ok f = true) (hr : ∃ ops i rest k, fr.todo = .inRegion ops (i :: rest) :: k) (he : stillA es)
      (h : ∀ (z : List Item) (cs : List Frame) (main : Bool) τ' d', agree τ τ' d d' c → stepG P main (G (addT fr z) cs) (reT w τ' d') = .go (G (Frame.enter P f args .normal) (addT fr z :: cs)) (reT w' τ' (d' + c)) es)
  | panic (v : PanicEntry) (c : Nat) (h : ∀ (z : List Item) (cs : List Frame) (main : Bool) τ' d', agree τ τ' d d' c → ∃ w' es, stepG P main (G (addT fr z) cs) (reT w τ' d') = .go (G ((addT fr z).raise [v]) cs) w' es)
  | ended (c : Nat) (h : ∀ (z : List Item), z = [] ∨ z = kT → ∀ (cs : List Frame) (main : Bool) τ' d', agree τ τ' d d' c → ∃ o w' es, stepG P main (G (addT fr z) cs) (reT w τ' d') = .ended o w' es)

theorem addT_at {fr : Frame} (hd : fr.defers = []) (hm : fr.mode = .run) (hr : fr.roundOf = none) (z : List Item) : addT fr z = fr.at ⟨fr.tmps, []⟩ (fr.todo ++ z) := by
  obtain ⟨fn, tmps, todo, defers, mode, kind, round⟩ := fr
  simp only at hd hm hr
  subst hd hm hr
  rfl

/-- The frame, standing elsewhere in its text. -/
def toT (fr : Frame) (t : List Item) : Frame := fr.at ⟨fr.tmps, []⟩ t
theorem addT_toT (fr : Frame) (t z : List Item) : addT (toT fr t) z = fr.at ⟨fr.tmps, []⟩ (t ++ z) := rfl

section
variable {P : Program} {ok : FuncId → Bool} {fr : Frame} {w : World} {τ : Nat → Question → Nat} {d : Nat}

theorem okFr_to (hf : okFr P ok fr) {t : List Item} (ht : ∀ x ∈ t, okItem P ok x = true) : okFr P ok (toT fr t) := ⟨hf.fn, rfl, hf.kind, rfl, ht⟩

theorem Out.move (hf : okFr P ok fr) (hm : fr.mode = .run) {t : List Item} (ht : ∀ x ∈ t, okItem P ok x = true)
    (h : ∀ (z : List Item) (cs : List Frame) (main : Bool) (w : World), stepG P main (G (fr.at ⟨fr.tmps, []⟩ (fr.todo ++ z)) cs) w = .go (G (fr.at ⟨fr.tmps, []⟩ (t ++ z)) cs) w #[]) : Out P ok fr τ d w :=
  .go (toT fr t) w #[] 0 (okFr_to hf ht) (.inl rfl) (by intro e he; simp at he) fun z cs main τ' d' _ => by
    rw [addT_at hf.defers hm hf.round, h, addT_toT]; rfl

theorem Out.stop (hf : okFr P ok fr) (hm : fr.mode = .run)
    (h : ∀ (z : List Item), z = [] ∨ z = kT → ∀ (cs : List Frame) (main : Bool) (w : World), ∃ o w' es, stepG P main (G (fr.at ⟨fr.tmps, []⟩ (fr.todo ++ z)) cs) w = .ended o w' es) : Out P ok fr τ d w :=
  .ended 0 fun z hz cs main τ' d' _ => by rw [addT_at hf.defers hm hf.round]; exact h z hz cs main _

/-- The step of an operation. -/
theorem step_oper (hP : NoInit P) (hok : okFns P ok) (hf : okFr P ok fr) (hm : fr.mode = .run) {ops : Array Oper} {i : Nat} {rest : List Nat} {k : List Item} (ht : fr.todo = .inRegion ops (i :: rest) :: k)
    {o : Oper} (ho : ops[i]? = some o) (hw : Region.wanted o (yielded ops fr.tmps) = true) : Out P ok fr τ d w := by
  have hitems := hf.items
  rw [ht] at hitems
  have hops : okOp P ok o.op = true := by
    have := hitems _ (List.mem_cons_self ..)
    simp only [okItem, Array.all_eq_true_iff_forall_mem] at this
    exact this o (Array.mem_of_getElem? ho)
  have hrest : ∀ x ∈ (.inRegion ops rest :: k : List Item), okItem P ok x = true := by
    intro x hx
    rcases List.mem_cons.1 hx with rfl | hx
    · exact (show okItem P ok (.inRegion ops (i :: rest)) = true from hitems _ (List.mem_cons_self ..))
    · exact hitems x (List.mem_cons_of_mem _ hx)
  obtain ⟨R, es, c, h1, h2, h3⟩ := tame_run (tame_exec hok (ρ := (⟨fr.tmps, []⟩ : Act).eval) (fun _ => rfl) o hops) w τ d #[]
  have hes : stillA es := h1 (by simp)
  have hkind : (fr.kind == CallKind.early) = false := by rw [hf.kind]; rfl
  have key : ∀ (z : List Item) (cs : List Frame) (main : Bool) τ' d', stepG P main (G (addT fr z) cs) (reT w τ' d') =
      stepG.apply P true (fr.at ⟨fr.tmps, []⟩ (.inRegion ops (i :: rest) :: (k ++ z))) cs none (execOp (⟨fr.tmps, []⟩ : Act).eval o) (reT w τ' d') := by
    intro z cs main τ' d'
    rw [addT_at hf.defers hm hf.round, ht]
    exact stepG_oper ho hw
  have fin : ∀ (v : Value) (z : List Item), (fr.at ⟨fr.tmps, []⟩ (.inRegion ops (i :: rest) :: (k ++ z))).finish v = addT (fr.at ((⟨fr.tmps, []⟩ : Act).put o.dst v) (.inRegion ops rest :: k)) z := by
    intro v z
    rw [Frame.finish_at, ho]
    rfl
  have okf : ∀ (v : Value), okFr P ok (fr.at ((⟨fr.tmps, []⟩ : Act).put o.dst v) (.inRegion ops rest :: k)) := by
    intro v
    refine ⟨hf.fn, ?_, hf.kind, rfl, hrest⟩
    cases ho' : o.dst <;> simp [Act.put, Frame.at]
  have hse : stillA (seen P fr.fn es) := fun e he => hes e (seen_sub he)
  cases R with
  | ok nx w' =>
    cases nx <;> first | exact h2.elim | skip
    case value v =>
      refine .go _ w' (seen P fr.fn es) c (okf v) (.inl rfl) hse fun z cs main τ' d' hj => ?_
      have e := h3 τ' d' hj
      rw [key]
      simp only [stepG.apply, e, Rre, if_true]
      have hk' : ((fr.at ⟨fr.tmps, []⟩ (.inRegion ops (i :: rest) :: (k ++ z))).kind == CallKind.early) = false := hkind
      simp only [hk', GStep.after, fin]
      simp [G, Frame.at]
    case skip =>
      refine .go _ w' (seen P fr.fn es) c (okf undef) (.inl rfl) hse fun z cs main τ' d' hj => ?_
      have e := h3 τ' d' hj
      rw [key]
      simp only [stepG.apply, e, Rre, if_true]
      have hk' : ((fr.at ⟨fr.tmps, []⟩ (.inRegion ops (i :: rest) :: (k ++ z))).kind == CallKind.early) = false := hkind
      simp only [hk', GStep.after, fin]
      simp [G, Frame.at]
    case enter f args =>
      refine .enter f args w' (seen P fr.fn es) c h2 ⟨ops, i, rest, k, ht⟩ hse fun z cs main τ' d' hj => ?_
      have e := h3 τ' d' hj
      rw [key]
      simp only [stepG.apply, e, Rre, if_true]
      have hk' : ((fr.at ⟨fr.tmps, []⟩ (.inRegion ops (i :: rest) :: (k ++ z))).kind == CallKind.early) = false := hkind
      simp only [hk', GStep.after]
      rw [addT_at hf.defers hm hf.round, ht]
      simp [G, Frame.at]
  | halt hh w' =>
    cases hh <;> first | exact h2.elim | skip
    case panic v =>
      refine .panic { v, recovered := false } c fun z cs main τ' d' hj => ?_
      have e := h3 τ' d' hj
      refine ⟨reT w' τ' (d' + c), seen P fr.fn es, ?_⟩
      rw [key]
      simp only [stepG.apply, e, Rre, if_true]
      have hk' : ((fr.at ⟨fr.tmps, []⟩ (.inRegion ops (i :: rest) :: (k ++ z))).kind == CallKind.early) = false := hkind
      simp only [hk', GStep.after]
      rw [addT_at hf.defers hm hf.round, ht]
      simp [G, Frame.at]
    case unsupported u =>
      refine .ended c fun z hz cs main τ' d' hj => ?_
      have e := h3 τ' d' hj
      rw [key]
      simp only [stepG.apply, e, Rre, if_true]
      cases u <;> first | exact ⟨_, _, _, rfl⟩ | skip
      rename_i g
      obtain ⟨oo, w2, es2, hh⟩ := early_ends hP (fr.at ⟨fr.tmps, []⟩ (.inRegion ops (i :: rest) :: (k ++ z))) cs none g (reT w' τ' (d' + c))
      simp only [hh, GStep.after]
      exact ⟨_, _, _, rfl⟩
    case stuck s =>
      refine .ended c fun z hz cs main τ' d' hj => ?_
      have e := h3 τ' d' hj
      rw [key]
      simp only [stepG.apply, e, Rre, if_true]
      exact ⟨_, _, _, rfl⟩

theorem step_run (hP : NoInit P) (hok : okFns P ok) (hf : okFr P ok fr) (hm : fr.mode = .run) (hne : fr.todo ≠ []) : Out P ok fr τ d w := by
  cases ht : fr.todo with
  | nil => exact absurd ht hne
  | cons x k =>
    have hitems := hf.items
    rw [ht] at hitems
    have hx := hitems x (List.mem_cons_self ..)
    have hk : ∀ y ∈ k, okItem P ok y = true := fun y hy => hitems y (List.mem_cons_of_mem _ hy)
    have two : ∀ {y1 y2 : Item}, okItem P ok y1 = true → okItem P ok y2 = true → ∀ y ∈ y1 :: y2 :: k, okItem P ok y = true := by
      intro y1 y2 h1 h2 y hy
      rcases List.mem_cons.1 hy with rfl | hy
      · exact h1
      rcases List.mem_cons.1 hy with rfl | hy
      · exact h2
      · exact hk y hy
    have one : ∀ {y1 : Item}, okItem P ok y1 = true → ∀ y ∈ y1 :: k, okItem P ok y = true := by
      intro y1 h1 y hy
      rcases List.mem_cons.1 hy with rfl | hy
      · exact h1
      · exact hk y hy
    cases x <;> first | (cases hx; done) | skip
    case code c =>
      cases c <;> first | (cases hx; done) | skip
      case skip => exact .move hf hm hk fun z cs main w => by rw [ht]; exact stepG_skip
      case ret =>
        refine .go { fr with mode := .returning } w #[] 0 ⟨hf.fn, hf.defers, hf.kind, hf.round, hf.items⟩ (.inr rfl) (by intro e he; simp at he) fun z cs main τ' d' _ => ?_
        rw [addT_at hf.defers hm hf.round, ht]
        obtain ⟨fn, tmps, todo, defers, mode, kind, round⟩ := fr
        have e1 := hf.defers
        have e2 := hf.round
        simp only at e1 e2 hm ht
        subst e1 e2 hm ht
        simp [G, stepG, stepG.exec, Frame.at, addT]
      case seq a b =>
        simp only [okItem, okC, Bool.and_eq_true] at hx
        exact .move hf hm (two (y1 := .code a) (y2 := .code b) hx.1 hx.2) fun z cs main w => by rw [ht]; exact stepG_seq
      case cond c a b =>
        simp only [okItem, okC, Bool.and_eq_true] at hx
        by_cases hb : ∃ t, (⟨fr.tmps, []⟩ : Act).eval c = .bool t
        · obtain ⟨t, hb⟩ := hb
          exact .move hf hm (one (y1 := .code (if t then a else b)) (by cases t <;> first | exact hx.2 | exact hx.1)) fun z cs main w => by rw [ht]; exact stepG_cond hb
        · refine .stop hf hm fun z hz cs main w => ?_
          rw [ht]
          have h' : (fr.at ⟨fr.tmps, []⟩ (.code (.cond c a b) :: (k ++ z))).eval c = (⟨fr.tmps, []⟩ : Act).eval c := Frame.eval_at _ _ _ _
          simp only [Frame.at] at h'
          cases hv : (⟨fr.tmps, []⟩ : Act).eval c
          case bool t => exact absurd ⟨t, hv⟩ hb
          all_goals
            rw [hv] at h'
            exact ⟨_, _, _, by simp [G, stepG, stepG.exec, Frame.at, h']; exact ⟨rfl, rfl, rfl⟩⟩
      case block id c => exact .move hf hm (two (y1 := .code c) (y2 := .inBlock id) hx rfl) fun z cs main w => by rw [ht]; exact stepG_block
      case loop c => exact .move hf hm (two (y1 := .code c) (y2 := .inLoop c) hx hx) fun z cs main w => by rw [ht]; exact stepG_loop
      case exit id =>
        cases he : exitTo id k with
        | some k' => exact .move hf hm (fun y hy => hk y (exitTo_mem id k k' he y hy)) fun z cs main w => by rw [ht]; exact stepG_exit (exitTo_append id z k k' he)
        | none =>
          refine .stop hf hm fun z hz cs main w => ?_
          have he' : exitTo id (k ++ z) = none := exitTo_none id k z he (by rcases hz with rfl | rfl <;> rfl)
          rw [ht]
          exact ⟨_, _, _, by simp [G, stepG, stepG.exec, Frame.at, he']; exact ⟨rfl, rfl, rfl⟩⟩
      case refuse why =>
        refine .stop hf hm fun z hz cs main w => ?_
        rw [ht]
        exact ⟨_, _, _, by simp [G, stepG, stepG.exec, Frame.at]; exact ⟨rfl, rfl, rfl⟩⟩
      case region id ops draw =>
        cases draw with
        | false => exact .move hf hm (one (y1 := .inRegion ops (List.range ops.size)) hx) fun z cs main w => by rw [ht]; exact stepG_region
        | true =>
          refine .go (toT fr (.inRegion ops (Region.schedule (P.follows .mixedOrders) ops (τ d (.order fr.fn id))) :: k)) w #[] 1 (okFr_to hf (one hx)) (.inl rfl) (by intro e he; simp at he) fun z cs main τ' d' hj => ?_
          have e0 : τ' d' = τ d := by have := hj 0 (by omega); simpa using this
          rw [addT_at hf.defers hm hf.round, ht, addT_toT]
          simp [G, stepG, stepG.exec, Frame.at, choose, Sem.run, Question.forced, Question.cut, reT, e0]
    case inBlock id => exact .move hf hm hk fun z cs main w => by rw [ht]; exact stepG_inBlock
    case inLoop c => exact .move hf hm (two (y1 := .code c) (y2 := .inLoop c) hx hx) fun z cs main w => by rw [ht]; exact stepG_inLoop
    case inRegion ops l =>
      cases l with
      | nil => exact .move hf hm hk fun z cs main w => by rw [ht]; exact stepG_region_end
      | cons i rest =>
        cases ho : ops[i]? with
        | none =>
          refine .move (t := .inRegion ops rest :: k) hf hm (one (y1 := .inRegion ops rest) hx) fun z cs main w => ?_
          rw [ht]
          simp [G, stepG, stepG.exec, Frame.at, ho, Frame.finish]
        | some o =>
          by_cases hw : Region.wanted o (yielded ops fr.tmps) = true
          · exact step_oper hP hok hf hm ht ho hw
          · have hw' : Region.wanted o (yielded ops fr.tmps) = false := by simpa using hw
            refine .go (fr.at ((⟨fr.tmps, []⟩ : Act).put o.dst undef) (.inRegion ops rest :: k)) w #[] 0 ⟨hf.fn, ?_, hf.kind, rfl, one (y1 := .inRegion ops rest) hx⟩ (.inl rfl) (by intro e he; simp at he) fun z cs main τ' d' _ => ?_
            · cases ho' : o.dst <;> simp [Act.put, Frame.at]
            rw [addT_at hf.defers hm hf.round, ht]
            have hfin : (fr.at ⟨fr.tmps, []⟩ (.inRegion ops (i :: rest) :: (k ++ z))).finish undef = addT (fr.at ((⟨fr.tmps, []⟩ : Act).put o.dst undef) (.inRegion ops rest :: k)) z := by
              rw [Frame.finish_at, ho]; rfl
            have e : stepG P main (G (fr.at ⟨fr.tmps, []⟩ (.inRegion ops (i :: rest) :: (k ++ z))) cs) (reT w τ' d') = .go (G ((fr.at ⟨fr.tmps, []⟩ (.inRegion ops (i :: rest) :: (k ++ z))).finish undef) cs) (reT w τ' d') #[] := by
              simp [G, stepG, stepG.exec, Frame.at, ho, hw']
            rw [hfin] at e
            exact e

end
end Go.Proofs.Ytlglokbakmbpdaa

namespace Go.Proofs.Ytlglokbakmbpdaa
open Go Go.Conc
set_option linter.unusedVariables false
set_option linter.unusedSimpArgs false

/-- The frames, the last one with more to do behind. -/
def plug (z : List Item) : List Frame → List Frame
  | [] => []
  | [fr] => [addT fr z]
  | fr :: r => fr :: plug z r

theorem plug_cons2 (z : List Item) (fr fr2 : Frame) (r : List Frame) : plug z (fr :: fr2 :: r) = fr :: plug z (fr2 :: r) := rfl

/-- The goroutine with these frames, and those below. -/
def GL : List Frame → List Frame → Goroutine
  | fr :: r, cs => G fr (r ++ cs)
  | [], cs => G default cs

/-- A frame that waits for a callee. -/
def waits (fr : Frame) : Prop := fr.mode = .run ∧ ∃ ops i rest k, fr.todo = .inRegion ops (i :: rest) :: k

def okTail (P : Program) (ok : FuncId → Bool) (r : List Frame) : Prop := ∀ fr ∈ r, okFr P ok fr ∧ waits fr

def okS (P : Program) (ok : FuncId → Bool) : List Frame → Prop
  | [] => False
  | fr :: r => okFr P ok fr ∧ (fr.mode = .run ∨ fr.mode = .returning) ∧ okTail P ok r

/-- The last frame stands at its end, or leaves. -/
def done (z0 : List Item) (fr : Frame) : Prop := fr.mode = .returning ∨ (z0 = kT ∧ fr.mode = .run ∧ fr.todo = [])
def final (z0 : List Item) (l : List Frame) : Prop := ∃ fr, l = [fr] ∧ done z0 fr
/-- What may lie behind: nothing behind a whole function, anything behind a piece of text. -/
def fits (z0 z : List Item) : Prop := z0 = [] → z = []
theorem fits_self (z0 : List Item) : fits z0 z0 := id

def trap (P : Program) : Frame := { fn := P.funcs.size, tmps := #[undef], todo := [.call default false "fmt's door" #[]], defers := [], mode := .run, kind := .normal }

theorem mapM_pureL {α β : Type} (f : α → Sem β) (g : α → β) : ∀ (l : List α), (∀ x ∈ l, f x = pure (g x)) → l.mapM f = (pure (l.map g) : Sem (List β))
  | [], _ => rfl
  | x :: l, h => by
    rw [List.mapM_cons, h x (List.mem_cons_self ..), mapM_pureL f g l fun y hy => h y (List.mem_cons_of_mem _ hy)]
    simp

theorem mapM_pureA {α β : Type} (f : α → Sem β) (g : α → β) (xs : Array α) (h : ∀ x ∈ xs, f x = pure (g x)) : xs.mapM f = (pure (xs.map g) : Sem (Array β)) := by
  rw [Array.mapM_eq_mapM_toList, mapM_pureL f g _ fun x hx => h x (by simpa using hx)]
  obtain ⟨l⟩ := xs
  simp

theorem results_tmp {P : Program} {fn : Func} (h : fn.results.all tmpR = true) (tmps : Array Value) : ∃ v, results fn tmps = (pure v : Sem Value) := by
  have key := fun f => mapM_pureA f (fun x => match x with | ResultVar.tmp t => tmps.getD t undef | .cell _ _ => undef) fn.results
  unfold results
  rw [key]
  · exact ⟨_, rfl⟩
  · intro x hx
    have := Array.all_eq_true_iff_forall_mem.1 h x hx
    cases x with
    | tmp t => rfl
    | cell a t => cases this

theorem tm_results {P : Program} (fn : Func) (tmps : Array Value) : Tame P TT (results fn tmps) := by
  unfold results
  refine tame_bind (tame_mapA (fun x => ?_) _) fun vs => trivial
  cases x with
  | tmp t => exact tm_pure _
  | cell a t => exact tame_bind (tm_asAddr _) fun _ => tm_loadVar _ _

/-- What is told hangs on the heap alone. -/
theorem results_re {P : Program} {fn : Func} {tmps : Array Value} {w : World} {v : Value} {τ : Nat → Question → Nat} {d : Nat} (h : (results fn tmps).run P (reT w τ d) = .ok v (reT w τ d)) (τ' : Nat → Question → Nat) (d' : Nat) : (results fn tmps).run P (reT w τ' d') = .ok v (reT w τ' d') := by
  obtain ⟨R, es, c, h1, h2, h3⟩ := tame_run (tm_results (P := P) fn tmps) w τ d #[]
  have e1 := h3 τ d (fun _ _ => rfl)
  rw [Sem.runT_eq] at e1
  have f1 := congrArg Prod.fst e1
  simp only [h] at f1
  cases R with
  | halt hh w2 => cases f1
  | ok a w2 =>
    simp only [Rre, Result.ok.injEq] at f1
    obtain ⟨rfl, f2⟩ := f1
    have ec : d = d + c := congrArg (fun q : World => q.drawn) f2
    obtain rfl : c = 0 := by omega
    have e2 := h3 τ' d' (fun j hj => by omega)
    rw [Sem.runT_eq] at e2
    have g2 := congrArg Prod.fst e2
    simp only [Rre] at g2
    have e3 : reT w2 τ' (d' + 0) = reT w τ' d' := by
      have : reT w τ' d' = reT (reT w2 τ (d + 0)) τ' d' := by rw [← f2]; rfl
      rw [reT_reT] at this
      exact this.symm
    rw [e3] at g2
    exact g2

section
variable {P : Program} {ok : FuncId → Bool} {w : World} {τ : Nat → Question → Nat} {d : Nat}

/-- A callee's return. -/
theorem step_return {fr c : Frame} (hf : okFr P ok fr) (hm : fr.mode = .returning) (hc : okFr P ok c) (hw : waits c) (w : World) (τ : Nat → Question → Nat) (d : Nat) :
    (∃ c' w' es n, okFr P ok c' ∧ c'.mode = .run ∧ stillA es ∧ ∀ (z : List Item) (cs : List Frame) (main : Bool) τ' d', agree τ τ' d d' n → stepG P main (G fr (addT c z :: cs)) (reT w τ' d') = .go (G (addT c' z) cs) (reT w' τ' (d' + n)) es)
    ∨ (∃ n, ∀ (z : List Item) (cs : List Frame) (main : Bool) τ' d', agree τ τ' d d' n → ∃ o w' es, stepG P main (G fr (addT c z :: cs)) (reT w τ' d') = .ended o w' es) := by
  obtain ⟨fn, hfn⟩ := hf.fn
  obtain ⟨R, es, n, h1, h2, h3⟩ := tame_run (tm_results (P := P) fn fr.tmps) w τ d #[]
  have hse : stillA (seen P fr.fn es) := fun e he => h1 (by simp) e (seen_sub he)
  have e3 := hf.defers
  have e4 := hf.kind
  obtain ⟨hcm, ops, i, rest, k, ht⟩ := hw
  have hitems := hc.items
  rw [ht] at hitems
  cases R with
  | ok v w' =>
    refine .inl ⟨c.at ((⟨c.tmps, []⟩ : Act).put ((ops[i]?).bind (·.dst)) v) (.inRegion ops rest :: k), w', seen P fr.fn es, n, ⟨hc.fn, ?_, hc.kind, rfl, ?_⟩, rfl, hse, fun z cs main τ' d' hj => ?_⟩
    · cases (ops[i]?).bind (·.dst) <;> simp [Act.put, Frame.at]
    · intro x hx
      rcases List.mem_cons.1 hx with rfl | hx
      · exact (show okItem P ok (.inRegion ops (i :: rest)) = true from hitems _ (List.mem_cons_self ..))
      · exact hitems x (List.mem_cons_of_mem _ hx)
    · have e1 : addT c z = c.at ⟨c.tmps, []⟩ (.inRegion ops (i :: rest) :: (k ++ z)) := by rw [addT_at hc.defers hcm hc.round, ht]; rfl
      have e2 : (c.at ⟨c.tmps, []⟩ (.inRegion ops (i :: rest) :: (k ++ z))).finish v = addT (c.at ((⟨c.tmps, []⟩ : Act).put ((ops[i]?).bind (·.dst)) v) (.inRegion ops rest :: k)) z := by
        rw [Frame.finish_at]; rfl
      have e5 := h3 τ' d' hj
      rw [Sem.runT_eq] at e5
      have r1 := congrArg Prod.fst e5
      have r2 := congrArg Prod.snd e5
      simp only [Rre] at r1 r2
      rw [e1, ← e2]
      simp [G, stepG, unwind, hm, e3, hfn, r1, r2, doReturn, e4, GStep.after]
  | halt hh w' =>
    refine .inr ⟨n, fun z cs main τ' d' hj => ?_⟩
    have e5 := h3 τ' d' hj
    rw [Sem.runT_eq] at e5
    have r1 := congrArg Prod.fst e5
    simp only [Rre] at r1
    cases hh <;> exact ⟨_, _, _, by simp [G, stepG, unwind, hm, e3, hfn, r1, GStep.after]; (first | exact ⟨rfl, rfl, rfl⟩ | rfl)⟩

theorem plug_tail (z : List Item) (c : Frame) (r : List Frame) : ∃ z' r', plug z (c :: r) = addT c z' :: r' ∧ ∀ c', plug z (c' :: r) = addT c' z' :: r' := by
  cases r with
  | nil => exact ⟨z, [], rfl, fun _ => rfl⟩
  | cons c2 r => exact ⟨[], plug z (c2 :: r), by rw [plug_cons2]; simp [addT], fun c' => by rw [plug_cons2]; simp [addT]⟩

/-- ONE STEP OF A PLAIN STACK. -/
theorem ok_step (hP : NoInit P) (hok : okFns P ok) {z0 : List Item} (hz0 : z0 = [] ∨ z0 = kT) {l : List Frame} (hS : okS P ok l) (hn : ¬ final z0 l) (w : World) (τ : Nat → Question → Nat) (d : Nat) :
    (∃ l' w' es c, okS P ok l' ∧ stillA es ∧ ∀ (z : List Item), fits z0 z → ∀ (cs : List Frame) (main : Bool) τ' d', agree τ τ' d d' c → stepG P main (GL (plug z l) cs) (reT w τ' d') = .go (GL (plug z l') cs) (reT w' τ' (d' + c)) es)
    ∨ (∃ c, ∀ τ' d', agree τ τ' d d' c → (∃ v fr r w' es, plug z0 l = fr :: r ∧ stepG P true (GL (plug z0 l) [trap P]) (reT w τ' d') = .go (G (fr.raise [v]) (r ++ [trap P])) w' es)
        ∨ (∃ o w' es, stepG P true (GL (plug z0 l) [trap P]) (reT w τ' d') = .ended o w' es)) := by
  cases l with
  | nil => exact hS.elim
  | cons fr r =>
    obtain ⟨hf, hm, ht⟩ := hS
    obtain ⟨z1, r1, hp1, hp2⟩ := plug_tail z0 fr r
    rcases hm with hm | hm
    · -- the top frame runs
      by_cases htodo : fr.todo = []
      · -- a callee at its end
        have hr : r = [] → z0 = [] := by
          rintro rfl
          rcases hz0 with h | h
          · exact h
          · exact absurd ⟨fr, rfl, .inr ⟨h, hm, htodo⟩⟩ hn
        refine .inl ⟨{ fr with mode := .returning } :: r, w, #[], 0, ⟨⟨hf.fn, hf.defers, hf.kind, hf.round, hf.items⟩, .inr rfl, ht⟩, by intro e he; simp at he, fun z hfz cs main τ' d' _ => ?_⟩
        have h1 := hf.defers
        have h2 := hf.round
        cases r with
        | nil =>
          have hz := hfz (hr rfl)
          subst hz
          simp [plug, addT, GL, G, stepG, stepG.exec, hm, htodo, h2, reT]
        | cons c r =>
          rw [plug_cons2, plug_cons2]
          simp [GL, G, stepG, stepG.exec, hm, htodo, h2, reT]
      · have hstep := step_run (w := w) (τ := τ) (d := d) hP hok hf hm htodo
        cases hstep with
        | go fr' w' es c hf' hm' he h =>
          refine .inl ⟨fr' :: r, w', es, c, ⟨hf', hm', ht⟩, he, fun z hfz cs main τ' d' hj => ?_⟩
          obtain ⟨z', r', e1, e2⟩ := plug_tail z fr r
          rw [e1, e2 fr']
          exact h z' (r' ++ cs) main τ' d' hj
        | enter f args w' es c hf' hr he h =>
          obtain ⟨fn, hfn, hg⟩ := hok f hf'
          simp only [okFn, Bool.and_eq_true] at hg
          obtain ⟨_, g3⟩ := hg
          refine .inl ⟨Frame.enter P f args .normal :: fr :: r, w', es, c, ⟨⟨⟨fn, hfn⟩, rfl, rfl, rfl, ?_⟩, .inl rfl, ?_⟩, he, fun z hfz cs main τ' d' hj => ?_⟩
          · intro x hx
            cases hb : fn.body with
            | none => rw [hb] at g3; cases g3
            | some code =>
              rw [hb] at g3
              simp [Frame.enter, hfn, hb] at hx
              subst hx
              exact g3
          · intro fr2 h2
            rcases List.mem_cons.1 h2 with rfl | h2
            · exact ⟨hf, hm, hr⟩
            · exact ht fr2 h2
          · obtain ⟨z', r', e1, e2⟩ := plug_tail z fr r
            rw [plug_cons2, e1]
            exact h z' (r' ++ cs) main τ' d' hj
        | panic v c h =>
          refine .inr ⟨c, fun τ' d' hj => .inl ?_⟩
          obtain ⟨w', es, e⟩ := h z1 (r1 ++ [trap P]) true τ' d' hj
          exact ⟨v, addT fr z1, r1, w', es, hp1, by rw [hp1]; exact e⟩
        | ended c h =>
          refine .inr ⟨c, fun τ' d' hj => .inr ?_⟩
          rw [hp1]
          refine h z1 ?_ (r1 ++ [trap P]) true τ' d' hj
          cases r with
          | nil =>
            have e : addT fr z0 = addT fr z1 := by have := hp1; simp only [plug, List.cons.injEq] at this; exact this.1
            have : fr.todo ++ z0 = fr.todo ++ z1 := congrArg Frame.todo e
            rw [← List.append_cancel_left this]; exact hz0
          | cons c2 r2 =>
            have e : fr = addT fr z1 := by have := hp1; rw [plug_cons2] at this; simp only [List.cons.injEq] at this; exact this.1
            left
            have : fr.todo = fr.todo ++ z1 := congrArg Frame.todo e
            exact List.self_eq_append_right.1 this
    · -- the top frame returns
      cases r with
      | nil => exact absurd ⟨fr, rfl, .inl hm⟩ hn
      | cons c r =>
        obtain ⟨hc, hwc⟩ := ht c (List.mem_cons_self ..)
        rcases step_return hf hm hc hwc w τ d with ⟨c', w', es, n, hc', hm', he, h⟩ | ⟨n, h⟩
        · refine .inl ⟨c' :: r, w', es, n, ⟨hc', .inl hm', fun x hx => ht x (List.mem_cons_of_mem _ hx)⟩, he, fun z hfz cs main τ' d' hj => ?_⟩
          obtain ⟨z', r', e1, e2⟩ := plug_tail z c r
          rw [plug_cons2, e1, e2 c']
          exact h z' (r' ++ cs) main τ' d' hj
        · refine .inr ⟨n, fun τ' d' hj => .inr ?_⟩
          obtain ⟨z', r', e1, e2⟩ := plug_tail z0 c r
          rw [plug_cons2, e1]
          exact h z' (r' ++ [trap P]) true τ' d' hj

/-- A WALK THAT NO TAPE'S ANSWERS TURN ASIDE: on tape τ, from whatever place of it each step is taken. -/
inductive Ahead (P : Program) (ok : FuncId → Bool) (z0 : List Item) (τ : Nat → Question → Nat) (Q : Frame → World → Prop) : List Frame → World → Prop
  | stop (fr : Frame) (w : World) (hd : done z0 fr) (hQ : Q fr w) : Ahead P ok z0 τ Q [fr] w
  | step (l : List Frame) (w : World) (hS : okS P ok l) (hn : ¬ final z0 l) (l' : Nat → List Frame) (w' : Nat → World) (es : Nat → Array Event) (c : Nat → Nat) (he : ∀ d, stillA (es d))
      (h : ∀ d (z : List Item), fits z0 z → ∀ (cs : List Frame) (main : Bool), stepG P main (GL (plug z l) cs) (reT w τ d) = .go (GL (plug z (l' d)) cs) (reT (w' d) τ (d + c d)) (es d))
      (ha : ∀ d, Ahead P ok z0 τ Q (l' d) (w' d)) : Ahead P ok z0 τ Q l w

theorem plug_cons_of (z : List Item) {l : List Frame} (h : l ≠ []) : ∃ fr r, plug z l = fr :: r := by
  cases l with
  | nil => exact absurd rfl h
  | cons x l =>
    cases l with
    | nil => exact ⟨_, _, rfl⟩
    | cons y l => exact ⟨_, _, rfl⟩

/-- The machine of one goroutine, over the trap. -/
def onTrap (P : Program) (z0 : List Item) (l : List Frame) (w : World) : Machine :=
  match plug z0 l with
  | fr :: r => lone fr (r ++ [trap P]) w
  | [] => lone default [trap P] w

theorem onTrap_eq {z0 : List Item} {l : List Frame} {fr : Frame} {r : List Frame} (h : plug z0 l = fr :: r) (w : World) : onTrap P z0 l w = lone fr (r ++ [trap P]) w := by unfold onTrap; rw [h]

theorem lone_inj {fr fr' : Frame} {cs cs' : List Frame} {w w' : World} (h : lone fr cs w = lone fr' cs' w') : fr = fr' ∧ cs = cs' ∧ w = w' := by
  simp only [lone, Machine.mk.injEq, Array.mk.injEq, List.cons.injEq, Goroutine.mk.injEq, and_true, true_and] at h
  exact ⟨h.2.1, h.2.2, h.1⟩

theorem step_of_go {fr fr' : Frame} {cs cs' : List Frame} {w w' : World} {es : Array Event} (h : stepG P true (G fr cs) w = .go (G fr' cs') w' es) : step P (lone fr cs w) = .next (lone fr' cs' w') :=
  step_lone_go (by show (stepG P true (G fr cs) w).bare = _; rw [h]; rfl)

theorem step_of_ended {fr : Frame} {cs : List Frame} {w w' : World} {o : Outcome} {es : Array Event} (h : stepG P true (G fr cs) w = .ended o w' es) : step P (lone fr cs w) = .ended o w' :=
  step_lone_ended (by show (stepG P true (G fr cs) w).bare = _; rw [h]; rfl)

/-- Whoever panics over the trap never runs again. -/
theorem panic_never : ∀ (r : List Frame), (∀ x ∈ r, x.defers = [] ∧ (P.funcs[x.fn]?).isSome = true) → ∀ (fr : Frame) (ch : List PanicEntry) (w : World), fr.mode = .panicking ch → fr.defers = [] → (P.funcs[fr.fn]?).isSome = true →
    ∀ n fr1 cs1 w1, runN P n (lone fr (r ++ [trap P]) w) = .next (lone fr1 cs1 w1) → ∃ ch, fr1.mode = .panicking ch := by
  have raise_mode : ∀ (fr : Frame) (vs : List PanicEntry), ∃ ch, (fr.raise vs).mode = .panicking ch := by
    intro fr vs
    unfold Frame.raise
    split <;> exact ⟨_, rfl⟩
  have raise_keep : ∀ (fr : Frame) (vs : List PanicEntry), (fr.raise vs).defers = fr.defers ∧ (fr.raise vs).fn = fr.fn ∧ (fr.raise vs).todo = fr.todo := by
    intro fr vs
    unfold Frame.raise
    split <;> exact ⟨rfl, rfl, rfl⟩
  have one : ∀ (fr c : Frame) (cs : List Frame) (ch : List PanicEntry) (w : World), fr.mode = .panicking ch → fr.defers = [] → (P.funcs[fr.fn]?).isSome = true → step P (lone fr (c :: cs) w) = .next (lone (c.raise ch) cs w) := by
    intro fr c cs ch w h1 h2 h3
    obtain ⟨f, hf⟩ := Option.isSome_iff_exists.1 h3
    exact step_of_go (es := #[]) (by simp [G, stepG, unwind, h1, h2, Frame.catches, hf])
  intro r
  induction r with
  | nil =>
    intro hr fr ch w h1 h2 h3 n fr1 cs1 w1 hn
    cases n with
    | zero =>
      simp only [runN, Stepped.next.injEq] at hn
      obtain ⟨rfl, _, _⟩ := lone_inj hn
      exact ⟨ch, h1⟩
    | succ n =>
      simp only [runN, List.nil_append, one fr (trap P) [] ch w h1 h2 h3] at hn
      cases n with
      | zero =>
        simp only [runN, Stepped.next.injEq] at hn
        obtain ⟨rfl, _, _⟩ := lone_inj hn
        exact raise_mode _ _
      | succ n =>
        exfalso
        obtain ⟨c2, hc2⟩ := raise_mode (trap P) ch
        obtain ⟨k1, k2, k3⟩ := raise_keep (trap P) ch
        have e : ∃ o w', step P (lone ((trap P).raise ch) [] w) = .ended o w' := by
          refine ⟨_, _, step_of_ended (es := #[]) (o := .unsupported (.noEntry "a panic or Goexit out of a method that fmt calls behind a cut's door") (Frame.pos P ((trap P).raise ch))) (w' := w) ?_⟩
          have k4 : P.funcs[((trap P).raise ch).fn]? = none := by rw [k2]; show P.funcs[P.funcs.size]? = none; simp
          have k5 : ((trap P).raise ch).catches P = true := by
            unfold Frame.catches
            rw [k4, k3]
            show ("fmt's door".startsWith "fmt's door") = true
            kernel_rfl
          have k6 : ((trap P).raise ch).defers = [] := k1
          simp [G, stepG, unwind, hc2, k6, k5]
        obtain ⟨o, w', e⟩ := e
        simp [runN, e] at hn
  | cons c r ih =>
    intro hr fr ch w h1 h2 h3 n fr1 cs1 w1 hn
    cases n with
    | zero =>
      simp only [runN, Stepped.next.injEq] at hn
      obtain ⟨rfl, _, _⟩ := lone_inj hn
      exact ⟨ch, h1⟩
    | succ n =>
      simp only [runN, List.cons_append, one fr c (r ++ [trap P]) ch w h1 h2 h3] at hn
      obtain ⟨c2, hc2⟩ := raise_mode c ch
      obtain ⟨k1, k2, k3⟩ := raise_keep c ch
      obtain ⟨g1, g2⟩ := hr c (List.mem_cons_self ..)
      exact ih (fun x hx => hr x (List.mem_cons_of_mem _ hx)) _ c2 w hc2 (by rw [k1]; exact g1) (by rw [k2]; exact g2) n fr1 cs1 w1 hn

end
end Go.Proofs.Ytlglokbakmbpdaa

namespace Go.Proofs.Ytlglokbakmbpdaa
open Go Go.Conc
set_option linter.unusedVariables false
set_option linter.unusedSimpArgs false

section
variable {P : Program} {ok : FuncId → Bool}

theorem plug_mem {z : List Item} {x : Frame} : ∀ {l : List Frame}, x ∈ plug z l → ∃ y ∈ l, ∃ z', x = addT y z'
  | [], h => by cases h
  | [y], h => by
    rw [show plug z [y] = [addT y z] from rfl] at h
    exact ⟨y, by simp, z, by simpa using h⟩
  | y :: y2 :: r, h => by
    rw [plug_cons2] at h
    rcases List.mem_cons.1 h with rfl | h
    · exact ⟨_, List.mem_cons_self .., [], by simp [addT]⟩
    · obtain ⟨a, ha, z', e⟩ := plug_mem h
      exact ⟨a, List.mem_cons_of_mem _ ha, z', e⟩

theorem okS_frames {l : List Frame} (h : okS P ok l) : ∀ fr ∈ l, okFr P ok fr := by
  cases l with
  | nil => exact h.elim
  | cons x r =>
    intro fr hfr
    rcases List.mem_cons.1 hfr with rfl | hfr
    · exact h.1
    · exact (h.2.2 fr hfr).1

theorem okFr_plain {fr : Frame} (h : okFr P ok fr) : fr.defers = [] ∧ (P.funcs[fr.fn]?).isSome = true := by
  obtain ⟨f, hf⟩ := h.fn
  exact ⟨h.defers, by rw [hf]; rfl⟩

/-- Behind a bad step the machine over the trap never stands where a plain text is left. -/
theorem bad_never {z0 : List Item} {l : List Frame} {W : World} (hS : okS P ok l)
    (hb : (∃ v fr r w' es, plug z0 l = fr :: r ∧ stepG P true (GL (plug z0 l) [trap P]) W = .go (G (fr.raise [v]) (r ++ [trap P])) w' es) ∨ (∃ o w' es, stepG P true (GL (plug z0 l) [trap P]) W = .ended o w' es))
    {n : Nat} {fr1 : Frame} {cs1 : List Frame} {w1 : World} (hn : runN P (n + 1) (onTrap P z0 l W) = .next (lone fr1 cs1 w1)) : ∃ ch, fr1.mode = .panicking ch := by
  have hne : l ≠ [] := by rintro rfl; exact hS.elim
  obtain ⟨fr, r, hp⟩ := plug_cons_of z0 hne
  have hgl : GL (plug z0 l) [trap P] = G fr (r ++ [trap P]) := by rw [hp]; rfl
  have hfrs : ∀ x ∈ plug z0 l, x.defers = [] ∧ (P.funcs[x.fn]?).isSome = true := by
    intro x hx
    obtain ⟨y, hy, z', rfl⟩ := plug_mem hx
    have h := okFr_plain (okS_frames hS y hy)
    exact h
  rw [onTrap_eq hp] at hn
  rcases hb with ⟨v, fr', r', w', es, hp', hg⟩ | ⟨o, w', es, hg⟩
  · rw [hp] at hp'
    simp only [List.cons.injEq] at hp'
    obtain ⟨rfl, rfl⟩ := hp'
    rw [hgl] at hg
    simp only [runN, step_of_go hg] at hn
    have h0 := hfrs fr (by rw [hp]; simp)
    obtain ⟨ch, hch⟩ : ∃ ch, (fr.raise [v]).mode = .panicking ch := by unfold Frame.raise; split <;> exact ⟨_, rfl⟩
    have hk : (fr.raise [v]).defers = fr.defers ∧ (fr.raise [v]).fn = fr.fn := by unfold Frame.raise; split <;> exact ⟨rfl, rfl⟩
    exact panic_never r (fun x hx => hfrs x (by rw [hp]; simp [hx])) _ ch w' hch (by rw [hk.1]; exact h0.1) (by rw [hk.2]; exact h0.2) n fr1 cs1 w1 hn
  · rw [hgl] at hg
    simp [runN, step_of_ended hg] at hn

/-- Where a plain text is left the machine over the trap stands but once. -/
theorem final_once {z0 : List Item} {fr : Frame} {W : World} (hf : okFr P ok fr) (hd : done z0 fr) {n : Nat} {fr1 : Frame} {w1 : World} (hn : runN P n (onTrap P z0 [fr] W) = .next (lone fr1 [trap P] w1)) : n = 0 := by
  cases n with
  | zero => rfl
  | succ n =>
    exfalso
    rw [onTrap_eq (show plug z0 [fr] = addT fr z0 :: [] from rfl)] at hn
    obtain ⟨fn, hfn⟩ := hf.fn
    rcases hd with hm | ⟨rfl, hm, ht⟩
    · have h1 := hf.defers
      have h2 := hf.kind
      have e3 : Extern.next "fmt's door" = none := by kernel_rfl
      cases hv : (results fn fr.tmps).run P W with
      | halt hh w2 =>
        have e : ∃ o w' es, stepG P true (G (addT fr z0) ([] ++ [trap P])) W = .ended o w' es := by
          cases hh <;> exact ⟨_, _, _, by simp [G, addT, stepG, unwind, hm, h1, hfn, hv, GStep.after]; (first | exact ⟨rfl, rfl, rfl⟩ | rfl)⟩
        obtain ⟨o, w', es, e⟩ := e
        have e' := step_of_ended e
        simp only [List.nil_append] at e'
        simp [runN, e'] at hn
      | ok v w2 =>
        have e : ∃ es, stepG P true (G (addT fr z0) ([] ++ [trap P])) W = .go (G ((trap P).finish v) []) w2 es := ⟨_, by
          simp [G, addT, stepG, unwind, hm, h1, hfn, hv, doReturn, h2, GStep.after]; rfl⟩
        obtain ⟨es, e⟩ := e
        simp only [runN, step_of_go e] at hn
        cases n with
        | zero =>
          simp only [runN, Stepped.next.injEq] at hn
          obtain ⟨_, h, _⟩ := lone_inj hn
          cases h
        | succ n =>
          have e2 : ∃ o w' es, stepG P true (G ((trap P).finish v) []) w2 = .ended o w' es := by
            simp only [G, trap, Frame.finish, stepG, stepG.exec, e3, Option.elim]
            exact ⟨_, _, _, rfl⟩
          obtain ⟨o, w', es, e2⟩ := e2
          simp [runN, step_of_ended e2] at hn
    · have e : ∃ o w' es, stepG P true (G (addT fr kT) ([] ++ [trap P])) W = .ended o w' es := by
        simp only [G, addT, ht, kT, List.nil_append, stepG, stepG.exec, hm]
        exact ⟨_, _, _, rfl⟩
      obtain ⟨o, w', es, e⟩ := e
      have e' := step_of_ended e
      simp only [List.nil_append] at e'
      simp [runN, e'] at hn

theorem ahead_of (hP : NoInit P) (hok : okFns P ok) {z0 : List Item} (hz0 : z0 = [] ∨ z0 = kT) {l0 : List Frame} {w0 : World} (hS : okS P ok l0) {R : Frame → World → Prop}
    (H : ∀ τ' d', ∃ N fr1 w1, runN P N (onTrap P z0 l0 (reT w0 τ' d')) = .next (lone fr1 [trap P] w1) ∧ (fr1.mode = .returning ∨ (z0 = kT ∧ fr1.mode = .run ∧ fr1.todo = z0)) ∧ R fr1 w1) (τ : Nat → Question → Nat) :
    Ahead P ok z0 τ (fun fr w => ∃ τ' d', R (addT fr z0) (reT w τ' d')) l0 w0 := by
  apply Classical.byContradiction
  intro hno
  -- what is known of one step
  let A := Ahead P ok z0 τ (fun fr w => ∃ τ' d', R (addT fr z0) (reT w τ' d'))
  let Good : List Frame × World → Nat × Nat × List Frame × World → Prop := fun s x => okS P ok x.2.2.1 ∧ ¬ A x.2.2.1 x.2.2.2 ∧
    ∀ τ' d', agree τ τ' x.1 d' x.2.1 → ∃ es, stepG P true (GL (plug z0 s.1) [trap P]) (reT s.2 τ' d') = .go (GL (plug z0 x.2.2.1) [trap P]) (reT x.2.2.2 τ' (d' + x.2.1)) es
  let Bad : List Frame × World → Nat × Nat × List Frame × World → Prop := fun s x => ∀ τ' d', agree τ τ' x.1 d' x.2.1 →
    (∃ v fr r w' es, plug z0 s.1 = fr :: r ∧ stepG P true (GL (plug z0 s.1) [trap P]) (reT s.2 τ' d') = .go (G (fr.raise [v]) (r ++ [trap P])) w' es)
        ∨ (∃ o w' es, stepG P true (GL (plug z0 s.1) [trap P]) (reT s.2 τ' d') = .ended o w' es)
  have hstep : ∀ s : List Frame × World, ∃ x : Nat × Nat × List Frame × World, okS P ok s.1 → ¬ A s.1 s.2 → ¬ final z0 s.1 → Good s x ∨ Bad s x := by
    intro s
    by_cases h1 : okS P ok s.1
    · by_cases h3 : final z0 s.1
      · exact ⟨(0, 0, [], s.2), fun _ _ h => absurd h3 h⟩
      · by_cases h4 : ∃ x, Good s x ∨ Bad s x
        · obtain ⟨x, hx⟩ := h4
          exact ⟨x, fun _ _ _ => hx⟩
        · refine ⟨(0, 0, [], s.2), fun _ h _ => absurd ?_ h⟩
          have hall : ∀ d, ∃ x : List Frame × World × Array Event × Nat, stillA x.2.2.1 ∧ (∀ (z : List Item), fits z0 z → ∀ (cs : List Frame) (main : Bool), stepG P main (GL (plug z s.1) cs) (reT s.2 τ d) = .go (GL (plug z x.1) cs) (reT x.2.1 τ (d + x.2.2.2)) x.2.2.1) ∧ A x.1 x.2.1 := by
            intro d
            rcases ok_step hP hok hz0 h1 h3 s.2 τ d with ⟨l', w', es, c, g1, g2, g3⟩ | ⟨c, g⟩
            · refine ⟨(l', w', es, c), g2, fun z hz cs main => g3 z hz cs main τ d fun j _ => rfl, ?_⟩
              apply Classical.byContradiction
              intro hA
              exact h4 ⟨(d, c, l', w'), .inl ⟨g1, hA, fun τ' d' hj => ⟨es, g3 z0 (fits_self z0) [trap P] true τ' d' hj⟩⟩⟩
            · exact absurd ⟨(d, c, [], s.2), .inr fun τ' d' hj => g τ' d' hj⟩ h4
          obtain ⟨f, hf⟩ := Classical.axiomOfChoice hall
          exact .step s.1 s.2 h1 h3 (fun d => (f d).1) (fun d => (f d).2.1) (fun d => (f d).2.2.1) (fun d => (f d).2.2.2) (fun d => (hf d).1) (fun d => (hf d).2.1) (fun d => (hf d).2.2)
    · exact ⟨(0, 0, [], s.2), fun h => absurd h h1⟩
  obtain ⟨F, hF⟩ := Classical.axiomOfChoice hstep
  -- the walk, and the tape that gives its answers
  let S : Nat → (List Frame × World) × Nat := fun n => Nat.rec ((l0, w0), 0) (fun _ s => (((F s.1).2.2.1, (F s.1).2.2.2), s.2 + (F s.1).2.1)) n
  have S0 : S 0 = ((l0, w0), 0) := rfl
  have Sn : ∀ n, S (n + 1) = (((F (S n).1).2.2.1, (F (S n).1).2.2.2), (S n).2 + (F (S n).1).2.1) := fun n => rfl
  have hmono : ∀ n m, n < m → (S n).2 + (F (S n).1).2.1 ≤ (S m).2 := by
    intro n m h
    induction m with
    | zero => omega
    | succ m ih =>
      rw [Sn]
      by_cases e : n = m
      · subst e; exact Nat.le_refl _
      · exact Nat.le_trans (ih (by omega)) (Nat.le_add_right _ _)
  let T : Nat → Question → Nat := fun p q => open Classical in if h : ∃ n j, (S n).2 + j = p ∧ j < (F (S n).1).2.1 then τ ((F (S h.choose).1).1 + h.choose_spec.choose) q else 0
  have hT : ∀ n, agree τ T (F (S n).1).1 (S n).2 (F (S n).1).2.1 := by
    intro n j hj
    funext q
    have h : ∃ n' j', (S n').2 + j' = (S n).2 + j ∧ j' < (F (S n').1).2.1 := ⟨n, j, rfl, hj⟩
    show (open Classical in if h : ∃ n' j', (S n').2 + j' = (S n).2 + j ∧ j' < (F (S n').1).2.1 then τ ((F (S h.choose).1).1 + h.choose_spec.choose) q else 0) = _
    rw [dif_pos h]
    obtain ⟨g1, g2⟩ := h.choose_spec.choose_spec
    have key : ∀ n' j', (S n').2 + j' = (S n).2 + j → j' < (F (S n').1).2.1 → τ ((F (S n').1).1 + j') q = τ ((F (S n).1).1 + j) q := by
      intro n' j' h1 h2
      rcases Nat.lt_trichotomy n' n with hl | hl | hl
      · have := hmono _ _ hl; omega
      · subst hl
        have : j' = j := by omega
        rw [this]
      · have := hmono _ _ hl; omega
    exact key _ _ g1 g2
  obtain ⟨N, fr1, w1, hN, hfin, hR⟩ := H T 0
  have notpan : ¬ ∃ ch, fr1.mode = .panicking ch := by
    rintro ⟨ch, hch⟩
    rcases hfin with h | ⟨_, h, _⟩ <;> rw [hch] at h <;> cases h
  have main : ∀ n, n ≤ N → okS P ok (S n).1.1 ∧ ¬ A (S n).1.1 (S n).1.2 ∧ runN P n (onTrap P z0 l0 (reT w0 T 0)) = .next (onTrap P z0 (S n).1.1 (reT (S n).1.2 T (S n).2)) := by
    intro n
    induction n with
    | zero => intro _; rw [S0]; exact ⟨hS, hno, rfl⟩
    | succ n ih =>
      intro hle
      obtain ⟨g1, g2, g3⟩ := ih (by omega)
      obtain ⟨m, hm⟩ : ∃ m, N = n + (m + 1) := ⟨N - n - 1, by omega⟩
      have hrest : runN P (m + 1) (onTrap P z0 (S n).1.1 (reT (S n).1.2 T (S n).2)) = .next (lone fr1 [trap P] w1) := by
        have := hN
        rw [hm, runN_add, g3] at this
        exact this
      have hnf : ¬ final z0 (S n).1.1 := by
        rintro ⟨fr, hl, hd⟩
        rw [hl] at hrest g1
        have := final_once (okS_frames g1 fr (by simp)) hd hrest
        omega
      rcases hF (S n).1 g1 g2 hnf with hg | hb
      · obtain ⟨k1, k2, k3⟩ := hg
        rw [Sn]
        refine ⟨k1, k2, ?_⟩
        obtain ⟨es, k4⟩ := k3 T (S n).2 (hT n)
        rw [runN_add, g3]
        have hne : (S n).1.1 ≠ [] := by intro h; rw [h] at g1; exact g1.elim
        have hne2 : (F (S n).1).2.2.1 ≠ [] := by intro h; rw [h] at k1; exact k1.elim
        obtain ⟨fr, r, hp⟩ := plug_cons_of z0 hne
        obtain ⟨fr2, r2, hp2⟩ := plug_cons_of z0 hne2
        rw [onTrap_eq hp, onTrap_eq hp2]
        rw [hp, hp2] at k4
        simp only [runN, step_of_go k4]
      · exact absurd (bad_never g1 (hb T (S n).2 (hT n)) hrest) notpan
  obtain ⟨g1, g2, g3⟩ := main N (Nat.le_refl _)
  rw [hN] at g3
  simp only [Stepped.next.injEq] at g3
  have hne : (S N).1.1 ≠ [] := by intro h; rw [h] at g1; exact g1.elim
  obtain ⟨fr, r, hp⟩ := plug_cons_of z0 hne
  rw [onTrap_eq hp] at g3
  obtain ⟨e1, e2, e3⟩ := lone_inj g3
  have er : r = [] := by
    cases r with
    | nil => rfl
    | cons a r => simp at e2
  subst er
  -- the stack is one frame
  match hl : (S N).1.1, hne with
  | [x], _ =>
    rw [hl] at hp g2
    simp only [plug, List.cons.injEq, and_true] at hp
    subst hp
    refine g2 (.stop x _ ?_ ⟨T, (S N).2, by rw [← e1, ← e3]; exact hR⟩)
    rcases hfin with h | ⟨hk, h, h'⟩
    · exact .inl (by rw [e1] at h; exact h)
    · refine .inr ⟨hk, by rw [e1] at h; exact h, ?_⟩
      rw [e1] at h'
      have : x.todo ++ z0 = z0 := h'
      exact List.append_left_eq_self.1 this
  | x :: y :: q, _ =>
    rw [hl, plug_cons2] at hp
    obtain ⟨a, b, hab⟩ := plug_cons_of z0 (l := y :: q) (by simp)
    rw [hab] at hp
    simp at hp

end
end Go.Proofs.Ytlglokbakmbpdaa

namespace Go.Proofs.Ytlglokbakmbpdaa
open Go Go.Conc
open Go.ConcN (sumTo upd sumTo_upd upd_ne upd_same)
set_option linter.unusedVariables false
set_option linter.unusedSimpArgs false

/-- What is held of the trace between two calls that go. -/
structure PastC (t : Trace) : Prop where
  clean : ∀ said, ¬ Race said t
  known : ∀ i a, touchAt t i = some a → a.loc.isMemory = true → Knows t 0 i
  over : t.HandedOver
  hears : Deaf t 0 = 0

theorem pastC_nil : PastC #[] :=
  ⟨fun said => by rintro ⟨i, j, _, ⟨a, b, ha, _⟩, _⟩; simp [Trace.act?] at ha, fun i a ha => by simp [touchAt, Trace.act?] at ha, fun i g hg => by simp [Trace.g?] at hg, rfl⟩

theorem mem_ofE {g : Nat} {fn : FuncId} {pos : String} {es : Array Event} {op : MemOp} (h : op ∈ MemOp.ofEvents g fn pos es) : op.g = g := by
  obtain ⟨e, _, rfl⟩ := Go.Conc.mem_ofEvents h; rfl

theorem PastC.own {t : Trace} (h : PastC t) {fn : FuncId} {pos : String} {es : Array Event} (hes : stillA es) : PastC (t ++ MemOp.ofEvents 0 fn pos es) := by
  refine ⟨fun said => noRace_append (h.clean said) (fun op hop => mem_ofE hop) fun i a ha op hop b hb hc => h.known i a ha hc.2.1, fun i a ha hm => ?_, handedOver_app h.over fun op hop => .inl (mem_ofE hop), ?_⟩
  · obtain ⟨x, hx, hxa⟩ := touch_of ha
    rcases getElem?_append_cases hx with ⟨_, hx'⟩ | ⟨_, hxu⟩
    · exact (h.known i a (by rw [touchAt_of hx']; exact hxa) hm).app _
    · have := knows_own hx
      rw [mem_ofE hxu] at this
      exact this
  · rw [Deaf_own]
    exact (deafBehind_still (fun e he => hes e he) _).trans h.hears

theorem PastC.mute {t : Trace} (h : PastC t) {g : Nat} (hg : g ≠ 0) {fn : FuncId} {pos : String} {es : Array Event} (hm : ∀ e ∈ es, e.mute = true) : PastC (t ++ MemOp.ofEvents g fn pos es) := by
  have hn : ∀ op ∈ MemOp.ofEvents g fn pos es, op.act.touch? = none := fun op hop => by obtain ⟨e, he, rfl⟩ := Go.Conc.mem_ofEvents hop; exact touch_mute (hm e he)
  refine ⟨fun said => noRace_append (h.clean said) (fun op hop => mem_ofE hop) fun i a _ op hop b hb _ => (by rw [hn op hop] at hb; cases hb), fun i a ha hm' => ?_, handedOver_app h.over fun op hop => .inr (hn op hop), (Deaf_other t hg _ fun op hop => mem_ofE hop).trans h.hears⟩
  obtain ⟨x, hx, hxa⟩ := touch_of ha
  rcases getElem?_append_cases hx with ⟨_, hx'⟩ | ⟨_, hxu⟩
  · exact (h.known i a (by rw [touchAt_of hx']; exact hxa) hm').app _
  · rw [hn x hxu] at hxa; cases hxa

/-- The frame of a run: goroutine 0 is a; all others only leave; the trace is past. -/
structure Fr (P : Program) (a : Goroutine) (gs : Array Goroutine) (t : Trace) (q : Nat → Nat) : Prop where
  h0 : gs[0]? = some a
  lv : Leavers P t gs q
  past : PastC t

section
variable {P : Program} {a a' : Goroutine} {gs : Array Goroutine} {t : Trace} {q : Nat → Nat} {w w' : World} {sl : Option (Nat × Nat)}

theorem Fr.awake (h : Fr P a gs t q) (hr : a.status = .running) : ∀ g ∈ gs, Go.Conc.awake g := by
  intro g hg
  obtain ⟨i, hi, rfl⟩ := Array.mem_iff_getElem.1 hg
  rcases Nat.eq_zero_or_pos i with rfl | hpos
  · have e := h.h0
    have : gs[0] = a := by simpa [Array.getElem?_eq_getElem hi] using e
    rw [this]; exact awake_of (.inl hr)
  · exact awake_of ((h.lv.old i _ hpos (Array.getElem?_eq_getElem hi)).status.elim .inl fun x => .inr (.inr x))

/-- Goroutine 0 takes a step. -/
theorem Fr.step0 (h : Fr P a gs t q) {es : Array Event} (hs : stepG P true a w = .go a' w' es) (he : stillA es) :
    runT P (crowd gs w sl) 0 = (.next (crowd ((gs.map (woken P a a' w')).setIfInBounds 0 a') w' sl), MemOp.ofEvents 0 a.frame.fn a.frame.place es)
    ∧ Fr P a' ((gs.map (woken P a a' w')).setIfInBounds 0 a') (t ++ MemOp.ofEvents 0 a.frame.fn a.frame.place es) q := by
  have hlt : 0 < gs.size := (Array.getElem?_eq_some_iff.1 h.h0).1
  refine ⟨runT_crowd_go (P := P) (sl := sl) (i := 0) h.h0 (show stepG P (0 == 0) a w = _ from hs), by simp [hlt], ⟨fun j x hj hx => ?_, fun j hj => ?_⟩, h.past.own he⟩
  · have hne : 0 ≠ j := by omega
    rw [Array.getElem?_setIfInBounds_ne hne, Array.getElem?_map] at hx
    obtain ⟨y, hy, rfl⟩ := Option.map_eq_some_iff.1 hx
    have hq := h.lv.old j y hj hy
    rw [woken_quitsD hq, Deaf_other t (by omega) _ (fun op hop => mem_ofE hop)]
    exact hq
  · rw [Deaf_other t (g' := 0) (by simp at hj; omega) _ (fun op hop => mem_ofE hop)]
    exact h.lv.above j (by simpa using hj)

/-- A leaver slips. -/
theorem Fr.slip (h : Fr P a gs t q) (hr : a.status = .running) {i : Nat} {g : Goroutine} (hpos : 0 < i) (hi : gs[i]? = some g) (hg : g.status = .running) :
    ∃ gs' q' ops, runT P (crowd gs w sl) i = (.next (crowd gs' w sl), ops) ∧ Fr P a gs' (t ++ ops) q' ∧ gs'.size = gs.size ∧ sumTo gs.size q' < sumTo gs.size q := by
  have hq := h.lv.old i g hpos hi
  have hi0 : (i == 0) = false := by simp; omega
  have hlt : i < gs.size := (Array.getElem?_eq_some_iff.1 hi).1
  cases hqi : q i with
  | zero => rw [hqi] at hq; rw [hq.1] at hg; cases hg
  | succ k =>
    rw [hqi] at hq
    rcases hq with ⟨hf, _⟩ | ⟨_, g', es, hm, hstp, hq'⟩
    · rw [hf] at hg; cases hg
    have hrunT := runT_crowd_go (P := P) (sl := sl) (i := i) hi (by rw [hi0]; exact hstp w)
    have hsz : ((gs.map (woken P g g' w)).setIfInBounds i g').size = gs.size := by simp
    have hsum : sumTo gs.size (upd q i k) + (k + 1) = sumTo gs.size q + k := by
      have := sumTo_upd q k id hlt
      simpa [hqi] using this
    refine ⟨_, upd q i k, _, hrunT, ⟨?_, ⟨fun j x hj hx => ?_, fun j hj => ?_⟩, h.past.mute (by omega) hm⟩, hsz, by omega⟩
    · have hne : i ≠ 0 := by omega
      rw [Array.getElem?_setIfInBounds_ne hne, Array.getElem?_map, h.h0]
      simp [woken_run hr]
    · by_cases hji : i = j
      · subst hji
        rw [Array.getElem?_setIfInBounds_self_of_lt (by simpa using hlt)] at hx
        obtain rfl := Option.some.inj hx
        rw [upd_same, Deaf_own]
        exact hq'
      · rw [Array.getElem?_setIfInBounds_ne hji, Array.getElem?_map] at hx
        obtain ⟨y, hy, rfl⟩ := Option.map_eq_some_iff.1 hx
        have hqj := h.lv.old j y hj hy
        rw [woken_quitsD hqj, upd_ne q k (Ne.symm hji), Deaf_other t hji _ (fun op hop => mem_ofE hop)]
        exact hqj
    · rw [Deaf_other t (g' := i) (by simp at hj; omega) _ (fun op hop => mem_ofE hop)]
      exact h.lv.above j (by simpa using hj)

/-- ON WHATEVER TAPE THE MACHINE COMES TO GOROUTINE 0's NEXT STEP: the others slip a while. -/
theorem Fr.turn : ∀ (M : Nat) {gs : Array Goroutine} {t : Trace} {q : Nat → Nat} {w : World} {sl : Option (Nat × Nat)}, sumTo gs.size q ≤ M → Fr P a gs t q → a.status = .running →
    ∃ N gs' d sl' t' q', Fr P a gs' t' q' ∧ gs'.size = gs.size ∧ runNT P N (crowd gs w sl) t = (.next (crowd gs' (w.at d) sl'), t') ∧
      ∃ e sl'', stepT P (crowd gs' (w.at d) sl') = runT P (crowd gs' (w.at e) sl'') 0 := by
  intro M
  induction M with
  | zero =>
    intro gs t q w sl hM h hr
    obtain ⟨i, g, d, sl', hi, hg, hst⟩ := crowd_pick (P := P) (w := w) (sl := sl) (h.awake hr) ⟨0, a, h.h0, hr⟩
    rcases Nat.eq_zero_or_pos i with rfl | hpos
    · exact ⟨0, gs, w.drawn, sl, t, q, h, rfl, rfl, d, sl', hst⟩
    · obtain ⟨_, q', _, _, _, _, hlt⟩ := h.slip (w := w) (sl := sl) hr hpos hi hg
      omega
  | succ M ih =>
    intro gs t q w sl hM h hr
    obtain ⟨i, g, d, sl', hi, hg, hst⟩ := crowd_pick (P := P) (w := w) (sl := sl) (h.awake hr) ⟨0, a, h.h0, hr⟩
    rcases Nat.eq_zero_or_pos i with rfl | hpos
    · exact ⟨0, gs, w.drawn, sl, t, q, h, rfl, rfl, d, sl', hst⟩
    · obtain ⟨gs1, q1, ops, hrun, h1, hsz, hlt⟩ := h.slip (w := w.at d) (sl := sl') hr hpos hi hg
      obtain ⟨N, gs', d', sl'', t', q', h2, hsz2, hrun2, e, sl3, hst2⟩ := ih (gs := gs1) (w := w.at d) (sl := sl') (by rw [hsz]; omega) h1 hr
      exact ⟨N + 1, gs', d', sl'', t', q', h2, hsz2.trans hsz, by simp only [runNT, hst, hrun]; exact hrun2, e, sl3, hst2⟩

end

/-- THE MACHINE OF MANY COMES FROM goroutine 0 = a, in world w, TO goroutine 0 = a', in world w': on whatever schedule, whoever else only leaves. -/
def Beside (P : Program) (a : Goroutine) (w : World) (Q : Goroutine → World → Prop) : Prop :=
  ∀ (gs : Array Goroutine) (t : Trace) (q : Nat → Nat) (sl : Option (Nat × Nat)) (d : Nat), Fr P a gs t q →
    ∃ N gs' t' q' sl' a' w', runNT P N (crowd gs (w.at d) sl) t = (.next (crowd gs' w' sl'), t') ∧ Fr P a' gs' t' q' ∧ Q a' w'

section
variable {P : Program} {a : Goroutine} {w : World} {Q Q' : Goroutine → World → Prop}

theorem runNT_app {n m : Nat} {m0 m1 : Machine} {r : Stepped} {t t1 t2 : Trace} (h1 : runNT P n m0 t = (.next m1, t1)) (h2 : runNT P m m1 t1 = (r, t2)) : runNT P (n + m) m0 t = (r, t2) := by
  rw [runNT_add, h1]; exact h2

theorem Beside.mono (h : Beside P a w Q) (hq : ∀ a' w', Q a' w' → Q' a' w') : Beside P a w Q' := fun gs t q sl d hF =>
  let ⟨N, gs', t', q', sl', a', w', h1, h2, h3⟩ := h gs t q sl d hF; ⟨N, gs', t', q', sl', a', w', h1, h2, hq _ _ h3⟩

theorem Beside.at0 (h : ∀ d, Q a (w.at d)) : Beside P a w Q := fun gs t q sl d hF => ⟨0, gs, t, q, sl, a, w.at d, rfl, hF, h d⟩

theorem Beside.trans (h : Beside P a w Q) (h' : ∀ a' w', Q a' w' → Beside P a' w' Q') : Beside P a w Q' := fun gs t q sl d hF => by
  obtain ⟨N, gs1, t1, q1, sl1, a1, w1, h1, h2, h3⟩ := h gs t q sl d hF
  obtain ⟨M, gs2, t2, q2, sl2, a2, w2, k1, k2, k3⟩ := h' a1 w1 h3 gs1 t1 q1 sl1 w1.drawn h2
  exact ⟨N + M, gs2, t2, q2, sl2, a2, w2, runNT_app h1 k1, k2, k3⟩

/-- One step of goroutine 0's. -/
theorem Beside.step (hr : a.status = .running) (h : ∀ d, ∃ a' w' es, stepG P true a (w.at d) = .go a' w' es ∧ stillA es ∧ Beside P a' w' Q) : Beside P a w Q := fun gs t q sl d hF => by
  obtain ⟨N, gs1, d1, sl1, t1, q1, h1, hsz, hrun, e, sl2, hst⟩ := Fr.turn (w := w.at d) (sl := sl) _ (Nat.le_refl _) hF hr
  obtain ⟨a', w', es, k1, k2, k3⟩ := h e
  obtain ⟨g1, g2⟩ := h1.step0 (sl := sl2) k1 k2
  obtain ⟨M, gs2, t2, q2, sl3, a2, w2, m1, m2, m3⟩ := k3 _ _ q1 sl2 w'.drawn g2
  refine ⟨N + (M + 1), gs2, t2, q2, sl3, a2, w2, runNT_app hrun ?_, m2, m3⟩
  have hst' : stepT P (crowd gs1 ((w.at d).at d1) sl1) = _ := hst
  simp only [runNT]
  rw [hst']
  rw [show ((w.at d).at e) = w.at e from rfl, g1]
  exact m1
end

section
variable {P : Program} {ok : FuncId → Bool} {z0 : List Item} {τ : Nat → Question → Nat} {Q : Frame → World → Prop}

/-- A walk that no tape turns aside is carried out. -/
theorem beside_ahead {l : List Frame} {w : World} (A : Ahead P ok z0 τ Q l w) (z : List Item) (hz : fits z0 z) (cs : List Frame) :
    ∀ d, Beside P (GL (plug z l) cs) (reT w τ d) fun a' w' => ∃ fr w1 d', a' = GL (plug z [fr]) cs ∧ w' = reT w1 τ d' ∧ done z0 fr ∧ Q fr w1 := by
  induction A with
  | stop fr w hd hQ => exact fun d => .at0 fun d' => ⟨fr, w, d', rfl, rfl, hd, hQ⟩
  | step l w hS hn l' w' es c he h ha ih =>
    intro d
    have hne : l ≠ [] := by intro h; rw [h] at hS; exact hS.elim
    refine .step ?_ fun e => ⟨GL (plug z (l' e)) cs, reT (w' e) τ (e + c e), es e, h e z hz cs true, he e, ih e (e + c e)⟩
    obtain ⟨fr, r, hp⟩ := plug_cons_of z hne
    rw [hp]; rfl
end
end Go.Proofs.Ytlglokbakmbpdaa

namespace Go.Proofs.Ytlglokbakmbpdaa
open Go Go.Conc
set_option linter.unusedVariables false
set_option linter.unusedSimpArgs false

/-- Operations that touch no memory and say no word. -/
def dumb (op : MemOp) : Prop := op.act.touch? = none ∧ ∀ mk, op.act ≠ .mark mk

theorem deaf_dumb {t u : Trace} {g : Nat} (h : ∀ op ∈ u, dumb op) : Deaf (t ++ u) g = Deaf t g := by
  obtain ⟨l⟩ := u
  rw [Deaf_append]
  induction l generalizing t with
  | nil => rfl
  | cons y l ih =>
    have hy := h y (by simp)
    have e1 : deafStep g (Deaf t g) y = Deaf t g := by
      obtain ⟨g', fn, pos, act⟩ := y
      cases act with
      | mark mk => exact absurd rfl (hy.2 mk)
      | _ => rfl
    rw [List.foldl_cons, e1]
    exact ih fun op hop => h op (by simp at hop ⊢; exact .inr hop)

theorem noRace_mute {said : Bool} {t u : Trace} (h : ¬ Race said t) (hn : ∀ op ∈ u, op.act.touch? = none) : ¬ Race said (t ++ u) := by
  rintro ⟨i, j, hij, ⟨a, b, ha, hb, hc⟩, n1, n2⟩
  obtain ⟨x, hx, hxa⟩ := touch_of ha
  obtain ⟨y, hy, hyb⟩ := touch_of hb
  rcases getElem?_append_cases hy with ⟨hj, hy'⟩ | ⟨_, hyu⟩
  · have hi : i < t.size := Nat.lt_trans hij hj
    have hx' : t[i]? = some x := by rw [← getElem?_append_old (u := u) hi]; exact hx
    exact h ⟨i, j, hij, ⟨a, b, by simp [Trace.act?, hx', hxa], by simp [Trace.act?, hy', hyb], hc⟩, fun e => n1 (hb_app u e), fun e => n2 (hb_app u e)⟩
  · rw [hn y hyu] at hyb; cases hyb

/-- What is held while both are under way. -/
structure TP (m : Nat) (Mine : Loc → Prop) (t : Trace) : Prop where
  clean : ∀ said, ¬ Race said t
  cls : ∀ i x, touchAt t i = some x → x.loc.isMemory = true → (Knows t 0 i ∧ Knows t m i) ∨ (t.g? i = some 0 ∧ (x.write = true → Mine x.loc)) ∨ (t.g? i = some m ∧ x.write = false ∧ ¬ Mine x.loc)
  over : ∀ i g, t.g? i = some g → g ≠ 0 → g ≠ m → t.counts i → ∃ j, t.g? j = some 0 ∧ HappensBefore t i j
  hears0 : Deaf t 0 = 0
  hearsM : Deaf t m = 0

section
variable {m : Nat} {Mine : Loc → Prop} {t u : Trace}

theorem g?_of {i : Nat} {op : MemOp} (h : t[i]? = some op) : t.g? i = some op.g := by simp [Trace.g?, h]
theorem old_g {i g : Nat} (h : t.g? i = some g) : (t ++ u).g? i = some g := by
  obtain ⟨op, ho, _⟩ := Option.map_eq_some_iff.1 h
  rw [Go.Conc.g?_old (lt_size_of_getElem? ho)]; exact h

theorem TP.cls_old (h : TP m Mine t) {i : Nat} {x : Touch} (ha : touchAt t i = some x) (hm : x.loc.isMemory = true) :
    (Knows (t ++ u) 0 i ∧ Knows (t ++ u) m i) ∨ ((t ++ u).g? i = some 0 ∧ (x.write = true → Mine x.loc)) ∨ ((t ++ u).g? i = some m ∧ x.write = false ∧ ¬ Mine x.loc) := by
  rcases h.cls i x ha hm with ⟨a, b⟩ | ⟨a, b⟩ | ⟨a, b⟩
  · exact .inl ⟨a.app u, b.app u⟩
  · exact .inr (.inl ⟨old_g a, b⟩)
  · exact .inr (.inr ⟨old_g a, b⟩)

theorem over_old {g0 : Nat → Prop} (h : ∀ i g, t.g? i = some g → g ≠ 0 → g0 g → t.counts i → ∃ j, t.g? j = some 0 ∧ HappensBefore t i j) (hu : ∀ op ∈ u, op.g = 0 ∨ ¬ g0 op.g ∨ op.act.touch? = none) :
    ∀ i g, (t ++ u).g? i = some g → g ≠ 0 → g0 g → (t ++ u).counts i → ∃ j, (t ++ u).g? j = some 0 ∧ HappensBefore (t ++ u) i j := by
  intro i g hg hne h0 hc
  obtain ⟨x, hx, _⟩ := hc
  obtain ⟨op, hop, hox⟩ := touch_of hx
  have hgo : op.g = g := by have := g?_of hop; rw [hg] at this; exact (Option.some.inj this).symm
  rcases getElem?_append_cases hop with ⟨hi, hop'⟩ | ⟨_, hopu⟩
  · obtain ⟨j, hj, hb⟩ := h i g (by rw [Go.Conc.g?_old hi] at hg; exact hg) hne h0 ((counts_old hi).1 ⟨x, hx, ‹_›⟩)
    exact ⟨j, old_g hj, hb_app u hb⟩
  · rcases hu op hopu with k | k | k
    · exact absurd (hgo ▸ k) hne
    · exact absurd (hgo ▸ h0) k
    · rw [k] at hox; cases hox

theorem TP.own0 (h : TP m Mine t) (hm : m ≠ 0) {fn : FuncId} {pos : String} {es : Array Event} (he : ∀ e ∈ es, EvA Mine e) : TP m Mine (t ++ MemOp.ofEvents 0 fn pos es) := by
  have hd : ∀ e ∈ es, e.loc ≠ .mark .disable ∧ e.loc ≠ .mark .enable := fun e hx => ⟨fun k => ((he e hx).1 _ k).ne_disable rfl, fun k => ((he e hx).1 _ k).ne_enable rfl⟩
  have hw : ∀ op ∈ MemOp.ofEvents 0 fn pos es, ∀ b, op.act.touch? = some b → b.write = true → Mine b.loc := by
    intro op hop b hb hbw
    obtain ⟨e, hx, rfl⟩ := Go.Conc.mem_ofEvents hop
    obtain ⟨k1, k2⟩ := ofEvent_touch (he e hx).1 hb
    rw [k1]; exact (he e hx).2 (k2 ▸ hbw)
  refine ⟨fun said => noRace_append (h.clean said) (fun op hop => mem_ofE hop) fun i a ha op hop b hb hc => ?_, fun i a ha hma => ?_, over_old (g0 := fun g => g ≠ m) h.over fun op hop => .inl (mem_ofE hop), ?_, ?_⟩
  · rcases h.cls i a ha hc.2.1 with ⟨k, _⟩ | ⟨k, _⟩ | ⟨k, k1, k2⟩
    · exact k
    · obtain ⟨x, hx, _⟩ := touch_of ha
      have := knows_own hx
      rw [show x.g = 0 by have := g?_of hx; rw [k] at this; exact (Option.some.inj this).symm] at this
      exact this
    · exfalso
      obtain ⟨e1, _, e3, _⟩ := hc
      rw [k1] at e3
      rcases e3 with e3 | e3
      · cases e3
      · exact k2 (e1 ▸ hw op hop b hb e3)
  · obtain ⟨x, hx, hxa⟩ := touch_of ha
    rcases getElem?_append_cases hx with ⟨_, hx'⟩ | ⟨_, hxu⟩
    · exact h.cls_old (by rw [touchAt_of hx']; exact hxa) hma
    · exact .inr (.inl ⟨by rw [g?_of hx, mem_ofE hxu], hw x hxu a hxa⟩)
  · rw [Deaf_own]; exact (deafBehind_still hd _).trans h.hears0
  · rw [Deaf_other t (g' := 0) (fun e => hm e.symm) _ fun op hop => mem_ofE hop]; exact h.hearsM

theorem TP.ownM (h : TP m Mine t) (hm : m ≠ 0) {fn : FuncId} {pos : String} {es : Array Event} (he : ∀ e ∈ es, EvB Mine e) : TP m Mine (t ++ MemOp.ofEvents m fn pos es) := by
  have hd : ∀ e ∈ es, e.loc ≠ .mark .disable ∧ e.loc ≠ .mark .enable := fun e hx => ⟨fun k => ((he e hx).1 _ k).ne_disable rfl, fun k => ((he e hx).1 _ k).ne_enable rfl⟩
  have hw : ∀ op ∈ MemOp.ofEvents m fn pos es, ∀ b, op.act.touch? = some b → b.write = false ∧ ¬ Mine b.loc := by
    intro op hop b hb
    obtain ⟨e, hx, rfl⟩ := Go.Conc.mem_ofEvents hop
    obtain ⟨k1, k2⟩ := ofEvent_touch (he e hx).1 hb
    rw [k1, k2]; exact (he e hx).2
  refine ⟨fun said => noRace_append (h.clean said) (fun op hop => mem_ofE hop) fun i a ha op hop b hb hc => ?_, fun i a ha hma => ?_, over_old (g0 := fun g => g ≠ m) h.over fun op hop => .inr (.inl fun k => k (mem_ofE hop)), ?_, ?_⟩
  · rcases h.cls i a ha hc.2.1 with ⟨_, k⟩ | ⟨k, k1⟩ | ⟨k, _, _⟩
    · exact k
    · exfalso
      obtain ⟨w1, w2⟩ := hw op hop b hb
      obtain ⟨e1, _, e3, _⟩ := hc
      rw [w1] at e3
      rcases e3 with e3 | e3
      · exact w2 (e1 ▸ k1 e3)
      · cases e3
    · obtain ⟨x, hx, _⟩ := touch_of ha
      have := knows_own hx
      rw [show x.g = m by have := g?_of hx; rw [k] at this; exact (Option.some.inj this).symm] at this
      exact this
  · obtain ⟨x, hx, hxa⟩ := touch_of ha
    rcases getElem?_append_cases hx with ⟨_, hx'⟩ | ⟨_, hxu⟩
    · exact h.cls_old (by rw [touchAt_of hx']; exact hxa) hma
    · exact .inr (.inr ⟨by rw [g?_of hx, mem_ofE hxu], hw x hxu a hxa⟩)
  · rw [Deaf_other t (g' := m) hm _ fun op hop => mem_ofE hop]; exact h.hears0
  · rw [Deaf_own]; exact (deafBehind_still hd _).trans h.hearsM

/-- A leaver's step. -/
theorem TP.mute (h : TP m Mine t) {g : Nat} (hg : g ≠ 0) (hgm : g ≠ m) {fn : FuncId} {pos : String} {es : Array Event} (he : ∀ e ∈ es, e.mute = true) : TP m Mine (t ++ MemOp.ofEvents g fn pos es) := by
  have hn : ∀ op ∈ MemOp.ofEvents g fn pos es, op.act.touch? = none := fun op hop => by obtain ⟨e, hx, rfl⟩ := Go.Conc.mem_ofEvents hop; exact touch_mute (he e hx)
  refine ⟨fun said => noRace_append (h.clean said) (fun op hop => mem_ofE hop) fun i a _ op hop b hb _ => (by rw [hn op hop] at hb; cases hb), fun i a ha hma => ?_, over_old (g0 := fun g => g ≠ m) h.over fun op hop => .inr (.inr (hn op hop)), ?_, ?_⟩
  · obtain ⟨x, hx, hxa⟩ := touch_of ha
    rcases getElem?_append_cases hx with ⟨_, hx'⟩ | ⟨_, hxu⟩
    · exact h.cls_old (by rw [touchAt_of hx']; exact hxa) hma
    · rw [hn x hxu] at hxa; cases hxa
  · rw [Deaf_other t hg _ fun op hop => mem_ofE hop]; exact h.hears0
  · rw [Deaf_other t hgm _ fun op hop => mem_ofE hop]; exact h.hearsM

/-- What a communication lists. -/
theorem TP.comm (h : TP m Mine t) (hu : ∀ op ∈ u, dumb op) : TP m Mine (t ++ u) := by
  refine ⟨fun said => noRace_mute (h.clean said) fun op hop => (hu op hop).1, fun i a ha hma => ?_, over_old (g0 := fun g => g ≠ m) h.over fun op hop => .inr (.inr (hu op hop).1), ?_, ?_⟩
  · obtain ⟨x, hx, hxa⟩ := touch_of ha
    rcases getElem?_append_cases hx with ⟨_, hx'⟩ | ⟨_, hxu⟩
    · exact h.cls_old (by rw [touchAt_of hx']; exact hxa) hma
    · rw [(hu x hxu).1] at hxa; cases hxa
  · rw [deaf_dumb hu]; exact h.hears0
  · rw [deaf_dumb hu]; exact h.hearsM

/-- THE BEGINNING: goroutine 0 starts goroutine m. -/
theorem TP.start (h : PastC t) (hm : m ≠ 0) (hd : Deaf t m = 0) {y z : MemOp} (hy : y.g = 0) (hya : y.act = .go m) (hz : z.g = m) (hza : z.act = .start) : TP m Mine (t ++ #[y, z]) := by
  have hdy : dumb y := ⟨by rw [hya]; rfl, fun mk => by rw [hya]; intro e; cases e⟩
  have hdz : dumb z := ⟨by rw [hza]; rfl, fun mk => by rw [hza]; intro e; cases e⟩
  have hu : ∀ op ∈ #[y, z], dumb op := by
    intro op hop
    simp at hop
    rcases hop with rfl | rfl <;> assumption
  have gy : (t ++ #[y, z])[t.size]? = some y := by simp
  have gz : (t ++ #[y, z])[t.size + 1]? = some z := by simp [Array.getElem?_append]
  have d0 : Deaf (t ++ #[y, z]) 0 = 0 := by rw [deaf_dumb hu]; exact h.hears
  have hb : HappensBefore (t ++ #[y, z]) t.size (t.size + 1) := by
    refine .single (.inr ⟨.spawn (child := m) (by rw [act?_of gy, hya]) (by rw [act?_of gz, hza]) (by rw [g?_of gz, hz]), ⟨0, by rw [g?_of gy, hy], ?_⟩, ⟨m, by rw [g?_of gz, hz], ?_⟩⟩)
    · rw [deaf_old (Nat.le_refl _)]; exact h.hears
    · have e : t ++ #[y, z] = (t ++ #[y]) ++ #[z] := by apply Array.ext'; simp
      rw [e, deaf_old (by simp)]
      have : (t ++ #[y]).deaf m (t ++ #[y]).size = Deaf (t ++ #[y]) m := rfl
      rw [show t.size + 1 = (t ++ #[y]).size by simp, this, deaf_dumb fun op hop => by simp at hop; rw [hop]; exact hdy]
      exact hd
  refine ⟨fun said => noRace_mute (h.clean said) fun op hop => (hu op hop).1, fun i a ha hma => ?_, over_old (g0 := fun g => g ≠ m) (fun i g h1 h2 _ h3 => h.over i g h1 h2 h3) fun op hop => .inr (.inr (hu op hop).1), d0, by rw [deaf_dumb hu]; exact hd⟩
  obtain ⟨x, hx, hxa⟩ := touch_of ha
  rcases getElem?_append_cases hx with ⟨hi, hx'⟩ | ⟨_, hxu⟩
  · have hk := h.known i a (by rw [touchAt_of hx']; exact hxa) hma
    refine .inl ⟨hk.app _, t.size + 1, z, gz, hz, .inr ((hk.hb_new (Nat.le_refl _) gy hy).trans hb)⟩
  · rw [(hu x hxu).1] at hxa; cases hxa

/-- What is held behind the close, which stands at pc. -/
structure TC (m c pc : Nat) (Mine : Loc → Prop) (t : Trace) : Prop where
  clean : ∀ said, ¬ Race said t
  cls : ∀ i x, touchAt t i = some x → x.loc.isMemory = true → Knows t 0 i ∨ (Before t i pc ∧ x.write = false ∧ ¬ Mine x.loc)
  over : ∀ i g, t.g? i = some g → g ≠ 0 → t.counts i → (∃ j, t.g? j = some 0 ∧ HappensBefore t i j) ∨ Before t i pc
  hears0 : Deaf t 0 = 0
  close : t.act? pc = some (.close c) ∧ t.heard pc

theorem TP.close {c : Nat} (h : TP m Mine t) (hm : m ≠ 0) (hMc : ¬ Mine (.obj c)) {fn : FuncId} {pos : String} {es : Array Event} (he : ∀ e ∈ es, EvB Mine e) :
    ∃ pc, TC m c pc Mine (t ++ MemOp.ofEvents m fn pos (es.push ⟨.obj c, true, true⟩)) := by
  obtain ⟨y, hy⟩ : ∃ y : MemOp, y = { g := m, fn, pos, act := .close c } := ⟨_, rfl⟩
  have e : t ++ MemOp.ofEvents m fn pos (es.push ⟨.obj c, true, true⟩) = (t ++ MemOp.ofEvents m fn pos es) ++ #[y] := by
    rw [ofEvents_eq, ofEvents_eq, hy]
    simp [MemAct.ofEvent]
  rw [e]
  have h1 := h.ownM (fn := fn) (pos := pos) hm he
  have hdy : ∀ op ∈ #[y], dumb op := by
    intro op hop
    simp at hop
    rw [hop, hy]
    exact ⟨rfl, fun mk k => by cases k⟩
  have h2 := h1.comm hdy
  generalize t ++ MemOp.ofEvents m fn pos es = t1 at h1 h2 ⊢
  have gy : (t1 ++ #[y])[t1.size]? = some y := by simp
  refine ⟨t1.size, h2.clean, fun i x ha hma => ?_, fun i g hg hne hc => ?_, h2.hears0, by rw [act?_of gy, hy], m, by rw [g?_of gy, hy], by rw [deaf_old (Nat.le_refl _)]; exact h1.hearsM⟩
  · rcases h2.cls i x ha hma with ⟨k, _⟩ | ⟨k, _⟩ | ⟨k, k1, k2⟩
    · exact .inl k
    · obtain ⟨z, hz, _⟩ := touch_of ha
      have := knows_own hz
      rw [show z.g = 0 by have := g?_of hz; rw [k] at this; exact (Option.some.inj this).symm] at this
      exact .inl this
    · refine .inr ⟨?_, k1, k2⟩
      obtain ⟨z, hz, hza⟩ := touch_of ha
      have hzg : z.g = m := by have := g?_of hz; rw [k] at this; exact (Option.some.inj this).symm
      rcases getElem?_append_cases hz with ⟨hi, _⟩ | ⟨_, hzu⟩
      · exact .inr (hb_po hi hz gy (by rw [hzg, hy]))
      · rw [(hdy z hzu).1] at hza; cases hza
  · by_cases hgm : g = m
    · right
      obtain ⟨x, hx, _⟩ := hc
      obtain ⟨z, hz, hza⟩ := touch_of hx
      have hzg : z.g = m := by have := g?_of hz; rw [hg] at this; rw [← hgm]; exact (Option.some.inj this).symm
      rcases getElem?_append_cases hz with ⟨hi, _⟩ | ⟨_, hzu⟩
      · exact .inr (hb_po hi hz gy (by rw [hzg, hy]))
      · rw [(hdy z hzu).1] at hza; cases hza
    · exact .inl (h2.over i g hg hne hgm hc)

theorem TC.grow {c pc : Nat} (h : TC m c pc Mine t) (hd : Deaf (t ++ u) 0 = 0) (hc : ∀ said, ¬ Race said (t ++ u)) (hu : ∀ op ∈ u, op.g = 0 ∨ op.act.touch? = none) : TC m c pc Mine (t ++ u) := by
  have hlt : pc < t.size := lt_of_act? h.close.1
  refine ⟨hc, fun i x ha hma => ?_, fun i g hg hne hcn => ?_, hd, by rw [act?_old hlt]; exact h.close.1, (heard_old hlt).2 h.close.2⟩
  · obtain ⟨z, hz, hza⟩ := touch_of ha
    rcases getElem?_append_cases hz with ⟨hi, hz'⟩ | ⟨_, hzu⟩
    · rcases h.cls i x (by rw [touchAt_of hz']; exact hza) hma with k | ⟨k, k1⟩
      · exact .inl (k.app u)
      · exact .inr ⟨k.app u, k1⟩
    · rcases hu z hzu with k | k
      · have := knows_own hz
        rw [k] at this
        exact .inl this
      · rw [k] at hza; cases hza
  · obtain ⟨x, hx, _⟩ := hcn
    obtain ⟨z, hz, hza⟩ := touch_of hx
    have hzg : z.g = g := by have := g?_of hz; rw [hg] at this; exact (Option.some.inj this).symm
    rcases getElem?_append_cases hz with ⟨hi, hz'⟩ | ⟨_, hzu⟩
    · rcases h.over i g (by rw [Go.Conc.g?_old hi] at hg; exact hg) hne ((counts_old hi).1 ⟨x, hx, ‹_›⟩) with ⟨j, hj, hb⟩ | k
      · exact .inl ⟨j, old_g hj, hb_app u hb⟩
      · exact .inr (k.app u)
    · rcases hu z hzu with k | k
      · exact absurd (hzg ▸ k) hne
      · rw [k] at hza; cases hza

theorem TC.own0 {c pc : Nat} (h : TC m c pc Mine t) {fn : FuncId} {pos : String} {es : Array Event} (he : ∀ e ∈ es, EvA Mine e) : TC m c pc Mine (t ++ MemOp.ofEvents 0 fn pos es) := by
  have hd : ∀ e ∈ es, e.loc ≠ .mark .disable ∧ e.loc ≠ .mark .enable := fun e hx => ⟨fun k => ((he e hx).1 _ k).ne_disable rfl, fun k => ((he e hx).1 _ k).ne_enable rfl⟩
  refine h.grow (by rw [Deaf_own]; exact (deafBehind_still hd _).trans h.hears0) (fun said => noRace_append (h.clean said) (fun op hop => mem_ofE hop) fun i a ha op hop b hb hc => ?_) fun op hop => .inl (mem_ofE hop)
  rcases h.cls i a ha hc.2.1 with k | ⟨_, k1, k2⟩
  · exact k
  · exfalso
    obtain ⟨e, hx, rfl⟩ := Go.Conc.mem_ofEvents hop
    obtain ⟨w1, w2⟩ := ofEvent_touch (he e hx).1 hb
    obtain ⟨e1, _, e3, _⟩ := hc
    rw [k1] at e3
    rcases e3 with e3 | e3
    · cases e3
    · refine k2 (e1 ▸ ?_)
      rw [w1]; exact (he e hx).2 (w2 ▸ e3)

theorem TC.mute {c pc : Nat} (h : TC m c pc Mine t) {g : Nat} (hg : g ≠ 0) {fn : FuncId} {pos : String} {es : Array Event} (he : ∀ e ∈ es, e.mute = true) : TC m c pc Mine (t ++ MemOp.ofEvents g fn pos es) := by
  have hn : ∀ op ∈ MemOp.ofEvents g fn pos es, op.act.touch? = none := fun op hop => by obtain ⟨e, hx, rfl⟩ := Go.Conc.mem_ofEvents hop; exact touch_mute (he e hx)
  exact h.grow (by rw [Deaf_other t hg _ fun op hop => mem_ofE hop]; exact h.hears0) (fun said => noRace_mute (h.clean said) hn) fun op hop => .inr (hn op hop)

theorem TC.comm {c pc : Nat} (h : TC m c pc Mine t) (hu : ∀ op ∈ u, dumb op) : TC m c pc Mine (t ++ u) :=
  h.grow (by rw [deaf_dumb hu]; exact h.hears0) (fun said => noRace_mute (h.clean said) fun op hop => (hu op hop).1) fun op hop => .inr (hu op hop).1

/-- THE END: the receiver has found the channel closed. -/
theorem TC.fin {c pc : Nat} (h : TC m c pc Mine t) {y : MemOp} (hy : y.g = 0) (hya : y.act = .recvClosed c) : PastC (t ++ #[y]) := by
  have hdy : ∀ op ∈ #[y], dumb op := by
    intro op hop
    simp at hop
    rw [hop]
    exact ⟨by rw [hya]; rfl, fun mk k => by rw [hya] at k; cases k⟩
  have gy : (t ++ #[y])[t.size]? = some y := by simp
  have hlt : pc < t.size := lt_of_act? h.close.1
  have h2 := h.comm hdy
  have hb : HappensBefore (t ++ #[y]) pc t.size := by
    refine .single (.inr ⟨.closed (c := c) h2.close.1 (by rw [act?_of gy, hya]), h2.close.2, 0, by rw [g?_of gy, hy], ?_⟩)
    rw [deaf_old (Nat.le_refl _)]; exact h.hears0
  refine ⟨h2.clean, fun i a ha hma => ?_, fun i g hg hne hc => ?_, h2.hears0⟩
  · rcases h2.cls i a ha hma with k | ⟨k, _⟩
    · exact k
    · exact ⟨t.size, y, gy, hy, .inr (k.hb hb)⟩
  · rcases h2.over i g hg hne hc with k | k
    · exact k
    · exact ⟨t.size, by rw [g?_of gy, hy], k.hb hb⟩

end
end Go.Proofs.Ytlglokbakmbpdaa

namespace Go.Proofs.Ytlglokbakmbpdaa
open Go Go.Conc
open Go.ConcN (sumTo upd sumTo_upd upd_ne upd_same)
set_option linter.unusedVariables false
set_option linter.unusedSimpArgs false

section
variable {P : Program} {gs : Array Goroutine} {w w₁ : World} {sl : Option (Nat × Nat)} {i j : Nat} {g g₂ gj : Goroutine} {es : Array Event} {shape shj : CommShape} {blocking : Bool}
  {c cap s r : Nat} {buf : Array Value} {closed tm : Bool} {v z zj : Value}

/-- A receive takes from a full buffer; the one parked sender's value goes in behind. -/
theorem crowd_recv_full (hi : gs[i]? = some g) (h : stepG P (i == 0) g w = .comm g₂ #[rcase c z] blocking shape w₁ es) (hc : w₁.heap[c]? = some (.chan cap buf closed s r tm)) (hsome : 0 < buf.size)
    (hij : j ≠ i) (hj : gs[j]? = some (parked gj #[scase c v zj] shj)) (hp : partners (gs.setIfInBounds i ph) c true = [(j, 0)]) :
    runT P (crowd gs w sl) i = (.next (crowd ((gs.setIfInBounds j (gj.finishComm P #[scase c v zj] shj 0 undef false)).setIfInBounds i (g₂.finishComm P #[rcase c z] shape 0 (buf.getD 0 undef) true)) (w₁.setChan c cap ((buf.extract 1 buf.size).push v) closed (s + 1) (r + 1) tm) sl),
      MemOp.ofEvents i g.frame.fn g.frame.place es ++ #[{ g := i, fn := g₂.frame.fn, pos := g₂.frame.place, act := .recv c r cap }, { g := i, fn := g₂.frame.fn, pos := g₂.frame.place, act := .recvDone c r },
        { g := j, fn := gj.frame.fn, pos := gj.frame.place, act := .send c s }, { g := j, fn := gj.frame.fn, pos := gj.frame.place, act := .sendDone c s }]) := by
  rw [runT_crowd_comm hi h]
  have hj' := stand_get (i := i) hij hj
  have hfp := finishPartner_at P (gs.setIfInBounds i ph) hj' (cs := #[scase c v zj]) (sh := shj) rfl 0 undef
  have hgd : (gs.setIfInBounds i ph).getD j default = parked gj #[scase c v zj] shj := by rw [Array.getD_eq_getD_getElem?, hj']; rfl
  have hov : offeredValue (gs.setIfInBounds i ph) j 0 = v := by simp [offeredValue, hj', parked, scase]
  simp [communicate, ways, rcase, hc, hp, hsome, choose, Sem.run, Question.forced, bind, Sem.bind, pure, World.setChan, crowd, hfp, hgd, hov, set_stand2, finishComm_parked, scase, parked]
  rfl
end

theorem quitsD_of_in {P : Program} : ∀ {n : Nat} {g : Goroutine}, QuitsIn P n g → QuitsD P n 0 g
  | 0, _, h => ⟨h, rfl⟩
  | _ + 1, _, .inl h => .inl ⟨h, rfl⟩
  | n + 1, _, .inr ⟨hs, g', hw, hq⟩ => .inr ⟨hs, g', #[], by simp, hw, by simpa [deafBehind] using quitsD_of_in hq⟩

section
variable (P : Program) (c : Nat) (S : World → Prop) (Mine : Loc → Prop)

/-- It stands at the close; behind it it only leaves. -/
def AtCloseB (g : Goroutine) : Prop :=
  g.status = .running ∧ mayWake P g = true ∧ ∃ (g₂ : Goroutine) (es : Array Event) (n : Nat),
    (∀ w cap buf s r tm, S w → w.heap[c]? = some (.chan cap buf false s r tm) → stepG P false g w = .go g₂ (w.setChan c cap buf true s r tm) (es.push ⟨.obj c, true, true⟩)) ∧ (∀ e ∈ es, EvB Mine e) ∧ QuitsIn P n g₂

def SendsB : List Value → Goroutine → Prop
  | [], g => ∃ n, Goes P false (fun _ w₁ => S w₁) (DB Mine) (fun g₁ _ => AtCloseB P c S Mine g₁) n g default
  | v :: vs, g => ∃ n, Goes P false (fun _ w₁ => S w₁) (DB Mine) (fun g₁ _ => AtSend P c S Mine v (SendsB vs) g₁) n g default

def StopS : List Value → Goroutine → World → Prop
  | [] => fun g₁ _ => AtCloseB P c S Mine g₁
  | v :: vs => fun g₁ _ => AtSend P c S Mine v (SendsB P c S Mine vs) g₁

theorem sendsB_iff (vs : List Value) (g : Goroutine) : SendsB P c S Mine vs g ↔ ∃ n, Goes P false (fun _ w₁ => S w₁) (DB Mine) (StopS P c S Mine vs) n g default := by
  cases vs <;> exact Iff.rfl

/-- The receiver runs (k = n + 1), or is parked (k = 0). -/
def RecvSt (z : Value) (Fin : Goroutine → World → Prop) (l : List Value) (a : Goroutine) (w : World) (k : Nat) : Prop :=
  (∃ n, k = n + 1 ∧ Goes P true (Aside c) (DA c S Mine) (StopA P c S Mine z Fin l) n a w) ∨
  (k = 0 ∧ ∃ g0, a = parked (core g0) #[rcase c z] (.recv true) ∧ ∀ w₁, Aside c w w₁ → StopA P c S Mine z Fin l g0 w₁)

def SendSt (ys : List Value) (b : Goroutine) (k : Nat) : Prop :=
  (∃ n, k = n + 1 ∧ Goes P false (fun _ w₁ => S w₁) (DB Mine) (StopS P c S Mine ys) n b default) ∨
  (k = 0 ∧ ∃ v ys' g2 z', ys = v :: ys' ∧ b = parked g2 #[scase c v z'] .send ∧ SendsB P c S Mine ys' (Go.Conc.served g2 undef))
end

section
variable {P : Program} {c : Nat} {S : World → Prop} {Mine : Loc → Prop} {z : Value} {Fin : Goroutine → World → Prop} {m cap : Nat} {tm : Bool}

theorem stopA_run {l : List Value} {g : Goroutine} {w : World} (h : StopA P c S Mine z Fin l g w) : g.status = .running := by
  cases l with
  | nil => exact h.1
  | cons v vs => exact h.1

theorem stopS_run {l : List Value} {g : Goroutine} {w : World} (h : StopS P c S Mine l g w) : g.status = .running := by
  cases l with
  | nil => exact h.1
  | cons v vs => exact h.1

/-- A record let try again stands at the receive at which it stood. -/
theorem stopA_again {l : List Value} {g0 : Goroutine} {w : World} (h : StopA P c S Mine z Fin l g0 w) : StopA P c S Mine z Fin l { parked (core g0) #[rcase c z] (.recv true) with status := .running } w := by
  have e : ∀ w, stepG P true { parked (core g0) #[rcase c z] (.recv true) with status := .running } w = stepG P true g0 w := fun w => stepG_same rfl rfl rfl w
  have e2 : core { parked (core g0) #[rcase c z] (.recv true) with status := .running } = core g0 := rfl
  cases l with
  | nil =>
    obtain ⟨_, es, h1, h2, h3⟩ := h
    exact ⟨rfl, es, by rw [e, e2]; exact h1, h2, h3⟩
  | cons v vs =>
    obtain ⟨_, es, h1, h2, h3⟩ := h
    exact ⟨rfl, es, by rw [e, e2]; exact h1, h2, h3⟩

theorem recvSt_run {l : List Value} {a : Goroutine} {w : World} {n : Nat} (h : Goes P true (Aside c) (DA c S Mine) (StopA P c S Mine z Fin l) n a w) : a.status = .running :=
  h.running (fun _ _ x => stopA_run x) w (Aside.refl c w)

/-- All but goroutines 0 and m only leave. -/
structure Others (P : Program) (m : Nat) (t : Trace) (gs : Array Goroutine) (q : Nat → Nat) : Prop where
  old : ∀ i g, 0 < i → i ≠ m → gs[i]? = some g → QuitsD P (q i) (Deaf t i) g
  above : ∀ j, gs.size ≤ j → Deaf t j = 0
  pos : 0 < m

structure Op (P : Program) (c : Nat) (S : World → Prop) (Mine : Loc → Prop) (z : Value) (Fin : Goroutine → World → Prop) (m cap : Nat) (tm : Bool) (gs : Array Goroutine) (w : World) (t : Trace) (q : Nat → Nat) (xs ys : List Value) (ka kb : Nat) : Prop where
  ex : ∃ a b, gs[0]? = some a ∧ gs[m]? = some b ∧ RecvSt P c S Mine z Fin (xs ++ ys) a w ka ∧ SendSt P c S Mine ys b kb
  oth : Others P m t gs q
  tr : TP m Mine t
  ch : ∃ s r, w.heap[c]? = some (.chan cap xs.toArray false s r tm)
  sw : S w
  pa : ka = 0 → xs = []
  pb : kb = 0 → cap ≤ xs.length

structure Sh (P : Program) (c : Nat) (S : World → Prop) (Mine : Loc → Prop) (z : Value) (Fin : Goroutine → World → Prop) (m cap : Nat) (tm : Bool) (gs : Array Goroutine) (w : World) (t : Trace) (q : Nat → Nat) (xs : List Value) (n : Nat) : Prop where
  ex : ∃ a, gs[0]? = some a ∧ Goes P true (Aside c) (DA c S Mine) (StopA P c S Mine z Fin xs) n a w
  lv : Leavers P t gs q
  tr : ∃ pc, TC m c pc Mine t
  ch : ∃ s r, w.heap[c]? = some (.chan cap xs.toArray true s r tm)
  sw : S w

/-- The end: the receiver behind its last receive. -/
def Ended (P : Program) (Fin : Goroutine → World → Prop) (gs : Array Goroutine) (w : World) (t : Trace) (q : Nat → Nat) : Prop := ∃ a, Fr P a gs t q ∧ Fin a w

theorem leavers_of_in {t : Trace} {gs : Array Goroutine} {q : Nat → Nat} {g : Goroutine} {n : Nat} (hO : Others P m t gs q) (hg : gs[m]? = some g) (hq : QuitsIn P n g) (hd : Deaf t m = 0) : Leavers P t gs (upd q m n) := by
  refine ⟨fun i x hi hx => ?_, hO.above⟩
  by_cases e : i = m
  · subst e
    rw [hg] at hx
    obtain rfl := Option.some.inj hx
    rw [upd_same, hd]
    exact quitsD_of_in hq
  · rw [upd_ne q n e]
    exact hO.old i x hi e hx

/-- The others, where goroutine 0 or m has taken an ordinary step. -/
theorem Others.go {t u : Trace} {gs : Array Goroutine} {q : Nat → Nat} (h : Others P m t gs q) {k : Nat} (hk : k = 0 ∨ k = m) {g g' x : Goroutine} {w' : World} (hu : ∀ op ∈ u, op.g = k) (hlt : k < gs.size) :
    Others P m (t ++ u) ((gs.map (woken P g g' w')).setIfInBounds k x) q := by
  refine ⟨fun i y hi hm hy => ?_, fun j hj => ?_, h.pos⟩
  · have hne : k ≠ i := by rcases hk with rfl | rfl <;> omega
    rw [Array.getElem?_setIfInBounds_ne hne, Array.getElem?_map] at hy
    obtain ⟨y', hy', rfl⟩ := Option.map_eq_some_iff.1 hy
    have hq := h.old i y' hi hm hy'
    rw [woken_quitsD hq, Deaf_other t hne _ hu]
    exact hq
  · rw [Deaf_other t (g' := k) (by simp at hj; omega) _ hu]
    exact h.above j (by simpa using hj)

/-- .. where both, or one of both, have been laid anew by a communication. -/
theorem Others.comm {t u : Trace} {gs gs' : Array Goroutine} {q : Nat → Nat} (h : Others P m t gs q) (hs : gs'.size = gs.size) (hg : ∀ i, 0 < i → i ≠ m → gs'[i]? = gs[i]?) (hu : ∀ i, 0 < i → i ≠ m → Deaf (t ++ u) i = Deaf t i) (hm : m < gs.size) :
    Others P m (t ++ u) gs' q := by
  have h0 := h.pos
  refine ⟨fun i y hi hm hy => ?_, fun j hj => ?_, h.pos⟩
  · rw [hu i hi hm]
    exact h.old i y hi hm (by rw [← hg i hi hm]; exact hy)
  · rw [hu j (by omega) (by omega)]; exact h.above j (by omega)

theorem deaf_two {t u : Trace} {i m : Nat} (hu : ∀ op ∈ u, op.g = 0 ∨ op.g = m) (hi : 0 < i) (hm : i ≠ m) : Deaf (t ++ u) i = Deaf t i := by
  obtain ⟨l⟩ := u
  rw [Deaf_append]
  induction l generalizing t with
  | nil => rfl
  | cons y l ih =>
    have e1 : deafStep i (Deaf t i) y = Deaf t i := by
      have hy := hu y (by simp)
      have hne : y.g ≠ i := by rcases hy with h | h <;> omega
      unfold deafStep
      split <;> simp [hne]
    rw [List.foldl_cons, e1]
    exact ih fun op hop => hu op (by simp at hop ⊢; exact .inr hop)

/-- Nobody offers what is asked for but, at most, the other of both. -/
theorem offers_none {t : Trace} {gs : Array Goroutine} {q : Nat → Nat} (h : Others P m t gs q) {k o : Nat} (hk : (k = 0 ∧ o = m) ∨ (k = m ∧ o = 0)) (send : Bool) {x : Goroutine} (ho : gs[o]? = some x) (hx : offersAt x c send = []) :
    partners (gs.setIfInBounds k ph) c send = [] := by
  refine partners_nil fun j g hj => ?_
  rcases getElem?_stand gs k j g hj with ⟨_, rfl⟩ | ⟨hne, hj'⟩
  · rfl
  · by_cases e : j = o
    · subst e
      rw [ho] at hj'
      obtain rfl := Option.some.inj hj'
      exact hx
    · have := h.old j g (by rcases hk with ⟨rfl, rfl⟩ | ⟨rfl, rfl⟩ <;> omega) (by rcases hk with ⟨rfl, rfl⟩ | ⟨rfl, rfl⟩ <;> omega) hj'
      exact offersAt_of_not_blocked (by rcases this.status with e | e <;> rw [e] <;> simp) _ _

theorem offers_one {t : Trace} {gs : Array Goroutine} {q : Nat → Nat} (h : Others P m t gs q) {k o : Nat} (hk : (k = 0 ∧ o = m) ∨ (k = m ∧ o = 0)) (send : Bool) {x : Goroutine} (ho : gs[o]? = some x) (hx : offersAt x c send = [0]) :
    partners (gs.setIfInBounds k ph) c send = [(o, 0)] := by
  have h0 := h.pos
  have hko : o ≠ k := by rcases hk with ⟨rfl, rfl⟩ | ⟨rfl, rfl⟩ <;> omega
  rw [partners_one (j := o) (g := x) (stand_get hko ho) fun j g hj hg => ?_, hx]
  · rfl
  · rcases getElem?_stand gs k j g hg with ⟨_, rfl⟩ | ⟨hne, hj'⟩
    · rfl
    · have := h.old j g (by rcases hk with ⟨rfl, rfl⟩ | ⟨rfl, rfl⟩ <;> omega) (by rcases hk with ⟨rfl, rfl⟩ | ⟨rfl, rfl⟩ <;> omega) hj'
      exact offersAt_of_not_blocked (by rcases this.status with e | e <;> rw [e] <;> simp) _ _

end
end Go.Proofs.Ytlglokbakmbpdaa

namespace Go.Proofs.Ytlglokbakmbpdaa
open Go Go.Conc
open Go.ConcN (sumTo upd sumTo_upd upd_ne upd_same)
set_option linter.unusedVariables false
set_option linter.unusedSimpArgs false

section
variable {P : Program} {c : Nat} {S : World → Prop} {Mine : Loc → Prop} {z : Value} {Fin : Goroutine → World → Prop} {m cap : Nat} {tm : Bool}

/-- From here the machine comes to the end. -/
def Reach (P : Program) (Fin : Goroutine → World → Prop) (gs : Array Goroutine) (w : World) (t : Trace) : Prop :=
  ∀ sl, ∃ N gs' w' t' q' sl', runNT P N (crowd gs w sl) t = (.next (crowd gs' w' sl'), t') ∧ Ended P Fin gs' w' t' q'

theorem reach_step {gs : Array Goroutine} {w : World} {t : Trace}
    (h : ∀ sl, ∃ gs' w' sl' ops, stepT P (crowd gs w sl) = (.next (crowd gs' w' sl'), ops) ∧ Reach P Fin gs' w' (t ++ ops)) : Reach P Fin gs w t := by
  intro sl
  obtain ⟨gs1, w1, sl1, ops, h1, h2⟩ := h sl
  obtain ⟨N, gs', w', t', q', sl', h3, h4⟩ := h2 sl1
  exact ⟨N + 1, gs', w', t', q', sl', by simp only [runNT, h1]; exact h3, h4⟩

theorem reach_end {gs : Array Goroutine} {w : World} {t : Trace} {q : Nat → Nat} (h : Ended P Fin gs w t q) : Reach P Fin gs w t := fun sl => ⟨0, gs, w, t, q, sl, rfl, h⟩

theorem lv_step0 {gs : Array Goroutine} {t : Trace} {q : Nat → Nat} {a a' : Goroutine} {w' : World} {fn : FuncId} {pos : String} {es : Array Event} (h : Leavers P t gs q) (h0 : gs[0]? = some a) :
    Leavers P (t ++ MemOp.ofEvents 0 fn pos es) ((gs.map (woken P a a' w')).setIfInBounds 0 a') q := by
  have hlt : 0 < gs.size := (Array.getElem?_eq_some_iff.1 h0).1
  refine ⟨fun j x hj hx => ?_, fun j hj => ?_⟩
  · have hne : 0 ≠ j := by omega
    rw [Array.getElem?_setIfInBounds_ne hne, Array.getElem?_map] at hx
    obtain ⟨y, hy, rfl⟩ := Option.map_eq_some_iff.1 hx
    have hq := h.old j y hj hy
    rw [woken_quitsD hq, Deaf_other t (by omega) _ (fun op hop => mem_ofE hop)]
    exact hq
  · rw [Deaf_other t (g' := 0) (by simp at hj; omega) _ (fun op hop => mem_ofE hop)]
    exact h.above j (by simpa using hj)

theorem lv_comm0 {gs : Array Goroutine} {t u : Trace} {q : Nat → Nat} {a : Goroutine} (h : Leavers P t gs q) (h0 : 0 < gs.size) (hu : ∀ op ∈ u, op.g = 0) : Leavers P (t ++ u) (gs.setIfInBounds 0 a) q := by
  refine ⟨fun j x hj hx => ?_, fun j hj => ?_⟩
  · rw [Array.getElem?_setIfInBounds_ne (by omega)] at hx
    rw [Deaf_other t (g' := 0) (by omega) _ hu]
    exact h.old j x hj hx
  · rw [Deaf_other t (g' := 0) (by simp at hj; omega) _ hu]
    exact h.above j (by simpa using hj)

/-- A leaver slips. -/
theorem slip {gs : Array Goroutine} {t : Trace} {q : Nat → Nat} {i : Nat} {g : Goroutine} {w : World} {sl : Option (Nat × Nat)} (hpos : 0 < i) (hi : gs[i]? = some g) (hg : g.status = .running) (hq : QuitsD P (q i) (Deaf t i) g) :
    ∃ g' es k, runT P (crowd gs w sl) i = (.next (crowd ((gs.map (woken P g g' w)).setIfInBounds i g') w sl), MemOp.ofEvents i g.frame.fn g.frame.place es) ∧ (∀ e ∈ es, e.mute = true) ∧ q i = k + 1 ∧
      QuitsD P k (Deaf (t ++ MemOp.ofEvents i g.frame.fn g.frame.place es) i) g' ∧ sumTo gs.size (upd q i k) < sumTo gs.size q := by
  have hi0 : (i == 0) = false := by simp; omega
  have hlt : i < gs.size := (Array.getElem?_eq_some_iff.1 hi).1
  cases hqi : q i with
  | zero => rw [hqi] at hq; rw [hq.1] at hg; cases hg
  | succ k =>
    rw [hqi] at hq
    rcases hq with ⟨hf, _⟩ | ⟨_, g', es, hm, hstp, hq'⟩
    · rw [hf] at hg; cases hg
    have hsum : sumTo gs.size (upd q i k) + (k + 1) = sumTo gs.size q + k := by
      have := sumTo_upd q k id hlt
      simpa [hqi] using this
    exact ⟨g', es, k, runT_crowd_go (P := P) (sl := sl) (i := i) hi (by rw [hi0]; exact hstp w), hm, rfl, by rw [Deaf_own]; exact hq', by omega⟩

theorem lv_slip {gs : Array Goroutine} {t : Trace} {q : Nat → Nat} {i k : Nat} {g g' : Goroutine} {w : World} {fn : FuncId} {pos : String} {es : Array Event} (h : Leavers P t gs q) (hpos : 0 < i) (hi : gs[i]? = some g)
    (hq : QuitsD P k (Deaf (t ++ MemOp.ofEvents i fn pos es) i) g') : Leavers P (t ++ MemOp.ofEvents i fn pos es) ((gs.map (woken P g g' w)).setIfInBounds i g') (upd q i k) := by
  have hlt : i < gs.size := (Array.getElem?_eq_some_iff.1 hi).1
  refine ⟨fun j x hj hx => ?_, fun j hj => ?_⟩
  · by_cases hji : i = j
    · subst hji
      rw [Array.getElem?_setIfInBounds_self_of_lt (by simpa using hlt)] at hx
      obtain rfl := Option.some.inj hx
      rw [upd_same]
      exact hq
    · rw [Array.getElem?_setIfInBounds_ne hji, Array.getElem?_map] at hx
      obtain ⟨y, hy, rfl⟩ := Option.map_eq_some_iff.1 hx
      have hqj := h.old j y hj hy
      rw [woken_quitsD hqj, upd_ne q k (Ne.symm hji), Deaf_other t hji _ (fun op hop => mem_ofE hop)]
      exact hqj
  · rw [Deaf_other t (g' := i) (by simp at hj; omega) _ (fun op hop => mem_ofE hop)]
    exact h.above j (by simpa using hj)

theorem lv_awake {gs : Array Goroutine} {t : Trace} {q : Nat → Nat} {a : Goroutine} (h : Leavers P t gs q) (h0 : gs[0]? = some a) (hr : a.status = .running) : ∀ g ∈ gs, Go.Conc.awake g := by
  intro g hg
  obtain ⟨i, hi, rfl⟩ := Array.mem_iff_getElem.1 hg
  rcases Nat.eq_zero_or_pos i with rfl | hpos
  · have : gs[0] = a := by simpa [Array.getElem?_eq_getElem hi] using h0
    rw [this]; exact awake_of (.inl hr)
  · exact awake_of ((h.old i _ hpos (Array.getElem?_eq_getElem hi)).status.elim .inl fun x => .inr (.inr x))

theorem lv_partners {gs : Array Goroutine} {t : Trace} {q : Nat → Nat} (h : Leavers P t gs q) (b : Bool) : partners (gs.setIfInBounds 0 ph) c b = [] := by
  refine partners_nil fun j g hj => ?_
  rcases getElem?_stand gs 0 j g hj with ⟨_, rfl⟩ | ⟨hne, hj'⟩
  · rfl
  · exact offersAt_of_not_blocked (by rcases (h.old j g (by omega) hj').status with e | e <;> rw [e] <;> simp) _ _

theorem aside_setChan (w : World) (d cap : Nat) (buf : Array Value) (cl : Bool) (s r : Nat) : Aside c w ((w.at d).setChan c cap buf cl s r tm) := (Aside.at c w d).trans (Aside.put c _ _)

theorem chan_setChan {w : World} {o : Obj} (h : w.heap[c]? = some o) (cap : Nat) (buf : Array Value) (cl : Bool) (s r : Nat) : (w.setChan c cap buf cl s r tm).heap[c]? = some (.chan cap buf cl s r tm) := heap_put h

theorem lex_ind {Q : Nat → Nat → Prop} (h : ∀ L X, (∀ L' X', L' < L → Q L' X') → (∀ X', X' < X → Q L X') → Q L X) : ∀ L X, Q L X := by
  intro L
  induction L using Nat.strongRecOn with
  | _ L ihL =>
    intro X
    induction X using Nat.strongRecOn with
    | _ X ihX => exact h L X (fun L' X' hl => ihL L' hl X') ihX

theorem asd_trans (c : Nat) : ∀ a b d : World, Aside c a b → Aside c b d → Aside c a d := fun _ _ _ h k => h.trans k

/-- Behind the close. -/
theorem sh_reach (hS : ∀ w w', Aside c w w' → S w → S w') {gs : Array Goroutine} {w : World} {t : Trace} {q : Nat → Nat} {xs : List Value} {n : Nat} (h : Sh P c S Mine z Fin m cap tm gs w t q xs n) : Reach P Fin gs w t := by
  have key := lex_ind (Q := fun L X => ∀ (gs : Array Goroutine) (w : World) (t : Trace) (q : Nat → Nat) (xs : List Value) (n : Nat), xs.length = L → n + sumTo gs.size q = X → Sh P c S Mine z Fin m cap tm gs w t q xs n → Reach P Fin gs w t) ?_
  · exact key _ _ gs w t q xs n rfl rfl h
  clear h gs w t q xs n
  intro L X ihL ihX gs w t q xs n hL hX h
  obtain ⟨a, h0, hG⟩ := h.ex
  obtain ⟨pc, htr⟩ := h.tr
  obtain ⟨s, r, hch⟩ := h.ch
  have hr : a.status = .running := recvSt_run hG
  have hlt : 0 < gs.size := (Array.getElem?_eq_some_iff.1 h0).1
  refine reach_step fun sl => ?_
  obtain ⟨i, g, d, sl', hi, hg, hst⟩ := crowd_pick (P := P) (w := w) (sl := sl) (lv_awake h.lv h0 hr) ⟨0, a, h0, hr⟩
  rcases Nat.eq_zero_or_pos i with rfl | hpos
  · obtain rfl : g = a := by rw [h0] at hi; exact (Option.some.inj hi).symm
    have hor : (∀ w₁, Aside c w w₁ → StopA P c S Mine z Fin xs g w₁) ∨ ∃ n', n = n' + 1 ∧ ∀ w₁, Aside c w w₁ → (stepG P true g w₁).goes fun g' w' es => DA c S Mine w₁ w' es ∧ Goes P true (Aside c) (DA c S Mine) (StopA P c S Mine z Fin xs) n' g' w' := by
      cases n with
      | zero => exact .inl hG
      | succ n => exact hG.imp id fun x => ⟨n, rfl, x.2⟩
    rcases hor with hstop | ⟨n', rfl, hstep⟩
    · have hs := hstop (w.at d) (Aside.at c w d)
      cases xs with
      | nil =>
        obtain ⟨_, es, k1, k2, k3⟩ := hs
        have hrun := crowd_recv_closed (P := P) (gs := gs) (sl := sl') (i := 0) h0 k1 (show (w.at d).heap[c]? = _ from hch) (lv_partners h.lv true)
        refine ⟨_, _, _, _, hst.trans hrun, reach_end (q := q) ⟨Go.Conc.served (core g) (.tuple #[z, .bool false]), ⟨?_, ?_, ?_⟩, ?_⟩⟩
        · simp [hlt, finishComm_recv, recvd]
        · exact lv_comm0 h.lv hlt fun op hop => by
            rcases Array.mem_append.1 hop with hop | hop
            · exact mem_ofE hop
            · simp at hop; rw [hop]
        · rw [← Array.append_assoc]
          exact (htr.own0 k2).fin rfl rfl
        · exact k3 _ (Aside.refl c _)
      | cons x xs' =>
        obtain ⟨_, es, k1, k2, k3⟩ := hs
        have hrun := crowd_recv_buf (P := P) (gs := gs) (sl := sl') (i := 0) h0 k1 (show (w.at d).heap[c]? = _ from hch) (by simp) (lv_partners h.lv true)
        have hx := k3 _ (Aside.put c (w.at d) (.chan cap xs'.toArray true s (r + 1) tm))
        obtain ⟨n', hG'⟩ := (recvs_iff P c S Mine z Fin xs' _ _).1 hx
        refine ⟨_, _, _, _, hst.trans hrun, ?_⟩
        have e1 : ((x :: xs').toArray).extract 1 ((x :: xs').toArray).size = xs'.toArray := by simp
        have e2 : ((x :: xs').toArray).getD 0 undef = x := by simp
        rw [e1, e2]
        refine ihL xs'.length _ (by simp at hL; omega) _ _ _ q xs' n' rfl rfl ⟨⟨Go.Conc.served (core g) (.tuple #[x, .bool true]), by simp [hlt, finishComm_recv, recvd], hG'⟩, ?_, ⟨pc, ?_⟩, ⟨s, r + 1, chan_setChan (show (w.at d).heap[c]? = _ from hch) _ _ _ _ _⟩, hS _ _ (aside_setChan w d cap _ true s (r + 1)) h.sw⟩
        · refine lv_comm0 h.lv hlt fun op hop => ?_
          rcases Array.mem_append.1 hop with hop | hop
          · exact mem_ofE hop
          · simp at hop; rcases hop with rfl | rfl <;> rfl
        · rw [← Array.append_assoc]
          exact (htr.own0 k2).comm fun op hop => by simp at hop; rcases hop with rfl | rfl <;> exact ⟨rfl, fun mk k => by cases k⟩
    · have hs := hstep (w.at d) (Aside.at c w d)
      obtain ⟨a', w', es, hgo, ⟨d1, d2, d3⟩, hG'⟩ := goes_elim hs
      have hrun := runT_crowd_go (P := P) (sl := sl') (i := 0) h0 (show stepG P (0 == 0) g (w.at d) = _ from hgo)
      refine ⟨_, _, _, _, hst.trans hrun, ihX (n' + sumTo gs.size q) (by omega) _ _ _ q xs n' hL (by simp) ⟨⟨a', by simp [hlt], hG'⟩, lv_step0 h.lv h0, ⟨pc, htr.own0 d3⟩, ⟨s, r, by rw [d2]; exact hch⟩, d1 (hS _ _ (Aside.at c w d) h.sw)⟩⟩
  · have hq := h.lv.old i g hpos hi
    obtain ⟨g', es, k, hrun, hm, hqi, hq', hlt'⟩ := slip (w := w.at d) (sl := sl') hpos hi hg hq
    refine ⟨_, _, _, _, hst.trans hrun, ihX (n + sumTo gs.size (upd q i k)) (by omega) _ _ _ (upd q i k) xs n hL (by simp) ⟨⟨a, ?_, Goes.rely (asd_trans c) hG (Aside.at c w d)⟩, lv_slip h.lv hpos hi hq', ⟨pc, htr.mute (by omega) hm⟩, ⟨s, r, hch⟩, hS _ _ (Aside.at c w d) h.sw⟩⟩
    rw [Array.getElem?_setIfInBounds_ne (by omega), Array.getElem?_map, h0]
    simp [woken_run hr]

theorem stopA_comm {l : List Value} {g : Goroutine} {w : World} (h : StopA P c S Mine z Fin l g w) : ∃ es, stepG P true g w = .comm (core g) #[rcase c z] true (.recv true) w es ∧ ∀ e ∈ es, EvA Mine e := by
  cases l with
  | nil => exact ⟨h.2.choose, h.2.choose_spec.1, h.2.choose_spec.2.1⟩
  | cons v vs => exact ⟨h.2.choose, h.2.choose_spec.1, h.2.choose_spec.2.1⟩

theorem wok_a {l : List Value} {a : Goroutine} {w w' : World} {k : Nat} {g g' : Goroutine} (h : RecvSt P c S Mine z Fin l a w k) {cap s r : Nat} {buf : Array Value} (hc : w'.heap[c]? = some (.chan cap buf false s r tm)) : woken P g g' w' a = a := by
  rcases h with ⟨n, _, hG⟩ | ⟨_, g0, rfl, _⟩
  · exact woken_run (recvSt_run hG)
  · exact woken_recv_open _ _ hc

theorem sendSt_run {ys : List Value} {b : Goroutine} {n : Nat} {w : World} (hw : S w) (h : Goes P false (fun _ w₁ => S w₁) (DB Mine) (StopS P c S Mine ys) n b default) : b.status = .running := by
  cases n with
  | zero => exact stopS_run (h w hw)
  | succ n => exact h.elim (fun h => stopS_run (h w hw)) fun h => h.1

theorem wok_b {ys : List Value} {b : Goroutine} {w w' : World} {k : Nat} {g g' : Goroutine} (hw : S w) (h : SendSt P c S Mine ys b k) {cap s r : Nat} {buf : Array Value} (hc : w'.heap[c]? = some (.chan cap buf false s r tm)) : woken P g g' w' b = b := by
  rcases h with ⟨n, _, hG⟩ | ⟨_, v, ys', g2, z', _, rfl, _⟩
  · exact woken_run (sendSt_run hw hG)
  · exact woken_send_open _ _ hc

theorem recvSt_rely {l : List Value} {a : Goroutine} {w w' : World} {k : Nat} (h : RecvSt P c S Mine z Fin l a w k) (ha : Aside c w w') : RecvSt P c S Mine z Fin l a w' k := by
  rcases h with ⟨n, e, hG⟩ | ⟨e, g0, e2, h⟩
  · exact .inl ⟨n, e, Goes.rely (asd_trans c) hG ha⟩
  · exact .inr ⟨e, g0, e2, fun w₁ h1 => h w₁ (ha.trans h1)⟩

theorem get_set_map {gs : Array Goroutine} {f : Goroutine → Goroutine} {i j : Nat} {x y : Goroutine} (hij : i ≠ j) (h : gs[j]? = some y) : ((gs.map f).setIfInBounds i x)[j]? = some (f y) := by
  rw [Array.getElem?_setIfInBounds_ne hij, Array.getElem?_map, h]; rfl

theorem get_set_same {gs : Array Goroutine} {i : Nat} {x y : Goroutine} (h : gs[i]? = some y) : (gs.setIfInBounds i x)[i]? = some x := by
  rw [Array.getElem?_setIfInBounds_self_of_lt (Array.getElem?_eq_some_iff.1 h).1]

theorem get_set_other {gs : Array Goroutine} {i j : Nat} {x y : Goroutine} (hij : i ≠ j) (h : gs[j]? = some y) : (gs.setIfInBounds i x)[j]? = some y := by
  rw [Array.getElem?_setIfInBounds_ne hij, h]

/-- While both are under way. -/
theorem op_reach (hS : ∀ w w', Aside c w w' → S w → S w') (hMc : ¬ Mine (.obj c)) (hcap : 0 < cap) {gs : Array Goroutine} {w : World} {t : Trace} {q : Nat → Nat} {xs ys : List Value} {ka kb : Nat}
    (h : Op P c S Mine z Fin m cap tm gs w t q xs ys ka kb) : Reach P Fin gs w t := by
  have key := lex_ind (Q := fun L X => ∀ (gs : Array Goroutine) (w : World) (t : Trace) (q : Nat → Nat) (xs ys : List Value) (ka kb : Nat), 2 * ys.length + xs.length = L → ka + kb + sumTo gs.size q = X → Op P c S Mine z Fin m cap tm gs w t q xs ys ka kb → Reach P Fin gs w t) ?_
  · exact key _ _ gs w t q xs ys ka kb rfl rfl h
  clear h gs w t q xs ys ka kb
  intro L X ihL ihX gs w t q xs ys ka kb hL hX h
  obtain ⟨a, b, h0, hm, hR, hT⟩ := h.ex
  obtain ⟨s, r, hch⟩ := h.ch
  have hpm := h.oth.pos
  have hm0 : m ≠ 0 := by omega
  have hmm : (m == 0) = false := by simpa using hm0
  have hlt0 : 0 < gs.size := (Array.getElem?_eq_some_iff.1 h0).1
  have hltm : m < gs.size := (Array.getElem?_eq_some_iff.1 hm).1
  have hnot : ¬ (ka = 0 ∧ kb = 0) := by
    rintro ⟨e1, e2⟩
    have e3 := h.pb e2
    rw [h.pa e1] at e3
    simp at e3; omega
  have sa : a.status = .running ∨ (ka = 0 ∧ a.status = .blocked) := by
    rcases hR with ⟨n, _, hG⟩ | ⟨e, g0, rfl, _⟩
    · exact .inl (recvSt_run hG)
    · exact .inr ⟨e, rfl⟩
  have sb : b.status = .running ∨ (kb = 0 ∧ b.status = .blocked) := by
    rcases hT with ⟨n, _, hG⟩ | ⟨e, v, ys', g2, z', _, rfl, _⟩
    · exact .inl (sendSt_run h.sw hG)
    · exact .inr ⟨e, rfl⟩
  have haw : ∀ g ∈ gs, Go.Conc.awake g := by
    intro g hg
    obtain ⟨i, hi, rfl⟩ := Array.mem_iff_getElem.1 hg
    have hi' := Array.getElem?_eq_getElem hi
    by_cases e0 : i = 0
    · subst e0
      rw [hi'] at h0
      rw [Option.some.inj h0]
      rcases sa with k | ⟨_, k⟩ <;> intro t ht <;> rw [k] at ht <;> cases ht
    · by_cases em : i = m
      · subst em
        rw [hi'] at hm
        rw [Option.some.inj hm]
        rcases sb with k | ⟨_, k⟩ <;> intro t ht <;> rw [k] at ht <;> cases ht
      · have := h.oth.old i _ (by omega) em hi'
        rcases this.status with k | k <;> intro t ht <;> rw [k] at ht <;> cases ht
  have hsome : ∃ (i : Nat) (g : Goroutine), gs[i]? = some g ∧ g.status = .running := by
    rcases sa with k | ⟨k, _⟩
    · exact ⟨0, a, h0, k⟩
    · rcases sb with k2 | ⟨k2, _⟩
      · exact ⟨m, b, hm, k2⟩
      · exact absurd ⟨k, k2⟩ hnot
  refine reach_step fun sl => ?_
  obtain ⟨i, g, d, sl', hi, hg, hst⟩ := crowd_pick (P := P) (w := w) (sl := sl) haw hsome
  have hchd : (w.at d).heap[c]? = some (.chan cap xs.toArray false s r tm) := hch
  have hswd : S (w.at d) := hS _ _ (Aside.at c w d) h.sw
  by_cases e0 : i = 0
  · -- THE RECEIVER
    subst e0
    obtain rfl : g = a := by rw [h0] at hi; exact (Option.some.inj hi).symm
    rcases hR with ⟨n, rfl, hG⟩ | ⟨_, g0, rfl, _⟩
    rotate_left
    · cases hg
    have hor : (∀ w₁, Aside c w w₁ → StopA P c S Mine z Fin (xs ++ ys) g w₁) ∨ ∃ n', n = n' + 1 ∧ ∀ w₁, Aside c w w₁ → (stepG P true g w₁).goes fun g' w' es => DA c S Mine w₁ w' es ∧ Goes P true (Aside c) (DA c S Mine) (StopA P c S Mine z Fin (xs ++ ys)) n' g' w' := by
      cases n with
      | zero => exact .inl hG
      | succ n => exact hG.imp id fun x => ⟨n, rfl, x.2⟩
    rcases hor with hstop | ⟨n', rfl, hstep⟩
    · have hs := hstop (w.at d) (Aside.at c w d)
      cases xs with
      | nil =>
        -- nothing is there: it is parked
        obtain ⟨es, k1, k2⟩ := stopA_comm hs
        have hkb : kb ≠ 0 := by intro e; have := h.pb e; simp at this; omega
        have hbr : b.status = .running := by rcases sb with k | ⟨k, _⟩; exact k; exact absurd k hkb
        have hp := offers_none (c := c) h.oth (k := 0) (o := m) (.inl ⟨rfl, rfl⟩) true hm (offersAt_of_not_blocked (by rw [hbr]; simp) _ _)
        have hrun := crowd_waits (P := P) (gs := gs) (sl := sl') (i := 0) h0 k1 (fun cc hcc => by simp at hcc; rw [hcc]; exact ways_recv_none hchd hp)
        refine ⟨_, _, _, _, hst.trans hrun, ihX (0 + kb + sumTo gs.size q) (by omega) _ _ _ q [] ys 0 kb hL (by simp) ⟨⟨_, b, get_set_same h0, get_set_other (by omega) hm, .inr ⟨rfl, g, rfl, fun w₁ h1 => hstop w₁ ((Aside.at c w d).trans h1)⟩, hT⟩,
          h.oth.comm (by simp) (fun i hi hm' => Array.getElem?_setIfInBounds_ne (by omega)) (fun i hi hm' => Deaf_other t (g' := 0) (by omega) _ fun op hop => mem_ofE hop) hltm, h.tr.own0 hm0 k2, ⟨s, r, hch⟩, hswd, fun _ => rfl, fun e => absurd e hkb⟩⟩
      | cons x xs' =>
        obtain ⟨_, es, k1, k2, k3⟩ := hs
        have e1 : ((x :: xs').toArray).extract 1 ((x :: xs').toArray).size = xs'.toArray := by simp
        have e2 : ((x :: xs').toArray).getD 0 undef = x := by simp
        rcases hT with ⟨nb, rfl, hGb⟩ | ⟨rfl, v, ys', g2, z', rfl, rfl, hnext⟩
        · -- the sender runs
          have hbr := sendSt_run h.sw hGb
          have hp := offers_none (c := c) h.oth (k := 0) (o := m) (.inl ⟨rfl, rfl⟩) true hm (offersAt_of_not_blocked (by rw [hbr]; simp) _ _)
          have hrun := crowd_recv_buf (P := P) (gs := gs) (sl := sl') (i := 0) h0 k1 hchd (by simp) hp
          have hx := k3 _ (Aside.put c (w.at d) (.chan cap xs'.toArray false s (r + 1) tm))
          obtain ⟨n', hG'⟩ := (recvs_iff P c S Mine z Fin (xs' ++ ys) _ _).1 hx
          rw [e1, e2] at hrun
          refine ⟨_, _, _, _, hst.trans hrun, ihL (2 * ys.length + xs'.length) _ (by simp at hL; omega) _ _ _ q xs' ys (n' + 1) (nb + 1) rfl rfl ⟨⟨Go.Conc.served (core g) (.tuple #[x, .bool true]), b, ?_, get_set_other (by omega) hm, .inl ⟨n', rfl, hG'⟩, .inl ⟨nb, rfl, hGb⟩⟩, ?_, ?_, ⟨s, r + 1, chan_setChan hchd _ _ _ _ _⟩, hS _ _ (aside_setChan w d cap _ false s (r + 1)) h.sw, fun e => by omega, fun e => by omega⟩⟩
          · rw [get_set_same h0, finishComm_recv]; rfl
          · exact h.oth.comm (by simp) (fun i hi hm' => Array.getElem?_setIfInBounds_ne (by omega)) (fun i hi hm' => deaf_two (m := m) (fun op hop => by
              rcases Array.mem_append.1 hop with hop | hop
              · exact .inl (mem_ofE hop)
              · simp at hop; rcases hop with rfl | rfl <;> exact .inl rfl) hi hm') hltm
          · rw [← Array.append_assoc]
            exact (h.tr.own0 hm0 k2).comm fun op hop => by simp at hop; rcases hop with rfl | rfl <;> exact ⟨rfl, fun mk k => by cases k⟩
        · -- the sender is parked: its value goes in behind
          have hp := offers_one (c := c) h.oth (k := 0) (o := m) (.inl ⟨rfl, rfl⟩) true hm (by rw [offersAt_parked_send, if_pos rfl])
          have hrun := crowd_recv_full (P := P) (gs := gs) (sl := sl') (i := 0) (j := m) h0 k1 hchd (by simp) hm0 hm hp
          rw [e1, e2] at hrun
          have hx := k3 _ (Aside.put c (w.at d) (.chan cap (xs'.toArray.push v) false (s + 1) (r + 1) tm))
          obtain ⟨n', hG'⟩ := (recvs_iff P c S Mine z Fin (xs' ++ v :: ys') _ _).1 hx
          obtain ⟨nb, hGb⟩ := (sendsB_iff P c S Mine ys' _).1 hnext
          have e3 : xs' ++ v :: ys' = (xs' ++ [v]) ++ ys' := by simp
          have e4 : xs'.toArray.push v = (xs' ++ [v]).toArray := by simp
          rw [e3] at hG'
          rw [e4] at hrun hG'
          refine ⟨_, _, _, _, hst.trans hrun, ihL (2 * ys'.length + (xs' ++ [v]).length) _ (by simp at hL ⊢; omega) _ _ _ q (xs' ++ [v]) ys' (n' + 1) (nb + 1) rfl rfl ⟨⟨Go.Conc.served (core g) (.tuple #[x, .bool true]), Go.Conc.served g2 undef, ?_, ?_, .inl ⟨n', rfl, hG'⟩, .inl ⟨nb, rfl, hGb⟩⟩, ?_, ?_, ⟨s + 1, r + 1, chan_setChan hchd _ _ _ _ _⟩, hS _ _ (aside_setChan w d cap _ false (s + 1) (r + 1)) h.sw, fun e => by omega, fun e => by omega⟩⟩
          · rw [get_set_same (get_set_other (by omega) h0), finishComm_recv]; rfl
          · rw [get_set_other (by omega) (get_set_same hm), finishComm_send]
          · exact h.oth.comm (by simp) (fun i hi hm' => by rw [Array.getElem?_setIfInBounds_ne (by omega), Array.getElem?_setIfInBounds_ne (by omega)]) (fun i hi hm' => deaf_two (m := m) (fun op hop => by
              rcases Array.mem_append.1 hop with hop | hop
              · exact .inl (mem_ofE hop)
              · simp at hop; rcases hop with rfl | rfl | rfl | rfl <;> first | exact .inl rfl | exact .inr rfl) hi hm') hltm
          · rw [← Array.append_assoc]
            exact (h.tr.own0 hm0 k2).comm fun op hop => by simp at hop; rcases hop with rfl | rfl | rfl | rfl <;> exact ⟨rfl, fun mk k => by cases k⟩
    · -- an ordinary step
      have hs := hstep (w.at d) (Aside.at c w d)
      obtain ⟨a', w', es, hgo, ⟨d1, d2, d3⟩, hG'⟩ := goes_elim hs
      have hrun := runT_crowd_go (P := P) (sl := sl') (i := 0) h0 (show stepG P (0 == 0) g (w.at d) = _ from hgo)
      have hch' : w'.heap[c]? = some (.chan cap xs.toArray false s r tm) := by rw [d2]; exact hch
      refine ⟨_, _, _, _, hst.trans hrun, ihX (n' + 1 + kb + sumTo gs.size q) (by omega) _ _ _ q xs ys (n' + 1) kb hL (by simp) ⟨⟨a', b, get_set_same (by rw [Array.getElem?_map, h0]; rfl), ?_, .inl ⟨n', rfl, hG'⟩, hT⟩, h.oth.go (.inl rfl) (fun op hop => mem_ofE hop) hlt0, h.tr.own0 hm0 d3, ⟨s, r, hch'⟩, d1 hswd, fun e => by omega, h.pb⟩⟩
      rw [get_set_map (by omega) hm, wok_b h.sw hT hch']
  · by_cases em : i = m
    · -- THE SENDER
      subst em
      obtain rfl : g = b := by rw [hm] at hi; exact (Option.some.inj hi).symm
      rcases hT with ⟨n, rfl, hG⟩ | ⟨_, v, ys', g2, z', rfl, rfl, _⟩
      rotate_left
      · cases hg
      have hor : (∀ w₁, S w₁ → StopS P c S Mine ys g w₁) ∨ ∃ n', n = n' + 1 ∧ ∀ w₁, S w₁ → (stepG P false g w₁).goes fun g' w' es => DB Mine w₁ w' es ∧ Goes P false (fun _ w₁ => S w₁) (DB Mine) (StopS P c S Mine ys) n' g' w' := by
        cases n with
        | zero => exact .inl hG
        | succ n => exact hG.imp id fun x => ⟨n, rfl, x.2⟩
      rcases hor with hstop | ⟨n', rfl, hstep⟩
      · have hs := hstop (w.at d) hswd
        cases ys with
        | nil =>
          -- THE CLOSE
          obtain ⟨_, hwake, g₂, es, nq, k1, k2, k3⟩ := hs
          have k1' := k1 (w.at d) cap xs.toArray s r tm hswd hchd
          have hrun := runT_crowd_go (P := P) (sl := sl') (i := i) hm (by rw [hmm]; exact k1')
          refine ⟨_, _, _, _, hst.trans hrun, ?_⟩
          obtain ⟨pc, hTC⟩ := h.tr.close (c := c) (fn := g.frame.fn) (pos := g.frame.place) hm0 hMc k2
          have hcl : ((w.at d).setChan c cap xs.toArray true s r tm).heap[c]? = some (.chan cap xs.toArray true s r tm) := chan_setChan hchd _ _ _ _ _
          have hO := h.oth.go (u := MemOp.ofEvents i g.frame.fn g.frame.place (es.push ⟨.obj c, true, true⟩)) (g := g) (g' := g₂) (x := g₂) (w' := (w.at d).setChan c cap xs.toArray true s r tm) (.inr rfl) (fun op hop => mem_ofE hop) hltm
          have hd0 : Deaf (t ++ MemOp.ofEvents i g.frame.fn g.frame.place (es.push ⟨.obj c, true, true⟩)) i = 0 := by
            rw [Deaf_own]
            refine (deafBehind_still (fun e he => ?_) _).trans h.tr.hearsM
            rcases Array.mem_push.1 he with he | rfl
            · exact ⟨fun k => ((k2 e he).1 _ k).ne_disable rfl, fun k => ((k2 e he).1 _ k).ne_enable rfl⟩
            · exact ⟨by simp, by simp⟩
          have hlv := leavers_of_in hO (get_set_same (by rw [Array.getElem?_map, hm]; rfl)) k3 hd0
          have hsw' : S ((w.at d).setChan c cap xs.toArray true s r tm) := hS _ _ (aside_setChan w d cap _ true s r) h.sw
          rcases hR with ⟨na, rfl, hGa⟩ | ⟨rfl, g0, rfl, hga⟩
          · refine sh_reach (z := z) (m := i) (cap := cap) (tm := tm) (xs := xs) (n := na) hS ⟨⟨a, ?_, ?_⟩, hlv, ⟨pc, hTC⟩, ⟨s, r, hcl⟩, hsw'⟩
            · rw [get_set_map (by omega) h0, woken_run (recvSt_run hGa)]
            · have := Goes.rely (asd_trans c) hGa (aside_setChan (tm := tm) w d cap xs.toArray true s r)
              simpa using this
          · refine sh_reach (z := z) (m := i) (cap := cap) (tm := tm) (xs := xs) (n := 0) hS ⟨⟨{ parked (core g0) #[rcase c z] (.recv true) with status := .running }, ?_, ?_⟩, hlv, ⟨pc, hTC⟩, ⟨s, r, hcl⟩, hsw'⟩
            · rw [get_set_map (by omega) h0]
              congr 1
              unfold woken
              rw [hwake]
              have : (g₂.status != .blocked && g₂.status != .waiting) = true := by rcases k3.status with k | k <;> rw [k] <;> rfl
              rw [Bool.true_and, this, if_pos rfl]
              exact again_recv_closed hcl
            · refine Goes.stop fun w₁ h1 => ?_
              have := hga w₁ ((aside_setChan w d cap xs.toArray true s r).trans h1)
              rw [List.append_nil] at this
              exact stopA_again this
        | cons v ys' =>
          obtain ⟨_, g2, z', es, k1, k2, k3⟩ := hs
          have k1' := k1 (w.at d) hswd
          have k1m : stepG P (i == 0) g (w.at d) = .comm g2 #[scase c v z'] true .send (w.at d) es := by rw [hmm]; exact k1'
          obtain ⟨nb, hGb⟩ := (sendsB_iff P c S Mine ys' _).1 k3
          rcases hR with ⟨na, rfl, hGa⟩ | ⟨rfl, g0, rfl, hga⟩
          · -- the receiver runs
            have har := recvSt_run hGa
            have hp := offers_none (c := c) h.oth (k := i) (o := 0) (.inr ⟨rfl, rfl⟩) false h0 (offersAt_of_not_blocked (by rw [har]; simp) _ _)
            by_cases hroom : xs.length < cap
            · have hrun := crowd_send_room (P := P) (gs := gs) (sl := sl') (i := i) hm k1m hchd (by simpa using hroom) hp
              have e4 : xs.toArray.push v = (xs ++ [v]).toArray := by simp
              rw [e4] at hrun
              have hGa' := Goes.rely (asd_trans c) hGa (aside_setChan (tm := tm) w d cap (xs ++ [v]).toArray false (s + 1) r)
              rw [show xs ++ v :: ys' = (xs ++ [v]) ++ ys' by simp] at hGa'
              refine ⟨_, _, _, _, hst.trans hrun, ihL (2 * ys'.length + (xs ++ [v]).length) _ (by simp at hL ⊢; omega) _ _ _ q (xs ++ [v]) ys' (na + 1) (nb + 1) rfl rfl ⟨⟨a, Go.Conc.served g2 undef, get_set_other (by omega) h0, ?_, .inl ⟨na, rfl, hGa'⟩, .inl ⟨nb, rfl, hGb⟩⟩, ?_, ?_, ⟨s + 1, r, chan_setChan hchd _ _ _ _ _⟩, hS _ _ (aside_setChan w d cap _ false (s + 1) r) h.sw, fun e => by omega, fun e => by omega⟩⟩
              · rw [get_set_same hm, finishComm_send]
              · exact h.oth.comm (by simp) (fun i' hi hm' => Array.getElem?_setIfInBounds_ne (by omega)) (fun i' hi hm' => deaf_two (m := i) (fun op hop => by
                  rcases Array.mem_append.1 hop with hop | hop
                  · exact .inr (mem_ofE hop)
                  · simp at hop; rcases hop with rfl | rfl <;> exact .inr rfl) hi hm') hltm
              · rw [← Array.append_assoc]
                exact (h.tr.ownM hm0 k2).comm fun op hop => by simp at hop; rcases hop with rfl | rfl <;> exact ⟨rfl, fun mk k => by cases k⟩
            · have hrun := crowd_waits (P := P) (gs := gs) (sl := sl') (i := i) hm k1m (fun cc hcc => by simp at hcc; rw [hcc]; exact ways_send_none hchd (by simp; omega) hp)
              refine ⟨_, _, _, _, hst.trans hrun, ihX (na + 1 + 0 + sumTo gs.size q) (by omega) _ _ _ q xs (v :: ys') (na + 1) 0 hL (by simp) ⟨⟨a, _, get_set_other (by omega) h0, get_set_same hm, recvSt_rely (.inl ⟨na, rfl, hGa⟩) (Aside.at c w d), .inr ⟨rfl, v, ys', g2, z', rfl, rfl, k3⟩⟩,
                h.oth.comm (by simp) (fun i' hi hm' => Array.getElem?_setIfInBounds_ne (by omega)) (fun i' hi hm' => Deaf_other t (g' := i) (by omega) _ fun op hop => mem_ofE hop) hltm, h.tr.ownM hm0 k2, ⟨s, r, hch⟩, hswd, fun e => by omega, fun _ => by omega⟩⟩
          · -- the receiver is parked: it is handed the value
            obtain rfl := h.pa rfl
            have hp := offers_one (c := c) h.oth (k := i) (o := 0) (.inr ⟨rfl, rfl⟩) false h0 (by rw [offersAt_parked_recv, if_pos rfl])
            have hrun := crowd_send_meets (P := P) (gs := gs) (sl := sl') (i := i) (j := 0) hm k1m hchd (by omega) h0 hp
            obtain ⟨_, es', m1, m2, m3⟩ := hga (w.at d) (Aside.at c w d)
            have hx := m3 _ (Aside.put c (w.at d) (.chan cap (#[] : Array Value) false (s + 1) (r + 1) tm))
            obtain ⟨n', hG'⟩ := (recvs_iff P c S Mine z Fin ys' _ _).1 hx
            refine ⟨_, _, _, _, hst.trans hrun, ihL (2 * ys'.length + 0) _ (by simp at hL ⊢; omega) _ _ _ q [] ys' (n' + 1) (nb + 1) rfl rfl ⟨⟨Go.Conc.served (core g0) (.tuple #[v, .bool true]), Go.Conc.served g2 undef, ?_, ?_, .inl ⟨n', rfl, hG'⟩, .inl ⟨nb, rfl, hGb⟩⟩, ?_, ?_, ⟨s + 1, r + 1, chan_setChan hchd _ _ _ _ _⟩, hS _ _ (aside_setChan w d cap _ false (s + 1) (r + 1)) h.sw, fun e => by omega, fun e => by omega⟩⟩
            · rw [get_set_other (by omega) (get_set_same h0), finishComm_recv]; rfl
            · rw [get_set_same (get_set_other (by omega) hm), finishComm_send]
            · exact h.oth.comm (by simp) (fun i' hi hm' => by rw [Array.getElem?_setIfInBounds_ne (by omega), Array.getElem?_setIfInBounds_ne (by omega)]) (fun i' hi hm' => deaf_two (m := i) (fun op hop => by
                rcases Array.mem_append.1 hop with hop | hop
                · exact .inr (mem_ofE hop)
                · simp at hop; rcases hop with rfl | rfl | rfl | rfl <;> first | exact .inl rfl | exact .inr rfl) hi hm') hltm
            · rw [← Array.append_assoc]
              exact (h.tr.ownM hm0 k2).comm fun op hop => by simp at hop; rcases hop with rfl | rfl | rfl | rfl <;> exact ⟨rfl, fun mk k => by cases k⟩
      · -- an ordinary step
        have hs := hstep (w.at d) hswd
        obtain ⟨b', w', es, hgo, ⟨rfl, d3⟩, hG'⟩ := goes_elim hs
        have hrun := runT_crowd_go (P := P) (sl := sl') (i := i) hm (by rw [hmm]; exact hgo)
        have hG2 : Goes P false (fun _ w₁ => S w₁) (DB Mine) (StopS P c S Mine ys) n' b' default := by
          cases n' with
          | zero => exact hG'
          | succ n' => exact hG'
        refine ⟨_, _, _, _, hst.trans hrun, ihX (ka + (n' + 1) + sumTo gs.size q) (by omega) _ _ _ q xs ys ka (n' + 1) hL (by simp) ⟨⟨a, b', ?_, get_set_same (by rw [Array.getElem?_map, hm]; rfl), recvSt_rely hR (Aside.at c w d), .inl ⟨n', rfl, hG2⟩⟩, h.oth.go (.inr rfl) (fun op hop => mem_ofE hop) hltm, h.tr.ownM hm0 d3, ⟨s, r, hch⟩, hswd, h.pa, fun e => by omega⟩⟩
        rw [get_set_map (by omega) h0, wok_a hR hchd]
    · -- A LEAVER
      have hpos : 0 < i := by omega
      have hq := h.oth.old i g hpos em hi
      obtain ⟨g', es, k, hrun, hmu, hqi, hq', hlt'⟩ := slip (w := w.at d) (sl := sl') hpos hi hg hq
      refine ⟨_, _, _, _, hst.trans hrun, ihX (ka + kb + sumTo gs.size (upd q i k)) (by omega) _ _ _ (upd q i k) xs ys ka kb hL (by simp) ⟨⟨a, b, ?_, ?_, recvSt_rely hR (Aside.at c w d), hT⟩, ⟨fun j x hj hjm hx => ?_, fun j hj => ?_, hpm⟩, h.tr.mute (by omega) em hmu, ⟨s, r, hch⟩, hswd, h.pa, h.pb⟩⟩
      · rw [get_set_map (by omega) h0, wok_a hR hchd]
      · rw [get_set_map em hm, wok_b h.sw hT hchd]
      · have hlt : i < gs.size := (Array.getElem?_eq_some_iff.1 hi).1
        by_cases hji : i = j
        · subst hji
          rw [Array.getElem?_setIfInBounds_self_of_lt (by simpa using hlt)] at hx
          obtain rfl := Option.some.inj hx
          rw [upd_same]
          exact hq'
        · rw [Array.getElem?_setIfInBounds_ne hji, Array.getElem?_map] at hx
          obtain ⟨y, hy, rfl⟩ := Option.map_eq_some_iff.1 hx
          have hqj := h.oth.old j y hj hjm hy
          rw [woken_quitsD hqj, upd_ne q k (Ne.symm hji), Deaf_other t hji _ (fun op hop => mem_ofE hop)]
          exact hqj
      · have hlt : i < gs.size := (Array.getElem?_eq_some_iff.1 hi).1
        rw [Deaf_other t (g' := i) (by simp at hj; omega) _ (fun op hop => mem_ofE hop)]
        exact h.oth.above j (by simpa using hj)

end
end Go.Proofs.Ytlglokbakmbpdaa

namespace Go.Proofs.Ytlglokbakmbpdaa
open Go Go.Conc
open Go.ConcN (sumTo upd sumTo_upd upd_ne upd_same)
set_option linter.unusedVariables false
set_option linter.unusedSimpArgs false

/-- But for the tape's place the worlds are the same. -/
def Sm (w w₁ : World) : Prop := ∃ d, w₁ = w.at d
theorem Sm.refl (w : World) : Sm w w := ⟨w.drawn, rfl⟩
theorem Sm.trans {a b c : World} (h : Sm a b) (h' : Sm b c) : Sm a c := by
  obtain ⟨d, rfl⟩ := h
  obtain ⟨e, rfl⟩ := h'
  exact ⟨e, rfl⟩
theorem Sm.alloc {a b : World} (h : Sm a b) (o : Obj) : Sm (a.alloc o) (b.alloc o) := by
  obtain ⟨d, rfl⟩ := h
  exact ⟨d, rfl⟩
theorem Sm.setCell {a b : World} (h : Sm a b) (p : Addr) (v : Value) : Sm (a.setCell p v) (b.setCell p v) := by
  obtain ⟨d, rfl⟩ := h
  exact ⟨d, rfl⟩
theorem Sm.heap {a b : World} (h : Sm a b) : b.heap = a.heap := by
  obtain ⟨d, rfl⟩ := h
  rfl
theorem Sm.cell {a b : World} (h : Sm a b) (p : Addr) : b.cell? p = a.cell? p := by
  obtain ⟨d, rfl⟩ := h
  rfl
theorem Sm.frozen {a b : World} (h : Sm a b) (p : Addr) : b.frozen? p = a.frozen? p := by
  obtain ⟨d, rfl⟩ := h
  rfl

/-- What a step of such a walk lists. -/
def D0 (w w' : World) (es : Array Event) : Prop := stillA es
theorem D0.nil {w w' : World} : D0 w w' #[] := fun e he => by simp at he
theorem D0.evs {w w' : World} {es : Array Event} (h : ∀ e ∈ es, stillE e) : D0 w w' es := h

section
variable {P : Program} {g : Goroutine} {w : World} {Stop : Goroutine → World → Prop}

theorem beside_goes : ∀ {n : Nat} {g : Goroutine} {w : World}, Goes P true Sm D0 Stop n g w → Beside P g w Stop
  | 0, g, w, h => .at0 fun d => h _ ⟨d, rfl⟩
  | n + 1, g, w, h => by
    rcases h with h | ⟨hr, h⟩
    · exact .at0 fun d => h _ ⟨d, rfl⟩
    · refine .step hr fun d => ?_
      obtain ⟨a', w', es, h1, h2, h3⟩ := goes_elim (h (w.at d) ⟨d, rfl⟩)
      exact ⟨a', w', es, h1, h2, beside_goes h3⟩
end

section
variable {P : Program} {c : Nat} {S : World → Prop} {Mine : Loc → Prop} {z : Value} {Fin : Goroutine → World → Prop} {cap : Nat} {tm : Bool} {a a' child : Goroutine} {w : World} {ys : List Value}

/-- THE go STATEMENT. -/
theorem beside_spawn (hr : a.status = .running) (hgo : ∀ d, stepG P true a (w.at d) = .spawn a' child (w.at d) #[]) {s r : Nat} (hch : w.heap[c]? = some (.chan cap #[] false s r tm))
    (hS : ∀ w w', Aside c w w' → S w → S w') (hMc : ¬ Mine (.obj c)) (hcap : 0 < cap) (hw : S w)
    (hrecv : ∃ n, Goes P true (Aside c) (DA c S Mine) (StopA P c S Mine z Fin ys) n a' w) (hsend : SendsB P c S Mine ys child) : Beside P a w Fin := fun gs t q sl d hF => by
  obtain ⟨N, gs1, d1, sl1, t1, q1, h1, hsz, hrun, e, sl2, hst⟩ := Fr.turn (w := w.at d) (sl := sl) _ (Nat.le_refl _) hF hr
  have hlt : 0 < gs1.size := (Array.getElem?_eq_some_iff.1 h1.h0).1
  have hsp := runT_crowd_spawn (P := P) (sl := sl2) (i := 0) h1.h0 (show stepG P (0 == 0) a (w.at e) = _ from hgo e)
  obtain ⟨na, hGa⟩ := hrecv
  obtain ⟨nb, hGb⟩ := (sendsB_iff P c S Mine ys child).1 hsend
  have hm0 : gs1.size ≠ 0 := by omega
  have e0 : ((MemOp.ofEvents 0 a.frame.fn a.frame.place (#[] : Array Event)).push { g := 0, fn := a.frame.fn, pos := a.frame.place, act := .go gs1.size }).push { g := gs1.size, fn := child.frame.fn, pos := a.frame.place, act := .start } = #[{ g := 0, fn := a.frame.fn, pos := a.frame.place, act := .go gs1.size }, { g := gs1.size, fn := child.frame.fn, pos := a.frame.place, act := .start }] := rfl
  rw [e0] at hsp
  have hTP := TP.start (Mine := Mine) h1.past hm0 (h1.lv.above _ (Nat.le_refl _)) (y := { g := 0, fn := a.frame.fn, pos := a.frame.place, act := .go gs1.size }) (z := { g := gs1.size, fn := child.frame.fn, pos := a.frame.place, act := .start }) rfl rfl rfl rfl
  have hu : ∀ op ∈ (#[{ g := 0, fn := a.frame.fn, pos := a.frame.place, act := .go gs1.size }, { g := gs1.size, fn := child.frame.fn, pos := a.frame.place, act := .start }] : Trace), op.g = 0 ∨ op.g = gs1.size := by
    intro op hop
    simp at hop
    rcases hop with rfl | rfl
    · exact .inl rfl
    · exact .inr rfl
  generalize (#[{ g := 0, fn := a.frame.fn, pos := a.frame.place, act := .go gs1.size }, { g := gs1.size, fn := child.frame.fn, pos := a.frame.place, act := .start }] : Trace) = u at hsp hTP hu
  have hO : Others P gs1.size (t1 ++ u) ((gs1.setIfInBounds 0 a').push child) q1 := by
    refine ⟨fun i x hi hm hx => ?_, fun j hj => ?_, hlt⟩
    · have hi' : i < gs1.size := by
        have := (Array.getElem?_eq_some_iff.1 hx).1
        simp at this
        omega
      rw [Array.getElem?_push, if_neg (by simp; omega), Array.getElem?_setIfInBounds_ne (by omega)] at hx
      have hx' := hx
      rw [deaf_two hu hi hm]
      exact h1.lv.old i x hi hx'
    · have hj' : gs1.size + 1 ≤ j := by simpa using hj
      rw [deaf_two hu (by omega) (by omega)]
      exact h1.lv.above j (by omega)
  have hop : Op P c S Mine z Fin gs1.size cap tm ((gs1.setIfInBounds 0 a').push child) (w.at e) (t1 ++ u) q1 [] ys (na + 1) (nb + 1) := by
    refine ⟨⟨a', child, ?_, by rw [Array.getElem?_push]; simp, .inl ⟨na, rfl, ?_⟩, .inl ⟨nb, rfl, ?_⟩⟩, hO, hTP, ⟨s, r, hch⟩, hS _ _ (Aside.at c w e) hw, fun h => by omega, fun h => by omega⟩
    · rw [Array.getElem?_push, if_neg (by simp; omega)]
      simp [hlt]
    · exact Goes.rely (asd_trans c) hGa (Aside.at c w e)
    · exact hGb
  obtain ⟨M, gs', w', t', q', sl', k1, ⟨a₂, k2, k3⟩⟩ := op_reach hS hMc hcap hop sl2
  refine ⟨N + (M + 1), gs', t', q', sl', a₂, w', runNT_app hrun ?_, k2, k3⟩
  simp only [runNT]
  rw [show stepT P (crowd gs1 ((w.at d).at d1) sl1) = _ from hst, show ((w.at d).at e) = w.at e from rfl, hsp]
  exact k1
end
end Go.Proofs.Ytlglokbakmbpdaa

namespace Go.Proofs.Ytlglokbakmbpdaa
open Go Go.Conc
set_option linter.unusedVariables false
set_option linter.unusedSimpArgs false

theorem Beside.at {P : Program} {a : Goroutine} {w : World} {Q : Goroutine → World → Prop} (h : Beside P a w Q) (d : Nat) : Beside P a (w.at d) Q := fun gs t q sl d' hF => h gs t q sl d' hF

/-- What is said of the world behind (in view of the world ahead) does not hang on the tape. -/
def Blind {α : Type} (C : World → α → World → Prop) : Prop := ∀ x w w1 τ d τ' d' d2, C (reT w τ d) x (reT w1 τ' d') → C w x (reT w1 w.tape d2)

section
variable {P : Program} {ok : FuncId → Bool}

theorem arr_normal {m : Machine} {b : Frame} {k : List Item} {cs : List Frame} {a : Act} {w : World} (h : Arrives P m b k cs .normal a w) : ∃ N, runN P N m = .next (lone (b.at a k) cs w) := h
theorem arr_ret {m : Machine} {b : Frame} {k : List Item} {cs : List Frame} {a : Act} {w : World} (h : Arrives P m b k cs .ret a w) : ∃ todo N, runN P N m = .next (lone { b.at a todo with mode := .returning } cs w) := h

/-- A PLAIN PIECE OF TEXT. -/
theorem beside_piece (hP : NoInit P) (hok : okFns P ok) {c : Code} (hc : okC P ok c = true) {b : Frame} (hf : ∃ f, P.funcs[b.fn]? = some f ∧ f.results.all tmpR = true) (hk : b.kind = .normal) {a : Act} (ha : a.defers = [])
    {k : List Item} {cs : List Frame} {w : World} {Q : Goroutine → World → Prop} (C : World → Exit × Act → World → Prop) (hB : Blind C)
    (h : ∀ τ d, c.wp P (fun e a' w' => (e = .normal ∨ e = .ret) ∧ C (reT w τ d) (e, a') w') a (reT w τ d))
    (next : ∀ a' w', C w (.normal, a') w' → Beside P (G (b.at a' k) cs) w' Q)
    (leave : ∀ a' w' todo, C w (.ret, a') w' → Q (G { b.at a' todo with mode := .returning } cs) w') : Beside P (G (b.at a (.code c :: k)) cs) w Q := by
  let R : Frame → World → Prop := fun fr w1 => ∃ e a' τ d, C (reT w τ d) (e, a') w1 ∧ ((e = .normal ∧ fr = b.at a' kT) ∨ (e = .ret ∧ ∃ todo, fr = { b.at a' todo with mode := .returning }))
  have hS : okS P ok [b.at a [.code c]] := ⟨⟨⟨hf.choose, hf.choose_spec.1⟩, ha, hk, rfl, fun x hx => by rw [List.mem_singleton.1 hx]; exact hc⟩, .inl rfl, fun x hx => by cases hx⟩
  have A := ahead_of hP hok (z0 := kT) (.inr rfl) hS (w0 := w) (R := R) (fun τ' d' => by
    obtain ⟨e, a', w', ⟨he, hC⟩, harr⟩ := h τ' d' b kT [trap P]
    have e0 : onTrap P kT [b.at a [.code c]] (reT w τ' d') = lone (b.at a (.code c :: kT)) [trap P] (reT w τ' d') := rfl
    rw [e0]
    rcases he with rfl | rfl
    · obtain ⟨N, hN⟩ := arr_normal harr
      exact ⟨N, _, _, hN, .inr ⟨rfl, rfl, rfl⟩, _, a', τ', d', hC, .inl ⟨rfl, rfl⟩⟩
    · obtain ⟨todo, N, hN⟩ := arr_ret harr
      exact ⟨N, _, _, hN, .inl rfl, _, a', τ', d', hC, .inr ⟨rfl, todo, rfl⟩⟩) w.tape
  have hb := beside_ahead A k (fun h => by cases h) cs w.drawn
  have e1 : GL (plug k [b.at a [.code c]]) cs = G (b.at a (.code c :: k)) cs := rfl
  rw [e1, show reT w w.tape w.drawn = w from rfl] at hb
  refine hb.trans fun a1 w1 hq => ?_
  obtain ⟨fr, w2, d2, rfl, rfl, hdone, τ', d', e, a', τ, d, hC, hh⟩ := hq
  have hC' := hB _ _ _ _ _ _ _ d2 hC
  rcases hh with ⟨rfl, hfr⟩ | ⟨rfl, todo, hfr⟩
  · have e2 : GL (plug k [fr]) cs = G (b.at a' k) cs := by
      have h1 : fr.todo = [] := by
        have := congrArg Frame.todo hfr
        have h2 : fr.todo ++ kT = kT := this
        exact List.append_left_eq_self.1 h2
      have h3 : addT fr k = b.at a' k := by
        have h4 : { addT fr kT with todo := fr.todo ++ k } = { b.at a' kT with todo := k } := by rw [hfr, h1]; rfl
        exact h4
      show G (addT fr k) ([] ++ cs) = _
      rw [h3]; rfl
    rw [e2]
    exact next a' _ hC'
  · have e2 : ∃ todo', GL (plug k [fr]) cs = G { b.at a' todo' with mode := .returning } cs := by
      refine ⟨fr.todo ++ k, ?_⟩
      have h4 : { addT fr kT with todo := fr.todo ++ k } = { ({ b.at a' todo with mode := .returning } : Frame) with todo := fr.todo ++ k } := by rw [hfr]
      show G (addT fr k) ([] ++ cs) = _
      exact congrArg (fun f => G f cs) h4
    obtain ⟨todo', e2⟩ := e2
    rw [e2]
    exact .at0 fun d3 => leave a' _ todo' (hB _ _ _ _ _ _ _ d3 hC)

/-- A CONTRACT IN COMPANY. -/
def BCalls (P : Program) (f : FuncId) (args : Array Value) (w : World) (R : Value → World → Prop) : Prop :=
  ∀ cs, Beside P (G (Frame.enter P f args .normal) cs) w fun a' w' => ∃ fr v, a' = G fr cs ∧ fr.fn = f ∧ fr.leaving P w' (.returned v) ∧ R v w'

theorem BCalls.mono {f : FuncId} {args : Array Value} {w : World} {R R' : Value → World → Prop} (h : BCalls P f args w R) (hr : ∀ v w', R v w' → R' v w') : BCalls P f args w R' := fun cs =>
  (h cs).mono fun a' w' ⟨fr, v, h1, h2, h3, h4⟩ => ⟨fr, v, h1, h2, h3, hr _ _ h4⟩

/-- A plain function: its lone contract. -/
theorem bcalls_of (hP : NoInit P) (hok : okFns P ok) {f : FuncId} {fn : Func} {c : Code} (hf : P.funcs[f]? = some fn) (hb : fn.body = some c) (hc : okC P ok c = true) {args : Array Value} {w : World} (C : World → Value → World → Prop) (hB : Blind C)
    (h : ∀ τ d, Calls P f args (reT w τ d) fun e w' => ∃ v, e = .returned v ∧ C (reT w τ d) v w') : BCalls P f args w (C w) := by
  intro cs
  have hen := enter_at (P := P) args hf hb
  let R : Frame → World → Prop := fun fr w1 => ∃ v τ d, C (reT w τ d) v w1 ∧ fr.fn = f ∧ fr.leaving P w1 (.returned v)
  have hS : okS P ok [Frame.enter P f args .normal] := by
    rw [hen]
    exact ⟨⟨⟨fn, hf⟩, rfl, rfl, rfl, fun x hx => by rw [List.mem_singleton.1 hx]; exact hc⟩, .inl rfl, fun x hx => by cases hx⟩
  have e0 : ∀ fr : Frame, addT fr [] = fr := fun fr => by unfold addT; rw [List.append_nil]
  have A := ahead_of hP hok (z0 := []) (.inl rfl) hS (w0 := w) (R := R) (fun τ' d' => by
    obtain ⟨e, w', fr, ⟨v, rfl, hC⟩, ⟨N, hN⟩, h1, h2⟩ := h τ' d' [trap P]
    have e1 : onTrap P [] [Frame.enter P f args .normal] (reT w τ' d') = lone (Frame.enter P f args .normal) [trap P] (reT w τ' d') := by
      show lone (addT _ []) [trap P] _ = _
      rw [e0]
    rw [e1]
    exact ⟨N, fr, w', hN, .inl h2.1, v, τ', d', hC, h1, h2⟩) w.tape
  have hb2 := beside_ahead A [] (fun h => rfl) cs w.drawn
  have e1 : GL (plug [] [Frame.enter P f args .normal]) cs = G (Frame.enter P f args .normal) cs := by
    show G (addT _ []) ([] ++ cs) = _
    rw [e0]; rfl
  rw [e1, show reT w w.tape w.drawn = w from rfl] at hb2
  refine hb2.mono fun a1 w1 hq => ?_
  obtain ⟨fr, w2, d2, rfl, rfl, hdone, τ', d', v, τ, d, hC, hfn, hlv⟩ := hq
  rw [e0] at hfn hlv
  refine ⟨fr, v, ?_, hfn, ?_, hB _ _ _ _ _ _ _ d2 hC⟩
  · show G (addT _ []) ([] ++ cs) = _
    rw [e0]; rfl
  · obtain ⟨k1, k2, k3, fn', k4, k5⟩ := hlv
    exact ⟨k1, k2, k3, fn', k4, results_re k5 _ _⟩
theorem bcalls_of_calls (hP : NoInit P) (hok : okFns P ok) {f : FuncId} {fn : Func} {c : Code} (hf : P.funcs[f]? = some fn) (hb : fn.body = some c) (hc : okC P ok c = true) (hr : fn.results.all tmpR = true) {args : Array Value} {w : World} (C : World → Value → World → Prop) (hB : Blind C)
    (h : ∀ τ d, Calls P f args (reT w τ d) fun e w' => ∃ v, e = .returned v ∧ C (reT w τ d) v w') : BCalls P f args w (C w) := bcalls_of hP hok hf hb hc C hB h

theorem leaving_step {main : Bool} {fr c : Frame} {cs : List Frame} {w : World} {v : Value} (h : fr.leaving P w (.returned v)) (hr : ∃ fn, P.funcs[fr.fn]? = some fn ∧ fn.results.all tmpR = true) :
    stepG P main (G fr (c :: cs)) w = .go (G (c.finish v) cs) w #[] := by
  obtain ⟨hm, hd, hk, fn, hf, hv⟩ := h
  obtain ⟨fn', hf', hr⟩ := hr
  obtain rfl : fn' = fn := by rw [hf] at hf'; exact (Option.some.inj hf').symm
  obtain ⟨v', hv'⟩ := results_tmp (P := P) hr fr.tmps
  rw [hv'] at hv
  simp only [Sem.run_pure, Result.ok.injEq] at hv
  obtain ⟨rfl, _⟩ := hv
  simp [stepG, unwind, doReturn, hm, hd, hk, hf, hv', seen, GStep.after, G]

/-- THROUGH A CALL. -/
theorem beside_call {b : Frame} {a : Act} {k : List Item} {cs : List Frame} {w : World} {ops : Array Oper} {i : Nat} {rest : List Nat} {o : Oper} {f : FuncId} {fn : Func} {args : Array Operand} {ats : Array TypeId} {R : Value → World → Prop} {Q : Goroutine → World → Prop}
    (ho : ops[i]? = some o) (hw : Region.wanted o (yielded ops a.tmps) = true) (hk : b.kind ≠ .early) (hop : o.op = .call { callee := .value (.func f), args, argTypes := ats })
    (hf : P.funcs[f]? = some fn) (hname : (fn.name == "runtime.NumGoroutine") = false) (hb : fn.body.isNone = false) (hr : fn.results.all tmpR = true) {zs : Array Value} (has : args.map a.eval = zs) (hC : ∀ d, BCalls P f zs (w.at d) R)
    (next : ∀ v w', R v w' → Beside P (G (b.at (a.put o.dst v) (.inRegion ops rest :: k)) cs) w' Q) : Beside P (G (b.at a (.inRegion ops (i :: rest) :: k)) cs) w Q := by
  have hfin : ∀ v, (b.at a (.inRegion ops (i :: rest) :: k)).finish v = b.at (a.put o.dst v) (.inRegion ops rest :: k) := fun v => by rw [Frame.finish_at, ho]; rfl
  subst has
  refine .step rfl fun d => ⟨_, _, _, stepG_enter ho hw hk (run_call_body hop hf hname hb), ?_, ?_⟩
  · have e : listed P b.fn a o (w.at d) = #[] := by
      obtain ⟨c, hc⟩ : ∃ c, fn.body = some c := by cases h : fn.body with
        | none => rw [h] at hb; cases hb
        | some c => exact ⟨c, rfl⟩
      unfold listed
      rw [events_call_body hop hf hname hb]
      exact seen_none P _
    rw [e]
    exact D0.nil (w := w) (w' := w)
  · refine (hC d _).trans fun a1 w1 hq => ?_
    obtain ⟨fr, v, rfl, h1, h2, h3⟩ := hq
    have hlv : ∀ d1, fr.leaving P (w1.at d1) (.returned v) := fun d1 => by
      obtain ⟨k1, k2, k3, fn', k4, k5⟩ := h2
      refine ⟨k1, k2, k3, fn', k4, ?_⟩
      obtain rfl : fn' = fn := by rw [h1, hf] at k4; exact (Option.some.inj k4).symm
      obtain ⟨v', hv'⟩ := results_tmp (P := P) hr fr.tmps
      rw [hv'] at k5 ⊢
      simp only [Sem.run_pure, Result.ok.injEq] at k5 ⊢
      exact ⟨k5.1, trivial⟩
    refine .step rfl fun d1 => ⟨_, _, _, leaving_step (w := w1.at d1) (hlv d1) ⟨fn, by rw [h1]; exact hf, hr⟩, D0.nil (w := w) (w' := w), ?_⟩
    rw [hfin]
    exact (next v w1 h3).at d1
end
end Go.Proofs.Ytlglokbakmbpdaa

namespace Go.Proofs.Ytlglokbakmbpdaa
open Go Go.Conc
open Go.ConcN (sumTo upd sumTo_upd upd_ne upd_same)
set_option linter.unusedVariables false
set_option linter.unusedSimpArgs false

section
variable {P : Program}

theorem leaving_end {fr : Frame} {w : World} {v : Value} (h : fr.leaving P w (.returned v)) (hr : ∃ fn, P.funcs[fr.fn]? = some fn ∧ fn.results.all tmpR = true) (hin : P.inits.idxOf? fr.fn = none) :
    stepG P true (G fr []) w = .ended (.done v) w #[] := by
  obtain ⟨hm, hd, hk, fn, hf, hv⟩ := h
  obtain ⟨fn', hf', hr⟩ := hr
  obtain rfl : fn' = fn := by rw [hf] at hf'; exact (Option.some.inj hf').symm
  obtain ⟨v', hv'⟩ := results_tmp (P := P) hr fr.tmps
  rw [hv'] at hv
  simp only [Sem.run_pure, Result.ok.injEq] at hv
  obtain ⟨rfl, _⟩ := hv
  simp [stepG, unwind, doReturn, hm, hd, hk, hf, hv', seen, GStep.after, G, hin]

theorem fr_start (a : Goroutine) : Fr P a #[a] #[] fun _ => 0 := by
  refine ⟨rfl, ⟨fun i g hi hg => ?_, fun j hj => rfl⟩, pastC_nil⟩
  exfalso
  rw [Array.getElem?_eq_none (by simp; omega)] at hg
  cases hg

/-- ONE GOOD RUN. -/
theorem good_of_bcalls {f : FuncId} {fn : Func} (hf : P.funcs[f]? = some fn) (hr : fn.results.all tmpR = true) (hin : P.inits.idxOf? f = none) {args : Array Value} {W : World} {R : Value → World → Prop} (hR : ∀ v w d, R v w → R v (w.at d)) (h : BCalls P f args W R) :
    ∃ M last o w' t', runNT P (M + 1) (solo (G (Frame.enter P f args .normal) []) W) #[] = (.ended o w', t') ∧ runN P M (solo (G (Frame.enter P f args .normal) []) W) = .next last ∧
      step P last = .ended o w' ∧ Conc.Good P R last o w' t' := by
  obtain ⟨N, gs1, t1, q1, sl1, a1, w1, h1, h2, fr, v, rfl, hfn, hlv, hp⟩ := h [] _ _ _ none W.drawn (fr_start _)
  have e0 : crowd #[G (Frame.enter P f args .normal) []] (W.at W.drawn) none = solo (G (Frame.enter P f args .normal) []) W := rfl
  rw [e0] at h1
  obtain ⟨N2, gs2, d2, sl2, t2, q2, k1, k2, k3, e, sl3, k4⟩ := Fr.turn (w := w1) (sl := sl1) _ (Nat.le_refl _) h2 rfl
  have hx : ∃ fn, P.funcs[fr.fn]? = some fn ∧ fn.results.all tmpR = true := ⟨fn, by rw [hfn]; exact hf, hr⟩
  have hlv' : fr.leaving P (w1.at e) (.returned v) := by
    obtain ⟨m1, m2, m3, fn', m4, m5⟩ := hlv
    refine ⟨m1, m2, m3, fn', m4, ?_⟩
    obtain rfl : fn' = fn := by rw [hfn, hf] at m4; exact (Option.some.inj m4).symm
    obtain ⟨v', hv'⟩ := results_tmp (P := P) hr fr.tmps
    rw [hv'] at m5 ⊢
    simp only [Sem.run_pure, Result.ok.injEq] at m5 ⊢
    exact ⟨m5.1, trivial⟩
  have hend := leaving_end hlv' hx (by rw [hfn]; exact hin)
  have hrunT := runT_many_ended (P := P) (sl := sl3) (i := 0) k1.h0 (show stepG P (0 == 0) (G fr []) (w1.at e) = _ from hend)
  have hst := k4.trans hrunT
  have hP' := k1.past.own (fn := (G fr []).frame.fn) (pos := (G fr []).frame.place) (es := #[]) fun e he => by simp at he
  have hall := runNT_app h1 k3
  refine ⟨N + N2, crowd gs2 (w1.at d2) sl2, _, _, _, runNT_app hall (by simp only [runNT]; rw [hst]), ?_, ?_, v, rfl, hR _ _ _ hp, hP'.clean, hP'.over, ⟨fun x hx => ?_, rfl⟩, fun j x hx hj => ?_⟩
  · rw [← runNT_fst P _ _ #[], hall]
  · simp [step, hst]
  · obtain ⟨j, hj⟩ := List.mem_iff_getElem?.1 hx
    rw [List.getElem?_drop] at hj
    exact ⟨_, (k1.lv.old (1 + j) x (by omega) (by simpa [crowd] using hj)).leaves⟩
  · have hq := k1.lv.old j x (by omega) hx
    refine ⟨q2 j, ?_⟩
    have e2 : (t2 ++ MemOp.ofEvents 0 (G fr []).frame.fn (G fr []).frame.place #[]).deaf j (t2 ++ MemOp.ofEvents 0 (G fr []).frame.fn (G fr []).frame.place #[]).size = Deaf t2 j :=
      Deaf_other t2 (g := j) (g' := 0) (by omega) _ (fun op hop => by obtain ⟨e, _, rfl⟩ := Go.Conc.mem_ofEvents hop; rfl)
    rw [e2]
    exact hq.hears _
end
end Go.Proofs.Ytlglokbakmbpdaa

namespace Go.Proofs.Ytlglokbakmbpdaa
open Go Go.Conc
set_option linter.unusedVariables false

theorem good_of_calls {P : Program} {f : FuncId} {fn : Func} (hf : P.funcs[f]? = some fn) (hr : fn.results.all tmpR = true) (hin : P.inits.idxOf? f = none) {args : Array Value} {W : World} {R : Value → World → Prop} (h : Calls P f args W fun e w' => ∃ v, e = .returned v ∧ R v w') :
    ∃ M last o w' t', runNT P (M + 1) (solo (G (Frame.enter P f args .normal) []) W) #[] = (.ended o w', t') ∧ runN P M (solo (G (Frame.enter P f args .normal) []) W) = .next last ∧
      step P last = .ended o w' ∧ Conc.Good P R last o w' t' := by
  obtain ⟨e, w', fr, ⟨v, rfl, hp⟩, ⟨N, hN⟩, hfn, hlv⟩ := h []
  have hN' : runN P N (solo (G (Frame.enter P f args .normal) []) W) = .next (lone fr [] w') := hN
  have hs : step P (lone fr [] w') = .ended (.done v) w' := step_of_ended (leaving_end hlv ⟨fn, by rw [hfn]; exact hf, hr⟩ (by rw [hfn]; exact hin))
  have hall : runN P (N + 1) (solo (G (Frame.enter P f args .normal) []) W) = .ended (.done v) w' := by
    rw [runN_add, hN']
    simp [runN, hs]
  refine ⟨N, lone fr [] w', .done v, w', (runNT P (N + 1) (solo (G (Frame.enter P f args .normal) []) W) #[]).2, Prod.ext (by rw [runNT_fst, hall]) rfl, hN', hs, v, rfl, hp, fun said => (no_race_of_lone P N _ _ hN' (by simp [lone]) rfl).2, handedOver_of_lone hN', ⟨fun g hg => ?_, rfl⟩, fun i g hg hi => ?_⟩
  · simp [lone] at hg
  · exfalso
    have := (Array.getElem?_eq_some_iff.1 hg).1
    simp [lone] at this
    omega
end Go.Proofs.Ytlglokbakmbpdaa

namespace Go.Proofs.Ytlglokbakmbpdaa
open Go Go.Conc
set_option linter.unusedVariables false

theorem okFns_none (P : Program) : okFns P fun _ => false := fun f hf => by cases hf
theorem still_events {P : Program} {α : Type} {L : α → Prop} {s : Sem α} (h : Tame P L s) (w : World) : ∀ e ∈ s.events P w #[], stillE e := by
  obtain ⟨R, es, c, h1, _, h3⟩ := tame_run h w w.tape w.drawn #[]
  have h4 := h3 w.tape w.drawn fun _ _ => rfl
  have e : s.events P w #[] = es := by
    show (s.runT P w #[]).2 = es
    have : reT w w.tape w.drawn = w := rfl
    rw [this] at h4
    rw [h4]
  rw [e]
  exact h1 (by simp)
theorem still_listed {P : Program} {fn : FuncId} {a : Act} {o : Oper} {w : World} (h : okOp P (fun _ => false) o.op = true) : D0 w w (listed P fn a o w) := fun e he =>
  still_events (tame_exec (okFns_none P) (ρ := a.eval) (fun _ => rfl) o h) w e (mem_listed he)
end Go.Proofs.Ytlglokbakmbpdaa
