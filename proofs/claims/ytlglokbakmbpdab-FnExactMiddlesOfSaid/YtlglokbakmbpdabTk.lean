/-
  A run of a plain text alone, on every tape, is a walk that the answers of no tape can turn aside ('Ahead'). No program is named here.
-/
import Derived.Test.YtlglokbakmbpdabTl
namespace Go.Proofs.Ytlglokbakmbpdab
open Go Go.Conc
set_option linter.unusedVariables false
set_option linter.unusedSimpArgs false

/-- The frames, the last one with more to do behind. -/
def plug (z : List Item) : List Frame → List Frame
  | [] => []
  | [fr] => [addT fr z]
  | fr :: r => fr :: plug z r

theorem plug_cons2 (z : List Item) (fr fr2 : Frame) (r : List Frame) : plug z (fr :: fr2 :: r) = fr :: plug z (fr2 :: r) := rfl

/-- The goroutine with these frames, and those below. -/
def GL : List Frame → List Frame → Goroutine
  | fr :: r, cs => G fr (r ++ cs)
  | [], cs => G default cs

/-- A frame that waits for a callee. -/
def waits (fr : Frame) : Prop := fr.mode = .run ∧ ∃ ops i rest k, fr.todo = .inRegion ops (i :: rest) :: k

def okTail (P : Program) (ok : FuncId → Bool) (r : List Frame) : Prop := ∀ fr ∈ r, okFr P ok fr ∧ waits fr

def okS (P : Program) (ok : FuncId → Bool) : List Frame → Prop
  | [] => False
  | fr :: r => okFr P ok fr ∧ (fr.mode = .run ∨ fr.mode = .returning) ∧ okTail P ok r

/-- The last frame stands at its end, or leaves. -/
def done (z0 : List Item) (fr : Frame) : Prop := fr.mode = .returning ∨ (z0 = kT ∧ fr.mode = .run ∧ fr.todo = [])
def final (z0 : List Item) (l : List Frame) : Prop := ∃ fr, l = [fr] ∧ done z0 fr
/-- What may lie behind: nothing behind a whole function, anything behind a piece of text. -/
def fits (z0 z : List Item) : Prop := z0 = [] → z = []
theorem fits_self (z0 : List Item) : fits z0 z0 := id

def trap (P : Program) : Frame := { fn := P.funcs.size, tmps := #[undef], todo := [.call default false "fmt's door" #[]], defers := [], mode := .run, kind := .normal }

theorem mapM_pureL {α β : Type} (f : α → Sem β) (g : α → β) : ∀ (l : List α), (∀ x ∈ l, f x = pure (g x)) → l.mapM f = (pure (l.map g) : Sem (List β))
  | [], _ => rfl
  | x :: l, h => by
    rw [List.mapM_cons, h x (List.mem_cons_self ..), mapM_pureL f g l fun y hy => h y (List.mem_cons_of_mem _ hy)]
    simp

theorem mapM_pureA {α β : Type} (f : α → Sem β) (g : α → β) (xs : Array α) (h : ∀ x ∈ xs, f x = pure (g x)) : xs.mapM f = (pure (xs.map g) : Sem (Array β)) := by
  rw [Array.mapM_eq_mapM_toList, mapM_pureL f g _ fun x hx => h x (by simpa using hx)]
  obtain ⟨l⟩ := xs
  simp

theorem results_tmp {P : Program} {fn : Func} (h : fn.results.all tmpR = true) (tmps : Array Value) : ∃ v, results fn tmps = (pure v : Sem Value) := by
  have key := fun f => mapM_pureA f (fun x => match x with | ResultVar.tmp t => tmps.getD t undef | .cell _ _ => undef) fn.results
  unfold results
  rw [key]
  · exact ⟨_, rfl⟩
  · intro x hx
    have := Array.all_eq_true_iff_forall_mem.1 h x hx
    cases x with
    | tmp t => rfl
    | cell a t => cases this

section
variable {P : Program} {ok : FuncId → Bool} {w : World} {τ : Nat → Question → Nat} {d : Nat}

/-- A callee's return. -/
theorem step_return {fr c : Frame} (hf : okFr P ok fr) (hm : fr.mode = .returning) (hc : okFr P ok c) (hw : waits c) :
    ∃ c', okFr P ok c' ∧ c'.mode = .run ∧ ∀ (z : List Item) (cs : List Frame) (main : Bool) (w : World), stepG P main (G fr (addT c z :: cs)) w = .go (G (addT c' z) cs) w #[] := by
  obtain ⟨fn, hfn, hres⟩ := hf.fn
  obtain ⟨v, hv⟩ := results_tmp (P := P) hres fr.tmps
  obtain ⟨hcm, ops, i, rest, k, ht⟩ := hw
  have hitems := hc.items
  rw [ht] at hitems
  refine ⟨c.at ((⟨c.tmps, []⟩ : Act).put ((ops[i]?).bind (·.dst)) v) (.inRegion ops rest :: k), ⟨hc.fn, ?_, hc.kind, rfl, ?_⟩, rfl, fun z cs main w => ?_⟩
  · cases (ops[i]?).bind (·.dst) <;> simp [Act.put, Frame.at]
  · intro x hx
    rcases List.mem_cons.1 hx with rfl | hx
    · exact (show okItem P ok (.inRegion ops (i :: rest)) = true from hitems _ (List.mem_cons_self ..))
    · exact hitems x (List.mem_cons_of_mem _ hx)
  · have e1 : addT c z = c.at ⟨c.tmps, []⟩ (.inRegion ops (i :: rest) :: (k ++ z)) := by rw [addT_at hc.defers hcm hc.round, ht]; rfl
    have e2 : (c.at ⟨c.tmps, []⟩ (.inRegion ops (i :: rest) :: (k ++ z))).finish v = addT (c.at ((⟨c.tmps, []⟩ : Act).put ((ops[i]?).bind (·.dst)) v) (.inRegion ops rest :: k)) z := by
      rw [Frame.finish_at]; rfl
    rw [e1, ← e2]
    have h1 := hf.defers
    have h2 := hf.kind
    simp [G, stepG, unwind, hm, h1, hfn, hv, pure, Sem.runT, seen, doReturn, h2, GStep.after]

theorem plug_tail (z : List Item) (c : Frame) (r : List Frame) : ∃ z' r', plug z (c :: r) = addT c z' :: r' ∧ ∀ c', plug z (c' :: r) = addT c' z' :: r' := by
  cases r with
  | nil => exact ⟨z, [], rfl, fun _ => rfl⟩
  | cons c2 r => exact ⟨[], plug z (c2 :: r), by rw [plug_cons2]; simp [addT], fun c' => by rw [plug_cons2]; simp [addT]⟩

/-- ONE STEP OF A PLAIN STACK. -/
theorem ok_step (hP : NoInit P) (hok : okFns P ok) {z0 : List Item} (hz0 : z0 = [] ∨ z0 = kT) {l : List Frame} (hS : okS P ok l) (hn : ¬ final z0 l) (w : World) (τ : Nat → Question → Nat) (d : Nat) :
    (∃ l' w' es c, okS P ok l' ∧ stillA es ∧ ∀ (z : List Item), fits z0 z → ∀ (cs : List Frame) (main : Bool) τ' d', agree τ τ' d d' c → stepG P main (GL (plug z l) cs) (reT w τ' d') = .go (GL (plug z l') cs) (reT w' τ' (d' + c)) es)
    ∨ (∃ c, ∀ τ' d', agree τ τ' d d' c → (∃ v fr r w' es, plug z0 l = fr :: r ∧ stepG P true (GL (plug z0 l) [trap P]) (reT w τ' d') = .go (G (fr.raise [v]) (r ++ [trap P])) w' es)
        ∨ (∃ o w' es, stepG P true (GL (plug z0 l) [trap P]) (reT w τ' d') = .ended o w' es)) := by
  cases l with
  | nil => exact hS.elim
  | cons fr r =>
    obtain ⟨hf, hm, ht⟩ := hS
    obtain ⟨z1, r1, hp1, hp2⟩ := plug_tail z0 fr r
    rcases hm with hm | hm
    · -- the top frame runs
      by_cases htodo : fr.todo = []
      · -- a callee at its end
        have hr : r = [] → z0 = [] := by
          rintro rfl
          rcases hz0 with h | h
          · exact h
          · exact absurd ⟨fr, rfl, .inr ⟨h, hm, htodo⟩⟩ hn
        refine .inl ⟨{ fr with mode := .returning } :: r, w, #[], 0, ⟨⟨hf.fn, hf.defers, hf.kind, hf.round, hf.items⟩, .inr rfl, ht⟩, by intro e he; simp at he, fun z hfz cs main τ' d' _ => ?_⟩
        have h1 := hf.defers
        have h2 := hf.round
        cases r with
        | nil =>
          have hz := hfz (hr rfl)
          subst hz
          simp [plug, addT, GL, G, stepG, stepG.exec, hm, htodo, h2, reT]
        | cons c r =>
          rw [plug_cons2, plug_cons2]
          simp [GL, G, stepG, stepG.exec, hm, htodo, h2, reT]
      · have hstep := step_run (w := w) (τ := τ) (d := d) hP hok hf hm htodo
        cases hstep with
        | go fr' w' es c hf' hm' he h =>
          refine .inl ⟨fr' :: r, w', es, c, ⟨hf', hm', ht⟩, he, fun z hfz cs main τ' d' hj => ?_⟩
          obtain ⟨z', r', e1, e2⟩ := plug_tail z fr r
          rw [e1, e2 fr']
          exact h z' (r' ++ cs) main τ' d' hj
        | enter f args w' es c hf' hr he h =>
          obtain ⟨fn, hfn, hg⟩ := hok f hf'
          simp only [okFn, Bool.and_eq_true] at hg
          obtain ⟨⟨_, g2⟩, g3⟩ := hg
          refine .inl ⟨Frame.enter P f args .normal :: fr :: r, w', es, c, ⟨⟨⟨fn, hfn, g2⟩, rfl, rfl, rfl, ?_⟩, .inl rfl, ?_⟩, he, fun z hfz cs main τ' d' hj => ?_⟩
          · intro x hx
            cases hb : fn.body with
            | none => rw [hb] at g3; cases g3
            | some code =>
              rw [hb] at g3
              simp [Frame.enter, hfn, hb] at hx
              subst hx
              exact g3
          · intro fr2 h2
            rcases List.mem_cons.1 h2 with rfl | h2
            · exact ⟨hf, hm, hr⟩
            · exact ht fr2 h2
          · obtain ⟨z', r', e1, e2⟩ := plug_tail z fr r
            rw [plug_cons2, e1]
            exact h z' (r' ++ cs) main τ' d' hj
        | panic v c h =>
          refine .inr ⟨c, fun τ' d' hj => .inl ?_⟩
          obtain ⟨w', es, e⟩ := h z1 (r1 ++ [trap P]) true τ' d' hj
          exact ⟨v, addT fr z1, r1, w', es, hp1, by rw [hp1]; exact e⟩
        | ended c h =>
          refine .inr ⟨c, fun τ' d' hj => .inr ?_⟩
          rw [hp1]
          refine h z1 ?_ (r1 ++ [trap P]) true τ' d' hj
          cases r with
          | nil =>
            have e : addT fr z0 = addT fr z1 := by have := hp1; simp only [plug, List.cons.injEq] at this; exact this.1
            have : fr.todo ++ z0 = fr.todo ++ z1 := congrArg Frame.todo e
            rw [← List.append_cancel_left this]; exact hz0
          | cons c2 r2 =>
            have e : fr = addT fr z1 := by have := hp1; rw [plug_cons2] at this; simp only [List.cons.injEq] at this; exact this.1
            left
            have : fr.todo = fr.todo ++ z1 := congrArg Frame.todo e
            exact List.self_eq_append_right.1 this
    · -- the top frame returns
      cases r with
      | nil => exact absurd ⟨fr, rfl, .inl hm⟩ hn
      | cons c r =>
        obtain ⟨hc, hwc⟩ := ht c (List.mem_cons_self ..)
        obtain ⟨c', hc', hm', h⟩ := step_return hf hm hc hwc
        refine .inl ⟨c' :: r, w, #[], 0, ⟨hc', .inl hm', fun x hx => ht x (List.mem_cons_of_mem _ hx)⟩, by intro e he; simp at he, fun z hfz cs main τ' d' _ => ?_⟩
        obtain ⟨z', r', e1, e2⟩ := plug_tail z c r
        rw [plug_cons2, e1, e2 c']
        exact h z' (r' ++ cs) main _

/-- A WALK THAT NO TAPE'S ANSWERS TURN ASIDE: on tape τ, from whatever place of it each step is taken. -/
inductive Ahead (P : Program) (ok : FuncId → Bool) (z0 : List Item) (τ : Nat → Question → Nat) (Q : Frame → World → Prop) : List Frame → World → Prop
  | stop (fr : Frame) (w : World) (hd : done z0 fr) (hQ : Q fr w) : Ahead P ok z0 τ Q [fr] w
  | step (l : List Frame) (w : World) (hS : okS P ok l) (hn : ¬ final z0 l) (l' : Nat → List Frame) (w' : Nat → World) (es : Nat → Array Event) (c : Nat → Nat) (he : ∀ d, stillA (es d))
      (h : ∀ d (z : List Item), fits z0 z → ∀ (cs : List Frame) (main : Bool), stepG P main (GL (plug z l) cs) (reT w τ d) = .go (GL (plug z (l' d)) cs) (reT (w' d) τ (d + c d)) (es d))
      (ha : ∀ d, Ahead P ok z0 τ Q (l' d) (w' d)) : Ahead P ok z0 τ Q l w

theorem plug_cons_of (z : List Item) {l : List Frame} (h : l ≠ []) : ∃ fr r, plug z l = fr :: r := by
  cases l with
  | nil => exact absurd rfl h
  | cons x l =>
    cases l with
    | nil => exact ⟨_, _, rfl⟩
    | cons y l => exact ⟨_, _, rfl⟩

/-- The machine of one goroutine, over the trap. -/
def onTrap (P : Program) (z0 : List Item) (l : List Frame) (w : World) : Machine :=
  match plug z0 l with
  | fr :: r => lone fr (r ++ [trap P]) w
  | [] => lone default [trap P] w

theorem onTrap_eq {z0 : List Item} {l : List Frame} {fr : Frame} {r : List Frame} (h : plug z0 l = fr :: r) (w : World) : onTrap P z0 l w = lone fr (r ++ [trap P]) w := by unfold onTrap; rw [h]

theorem lone_inj {fr fr' : Frame} {cs cs' : List Frame} {w w' : World} (h : lone fr cs w = lone fr' cs' w') : fr = fr' ∧ cs = cs' ∧ w = w' := by
  simp only [lone, Machine.mk.injEq, Array.mk.injEq, List.cons.injEq, Goroutine.mk.injEq, and_true, true_and] at h
  exact ⟨h.2.1, h.2.2, h.1⟩

theorem step_of_go {fr fr' : Frame} {cs cs' : List Frame} {w w' : World} {es : Array Event} (h : stepG P true (G fr cs) w = .go (G fr' cs') w' es) : step P (lone fr cs w) = .next (lone fr' cs' w') :=
  step_lone_go (by show (stepG P true (G fr cs) w).bare = _; rw [h]; rfl)

theorem step_of_ended {fr : Frame} {cs : List Frame} {w w' : World} {o : Outcome} {es : Array Event} (h : stepG P true (G fr cs) w = .ended o w' es) : step P (lone fr cs w) = .ended o w' :=
  step_lone_ended (by show (stepG P true (G fr cs) w).bare = _; rw [h]; rfl)

/-- Whoever panics over the trap never runs again. -/
theorem panic_never : ∀ (r : List Frame), (∀ x ∈ r, x.defers = [] ∧ (P.funcs[x.fn]?).isSome = true) → ∀ (fr : Frame) (ch : List PanicEntry) (w : World), fr.mode = .panicking ch → fr.defers = [] → (P.funcs[fr.fn]?).isSome = true →
    ∀ n fr1 cs1 w1, runN P n (lone fr (r ++ [trap P]) w) = .next (lone fr1 cs1 w1) → ∃ ch, fr1.mode = .panicking ch := by
  have raise_mode : ∀ (fr : Frame) (vs : List PanicEntry), ∃ ch, (fr.raise vs).mode = .panicking ch := by
    intro fr vs
    unfold Frame.raise
    split <;> exact ⟨_, rfl⟩
  have raise_keep : ∀ (fr : Frame) (vs : List PanicEntry), (fr.raise vs).defers = fr.defers ∧ (fr.raise vs).fn = fr.fn ∧ (fr.raise vs).todo = fr.todo := by
    intro fr vs
    unfold Frame.raise
    split <;> exact ⟨rfl, rfl, rfl⟩
  have one : ∀ (fr c : Frame) (cs : List Frame) (ch : List PanicEntry) (w : World), fr.mode = .panicking ch → fr.defers = [] → (P.funcs[fr.fn]?).isSome = true → step P (lone fr (c :: cs) w) = .next (lone (c.raise ch) cs w) := by
    intro fr c cs ch w h1 h2 h3
    obtain ⟨f, hf⟩ := Option.isSome_iff_exists.1 h3
    exact step_of_go (es := #[]) (by simp [G, stepG, unwind, h1, h2, Frame.catches, hf])
  intro r
  induction r with
  | nil =>
    intro hr fr ch w h1 h2 h3 n fr1 cs1 w1 hn
    cases n with
    | zero =>
      simp only [runN, Stepped.next.injEq] at hn
      obtain ⟨rfl, _, _⟩ := lone_inj hn
      exact ⟨ch, h1⟩
    | succ n =>
      simp only [runN, List.nil_append, one fr (trap P) [] ch w h1 h2 h3] at hn
      cases n with
      | zero =>
        simp only [runN, Stepped.next.injEq] at hn
        obtain ⟨rfl, _, _⟩ := lone_inj hn
        exact raise_mode _ _
      | succ n =>
        exfalso
        obtain ⟨c2, hc2⟩ := raise_mode (trap P) ch
        obtain ⟨k1, k2, k3⟩ := raise_keep (trap P) ch
        have e : ∃ o w', step P (lone ((trap P).raise ch) [] w) = .ended o w' := by
          refine ⟨_, _, step_of_ended (es := #[]) (o := .unsupported (.noEntry "a panic or Goexit out of a method that fmt calls behind a cut's door") (Frame.pos P ((trap P).raise ch))) (w' := w) ?_⟩
          have k4 : P.funcs[((trap P).raise ch).fn]? = none := by rw [k2]; show P.funcs[P.funcs.size]? = none; simp
          have k5 : ((trap P).raise ch).catches P = true := by
            unfold Frame.catches
            rw [k4, k3]
            show ("fmt's door".startsWith "fmt's door") = true
            kernel_rfl
          have k6 : ((trap P).raise ch).defers = [] := k1
          simp [G, stepG, unwind, hc2, k6, k5]
        obtain ⟨o, w', e⟩ := e
        simp [runN, e] at hn
  | cons c r ih =>
    intro hr fr ch w h1 h2 h3 n fr1 cs1 w1 hn
    cases n with
    | zero =>
      simp only [runN, Stepped.next.injEq] at hn
      obtain ⟨rfl, _, _⟩ := lone_inj hn
      exact ⟨ch, h1⟩
    | succ n =>
      simp only [runN, List.cons_append, one fr c (r ++ [trap P]) ch w h1 h2 h3] at hn
      obtain ⟨c2, hc2⟩ := raise_mode c ch
      obtain ⟨k1, k2, k3⟩ := raise_keep c ch
      obtain ⟨g1, g2⟩ := hr c (List.mem_cons_self ..)
      exact ih (fun x hx => hr x (List.mem_cons_of_mem _ hx)) _ c2 w hc2 (by rw [k1]; exact g1) (by rw [k2]; exact g2) n fr1 cs1 w1 hn

end
end Go.Proofs.Ytlglokbakmbpdab
