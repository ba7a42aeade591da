/-
  Tame steps of the model's operations: what such an operation does hangs on the tape only through the answers that it takes, it asks nothing of the outside, and it says neither 'disable' nor 'enable'. No program is named here.
-/
import GoSem.Step
import Derived.Conc.Beside
namespace Go.Proofs.Ytlglokbakmbpdab
open Go Go.Conc
set_option linter.unusedVariables false
set_option linter.unusedSimpArgs false

/-- The world with tape τ, of which d answers are taken. -/
def reT (w : World) (τ : Nat → Question → Nat) (d : Nat) : World := { w with tape := τ, drawn := d }
@[simp] theorem reT_heap (w : World) (τ : Nat → Question → Nat) (d : Nat) : (reT w τ d).heap = w.heap := rfl
@[simp] theorem reT_reT (w : World) (τ τ' : Nat → Question → Nat) (d d' : Nat) : reT (reT w τ d) τ' d' = reT w τ' d' := rfl
theorem reT_self (w : World) : reT w w.tape w.drawn = w := rfl

def Rre {α : Type} (τ : Nat → Question → Nat) (d : Nat) : Result α → Result α
  | .ok a w => .ok a (reT w τ d)
  | .halt h w => .halt h (reT w τ d)

def stillE (e : Event) : Prop := e.loc ≠ .mark .disable ∧ e.loc ≠ .mark .enable

/-- The halts that a tame operation may come to. -/
def okH : Halt → Prop
  | .panic _ => True
  | .unsupported _ => True
  | .stuck _ => True
  | _ => False

def Tame (P : Program) {α : Type} (L : α → Prop) : Sem α → Prop
  | .pure a => L a
  | .load _ _ k => ∀ v, Tame P L (k v)
  | .store _ _ _ k => Tame P L k
  | .new _ k => ∀ n, Tame P L (k n)
  | .shape _ k => ∀ s, Tame P L (k s)
  | .freeze _ _ k => Tame P L k
  | .frozen _ k => ∀ b, Tame P L (k b)
  | .getObj _ k => ∀ o, Tame P L (k o)
  | .setObj _ _ k => Tame P L k
  | .choose _ k => ∀ n, Tame P L (k n)
  | .sys c k => c = .env ∧ ∀ r, Tame P L (k r)
  | .program k => Tame P L (k P)
  | .mark m k => m ≠ .disable ∧ m ≠ .enable ∧ Tame P L k
  | .halt h => okH h

def TT {α : Type} : α → Prop := fun _ => True

theorem tame_bindL {P : Program} {α β : Type} {L : α → Prop} {M : β → Prop} {s : Sem α} {f : α → Sem β} (h : Tame P L s) (hf : ∀ a, L a → Tame P M (f a)) : Tame P M (s >>= f) := by
  show Tame P M (s.bind f)
  induction s with
  | pure a => exact hf a h
  | load m a k ih => exact fun v => ih v (h v)
  | store m a v k ih => exact ih h
  | new o k ih => exact fun v => ih v (h v)
  | shape r k ih => exact fun v => ih v (h v)
  | freeze a n k ih => exact ih h
  | frozen a k ih => exact fun v => ih v (h v)
  | getObj r k ih => exact fun v => ih v (h v)
  | setObj r o k ih => exact ih h
  | choose q k ih => exact fun v => ih v (h v)
  | sys c k ih => exact ⟨h.1, fun v => ih v (h.2 v)⟩
  | program k ih => exact ih P h
  | mark m k ih => exact ⟨h.1, h.2.1, ih h.2.2⟩
  | halt h' => exact h

theorem tame_bind {P : Program} {α β : Type} {M : β → Prop} {s : Sem α} {f : α → Sem β} (h : Tame P TT s) (hf : ∀ a, Tame P M (f a)) : Tame P M (s >>= f) := tame_bindL h fun a _ => hf a

theorem tame_map {P : Program} {α β : Type} {M : β → Prop} {s : Sem α} {f : α → β} (h : Tame P TT s) (hf : ∀ a, M (f a)) : Tame P M (Functor.map f s) := tame_bind (f := fun a => pure (f a)) h fun a => hf a

theorem tame_ite {P : Program} {α : Type} {M : α → Prop} {c : Prop} [Decidable c] {x y : Sem α} (hx : Tame P M x) (hy : Tame P M y) : Tame P M (if c then x else y) := by
  split <;> assumption

theorem tame_mono {P : Program} {α : Type} {L M : α → Prop} (hm : ∀ a, L a → M a) {s : Sem α} (h : Tame P L s) : Tame P M s := by
  induction s with
  | pure a => exact hm a h
  | load m a k ih => exact fun v => ih v (h v)
  | store m a v k ih => exact ih h
  | new o k ih => exact fun v => ih v (h v)
  | shape r k ih => exact fun v => ih v (h v)
  | freeze a n k ih => exact ih h
  | frozen a k ih => exact fun v => ih v (h v)
  | getObj r k ih => exact fun v => ih v (h v)
  | setObj r o k ih => exact ih h
  | choose q k ih => exact fun v => ih v (h v)
  | sys c k ih => exact ⟨h.1, fun v => ih v (h.2 v)⟩
  | program k ih => exact ih P h
  | mark m k ih => exact ⟨h.1, h.2.1, ih h.2.2⟩
  | halt h' => exact h

theorem farLoad_re (P : Program) (w : World) (τ : Nat → Question → Nat) (d : Nat) (a : Addr) (b : Bool) : (reT w τ d).farLoad P a b = w.farLoad P a b := rfl

theorem seen_re (P : Program) (w : World) (τ : Nat → Question → Nat) (d : Nat) (a : Addr) (u : TypeId) (k : Addr) (b : Bool) : (reT w τ d).seen P a u k b = w.seen P a u k b := rfl

theorem viewStore_re (P : Program) (w : World) (τ : Nat → Question → Nat) (d : Nat) (a : Addr) (u : TypeId) (k : Addr) (v : Value) (b : Bool) :
    (reT w τ d).viewStore P a u k v b = (w.viewStore P a u k v b).map fun x => (reT x.1 τ d, x.2) := by
  unfold World.viewStore
  simp only [seen_re, bind, Except.bind, pure, Except.pure, throw, throwThe, MonadExceptOf.throw, Except.map]
  repeat' split
  all_goals first | rfl | simp_all [reT]

theorem farStore_re (P : Program) (w : World) (τ : Nat → Question → Nat) (d : Nat) (a : Addr) (v : Value) (b : Bool) :
    (reT w τ d).farStore P a v b = (w.farStore P a v b).map fun x => (reT x.1 τ d, x.2) := by
  unfold World.farStore
  simp only [reT_heap, viewStore_re]
  split
  · rename_i at_ u hh
    cases w.viewStore P at_ u a v b <;> rfl
  · rfl

theorem noCell_ok (w : World) (a : Addr) (what : String) : okH (w.noCell a what) := by
  unfold World.noCell
  split <;> trivial

theorem farLoad_ok {P : Program} {w : World} {a : Addr} {b : Bool} {h : Halt} (e : w.farLoad P a b = .error h) : okH h := by
  unfold World.farLoad at e
  split at e
  · split at e
    · cases e
    · cases e; trivial
  · cases e; exact noCell_ok _ _ _

theorem farStore_ok {P : Program} {w : World} {a : Addr} {v : Value} {b : Bool} {h : Halt} (e : w.farStore P a v b = .error h) : okH h := by
  unfold World.farStore at e
  split at e
  · split at e
    · cases e
    · cases e; trivial
  · cases e; exact noCell_ok _ _ _

theorem still_push {es : Array Event} {e : Event} (h : ∀ x ∈ es, stillE x) (he : stillE e) : ∀ x ∈ es.push e, stillE x := by
  intro x hx
  rcases Array.mem_push.1 hx with hx | rfl
  · exact h x hx
  · exact he

theorem still_cells {es : Array Event} {l : List Addr} {b c : Bool} (h : ∀ x ∈ es, stillE x) : ∀ x ∈ es ++ l.toArray.map (fun a => (⟨.cell a, b, c⟩ : Event)), stillE x := by
  intro x hx
  rcases Array.mem_append.1 hx with hx | hx
  · exact h x hx
  · obtain ⟨y, _, rfl⟩ := Array.mem_map.1 hx
    exact ⟨by simp, by simp⟩

theorem sys_env (w : World) : ∃ (r : SysRet) (w' : World), ∀ τ d, (reT w τ d).sys .env = (r, reT w' τ d) := by
  obtain ⟨⟨r, os⟩, hx⟩ : ∃ x, Kernel.perform .env w.os = .done x := ⟨_, rfl⟩
  have h0 : ∀ τ d, (reT w τ d).ask (Kernel.perform .env (reT w τ d).os) = ((r, os), reT w τ d) := fun τ d => by
    rw [show (reT w τ d).os = w.os from rfl, hx]; rfl
  by_cases hr : r = .wouldBlock
  · exact ⟨.wouldBlock, w, fun τ d => by unfold World.sys; rw [h0, hr]⟩
  · exact ⟨r, { w with os := os }, fun τ d => by
      unfold World.sys
      rw [h0]
      cases r <;> first | rfl | exact absurd rfl hr⟩

def oneV : Value → Bool
  | .agg _ | .tuple _ => false
  | _ => true

/-- What a tame operation comes to, on whatever tape that gives the same answers. -/
theorem tame_run {P : Program} {α : Type} {L : α → Prop} {s : Sem α} (h : Tame P L s) (w : World) (τ : Nat → Question → Nat) (d : Nat) (es : Array Event) :
    ∃ (R : Result α) (es' : Array Event) (c : Nat), ((∀ e ∈ es, stillE e) → ∀ e ∈ es', stillE e) ∧ (match R with | .ok a _ => L a | .halt h _ => okH h) ∧
      ∀ τ' d', (∀ j, j < c → τ' (d' + j) = τ (d + j)) → s.runT P (reT w τ' d') es = (Rre τ' (d' + c) R, es') := by
  induction s generalizing w d es with
  | pure a => exact ⟨.ok a w, es, 0, id, h, fun τ' d' _ => rfl⟩
  | load m a k ih =>
    cases hc : w.cell? a with
    | some v =>
      obtain ⟨R, es', c, h1, h2, h3⟩ := ih v (h v) w d (es.push ⟨.cell a, false, m == .atomic⟩)
      refine ⟨R, es', c, fun hs => h1 (still_push hs ⟨by simp, by simp⟩), h2, fun τ' d' hj => ?_⟩
      have hc' : (reT w τ' d').cell? a = some v := hc
      simp only [Sem.runT, hc']
      exact h3 τ' d' hj
    | none =>
      cases hf : w.farLoad P a (m == .atomic) with
      | ok x =>
        obtain ⟨v, touched⟩ := x
        obtain ⟨R, es', c, h1, h2, h3⟩ := ih v (h v) w d (es ++ touched.toArray.map (⟨.cell ·, false, m == .atomic⟩))
        refine ⟨R, es', c, fun hs => h1 (still_cells hs), h2, fun τ' d' hj => ?_⟩
        have hc' : (reT w τ' d').cell? a = none := hc
        simp only [Sem.runT, hc', farLoad_re, hf]
        exact h3 τ' d' hj
      | error hh =>
        refine ⟨.halt hh w, es, 0, id, farLoad_ok hf, fun τ' d' hj => ?_⟩
        have hc' : (reT w τ' d').cell? a = none := hc
        simp only [Sem.runT, hc', farLoad_re, hf]
        rfl
  | store m a v k ih =>
    by_cases hv : oneV v = true
    · have eR : ∀ (w : World) (es : Array Event), (Sem.store m a v k).runT P w es = match w.cell? a with
          | some _ =>
            if w.frozen? a then (.halt (.unsupported (.unsafePointer "a write to bytes that a string shares")) w, es)
            else k.runT P (w.setCell a v) (es.push ⟨.cell a, true, m == .atomic⟩)
          | none => match w.farStore P a v (m == .atomic) with
            | .ok (w, touched) => k.runT P w (es ++ touched.toArray.map (⟨.cell ·, true, m == .atomic⟩))
            | .error h => (.halt h w, es) := by
        intro w es
        cases v <;> first | rfl | simp [oneV] at hv
      cases hc : w.cell? a with
      | some old =>
        by_cases hf : w.frozen? a = true
        · refine ⟨.halt (.unsupported (.unsafePointer "a write to bytes that a string shares")) w, es, 0, id, trivial, fun τ' d' hj => ?_⟩
          have hc' : (reT w τ' d').cell? a = some old := hc
          have hf' : (reT w τ' d').frozen? a = true := hf
          rw [eR]
          simp only [hc', hf', if_true]
          rfl
        · obtain ⟨R, es', c, h1, h2, h3⟩ := ih h (w.setCell a v) d (es.push ⟨.cell a, true, m == .atomic⟩)
          refine ⟨R, es', c, fun hs => h1 (still_push hs ⟨by simp, by simp⟩), h2, fun τ' d' hj => ?_⟩
          have hc' : (reT w τ' d').cell? a = some old := hc
          have hf' : ¬ (reT w τ' d').frozen? a = true := hf
          rw [eR]
          simp only [hc', if_neg hf']
          exact h3 τ' d' hj
      | none =>
        cases hf : w.farStore P a v (m == .atomic) with
        | ok x =>
          obtain ⟨w1, touched⟩ := x
          obtain ⟨R, es', c, h1, h2, h3⟩ := ih h w1 d (es ++ touched.toArray.map (⟨.cell ·, true, m == .atomic⟩))
          refine ⟨R, es', c, fun hs => h1 (still_cells hs), h2, fun τ' d' hj => ?_⟩
          have hc' : (reT w τ' d').cell? a = none := hc
          rw [eR]
          simp only [hc', farStore_re, hf, Except.map]
          exact h3 τ' d' hj
        | error hh =>
          refine ⟨.halt hh w, es, 0, id, farStore_ok hf, fun τ' d' hj => ?_⟩
          have hc' : (reT w τ' d').cell? a = none := hc
          rw [eR]
          simp only [hc', farStore_re, hf, Except.map]
          rfl
    · refine ⟨.halt (.stuck "store: not the value of one cell") w, es, 0, id, trivial, fun τ' d' hj => ?_⟩
      cases v <;> first | rfl | (exact absurd rfl hv)
  | new o k ih =>
    obtain ⟨R, es', c, h1, h2, h3⟩ := ih w.heap.size (h _) { w with heap := w.heap.push o } d es
    exact ⟨R, es', c, h1, h2, fun τ' d' hj => h3 τ' d' hj⟩
  | shape r k ih =>
    obtain ⟨R, es', c, h1, h2, h3⟩ := ih (w.shape? r) (h _) w d es
    exact ⟨R, es', c, h1, h2, fun τ' d' hj => h3 τ' d' hj⟩
  | freeze a n k ih =>
    obtain ⟨R, es', c, h1, h2, h3⟩ := ih h (w.freeze a n) d es
    refine ⟨R, es', c, h1, h2, fun τ' d' hj => ?_⟩
    have e : (reT w τ' d').freeze a n = reT (w.freeze a n) τ' d' := by unfold World.freeze; split <;> rfl
    show k.runT P ((reT w τ' d').freeze a n) es = _
    rw [e]; exact h3 τ' d' hj
  | frozen a k ih =>
    obtain ⟨R, es', c, h1, h2, h3⟩ := ih (w.frozen? a) (h _) w d es
    exact ⟨R, es', c, h1, h2, fun τ' d' hj => h3 τ' d' hj⟩
  | getObj r k ih =>
    have e2 : ∀ τ' d', (reT w τ' d').heap[r]? = w.heap[r]? := fun _ _ => rfl
    cases hh : w.heap[r]? with
    | none => exact ⟨.halt (.stuck "getObj: no such block") w, es, 0, id, trivial, fun τ' d' hj => by simp only [Sem.runT, e2, hh]; rfl⟩
    | some o =>
      by_cases hcl : ∃ x y z, o = .cells x y z
      · obtain ⟨x, y, z, rfl⟩ := hcl
        exact ⟨.halt (.stuck "getObj: a row of cells") w, es, 0, id, trivial, fun τ' d' hj => by simp only [Sem.runT, e2, hh]; rfl⟩
      · obtain ⟨R, es', c, h1, h2, h3⟩ := ih o (h _) w d (es.push ⟨.obj r, false, o.isChan⟩)
        refine ⟨R, es', c, fun hs => h1 (still_push hs ⟨by simp, by simp⟩), h2, fun τ' d' hj => ?_⟩
        have e3 := h3 τ' d' hj
        cases o <;> first | (exact absurd ⟨_, _, _, rfl⟩ hcl) | (simp only [Sem.runT, e2, hh]; exact e3)
  | setObj r o k ih =>
    have e2 : ∀ τ' d', (reT w τ' d').heap[r]? = w.heap[r]? := fun _ _ => rfl
    cases hh : w.heap[r]? with
    | none => exact ⟨.halt (.stuck "setObj: no such block") w, es, 0, id, trivial, fun τ' d' hj => by simp only [Sem.runT, e2, hh]; rfl⟩
    | some q =>
      by_cases hcl : ∃ x y z, q = .cells x y z
      · obtain ⟨x, y, z, rfl⟩ := hcl
        exact ⟨.halt (.stuck "setObj: a row of cells") w, es, 0, id, trivial, fun τ' d' hj => by simp only [Sem.runT, e2, hh]; rfl⟩
      · obtain ⟨R, es', c, h1, h2, h3⟩ := ih h { w with heap := w.heap.setIfInBounds r o } d (es.push ⟨.obj r, true, o.isChan⟩)
        refine ⟨R, es', c, fun hs => h1 (still_push hs ⟨by simp, by simp⟩), h2, fun τ' d' hj => ?_⟩
        have e3 := h3 τ' d' hj
        cases q <;> first | (exact absurd ⟨_, _, _, rfl⟩ hcl) | (simp only [Sem.runT, e2, hh]; exact e3)
  | choose q k ih =>
    by_cases hq : q.forced = true
    · obtain ⟨R, es', c, h1, h2, h3⟩ := ih 0 (h _) w d es
      exact ⟨R, es', c, h1, h2, fun τ' d' hj => by simp only [Sem.runT, hq, if_true]; exact h3 τ' d' hj⟩
    · obtain ⟨R, es', c, h1, h2, h3⟩ := ih (q.cut (τ d q)) (h _) w (d + 1) es
      refine ⟨R, es', c + 1, h1, h2, fun τ' d' hj => ?_⟩
      have e0 : τ' d' = τ d := by have := hj 0 (by omega); simpa using this
      have e1 := h3 τ' (d' + 1) fun j hl => by have := hj (j + 1) (by omega); rw [show d' + 1 + j = d' + (j + 1) by omega, show d + 1 + j = d + (j + 1) by omega]; exact this
      simp only [Sem.runT, if_neg hq]
      show (k (q.cut (τ' d' q))).runT P (reT w τ' (d' + 1)) es = _
      rw [e0, e1, show d' + 1 + c = d' + (c + 1) by omega]
  | sys c k ih =>
    obtain ⟨rfl, h⟩ := h
    obtain ⟨r, w1, hc⟩ := sys_env w
    obtain ⟨R, es', c2, h1, h2, h3⟩ := ih r (h r) w1 d (es.push ⟨.output, true, false⟩)
    refine ⟨R, es', c2, fun hs => h1 (still_push hs ⟨by simp, by simp⟩), h2, fun τ' d' hj => ?_⟩
    have e2 := h3 τ' d' hj
    simp only [Sem.runT, hc]
    rw [e2]
  | program k ih =>
    obtain ⟨R, es', c, h1, h2, h3⟩ := ih P h w d es
    exact ⟨R, es', c, h1, h2, fun τ' d' hj => h3 τ' d' hj⟩
  | mark m k ih =>
    obtain ⟨R, es', c, h1, h2, h3⟩ := ih h.2.2 w d (es.push ⟨.mark m, false, true⟩)
    exact ⟨R, es', c, fun hs => h1 (still_push hs ⟨by simpa using h.1, by simpa using h.2.1⟩), h2, fun τ' d' hj => h3 τ' d' hj⟩
  | halt h' => exact ⟨.halt h' w, es, 0, id, h, fun τ' d' _ => rfl⟩

end Go.Proofs.Ytlglokbakmbpdab
