/-
  A sender and a ranging receiver over a channel with a buffer, at which either may sleep, beside goroutines that only leave: on whatever schedule the receiver comes to its end, and the sender only leaves. No program is named here.
-/
import Derived.Test.YtlglokbakmbpdabTr
import Derived.Conc.CrowdComm
namespace Go.Proofs.Ytlglokbakmbpdab
open Go Go.Conc
open Go.ConcN (sumTo upd sumTo_upd upd_ne upd_same)
set_option linter.unusedVariables false
set_option linter.unusedSimpArgs false

section
variable {P : Program} {gs : Array Goroutine} {w w₁ : World} {sl : Option (Nat × Nat)} {i j : Nat} {g g₂ gj : Goroutine} {es : Array Event} {shape shj : CommShape} {blocking : Bool}
  {c cap s r : Nat} {buf : Array Value} {closed tm : Bool} {v z zj : Value}

/-- A receive takes from a full buffer; the one parked sender's value goes in behind. -/
theorem crowd_recv_full (hi : gs[i]? = some g) (h : stepG P (i == 0) g w = .comm g₂ #[rcase c z] blocking shape w₁ es) (hc : w₁.heap[c]? = some (.chan cap buf closed s r tm)) (hsome : 0 < buf.size)
    (hij : j ≠ i) (hj : gs[j]? = some (parked gj #[scase c v zj] shj)) (hp : partners (gs.setIfInBounds i ph) c true = [(j, 0)]) :
    runT P (crowd gs w sl) i = (.next (crowd ((gs.setIfInBounds j (gj.finishComm P #[scase c v zj] shj 0 undef false)).setIfInBounds i (g₂.finishComm P #[rcase c z] shape 0 (buf.getD 0 undef) true)) (w₁.setChan c cap ((buf.extract 1 buf.size).push v) closed (s + 1) (r + 1) tm) sl),
      MemOp.ofEvents i g.frame.fn g.frame.place es ++ #[{ g := i, fn := g₂.frame.fn, pos := g₂.frame.place, act := .recv c r cap }, { g := i, fn := g₂.frame.fn, pos := g₂.frame.place, act := .recvDone c r },
        { g := j, fn := gj.frame.fn, pos := gj.frame.place, act := .send c s }, { g := j, fn := gj.frame.fn, pos := gj.frame.place, act := .sendDone c s }]) := by
  rw [runT_crowd_comm hi h]
  have hj' := stand_get (i := i) hij hj
  have hfp := finishPartner_at P (gs.setIfInBounds i ph) hj' (cs := #[scase c v zj]) (sh := shj) rfl 0 undef
  have hgd : (gs.setIfInBounds i ph).getD j default = parked gj #[scase c v zj] shj := by rw [Array.getD_eq_getD_getElem?, hj']; rfl
  have hov : offeredValue (gs.setIfInBounds i ph) j 0 = v := by simp [offeredValue, hj', parked, scase]
  simp [communicate, ways, rcase, hc, hp, hsome, choose, Sem.run, Question.forced, bind, Sem.bind, pure, World.setChan, crowd, hfp, hgd, hov, set_stand2, finishComm_parked, scase, parked]
  rfl
end

theorem quitsD_of_in {P : Program} : ∀ {n : Nat} {g : Goroutine}, QuitsIn P n g → QuitsD P n 0 g
  | 0, _, h => ⟨h, rfl⟩
  | _ + 1, _, .inl h => .inl ⟨h, rfl⟩
  | n + 1, _, .inr ⟨hs, g', hw, hq⟩ => .inr ⟨hs, g', #[], by simp, hw, by simpa [deafBehind] using quitsD_of_in hq⟩

section
variable (P : Program) (c : Nat) (S : World → Prop) (Mine : Loc → Prop)

/-- It stands at the close; behind it it only leaves. -/
def AtCloseB (g : Goroutine) : Prop :=
  g.status = .running ∧ mayWake P g = true ∧ ∃ (g₂ : Goroutine) (es : Array Event) (n : Nat),
    (∀ w cap buf s r tm, S w → w.heap[c]? = some (.chan cap buf false s r tm) → stepG P false g w = .go g₂ (w.setChan c cap buf true s r tm) (es.push ⟨.obj c, true, true⟩)) ∧ (∀ e ∈ es, EvB Mine e) ∧ QuitsIn P n g₂

def SendsB : List Value → Goroutine → Prop
  | [], g => ∃ n, Goes P false (fun _ w₁ => S w₁) (DB Mine) (fun g₁ _ => AtCloseB P c S Mine g₁) n g default
  | v :: vs, g => ∃ n, Goes P false (fun _ w₁ => S w₁) (DB Mine) (fun g₁ _ => AtSend P c S Mine v (SendsB vs) g₁) n g default

def StopS : List Value → Goroutine → World → Prop
  | [] => fun g₁ _ => AtCloseB P c S Mine g₁
  | v :: vs => fun g₁ _ => AtSend P c S Mine v (SendsB P c S Mine vs) g₁

theorem sendsB_iff (vs : List Value) (g : Goroutine) : SendsB P c S Mine vs g ↔ ∃ n, Goes P false (fun _ w₁ => S w₁) (DB Mine) (StopS P c S Mine vs) n g default := by
  cases vs <;> exact Iff.rfl

/-- The receiver runs (k = n + 1), or is parked (k = 0). -/
def RecvSt (z : Value) (Fin : Goroutine → World → Prop) (l : List Value) (a : Goroutine) (w : World) (k : Nat) : Prop :=
  (∃ n, k = n + 1 ∧ Goes P true (Aside c) (DA c S Mine) (StopA P c S Mine z Fin l) n a w) ∨
  (k = 0 ∧ ∃ g0, a = parked (core g0) #[rcase c z] (.recv true) ∧ ∀ w₁, Aside c w w₁ → StopA P c S Mine z Fin l g0 w₁)

def SendSt (ys : List Value) (b : Goroutine) (k : Nat) : Prop :=
  (∃ n, k = n + 1 ∧ Goes P false (fun _ w₁ => S w₁) (DB Mine) (StopS P c S Mine ys) n b default) ∨
  (k = 0 ∧ ∃ v ys' g2 z', ys = v :: ys' ∧ b = parked g2 #[scase c v z'] .send ∧ SendsB P c S Mine ys' (Go.Conc.served g2 undef))
end

section
variable {P : Program} {c : Nat} {S : World → Prop} {Mine : Loc → Prop} {z : Value} {Fin : Goroutine → World → Prop} {m cap : Nat} {tm : Bool}

theorem stopA_run {l : List Value} {g : Goroutine} {w : World} (h : StopA P c S Mine z Fin l g w) : g.status = .running := by
  cases l with
  | nil => exact h.1
  | cons v vs => exact h.1

theorem stopS_run {l : List Value} {g : Goroutine} {w : World} (h : StopS P c S Mine l g w) : g.status = .running := by
  cases l with
  | nil => exact h.1
  | cons v vs => exact h.1

/-- A record let try again stands at the receive at which it stood. -/
theorem stopA_again {l : List Value} {g0 : Goroutine} {w : World} (h : StopA P c S Mine z Fin l g0 w) : StopA P c S Mine z Fin l { parked (core g0) #[rcase c z] (.recv true) with status := .running } w := by
  have e : ∀ w, stepG P true { parked (core g0) #[rcase c z] (.recv true) with status := .running } w = stepG P true g0 w := fun w => stepG_same rfl rfl rfl w
  have e2 : core { parked (core g0) #[rcase c z] (.recv true) with status := .running } = core g0 := rfl
  cases l with
  | nil =>
    obtain ⟨_, es, h1, h2, h3⟩ := h
    exact ⟨rfl, es, by rw [e, e2]; exact h1, h2, h3⟩
  | cons v vs =>
    obtain ⟨_, es, h1, h2, h3⟩ := h
    exact ⟨rfl, es, by rw [e, e2]; exact h1, h2, h3⟩

theorem recvSt_run {l : List Value} {a : Goroutine} {w : World} {n : Nat} (h : Goes P true (Aside c) (DA c S Mine) (StopA P c S Mine z Fin l) n a w) : a.status = .running :=
  h.running (fun _ _ x => stopA_run x) w (Aside.refl c w)

/-- All but goroutines 0 and m only leave. -/
structure Others (P : Program) (m : Nat) (t : Trace) (gs : Array Goroutine) (q : Nat → Nat) : Prop where
  old : ∀ i g, 0 < i → i ≠ m → gs[i]? = some g → QuitsD P (q i) (Deaf t i) g
  above : ∀ j, gs.size ≤ j → Deaf t j = 0
  pos : 0 < m

structure Op (P : Program) (c : Nat) (S : World → Prop) (Mine : Loc → Prop) (z : Value) (Fin : Goroutine → World → Prop) (m cap : Nat) (tm : Bool) (gs : Array Goroutine) (w : World) (t : Trace) (q : Nat → Nat) (xs ys : List Value) (ka kb : Nat) : Prop where
  ex : ∃ a b, gs[0]? = some a ∧ gs[m]? = some b ∧ RecvSt P c S Mine z Fin (xs ++ ys) a w ka ∧ SendSt P c S Mine ys b kb
  oth : Others P m t gs q
  tr : TP m Mine t
  ch : ∃ s r, w.heap[c]? = some (.chan cap xs.toArray false s r tm)
  sw : S w
  pa : ka = 0 → xs = []
  pb : kb = 0 → cap ≤ xs.length

structure Sh (P : Program) (c : Nat) (S : World → Prop) (Mine : Loc → Prop) (z : Value) (Fin : Goroutine → World → Prop) (m cap : Nat) (tm : Bool) (gs : Array Goroutine) (w : World) (t : Trace) (q : Nat → Nat) (xs : List Value) (n : Nat) : Prop where
  ex : ∃ a, gs[0]? = some a ∧ Goes P true (Aside c) (DA c S Mine) (StopA P c S Mine z Fin xs) n a w
  lv : Leavers P t gs q
  tr : ∃ pc, TC m c pc Mine t
  ch : ∃ s r, w.heap[c]? = some (.chan cap xs.toArray true s r tm)
  sw : S w

/-- The end: the receiver behind its last receive. -/
def Ended (P : Program) (Fin : Goroutine → World → Prop) (gs : Array Goroutine) (w : World) (t : Trace) (q : Nat → Nat) : Prop := ∃ a, Fr P a gs t q ∧ Fin a w

theorem leavers_of_in {t : Trace} {gs : Array Goroutine} {q : Nat → Nat} {g : Goroutine} {n : Nat} (hO : Others P m t gs q) (hg : gs[m]? = some g) (hq : QuitsIn P n g) (hd : Deaf t m = 0) : Leavers P t gs (upd q m n) := by
  refine ⟨fun i x hi hx => ?_, hO.above⟩
  by_cases e : i = m
  · subst e
    rw [hg] at hx
    obtain rfl := Option.some.inj hx
    rw [upd_same, hd]
    exact quitsD_of_in hq
  · rw [upd_ne q n e]
    exact hO.old i x hi e hx

/-- The others, where goroutine 0 or m has taken an ordinary step. -/
theorem Others.go {t u : Trace} {gs : Array Goroutine} {q : Nat → Nat} (h : Others P m t gs q) {k : Nat} (hk : k = 0 ∨ k = m) {g g' x : Goroutine} {w' : World} (hu : ∀ op ∈ u, op.g = k) (hlt : k < gs.size) :
    Others P m (t ++ u) ((gs.map (woken P g g' w')).setIfInBounds k x) q := by
  refine ⟨fun i y hi hm hy => ?_, fun j hj => ?_, h.pos⟩
  · have hne : k ≠ i := by rcases hk with rfl | rfl <;> omega
    rw [Array.getElem?_setIfInBounds_ne hne, Array.getElem?_map] at hy
    obtain ⟨y', hy', rfl⟩ := Option.map_eq_some_iff.1 hy
    have hq := h.old i y' hi hm hy'
    rw [woken_quitsD hq, Deaf_other t hne _ hu]
    exact hq
  · rw [Deaf_other t (g' := k) (by simp at hj; omega) _ hu]
    exact h.above j (by simpa using hj)

/-- .. where both, or one of both, have been laid anew by a communication. -/
theorem Others.comm {t u : Trace} {gs gs' : Array Goroutine} {q : Nat → Nat} (h : Others P m t gs q) (hs : gs'.size = gs.size) (hg : ∀ i, 0 < i → i ≠ m → gs'[i]? = gs[i]?) (hu : ∀ i, 0 < i → i ≠ m → Deaf (t ++ u) i = Deaf t i) (hm : m < gs.size) :
    Others P m (t ++ u) gs' q := by
  have h0 := h.pos
  refine ⟨fun i y hi hm hy => ?_, fun j hj => ?_, h.pos⟩
  · rw [hu i hi hm]
    exact h.old i y hi hm (by rw [← hg i hi hm]; exact hy)
  · rw [hu j (by omega) (by omega)]; exact h.above j (by omega)

theorem deaf_two {t u : Trace} {i m : Nat} (hu : ∀ op ∈ u, op.g = 0 ∨ op.g = m) (hi : 0 < i) (hm : i ≠ m) : Deaf (t ++ u) i = Deaf t i := by
  obtain ⟨l⟩ := u
  rw [Deaf_append]
  induction l generalizing t with
  | nil => rfl
  | cons y l ih =>
    have e1 : deafStep i (Deaf t i) y = Deaf t i := by
      have hy := hu y (by simp)
      have hne : y.g ≠ i := by rcases hy with h | h <;> omega
      unfold deafStep
      split <;> simp [hne]
    rw [List.foldl_cons, e1]
    exact ih fun op hop => hu op (by simp at hop ⊢; exact .inr hop)

/-- Nobody offers what is asked for but, at most, the other of both. -/
theorem offers_none {t : Trace} {gs : Array Goroutine} {q : Nat → Nat} (h : Others P m t gs q) {k o : Nat} (hk : (k = 0 ∧ o = m) ∨ (k = m ∧ o = 0)) (send : Bool) {x : Goroutine} (ho : gs[o]? = some x) (hx : offersAt x c send = []) :
    partners (gs.setIfInBounds k ph) c send = [] := by
  refine partners_nil fun j g hj => ?_
  rcases getElem?_stand gs k j g hj with ⟨_, rfl⟩ | ⟨hne, hj'⟩
  · rfl
  · by_cases e : j = o
    · subst e
      rw [ho] at hj'
      obtain rfl := Option.some.inj hj'
      exact hx
    · have := h.old j g (by rcases hk with ⟨rfl, rfl⟩ | ⟨rfl, rfl⟩ <;> omega) (by rcases hk with ⟨rfl, rfl⟩ | ⟨rfl, rfl⟩ <;> omega) hj'
      exact offersAt_of_not_blocked (by rcases this.status with e | e <;> rw [e] <;> simp) _ _

theorem offers_one {t : Trace} {gs : Array Goroutine} {q : Nat → Nat} (h : Others P m t gs q) {k o : Nat} (hk : (k = 0 ∧ o = m) ∨ (k = m ∧ o = 0)) (send : Bool) {x : Goroutine} (ho : gs[o]? = some x) (hx : offersAt x c send = [0]) :
    partners (gs.setIfInBounds k ph) c send = [(o, 0)] := by
  have h0 := h.pos
  have hko : o ≠ k := by rcases hk with ⟨rfl, rfl⟩ | ⟨rfl, rfl⟩ <;> omega
  rw [partners_one (j := o) (g := x) (stand_get hko ho) fun j g hj hg => ?_, hx]
  · rfl
  · rcases getElem?_stand gs k j g hg with ⟨_, rfl⟩ | ⟨hne, hj'⟩
    · rfl
    · have := h.old j g (by rcases hk with ⟨rfl, rfl⟩ | ⟨rfl, rfl⟩ <;> omega) (by rcases hk with ⟨rfl, rfl⟩ | ⟨rfl, rfl⟩ <;> omega) hj'
      exact offersAt_of_not_blocked (by rcases this.status with e | e <;> rw [e] <;> simp) _ _

end
end Go.Proofs.Ytlglokbakmbpdab
