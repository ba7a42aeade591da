/-
  A plain text beside goroutines that only leave: its lone contract, carried out by the machine of many on whatever schedule. No program is named here.
-/
import Derived.Test.YtlglokbakmbpdabTj
namespace Go.Proofs.Ytlglokbakmbpdab
open Go Go.Conc
open Go.ConcN (sumTo upd sumTo_upd upd_ne upd_same)
set_option linter.unusedVariables false
set_option linter.unusedSimpArgs false

/-- What is held of the trace between two calls that go. -/
structure PastC (t : Trace) : Prop where
  clean : ∀ said, ¬ Race said t
  known : ∀ i a, touchAt t i = some a → a.loc.isMemory = true → Knows t 0 i
  over : t.HandedOver
  hears : Deaf t 0 = 0

theorem pastC_nil : PastC #[] :=
  ⟨fun said => by rintro ⟨i, j, _, ⟨a, b, ha, _⟩, _⟩; simp [Trace.act?] at ha, fun i a ha => by simp [touchAt, Trace.act?] at ha, fun i g hg => by simp [Trace.g?] at hg, rfl⟩

theorem mem_ofE {g : Nat} {fn : FuncId} {pos : String} {es : Array Event} {op : MemOp} (h : op ∈ MemOp.ofEvents g fn pos es) : op.g = g := by
  obtain ⟨e, _, rfl⟩ := Go.Conc.mem_ofEvents h; rfl

theorem PastC.own {t : Trace} (h : PastC t) {fn : FuncId} {pos : String} {es : Array Event} (hes : stillA es) : PastC (t ++ MemOp.ofEvents 0 fn pos es) := by
  refine ⟨fun said => noRace_append (h.clean said) (fun op hop => mem_ofE hop) fun i a ha op hop b hb hc => h.known i a ha hc.2.1, fun i a ha hm => ?_, handedOver_app h.over fun op hop => .inl (mem_ofE hop), ?_⟩
  · obtain ⟨x, hx, hxa⟩ := touch_of ha
    rcases getElem?_append_cases hx with ⟨_, hx'⟩ | ⟨_, hxu⟩
    · exact (h.known i a (by rw [touchAt_of hx']; exact hxa) hm).app _
    · have := knows_own hx
      rw [mem_ofE hxu] at this
      exact this
  · rw [Deaf_own]
    exact (deafBehind_still (fun e he => hes e he) _).trans h.hears

theorem PastC.mute {t : Trace} (h : PastC t) {g : Nat} (hg : g ≠ 0) {fn : FuncId} {pos : String} {es : Array Event} (hm : ∀ e ∈ es, e.mute = true) : PastC (t ++ MemOp.ofEvents g fn pos es) := by
  have hn : ∀ op ∈ MemOp.ofEvents g fn pos es, op.act.touch? = none := fun op hop => by obtain ⟨e, he, rfl⟩ := Go.Conc.mem_ofEvents hop; exact touch_mute (hm e he)
  refine ⟨fun said => noRace_append (h.clean said) (fun op hop => mem_ofE hop) fun i a _ op hop b hb _ => (by rw [hn op hop] at hb; cases hb), fun i a ha hm' => ?_, handedOver_app h.over fun op hop => .inr (hn op hop), (Deaf_other t hg _ fun op hop => mem_ofE hop).trans h.hears⟩
  obtain ⟨x, hx, hxa⟩ := touch_of ha
  rcases getElem?_append_cases hx with ⟨_, hx'⟩ | ⟨_, hxu⟩
  · exact (h.known i a (by rw [touchAt_of hx']; exact hxa) hm').app _
  · rw [hn x hxu] at hxa; cases hxa

/-- The frame of a run: goroutine 0 is a; all others only leave; the trace is past. -/
structure Fr (P : Program) (a : Goroutine) (gs : Array Goroutine) (t : Trace) (q : Nat → Nat) : Prop where
  h0 : gs[0]? = some a
  lv : Leavers P t gs q
  past : PastC t

section
variable {P : Program} {a a' : Goroutine} {gs : Array Goroutine} {t : Trace} {q : Nat → Nat} {w w' : World} {sl : Option (Nat × Nat)}

theorem Fr.awake (h : Fr P a gs t q) (hr : a.status = .running) : ∀ g ∈ gs, Go.Conc.awake g := by
  intro g hg
  obtain ⟨i, hi, rfl⟩ := Array.mem_iff_getElem.1 hg
  rcases Nat.eq_zero_or_pos i with rfl | hpos
  · have e := h.h0
    have : gs[0] = a := by simpa [Array.getElem?_eq_getElem hi] using e
    rw [this]; exact awake_of (.inl hr)
  · exact awake_of ((h.lv.old i _ hpos (Array.getElem?_eq_getElem hi)).status.elim .inl fun x => .inr (.inr x))

/-- Goroutine 0 takes a step. -/
theorem Fr.step0 (h : Fr P a gs t q) {es : Array Event} (hs : stepG P true a w = .go a' w' es) (he : stillA es) :
    runT P (crowd gs w sl) 0 = (.next (crowd ((gs.map (woken P a a' w')).setIfInBounds 0 a') w' sl), MemOp.ofEvents 0 a.frame.fn a.frame.place es)
    ∧ Fr P a' ((gs.map (woken P a a' w')).setIfInBounds 0 a') (t ++ MemOp.ofEvents 0 a.frame.fn a.frame.place es) q := by
  have hlt : 0 < gs.size := (Array.getElem?_eq_some_iff.1 h.h0).1
  refine ⟨runT_crowd_go (P := P) (sl := sl) (i := 0) h.h0 (show stepG P (0 == 0) a w = _ from hs), by simp [hlt], ⟨fun j x hj hx => ?_, fun j hj => ?_⟩, h.past.own he⟩
  · have hne : 0 ≠ j := by omega
    rw [Array.getElem?_setIfInBounds_ne hne, Array.getElem?_map] at hx
    obtain ⟨y, hy, rfl⟩ := Option.map_eq_some_iff.1 hx
    have hq := h.lv.old j y hj hy
    rw [woken_quitsD hq, Deaf_other t (by omega) _ (fun op hop => mem_ofE hop)]
    exact hq
  · rw [Deaf_other t (g' := 0) (by simp at hj; omega) _ (fun op hop => mem_ofE hop)]
    exact h.lv.above j (by simpa using hj)

/-- A leaver slips. -/
theorem Fr.slip (h : Fr P a gs t q) (hr : a.status = .running) {i : Nat} {g : Goroutine} (hpos : 0 < i) (hi : gs[i]? = some g) (hg : g.status = .running) :
    ∃ gs' q' ops, runT P (crowd gs w sl) i = (.next (crowd gs' w sl), ops) ∧ Fr P a gs' (t ++ ops) q' ∧ gs'.size = gs.size ∧ sumTo gs.size q' < sumTo gs.size q := by
  have hq := h.lv.old i g hpos hi
  have hi0 : (i == 0) = false := by simp; omega
  have hlt : i < gs.size := (Array.getElem?_eq_some_iff.1 hi).1
  cases hqi : q i with
  | zero => rw [hqi] at hq; rw [hq.1] at hg; cases hg
  | succ k =>
    rw [hqi] at hq
    rcases hq with ⟨hf, _⟩ | ⟨_, g', es, hm, hstp, hq'⟩
    · rw [hf] at hg; cases hg
    have hrunT := runT_crowd_go (P := P) (sl := sl) (i := i) hi (by rw [hi0]; exact hstp w)
    have hsz : ((gs.map (woken P g g' w)).setIfInBounds i g').size = gs.size := by simp
    have hsum : sumTo gs.size (upd q i k) + (k + 1) = sumTo gs.size q + k := by
      have := sumTo_upd q k id hlt
      simpa [hqi] using this
    refine ⟨_, upd q i k, _, hrunT, ⟨?_, ⟨fun j x hj hx => ?_, fun j hj => ?_⟩, h.past.mute (by omega) hm⟩, hsz, by omega⟩
    · have hne : i ≠ 0 := by omega
      rw [Array.getElem?_setIfInBounds_ne hne, Array.getElem?_map, h.h0]
      simp [woken_run hr]
    · by_cases hji : i = j
      · subst hji
        rw [Array.getElem?_setIfInBounds_self_of_lt (by simpa using hlt)] at hx
        obtain rfl := Option.some.inj hx
        rw [upd_same, Deaf_own]
        exact hq'
      · rw [Array.getElem?_setIfInBounds_ne hji, Array.getElem?_map] at hx
        obtain ⟨y, hy, rfl⟩ := Option.map_eq_some_iff.1 hx
        have hqj := h.lv.old j y hj hy
        rw [woken_quitsD hqj, upd_ne q k (Ne.symm hji), Deaf_other t hji _ (fun op hop => mem_ofE hop)]
        exact hqj
    · rw [Deaf_other t (g' := i) (by simp at hj; omega) _ (fun op hop => mem_ofE hop)]
      exact h.lv.above j (by simpa using hj)

/-- ON WHATEVER TAPE THE MACHINE COMES TO GOROUTINE 0's NEXT STEP: the others slip a while. -/
theorem Fr.turn : ∀ (M : Nat) {gs : Array Goroutine} {t : Trace} {q : Nat → Nat} {w : World} {sl : Option (Nat × Nat)}, sumTo gs.size q ≤ M → Fr P a gs t q → a.status = .running →
    ∃ N gs' d sl' t' q', Fr P a gs' t' q' ∧ gs'.size = gs.size ∧ runNT P N (crowd gs w sl) t = (.next (crowd gs' (w.at d) sl'), t') ∧
      ∃ e sl'', stepT P (crowd gs' (w.at d) sl') = runT P (crowd gs' (w.at e) sl'') 0 := by
  intro M
  induction M with
  | zero =>
    intro gs t q w sl hM h hr
    obtain ⟨i, g, d, sl', hi, hg, hst⟩ := crowd_pick (P := P) (w := w) (sl := sl) (h.awake hr) ⟨0, a, h.h0, hr⟩
    rcases Nat.eq_zero_or_pos i with rfl | hpos
    · exact ⟨0, gs, w.drawn, sl, t, q, h, rfl, rfl, d, sl', hst⟩
    · obtain ⟨_, q', _, _, _, _, hlt⟩ := h.slip (w := w) (sl := sl) hr hpos hi hg
      omega
  | succ M ih =>
    intro gs t q w sl hM h hr
    obtain ⟨i, g, d, sl', hi, hg, hst⟩ := crowd_pick (P := P) (w := w) (sl := sl) (h.awake hr) ⟨0, a, h.h0, hr⟩
    rcases Nat.eq_zero_or_pos i with rfl | hpos
    · exact ⟨0, gs, w.drawn, sl, t, q, h, rfl, rfl, d, sl', hst⟩
    · obtain ⟨gs1, q1, ops, hrun, h1, hsz, hlt⟩ := h.slip (w := w.at d) (sl := sl') hr hpos hi hg
      obtain ⟨N, gs', d', sl'', t', q', h2, hsz2, hrun2, e, sl3, hst2⟩ := ih (gs := gs1) (w := w.at d) (sl := sl') (by rw [hsz]; omega) h1 hr
      exact ⟨N + 1, gs', d', sl'', t', q', h2, hsz2.trans hsz, by simp only [runNT, hst, hrun]; exact hrun2, e, sl3, hst2⟩

end

/-- THE MACHINE OF MANY COMES FROM goroutine 0 = a, in world w, TO goroutine 0 = a', in world w': on whatever schedule, whoever else only leaves. -/
def Beside (P : Program) (a : Goroutine) (w : World) (Q : Goroutine → World → Prop) : Prop :=
  ∀ (gs : Array Goroutine) (t : Trace) (q : Nat → Nat) (sl : Option (Nat × Nat)) (d : Nat), Fr P a gs t q →
    ∃ N gs' t' q' sl' a' w', runNT P N (crowd gs (w.at d) sl) t = (.next (crowd gs' w' sl'), t') ∧ Fr P a' gs' t' q' ∧ Q a' w'

section
variable {P : Program} {a : Goroutine} {w : World} {Q Q' : Goroutine → World → Prop}

theorem runNT_app {n m : Nat} {m0 m1 : Machine} {r : Stepped} {t t1 t2 : Trace} (h1 : runNT P n m0 t = (.next m1, t1)) (h2 : runNT P m m1 t1 = (r, t2)) : runNT P (n + m) m0 t = (r, t2) := by
  rw [runNT_add, h1]; exact h2

theorem Beside.mono (h : Beside P a w Q) (hq : ∀ a' w', Q a' w' → Q' a' w') : Beside P a w Q' := fun gs t q sl d hF =>
  let ⟨N, gs', t', q', sl', a', w', h1, h2, h3⟩ := h gs t q sl d hF; ⟨N, gs', t', q', sl', a', w', h1, h2, hq _ _ h3⟩

theorem Beside.at0 (h : ∀ d, Q a (w.at d)) : Beside P a w Q := fun gs t q sl d hF => ⟨0, gs, t, q, sl, a, w.at d, rfl, hF, h d⟩

theorem Beside.trans (h : Beside P a w Q) (h' : ∀ a' w', Q a' w' → Beside P a' w' Q') : Beside P a w Q' := fun gs t q sl d hF => by
  obtain ⟨N, gs1, t1, q1, sl1, a1, w1, h1, h2, h3⟩ := h gs t q sl d hF
  obtain ⟨M, gs2, t2, q2, sl2, a2, w2, k1, k2, k3⟩ := h' a1 w1 h3 gs1 t1 q1 sl1 w1.drawn h2
  exact ⟨N + M, gs2, t2, q2, sl2, a2, w2, runNT_app h1 k1, k2, k3⟩

/-- One step of goroutine 0's. -/
theorem Beside.step (hr : a.status = .running) (h : ∀ d, ∃ a' w' es, stepG P true a (w.at d) = .go a' w' es ∧ stillA es ∧ Beside P a' w' Q) : Beside P a w Q := fun gs t q sl d hF => by
  obtain ⟨N, gs1, d1, sl1, t1, q1, h1, hsz, hrun, e, sl2, hst⟩ := Fr.turn (w := w.at d) (sl := sl) _ (Nat.le_refl _) hF hr
  obtain ⟨a', w', es, k1, k2, k3⟩ := h e
  obtain ⟨g1, g2⟩ := h1.step0 (sl := sl2) k1 k2
  obtain ⟨M, gs2, t2, q2, sl3, a2, w2, m1, m2, m3⟩ := k3 _ _ q1 sl2 w'.drawn g2
  refine ⟨N + (M + 1), gs2, t2, q2, sl3, a2, w2, runNT_app hrun ?_, m2, m3⟩
  have hst' : stepT P (crowd gs1 ((w.at d).at d1) sl1) = _ := hst
  simp only [runNT]
  rw [hst']
  rw [show ((w.at d).at e) = w.at e from rfl, g1]
  exact m1
end

section
variable {P : Program} {ok : FuncId → Bool} {z0 : List Item} {τ : Nat → Question → Nat} {Q : Frame → World → Prop}

/-- A walk that no tape turns aside is carried out. -/
theorem beside_ahead {l : List Frame} {w : World} (A : Ahead P ok z0 τ Q l w) (z : List Item) (hz : fits z0 z) (cs : List Frame) :
    ∀ d, Beside P (GL (plug z l) cs) (reT w τ d) fun a' w' => ∃ fr w1 d', a' = GL (plug z [fr]) cs ∧ w' = reT w1 τ d' ∧ done z0 fr ∧ Q fr w1 := by
  induction A with
  | stop fr w hd hQ => exact fun d => .at0 fun d' => ⟨fr, w, d', rfl, rfl, hd, hQ⟩
  | step l w hS hn l' w' es c he h ha ih =>
    intro d
    have hne : l ≠ [] := by intro h; rw [h] at hS; exact hS.elim
    refine .step ?_ fun e => ⟨GL (plug z (l' e)) cs, reT (w' e) τ (e + c e), es e, h e z hz cs true, he e, ih e (e + c e)⟩
    obtain ⟨fr, r, hp⟩ := plug_cons_of z hne
    rw [hp]; rfl
end
end Go.Proofs.Ytlglokbakmbpdab
