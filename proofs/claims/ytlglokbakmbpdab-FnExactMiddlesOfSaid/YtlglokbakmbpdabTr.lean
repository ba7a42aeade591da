/-
  The trace of a sender (goroutine m) and a receiver (goroutine 0) over a channel, beside goroutines that only leave. No program is named here.
-/
import Derived.Test.YtlglokbakmbpdabTh
namespace Go.Proofs.Ytlglokbakmbpdab
open Go Go.Conc
set_option linter.unusedVariables false
set_option linter.unusedSimpArgs false

/-- Operations that touch no memory and say no word. -/
def dumb (op : MemOp) : Prop := op.act.touch? = none ∧ ∀ mk, op.act ≠ .mark mk

theorem deaf_dumb {t u : Trace} {g : Nat} (h : ∀ op ∈ u, dumb op) : Deaf (t ++ u) g = Deaf t g := by
  obtain ⟨l⟩ := u
  rw [Deaf_append]
  induction l generalizing t with
  | nil => rfl
  | cons y l ih =>
    have hy := h y (by simp)
    have e1 : deafStep g (Deaf t g) y = Deaf t g := by
      obtain ⟨g', fn, pos, act⟩ := y
      cases act with
      | mark mk => exact absurd rfl (hy.2 mk)
      | _ => rfl
    rw [List.foldl_cons, e1]
    exact ih fun op hop => h op (by simp at hop ⊢; exact .inr hop)

theorem noRace_mute {said : Bool} {t u : Trace} (h : ¬ Race said t) (hn : ∀ op ∈ u, op.act.touch? = none) : ¬ Race said (t ++ u) := by
  rintro ⟨i, j, hij, ⟨a, b, ha, hb, hc⟩, n1, n2⟩
  obtain ⟨x, hx, hxa⟩ := touch_of ha
  obtain ⟨y, hy, hyb⟩ := touch_of hb
  rcases getElem?_append_cases hy with ⟨hj, hy'⟩ | ⟨_, hyu⟩
  · have hi : i < t.size := Nat.lt_trans hij hj
    have hx' : t[i]? = some x := by rw [← getElem?_append_old (u := u) hi]; exact hx
    exact h ⟨i, j, hij, ⟨a, b, by simp [Trace.act?, hx', hxa], by simp [Trace.act?, hy', hyb], hc⟩, fun e => n1 (hb_app u e), fun e => n2 (hb_app u e)⟩
  · rw [hn y hyu] at hyb; cases hyb

/-- What is held while both are under way. -/
structure TP (m : Nat) (Mine : Loc → Prop) (t : Trace) : Prop where
  clean : ∀ said, ¬ Race said t
  cls : ∀ i x, touchAt t i = some x → x.loc.isMemory = true → (Knows t 0 i ∧ Knows t m i) ∨ (t.g? i = some 0 ∧ (x.write = true → Mine x.loc)) ∨ (t.g? i = some m ∧ x.write = false ∧ ¬ Mine x.loc)
  over : ∀ i g, t.g? i = some g → g ≠ 0 → g ≠ m → t.counts i → ∃ j, t.g? j = some 0 ∧ HappensBefore t i j
  hears0 : Deaf t 0 = 0
  hearsM : Deaf t m = 0

section
variable {m : Nat} {Mine : Loc → Prop} {t u : Trace}

theorem g?_of {i : Nat} {op : MemOp} (h : t[i]? = some op) : t.g? i = some op.g := by simp [Trace.g?, h]
theorem old_g {i g : Nat} (h : t.g? i = some g) : (t ++ u).g? i = some g := by
  obtain ⟨op, ho, _⟩ := Option.map_eq_some_iff.1 h
  rw [Go.Conc.g?_old (lt_size_of_getElem? ho)]; exact h

theorem TP.cls_old (h : TP m Mine t) {i : Nat} {x : Touch} (ha : touchAt t i = some x) (hm : x.loc.isMemory = true) :
    (Knows (t ++ u) 0 i ∧ Knows (t ++ u) m i) ∨ ((t ++ u).g? i = some 0 ∧ (x.write = true → Mine x.loc)) ∨ ((t ++ u).g? i = some m ∧ x.write = false ∧ ¬ Mine x.loc) := by
  rcases h.cls i x ha hm with ⟨a, b⟩ | ⟨a, b⟩ | ⟨a, b⟩
  · exact .inl ⟨a.app u, b.app u⟩
  · exact .inr (.inl ⟨old_g a, b⟩)
  · exact .inr (.inr ⟨old_g a, b⟩)

theorem over_old {g0 : Nat → Prop} (h : ∀ i g, t.g? i = some g → g ≠ 0 → g0 g → t.counts i → ∃ j, t.g? j = some 0 ∧ HappensBefore t i j) (hu : ∀ op ∈ u, op.g = 0 ∨ ¬ g0 op.g ∨ op.act.touch? = none) :
    ∀ i g, (t ++ u).g? i = some g → g ≠ 0 → g0 g → (t ++ u).counts i → ∃ j, (t ++ u).g? j = some 0 ∧ HappensBefore (t ++ u) i j := by
  intro i g hg hne h0 hc
  obtain ⟨x, hx, _⟩ := hc
  obtain ⟨op, hop, hox⟩ := touch_of hx
  have hgo : op.g = g := by have := g?_of hop; rw [hg] at this; exact (Option.some.inj this).symm
  rcases getElem?_append_cases hop with ⟨hi, hop'⟩ | ⟨_, hopu⟩
  · obtain ⟨j, hj, hb⟩ := h i g (by rw [Go.Conc.g?_old hi] at hg; exact hg) hne h0 ((counts_old hi).1 ⟨x, hx, ‹_›⟩)
    exact ⟨j, old_g hj, hb_app u hb⟩
  · rcases hu op hopu with k | k | k
    · exact absurd (hgo ▸ k) hne
    · exact absurd (hgo ▸ h0) k
    · rw [k] at hox; cases hox

theorem TP.own0 (h : TP m Mine t) (hm : m ≠ 0) {fn : FuncId} {pos : String} {es : Array Event} (he : ∀ e ∈ es, EvA Mine e) : TP m Mine (t ++ MemOp.ofEvents 0 fn pos es) := by
  have hd : ∀ e ∈ es, e.loc ≠ .mark .disable ∧ e.loc ≠ .mark .enable := fun e hx => ⟨fun k => ((he e hx).1 _ k).ne_disable rfl, fun k => ((he e hx).1 _ k).ne_enable rfl⟩
  have hw : ∀ op ∈ MemOp.ofEvents 0 fn pos es, ∀ b, op.act.touch? = some b → b.write = true → Mine b.loc := by
    intro op hop b hb hbw
    obtain ⟨e, hx, rfl⟩ := Go.Conc.mem_ofEvents hop
    obtain ⟨k1, k2⟩ := ofEvent_touch (he e hx).1 hb
    rw [k1]; exact (he e hx).2 (k2 ▸ hbw)
  refine ⟨fun said => noRace_append (h.clean said) (fun op hop => mem_ofE hop) fun i a ha op hop b hb hc => ?_, fun i a ha hma => ?_, over_old (g0 := fun g => g ≠ m) h.over fun op hop => .inl (mem_ofE hop), ?_, ?_⟩
  · rcases h.cls i a ha hc.2.1 with ⟨k, _⟩ | ⟨k, _⟩ | ⟨k, k1, k2⟩
    · exact k
    · obtain ⟨x, hx, _⟩ := touch_of ha
      have := knows_own hx
      rw [show x.g = 0 by have := g?_of hx; rw [k] at this; exact (Option.some.inj this).symm] at this
      exact this
    · exfalso
      obtain ⟨e1, _, e3, _⟩ := hc
      rw [k1] at e3
      rcases e3 with e3 | e3
      · cases e3
      · exact k2 (e1 ▸ hw op hop b hb e3)
  · obtain ⟨x, hx, hxa⟩ := touch_of ha
    rcases getElem?_append_cases hx with ⟨_, hx'⟩ | ⟨_, hxu⟩
    · exact h.cls_old (by rw [touchAt_of hx']; exact hxa) hma
    · exact .inr (.inl ⟨by rw [g?_of hx, mem_ofE hxu], hw x hxu a hxa⟩)
  · rw [Deaf_own]; exact (deafBehind_still hd _).trans h.hears0
  · rw [Deaf_other t (g' := 0) (fun e => hm e.symm) _ fun op hop => mem_ofE hop]; exact h.hearsM

theorem TP.ownM (h : TP m Mine t) (hm : m ≠ 0) {fn : FuncId} {pos : String} {es : Array Event} (he : ∀ e ∈ es, EvB Mine e) : TP m Mine (t ++ MemOp.ofEvents m fn pos es) := by
  have hd : ∀ e ∈ es, e.loc ≠ .mark .disable ∧ e.loc ≠ .mark .enable := fun e hx => ⟨fun k => ((he e hx).1 _ k).ne_disable rfl, fun k => ((he e hx).1 _ k).ne_enable rfl⟩
  have hw : ∀ op ∈ MemOp.ofEvents m fn pos es, ∀ b, op.act.touch? = some b → b.write = false ∧ ¬ Mine b.loc := by
    intro op hop b hb
    obtain ⟨e, hx, rfl⟩ := Go.Conc.mem_ofEvents hop
    obtain ⟨k1, k2⟩ := ofEvent_touch (he e hx).1 hb
    rw [k1, k2]; exact (he e hx).2
  refine ⟨fun said => noRace_append (h.clean said) (fun op hop => mem_ofE hop) fun i a ha op hop b hb hc => ?_, fun i a ha hma => ?_, over_old (g0 := fun g => g ≠ m) h.over fun op hop => .inr (.inl fun k => k (mem_ofE hop)), ?_, ?_⟩
  · rcases h.cls i a ha hc.2.1 with ⟨_, k⟩ | ⟨k, k1⟩ | ⟨k, _, _⟩
    · exact k
    · exfalso
      obtain ⟨w1, w2⟩ := hw op hop b hb
      obtain ⟨e1, _, e3, _⟩ := hc
      rw [w1] at e3
      rcases e3 with e3 | e3
      · exact w2 (e1 ▸ k1 e3)
      · cases e3
    · obtain ⟨x, hx, _⟩ := touch_of ha
      have := knows_own hx
      rw [show x.g = m by have := g?_of hx; rw [k] at this; exact (Option.some.inj this).symm] at this
      exact this
  · obtain ⟨x, hx, hxa⟩ := touch_of ha
    rcases getElem?_append_cases hx with ⟨_, hx'⟩ | ⟨_, hxu⟩
    · exact h.cls_old (by rw [touchAt_of hx']; exact hxa) hma
    · exact .inr (.inr ⟨by rw [g?_of hx, mem_ofE hxu], hw x hxu a hxa⟩)
  · rw [Deaf_other t (g' := m) hm _ fun op hop => mem_ofE hop]; exact h.hears0
  · rw [Deaf_own]; exact (deafBehind_still hd _).trans h.hearsM

/-- A leaver's step. -/
theorem TP.mute (h : TP m Mine t) {g : Nat} (hg : g ≠ 0) (hgm : g ≠ m) {fn : FuncId} {pos : String} {es : Array Event} (he : ∀ e ∈ es, e.mute = true) : TP m Mine (t ++ MemOp.ofEvents g fn pos es) := by
  have hn : ∀ op ∈ MemOp.ofEvents g fn pos es, op.act.touch? = none := fun op hop => by obtain ⟨e, hx, rfl⟩ := Go.Conc.mem_ofEvents hop; exact touch_mute (he e hx)
  refine ⟨fun said => noRace_append (h.clean said) (fun op hop => mem_ofE hop) fun i a _ op hop b hb _ => (by rw [hn op hop] at hb; cases hb), fun i a ha hma => ?_, over_old (g0 := fun g => g ≠ m) h.over fun op hop => .inr (.inr (hn op hop)), ?_, ?_⟩
  · obtain ⟨x, hx, hxa⟩ := touch_of ha
    rcases getElem?_append_cases hx with ⟨_, hx'⟩ | ⟨_, hxu⟩
    · exact h.cls_old (by rw [touchAt_of hx']; exact hxa) hma
    · rw [hn x hxu] at hxa; cases hxa
  · rw [Deaf_other t hg _ fun op hop => mem_ofE hop]; exact h.hears0
  · rw [Deaf_other t hgm _ fun op hop => mem_ofE hop]; exact h.hearsM

/-- What a communication lists. -/
theorem TP.comm (h : TP m Mine t) (hu : ∀ op ∈ u, dumb op) : TP m Mine (t ++ u) := by
  refine ⟨fun said => noRace_mute (h.clean said) fun op hop => (hu op hop).1, fun i a ha hma => ?_, over_old (g0 := fun g => g ≠ m) h.over fun op hop => .inr (.inr (hu op hop).1), ?_, ?_⟩
  · obtain ⟨x, hx, hxa⟩ := touch_of ha
    rcases getElem?_append_cases hx with ⟨_, hx'⟩ | ⟨_, hxu⟩
    · exact h.cls_old (by rw [touchAt_of hx']; exact hxa) hma
    · rw [(hu x hxu).1] at hxa; cases hxa
  · rw [deaf_dumb hu]; exact h.hears0
  · rw [deaf_dumb hu]; exact h.hearsM

/-- THE BEGINNING: goroutine 0 starts goroutine m. -/
theorem TP.start (h : PastC t) (hm : m ≠ 0) (hd : Deaf t m = 0) {y z : MemOp} (hy : y.g = 0) (hya : y.act = .go m) (hz : z.g = m) (hza : z.act = .start) : TP m Mine (t ++ #[y, z]) := by
  have hdy : dumb y := ⟨by rw [hya]; rfl, fun mk => by rw [hya]; intro e; cases e⟩
  have hdz : dumb z := ⟨by rw [hza]; rfl, fun mk => by rw [hza]; intro e; cases e⟩
  have hu : ∀ op ∈ #[y, z], dumb op := by
    intro op hop
    simp at hop
    rcases hop with rfl | rfl <;> assumption
  have gy : (t ++ #[y, z])[t.size]? = some y := by simp
  have gz : (t ++ #[y, z])[t.size + 1]? = some z := by simp [Array.getElem?_append]
  have d0 : Deaf (t ++ #[y, z]) 0 = 0 := by rw [deaf_dumb hu]; exact h.hears
  have hb : HappensBefore (t ++ #[y, z]) t.size (t.size + 1) := by
    refine .single (.inr ⟨.spawn (child := m) (by rw [act?_of gy, hya]) (by rw [act?_of gz, hza]) (by rw [g?_of gz, hz]), ⟨0, by rw [g?_of gy, hy], ?_⟩, ⟨m, by rw [g?_of gz, hz], ?_⟩⟩)
    · rw [deaf_old (Nat.le_refl _)]; exact h.hears
    · have e : t ++ #[y, z] = (t ++ #[y]) ++ #[z] := by apply Array.ext'; simp
      rw [e, deaf_old (by simp)]
      have : (t ++ #[y]).deaf m (t ++ #[y]).size = Deaf (t ++ #[y]) m := rfl
      rw [show t.size + 1 = (t ++ #[y]).size by simp, this, deaf_dumb fun op hop => by simp at hop; rw [hop]; exact hdy]
      exact hd
  refine ⟨fun said => noRace_mute (h.clean said) fun op hop => (hu op hop).1, fun i a ha hma => ?_, over_old (g0 := fun g => g ≠ m) (fun i g h1 h2 _ h3 => h.over i g h1 h2 h3) fun op hop => .inr (.inr (hu op hop).1), d0, by rw [deaf_dumb hu]; exact hd⟩
  obtain ⟨x, hx, hxa⟩ := touch_of ha
  rcases getElem?_append_cases hx with ⟨hi, hx'⟩ | ⟨_, hxu⟩
  · have hk := h.known i a (by rw [touchAt_of hx']; exact hxa) hma
    refine .inl ⟨hk.app _, t.size + 1, z, gz, hz, .inr ((hk.hb_new (Nat.le_refl _) gy hy).trans hb)⟩
  · rw [(hu x hxu).1] at hxa; cases hxa

/-- What is held behind the close, which stands at pc. -/
structure TC (m c pc : Nat) (Mine : Loc → Prop) (t : Trace) : Prop where
  clean : ∀ said, ¬ Race said t
  cls : ∀ i x, touchAt t i = some x → x.loc.isMemory = true → Knows t 0 i ∨ (Before t i pc ∧ x.write = false ∧ ¬ Mine x.loc)
  over : ∀ i g, t.g? i = some g → g ≠ 0 → t.counts i → (∃ j, t.g? j = some 0 ∧ HappensBefore t i j) ∨ Before t i pc
  hears0 : Deaf t 0 = 0
  close : t.act? pc = some (.close c) ∧ t.heard pc

theorem TP.close {c : Nat} (h : TP m Mine t) (hm : m ≠ 0) (hMc : ¬ Mine (.obj c)) {fn : FuncId} {pos : String} {es : Array Event} (he : ∀ e ∈ es, EvB Mine e) :
    ∃ pc, TC m c pc Mine (t ++ MemOp.ofEvents m fn pos (es.push ⟨.obj c, true, true⟩)) := by
  obtain ⟨y, hy⟩ : ∃ y : MemOp, y = { g := m, fn, pos, act := .close c } := ⟨_, rfl⟩
  have e : t ++ MemOp.ofEvents m fn pos (es.push ⟨.obj c, true, true⟩) = (t ++ MemOp.ofEvents m fn pos es) ++ #[y] := by
    rw [ofEvents_eq, ofEvents_eq, hy]
    simp [MemAct.ofEvent]
  rw [e]
  have h1 := h.ownM (fn := fn) (pos := pos) hm he
  have hdy : ∀ op ∈ #[y], dumb op := by
    intro op hop
    simp at hop
    rw [hop, hy]
    exact ⟨rfl, fun mk k => by cases k⟩
  have h2 := h1.comm hdy
  generalize t ++ MemOp.ofEvents m fn pos es = t1 at h1 h2 ⊢
  have gy : (t1 ++ #[y])[t1.size]? = some y := by simp
  refine ⟨t1.size, h2.clean, fun i x ha hma => ?_, fun i g hg hne hc => ?_, h2.hears0, by rw [act?_of gy, hy], m, by rw [g?_of gy, hy], by rw [deaf_old (Nat.le_refl _)]; exact h1.hearsM⟩
  · rcases h2.cls i x ha hma with ⟨k, _⟩ | ⟨k, _⟩ | ⟨k, k1, k2⟩
    · exact .inl k
    · obtain ⟨z, hz, _⟩ := touch_of ha
      have := knows_own hz
      rw [show z.g = 0 by have := g?_of hz; rw [k] at this; exact (Option.some.inj this).symm] at this
      exact .inl this
    · refine .inr ⟨?_, k1, k2⟩
      obtain ⟨z, hz, hza⟩ := touch_of ha
      have hzg : z.g = m := by have := g?_of hz; rw [k] at this; exact (Option.some.inj this).symm
      rcases getElem?_append_cases hz with ⟨hi, _⟩ | ⟨_, hzu⟩
      · exact .inr (hb_po hi hz gy (by rw [hzg, hy]))
      · rw [(hdy z hzu).1] at hza; cases hza
  · by_cases hgm : g = m
    · right
      obtain ⟨x, hx, _⟩ := hc
      obtain ⟨z, hz, hza⟩ := touch_of hx
      have hzg : z.g = m := by have := g?_of hz; rw [hg] at this; rw [← hgm]; exact (Option.some.inj this).symm
      rcases getElem?_append_cases hz with ⟨hi, _⟩ | ⟨_, hzu⟩
      · exact .inr (hb_po hi hz gy (by rw [hzg, hy]))
      · rw [(hdy z hzu).1] at hza; cases hza
    · exact .inl (h2.over i g hg hne hgm hc)

theorem TC.grow {c pc : Nat} (h : TC m c pc Mine t) (hd : Deaf (t ++ u) 0 = 0) (hc : ∀ said, ¬ Race said (t ++ u)) (hu : ∀ op ∈ u, op.g = 0 ∨ op.act.touch? = none) : TC m c pc Mine (t ++ u) := by
  have hlt : pc < t.size := lt_of_act? h.close.1
  refine ⟨hc, fun i x ha hma => ?_, fun i g hg hne hcn => ?_, hd, by rw [act?_old hlt]; exact h.close.1, (heard_old hlt).2 h.close.2⟩
  · obtain ⟨z, hz, hza⟩ := touch_of ha
    rcases getElem?_append_cases hz with ⟨hi, hz'⟩ | ⟨_, hzu⟩
    · rcases h.cls i x (by rw [touchAt_of hz']; exact hza) hma with k | ⟨k, k1⟩
      · exact .inl (k.app u)
      · exact .inr ⟨k.app u, k1⟩
    · rcases hu z hzu with k | k
      · have := knows_own hz
        rw [k] at this
        exact .inl this
      · rw [k] at hza; cases hza
  · obtain ⟨x, hx, _⟩ := hcn
    obtain ⟨z, hz, hza⟩ := touch_of hx
    have hzg : z.g = g := by have := g?_of hz; rw [hg] at this; exact (Option.some.inj this).symm
    rcases getElem?_append_cases hz with ⟨hi, hz'⟩ | ⟨_, hzu⟩
    · rcases h.over i g (by rw [Go.Conc.g?_old hi] at hg; exact hg) hne ((counts_old hi).1 ⟨x, hx, ‹_›⟩) with ⟨j, hj, hb⟩ | k
      · exact .inl ⟨j, old_g hj, hb_app u hb⟩
      · exact .inr (k.app u)
    · rcases hu z hzu with k | k
      · exact absurd (hzg ▸ k) hne
      · rw [k] at hza; cases hza

theorem TC.own0 {c pc : Nat} (h : TC m c pc Mine t) {fn : FuncId} {pos : String} {es : Array Event} (he : ∀ e ∈ es, EvA Mine e) : TC m c pc Mine (t ++ MemOp.ofEvents 0 fn pos es) := by
  have hd : ∀ e ∈ es, e.loc ≠ .mark .disable ∧ e.loc ≠ .mark .enable := fun e hx => ⟨fun k => ((he e hx).1 _ k).ne_disable rfl, fun k => ((he e hx).1 _ k).ne_enable rfl⟩
  refine h.grow (by rw [Deaf_own]; exact (deafBehind_still hd _).trans h.hears0) (fun said => noRace_append (h.clean said) (fun op hop => mem_ofE hop) fun i a ha op hop b hb hc => ?_) fun op hop => .inl (mem_ofE hop)
  rcases h.cls i a ha hc.2.1 with k | ⟨_, k1, k2⟩
  · exact k
  · exfalso
    obtain ⟨e, hx, rfl⟩ := Go.Conc.mem_ofEvents hop
    obtain ⟨w1, w2⟩ := ofEvent_touch (he e hx).1 hb
    obtain ⟨e1, _, e3, _⟩ := hc
    rw [k1] at e3
    rcases e3 with e3 | e3
    · cases e3
    · refine k2 (e1 ▸ ?_)
      rw [w1]; exact (he e hx).2 (w2 ▸ e3)

theorem TC.mute {c pc : Nat} (h : TC m c pc Mine t) {g : Nat} (hg : g ≠ 0) {fn : FuncId} {pos : String} {es : Array Event} (he : ∀ e ∈ es, e.mute = true) : TC m c pc Mine (t ++ MemOp.ofEvents g fn pos es) := by
  have hn : ∀ op ∈ MemOp.ofEvents g fn pos es, op.act.touch? = none := fun op hop => by obtain ⟨e, hx, rfl⟩ := Go.Conc.mem_ofEvents hop; exact touch_mute (he e hx)
  exact h.grow (by rw [Deaf_other t hg _ fun op hop => mem_ofE hop]; exact h.hears0) (fun said => noRace_mute (h.clean said) hn) fun op hop => .inr (hn op hop)

theorem TC.comm {c pc : Nat} (h : TC m c pc Mine t) (hu : ∀ op ∈ u, dumb op) : TC m c pc Mine (t ++ u) :=
  h.grow (by rw [deaf_dumb hu]; exact h.hears0) (fun said => noRace_mute (h.clean said) fun op hop => (hu op hop).1) fun op hop => .inr (hu op hop).1

/-- THE END: the receiver has found the channel closed. -/
theorem TC.fin {c pc : Nat} (h : TC m c pc Mine t) {y : MemOp} (hy : y.g = 0) (hya : y.act = .recvClosed c) : PastC (t ++ #[y]) := by
  have hdy : ∀ op ∈ #[y], dumb op := by
    intro op hop
    simp at hop
    rw [hop]
    exact ⟨by rw [hya]; rfl, fun mk k => by rw [hya] at k; cases k⟩
  have gy : (t ++ #[y])[t.size]? = some y := by simp
  have hlt : pc < t.size := lt_of_act? h.close.1
  have h2 := h.comm hdy
  have hb : HappensBefore (t ++ #[y]) pc t.size := by
    refine .single (.inr ⟨.closed (c := c) h2.close.1 (by rw [act?_of gy, hya]), h2.close.2, 0, by rw [g?_of gy, hy], ?_⟩)
    rw [deaf_old (Nat.le_refl _)]; exact h.hears0
  refine ⟨h2.clean, fun i a ha hma => ?_, fun i g hg hne hc => ?_, h2.hears0⟩
  · rcases h2.cls i a ha hma with k | ⟨k, _⟩
    · exact k
    · exact ⟨t.size, y, gy, hy, .inr (k.hb hb)⟩
  · rcases h2.over i g hg hne hc with k | k
    · exact k
    · exact ⟨t.size, by rw [g?_of gy, hy], k.hb hb⟩

end
end Go.Proofs.Ytlglokbakmbpdab
