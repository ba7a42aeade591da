/-
  The run of a sender and a receiver over a channel with a buffer. No program is named here.
-/
import Derived.Test.YtlglokbakmbpdabTc
namespace Go.Proofs.Ytlglokbakmbpdab
open Go Go.Conc
open Go.ConcN (sumTo upd sumTo_upd upd_ne upd_same)
set_option linter.unusedVariables false
set_option linter.unusedSimpArgs false

section
variable {P : Program} {c : Nat} {S : World → Prop} {Mine : Loc → Prop} {z : Value} {Fin : Goroutine → World → Prop} {m cap : Nat} {tm : Bool}

/-- From here the machine comes to the end. -/
def Reach (P : Program) (Fin : Goroutine → World → Prop) (gs : Array Goroutine) (w : World) (t : Trace) : Prop :=
  ∀ sl, ∃ N gs' w' t' q' sl', runNT P N (crowd gs w sl) t = (.next (crowd gs' w' sl'), t') ∧ Ended P Fin gs' w' t' q'

theorem reach_step {gs : Array Goroutine} {w : World} {t : Trace}
    (h : ∀ sl, ∃ gs' w' sl' ops, stepT P (crowd gs w sl) = (.next (crowd gs' w' sl'), ops) ∧ Reach P Fin gs' w' (t ++ ops)) : Reach P Fin gs w t := by
  intro sl
  obtain ⟨gs1, w1, sl1, ops, h1, h2⟩ := h sl
  obtain ⟨N, gs', w', t', q', sl', h3, h4⟩ := h2 sl1
  exact ⟨N + 1, gs', w', t', q', sl', by simp only [runNT, h1]; exact h3, h4⟩

theorem reach_end {gs : Array Goroutine} {w : World} {t : Trace} {q : Nat → Nat} (h : Ended P Fin gs w t q) : Reach P Fin gs w t := fun sl => ⟨0, gs, w, t, q, sl, rfl, h⟩

theorem lv_step0 {gs : Array Goroutine} {t : Trace} {q : Nat → Nat} {a a' : Goroutine} {w' : World} {fn : FuncId} {pos : String} {es : Array Event} (h : Leavers P t gs q) (h0 : gs[0]? = some a) :
    Leavers P (t ++ MemOp.ofEvents 0 fn pos es) ((gs.map (woken P a a' w')).setIfInBounds 0 a') q := by
  have hlt : 0 < gs.size := (Array.getElem?_eq_some_iff.1 h0).1
  refine ⟨fun j x hj hx => ?_, fun j hj => ?_⟩
  · have hne : 0 ≠ j := by omega
    rw [Array.getElem?_setIfInBounds_ne hne, Array.getElem?_map] at hx
    obtain ⟨y, hy, rfl⟩ := Option.map_eq_some_iff.1 hx
    have hq := h.old j y hj hy
    rw [woken_quitsD hq, Deaf_other t (by omega) _ (fun op hop => mem_ofE hop)]
    exact hq
  · rw [Deaf_other t (g' := 0) (by simp at hj; omega) _ (fun op hop => mem_ofE hop)]
    exact h.above j (by simpa using hj)

theorem lv_comm0 {gs : Array Goroutine} {t u : Trace} {q : Nat → Nat} {a : Goroutine} (h : Leavers P t gs q) (h0 : 0 < gs.size) (hu : ∀ op ∈ u, op.g = 0) : Leavers P (t ++ u) (gs.setIfInBounds 0 a) q := by
  refine ⟨fun j x hj hx => ?_, fun j hj => ?_⟩
  · rw [Array.getElem?_setIfInBounds_ne (by omega)] at hx
    rw [Deaf_other t (g' := 0) (by omega) _ hu]
    exact h.old j x hj hx
  · rw [Deaf_other t (g' := 0) (by simp at hj; omega) _ hu]
    exact h.above j (by simpa using hj)

/-- A leaver slips. -/
theorem slip {gs : Array Goroutine} {t : Trace} {q : Nat → Nat} {i : Nat} {g : Goroutine} {w : World} {sl : Option (Nat × Nat)} (hpos : 0 < i) (hi : gs[i]? = some g) (hg : g.status = .running) (hq : QuitsD P (q i) (Deaf t i) g) :
    ∃ g' es k, runT P (crowd gs w sl) i = (.next (crowd ((gs.map (woken P g g' w)).setIfInBounds i g') w sl), MemOp.ofEvents i g.frame.fn g.frame.place es) ∧ (∀ e ∈ es, e.mute = true) ∧ q i = k + 1 ∧
      QuitsD P k (Deaf (t ++ MemOp.ofEvents i g.frame.fn g.frame.place es) i) g' ∧ sumTo gs.size (upd q i k) < sumTo gs.size q := by
  have hi0 : (i == 0) = false := by simp; omega
  have hlt : i < gs.size := (Array.getElem?_eq_some_iff.1 hi).1
  cases hqi : q i with
  | zero => rw [hqi] at hq; rw [hq.1] at hg; cases hg
  | succ k =>
    rw [hqi] at hq
    rcases hq with ⟨hf, _⟩ | ⟨_, g', es, hm, hstp, hq'⟩
    · rw [hf] at hg; cases hg
    have hsum : sumTo gs.size (upd q i k) + (k + 1) = sumTo gs.size q + k := by
      have := sumTo_upd q k id hlt
      simpa [hqi] using this
    exact ⟨g', es, k, runT_crowd_go (P := P) (sl := sl) (i := i) hi (by rw [hi0]; exact hstp w), hm, rfl, by rw [Deaf_own]; exact hq', by omega⟩

theorem lv_slip {gs : Array Goroutine} {t : Trace} {q : Nat → Nat} {i k : Nat} {g g' : Goroutine} {w : World} {fn : FuncId} {pos : String} {es : Array Event} (h : Leavers P t gs q) (hpos : 0 < i) (hi : gs[i]? = some g)
    (hq : QuitsD P k (Deaf (t ++ MemOp.ofEvents i fn pos es) i) g') : Leavers P (t ++ MemOp.ofEvents i fn pos es) ((gs.map (woken P g g' w)).setIfInBounds i g') (upd q i k) := by
  have hlt : i < gs.size := (Array.getElem?_eq_some_iff.1 hi).1
  refine ⟨fun j x hj hx => ?_, fun j hj => ?_⟩
  · by_cases hji : i = j
    · subst hji
      rw [Array.getElem?_setIfInBounds_self_of_lt (by simpa using hlt)] at hx
      obtain rfl := Option.some.inj hx
      rw [upd_same]
      exact hq
    · rw [Array.getElem?_setIfInBounds_ne hji, Array.getElem?_map] at hx
      obtain ⟨y, hy, rfl⟩ := Option.map_eq_some_iff.1 hx
      have hqj := h.old j y hj hy
      rw [woken_quitsD hqj, upd_ne q k (Ne.symm hji), Deaf_other t hji _ (fun op hop => mem_ofE hop)]
      exact hqj
  · rw [Deaf_other t (g' := i) (by simp at hj; omega) _ (fun op hop => mem_ofE hop)]
    exact h.above j (by simpa using hj)

theorem lv_awake {gs : Array Goroutine} {t : Trace} {q : Nat → Nat} {a : Goroutine} (h : Leavers P t gs q) (h0 : gs[0]? = some a) (hr : a.status = .running) : ∀ g ∈ gs, Go.Conc.awake g := by
  intro g hg
  obtain ⟨i, hi, rfl⟩ := Array.mem_iff_getElem.1 hg
  rcases Nat.eq_zero_or_pos i with rfl | hpos
  · have : gs[0] = a := by simpa [Array.getElem?_eq_getElem hi] using h0
    rw [this]; exact awake_of (.inl hr)
  · exact awake_of ((h.old i _ hpos (Array.getElem?_eq_getElem hi)).status.elim .inl fun x => .inr (.inr x))

theorem lv_partners {gs : Array Goroutine} {t : Trace} {q : Nat → Nat} (h : Leavers P t gs q) (b : Bool) : partners (gs.setIfInBounds 0 ph) c b = [] := by
  refine partners_nil fun j g hj => ?_
  rcases getElem?_stand gs 0 j g hj with ⟨_, rfl⟩ | ⟨hne, hj'⟩
  · rfl
  · exact offersAt_of_not_blocked (by rcases (h.old j g (by omega) hj').status with e | e <;> rw [e] <;> simp) _ _

theorem aside_setChan (w : World) (d cap : Nat) (buf : Array Value) (cl : Bool) (s r : Nat) : Aside c w ((w.at d).setChan c cap buf cl s r tm) := (Aside.at c w d).trans (Aside.put c _ _)

theorem chan_setChan {w : World} {o : Obj} (h : w.heap[c]? = some o) (cap : Nat) (buf : Array Value) (cl : Bool) (s r : Nat) : (w.setChan c cap buf cl s r tm).heap[c]? = some (.chan cap buf cl s r tm) := heap_put h

theorem lex_ind {Q : Nat → Nat → Prop} (h : ∀ L X, (∀ L' X', L' < L → Q L' X') → (∀ X', X' < X → Q L X') → Q L X) : ∀ L X, Q L X := by
  intro L
  induction L using Nat.strongRecOn with
  | _ L ihL =>
    intro X
    induction X using Nat.strongRecOn with
    | _ X ihX => exact h L X (fun L' X' hl => ihL L' hl X') ihX

theorem asd_trans (c : Nat) : ∀ a b d : World, Aside c a b → Aside c b d → Aside c a d := fun _ _ _ h k => h.trans k

/-- Behind the close. -/
theorem sh_reach (hS : ∀ w w', Aside c w w' → S w → S w') {gs : Array Goroutine} {w : World} {t : Trace} {q : Nat → Nat} {xs : List Value} {n : Nat} (h : Sh P c S Mine z Fin m cap tm gs w t q xs n) : Reach P Fin gs w t := by
  have key := lex_ind (Q := fun L X => ∀ (gs : Array Goroutine) (w : World) (t : Trace) (q : Nat → Nat) (xs : List Value) (n : Nat), xs.length = L → n + sumTo gs.size q = X → Sh P c S Mine z Fin m cap tm gs w t q xs n → Reach P Fin gs w t) ?_
  · exact key _ _ gs w t q xs n rfl rfl h
  clear h gs w t q xs n
  intro L X ihL ihX gs w t q xs n hL hX h
  obtain ⟨a, h0, hG⟩ := h.ex
  obtain ⟨pc, htr⟩ := h.tr
  obtain ⟨s, r, hch⟩ := h.ch
  have hr : a.status = .running := recvSt_run hG
  have hlt : 0 < gs.size := (Array.getElem?_eq_some_iff.1 h0).1
  refine reach_step fun sl => ?_
  obtain ⟨i, g, d, sl', hi, hg, hst⟩ := crowd_pick (P := P) (w := w) (sl := sl) (lv_awake h.lv h0 hr) ⟨0, a, h0, hr⟩
  rcases Nat.eq_zero_or_pos i with rfl | hpos
  · obtain rfl : g = a := by rw [h0] at hi; exact (Option.some.inj hi).symm
    have hor : (∀ w₁, Aside c w w₁ → StopA P c S Mine z Fin xs g w₁) ∨ ∃ n', n = n' + 1 ∧ ∀ w₁, Aside c w w₁ → (stepG P true g w₁).goes fun g' w' es => DA c S Mine w₁ w' es ∧ Goes P true (Aside c) (DA c S Mine) (StopA P c S Mine z Fin xs) n' g' w' := by
      cases n with
      | zero => exact .inl hG
      | succ n => exact hG.imp id fun x => ⟨n, rfl, x.2⟩
    rcases hor with hstop | ⟨n', rfl, hstep⟩
    · have hs := hstop (w.at d) (Aside.at c w d)
      cases xs with
      | nil =>
        obtain ⟨_, es, k1, k2, k3⟩ := hs
        have hrun := crowd_recv_closed (P := P) (gs := gs) (sl := sl') (i := 0) h0 k1 (show (w.at d).heap[c]? = _ from hch) (lv_partners h.lv true)
        refine ⟨_, _, _, _, hst.trans hrun, reach_end (q := q) ⟨Go.Conc.served (core g) (.tuple #[z, .bool false]), ⟨?_, ?_, ?_⟩, ?_⟩⟩
        · simp [hlt, finishComm_recv, recvd]
        · exact lv_comm0 h.lv hlt fun op hop => by
            rcases Array.mem_append.1 hop with hop | hop
            · exact mem_ofE hop
            · simp at hop; rw [hop]
        · rw [← Array.append_assoc]
          exact (htr.own0 k2).fin rfl rfl
        · exact k3 _ (Aside.refl c _)
      | cons x xs' =>
        obtain ⟨_, es, k1, k2, k3⟩ := hs
        have hrun := crowd_recv_buf (P := P) (gs := gs) (sl := sl') (i := 0) h0 k1 (show (w.at d).heap[c]? = _ from hch) (by simp) (lv_partners h.lv true)
        have hx := k3 _ (Aside.put c (w.at d) (.chan cap xs'.toArray true s (r + 1) tm))
        obtain ⟨n', hG'⟩ := (recvs_iff P c S Mine z Fin xs' _ _).1 hx
        refine ⟨_, _, _, _, hst.trans hrun, ?_⟩
        have e1 : ((x :: xs').toArray).extract 1 ((x :: xs').toArray).size = xs'.toArray := by simp
        have e2 : ((x :: xs').toArray).getD 0 undef = x := by simp
        rw [e1, e2]
        refine ihL xs'.length _ (by simp at hL; omega) _ _ _ q xs' n' rfl rfl ⟨⟨Go.Conc.served (core g) (.tuple #[x, .bool true]), by simp [hlt, finishComm_recv, recvd], hG'⟩, ?_, ⟨pc, ?_⟩, ⟨s, r + 1, chan_setChan (show (w.at d).heap[c]? = _ from hch) _ _ _ _ _⟩, hS _ _ (aside_setChan w d cap _ true s (r + 1)) h.sw⟩
        · refine lv_comm0 h.lv hlt fun op hop => ?_
          rcases Array.mem_append.1 hop with hop | hop
          · exact mem_ofE hop
          · simp at hop; rcases hop with rfl | rfl <;> rfl
        · rw [← Array.append_assoc]
          exact (htr.own0 k2).comm fun op hop => by simp at hop; rcases hop with rfl | rfl <;> exact ⟨rfl, fun mk k => by cases k⟩
    · have hs := hstep (w.at d) (Aside.at c w d)
      obtain ⟨a', w', es, hgo, ⟨d1, d2, d3⟩, hG'⟩ := goes_elim hs
      have hrun := runT_crowd_go (P := P) (sl := sl') (i := 0) h0 (show stepG P (0 == 0) g (w.at d) = _ from hgo)
      refine ⟨_, _, _, _, hst.trans hrun, ihX (n' + sumTo gs.size q) (by omega) _ _ _ q xs n' hL (by simp) ⟨⟨a', by simp [hlt], hG'⟩, lv_step0 h.lv h0, ⟨pc, htr.own0 d3⟩, ⟨s, r, by rw [d2]; exact hch⟩, d1 (hS _ _ (Aside.at c w d) h.sw)⟩⟩
  · have hq := h.lv.old i g hpos hi
    obtain ⟨g', es, k, hrun, hm, hqi, hq', hlt'⟩ := slip (w := w.at d) (sl := sl') hpos hi hg hq
    refine ⟨_, _, _, _, hst.trans hrun, ihX (n + sumTo gs.size (upd q i k)) (by omega) _ _ _ (upd q i k) xs n hL (by simp) ⟨⟨a, ?_, Goes.rely (asd_trans c) hG (Aside.at c w d)⟩, lv_slip h.lv hpos hi hq', ⟨pc, htr.mute (by omega) hm⟩, ⟨s, r, hch⟩, hS _ _ (Aside.at c w d) h.sw⟩⟩
    rw [Array.getElem?_setIfInBounds_ne (by omega), Array.getElem?_map, h0]
    simp [woken_run hr]

theorem stopA_comm {l : List Value} {g : Goroutine} {w : World} (h : StopA P c S Mine z Fin l g w) : ∃ es, stepG P true g w = .comm (core g) #[rcase c z] true (.recv true) w es ∧ ∀ e ∈ es, EvA Mine e := by
  cases l with
  | nil => exact ⟨h.2.choose, h.2.choose_spec.1, h.2.choose_spec.2.1⟩
  | cons v vs => exact ⟨h.2.choose, h.2.choose_spec.1, h.2.choose_spec.2.1⟩

theorem wok_a {l : List Value} {a : Goroutine} {w w' : World} {k : Nat} {g g' : Goroutine} (h : RecvSt P c S Mine z Fin l a w k) {cap s r : Nat} {buf : Array Value} (hc : w'.heap[c]? = some (.chan cap buf false s r tm)) : woken P g g' w' a = a := by
  rcases h with ⟨n, _, hG⟩ | ⟨_, g0, rfl, _⟩
  · exact woken_run (recvSt_run hG)
  · exact woken_recv_open _ _ hc

theorem sendSt_run {ys : List Value} {b : Goroutine} {n : Nat} {w : World} (hw : S w) (h : Goes P false (fun _ w₁ => S w₁) (DB Mine) (StopS P c S Mine ys) n b default) : b.status = .running := by
  cases n with
  | zero => exact stopS_run (h w hw)
  | succ n => exact h.elim (fun h => stopS_run (h w hw)) fun h => h.1

theorem wok_b {ys : List Value} {b : Goroutine} {w w' : World} {k : Nat} {g g' : Goroutine} (hw : S w) (h : SendSt P c S Mine ys b k) {cap s r : Nat} {buf : Array Value} (hc : w'.heap[c]? = some (.chan cap buf false s r tm)) : woken P g g' w' b = b := by
  rcases h with ⟨n, _, hG⟩ | ⟨_, v, ys', g2, z', _, rfl, _⟩
  · exact woken_run (sendSt_run hw hG)
  · exact woken_send_open _ _ hc

theorem recvSt_rely {l : List Value} {a : Goroutine} {w w' : World} {k : Nat} (h : RecvSt P c S Mine z Fin l a w k) (ha : Aside c w w') : RecvSt P c S Mine z Fin l a w' k := by
  rcases h with ⟨n, e, hG⟩ | ⟨e, g0, e2, h⟩
  · exact .inl ⟨n, e, Goes.rely (asd_trans c) hG ha⟩
  · exact .inr ⟨e, g0, e2, fun w₁ h1 => h w₁ (ha.trans h1)⟩

theorem get_set_map {gs : Array Goroutine} {f : Goroutine → Goroutine} {i j : Nat} {x y : Goroutine} (hij : i ≠ j) (h : gs[j]? = some y) : ((gs.map f).setIfInBounds i x)[j]? = some (f y) := by
  rw [Array.getElem?_setIfInBounds_ne hij, Array.getElem?_map, h]; rfl

theorem get_set_same {gs : Array Goroutine} {i : Nat} {x y : Goroutine} (h : gs[i]? = some y) : (gs.setIfInBounds i x)[i]? = some x := by
  rw [Array.getElem?_setIfInBounds_self_of_lt (Array.getElem?_eq_some_iff.1 h).1]

theorem get_set_other {gs : Array Goroutine} {i j : Nat} {x y : Goroutine} (hij : i ≠ j) (h : gs[j]? = some y) : (gs.setIfInBounds i x)[j]? = some y := by
  rw [Array.getElem?_setIfInBounds_ne hij, h]

/-- While both are under way. -/
theorem op_reach (hS : ∀ w w', Aside c w w' → S w → S w') (hMc : ¬ Mine (.obj c)) (hcap : 0 < cap) {gs : Array Goroutine} {w : World} {t : Trace} {q : Nat → Nat} {xs ys : List Value} {ka kb : Nat}
    (h : Op P c S Mine z Fin m cap tm gs w t q xs ys ka kb) : Reach P Fin gs w t := by
  have key := lex_ind (Q := fun L X => ∀ (gs : Array Goroutine) (w : World) (t : Trace) (q : Nat → Nat) (xs ys : List Value) (ka kb : Nat), 2 * ys.length + xs.length = L → ka + kb + sumTo gs.size q = X → Op P c S Mine z Fin m cap tm gs w t q xs ys ka kb → Reach P Fin gs w t) ?_
  · exact key _ _ gs w t q xs ys ka kb rfl rfl h
  clear h gs w t q xs ys ka kb
  intro L X ihL ihX gs w t q xs ys ka kb hL hX h
  obtain ⟨a, b, h0, hm, hR, hT⟩ := h.ex
  obtain ⟨s, r, hch⟩ := h.ch
  have hpm := h.oth.pos
  have hm0 : m ≠ 0 := by omega
  have hmm : (m == 0) = false := by simpa using hm0
  have hlt0 : 0 < gs.size := (Array.getElem?_eq_some_iff.1 h0).1
  have hltm : m < gs.size := (Array.getElem?_eq_some_iff.1 hm).1
  have hnot : ¬ (ka = 0 ∧ kb = 0) := by
    rintro ⟨e1, e2⟩
    have e3 := h.pb e2
    rw [h.pa e1] at e3
    simp at e3; omega
  have sa : a.status = .running ∨ (ka = 0 ∧ a.status = .blocked) := by
    rcases hR with ⟨n, _, hG⟩ | ⟨e, g0, rfl, _⟩
    · exact .inl (recvSt_run hG)
    · exact .inr ⟨e, rfl⟩
  have sb : b.status = .running ∨ (kb = 0 ∧ b.status = .blocked) := by
    rcases hT with ⟨n, _, hG⟩ | ⟨e, v, ys', g2, z', _, rfl, _⟩
    · exact .inl (sendSt_run h.sw hG)
    · exact .inr ⟨e, rfl⟩
  have haw : ∀ g ∈ gs, Go.Conc.awake g := by
    intro g hg
    obtain ⟨i, hi, rfl⟩ := Array.mem_iff_getElem.1 hg
    have hi' := Array.getElem?_eq_getElem hi
    by_cases e0 : i = 0
    · subst e0
      rw [hi'] at h0
      rw [Option.some.inj h0]
      rcases sa with k | ⟨_, k⟩ <;> intro t ht <;> rw [k] at ht <;> cases ht
    · by_cases em : i = m
      · subst em
        rw [hi'] at hm
        rw [Option.some.inj hm]
        rcases sb with k | ⟨_, k⟩ <;> intro t ht <;> rw [k] at ht <;> cases ht
      · have := h.oth.old i _ (by omega) em hi'
        rcases this.status with k | k <;> intro t ht <;> rw [k] at ht <;> cases ht
  have hsome : ∃ (i : Nat) (g : Goroutine), gs[i]? = some g ∧ g.status = .running := by
    rcases sa with k | ⟨k, _⟩
    · exact ⟨0, a, h0, k⟩
    · rcases sb with k2 | ⟨k2, _⟩
      · exact ⟨m, b, hm, k2⟩
      · exact absurd ⟨k, k2⟩ hnot
  refine reach_step fun sl => ?_
  obtain ⟨i, g, d, sl', hi, hg, hst⟩ := crowd_pick (P := P) (w := w) (sl := sl) haw hsome
  have hchd : (w.at d).heap[c]? = some (.chan cap xs.toArray false s r tm) := hch
  have hswd : S (w.at d) := hS _ _ (Aside.at c w d) h.sw
  by_cases e0 : i = 0
  · -- THE RECEIVER
    subst e0
    obtain rfl : g = a := by rw [h0] at hi; exact (Option.some.inj hi).symm
    rcases hR with ⟨n, rfl, hG⟩ | ⟨_, g0, rfl, _⟩
    rotate_left
    · cases hg
    have hor : (∀ w₁, Aside c w w₁ → StopA P c S Mine z Fin (xs ++ ys) g w₁) ∨ ∃ n', n = n' + 1 ∧ ∀ w₁, Aside c w w₁ → (stepG P true g w₁).goes fun g' w' es => DA c S Mine w₁ w' es ∧ Goes P true (Aside c) (DA c S Mine) (StopA P c S Mine z Fin (xs ++ ys)) n' g' w' := by
      cases n with
      | zero => exact .inl hG
      | succ n => exact hG.imp id fun x => ⟨n, rfl, x.2⟩
    rcases hor with hstop | ⟨n', rfl, hstep⟩
    · have hs := hstop (w.at d) (Aside.at c w d)
      cases xs with
      | nil =>
        -- nothing is there: it is parked
        obtain ⟨es, k1, k2⟩ := stopA_comm hs
        have hkb : kb ≠ 0 := by intro e; have := h.pb e; simp at this; omega
        have hbr : b.status = .running := by rcases sb with k | ⟨k, _⟩; exact k; exact absurd k hkb
        have hp := offers_none (c := c) h.oth (k := 0) (o := m) (.inl ⟨rfl, rfl⟩) true hm (offersAt_of_not_blocked (by rw [hbr]; simp) _ _)
        have hrun := crowd_waits (P := P) (gs := gs) (sl := sl') (i := 0) h0 k1 (fun cc hcc => by simp at hcc; rw [hcc]; exact ways_recv_none hchd hp)
        refine ⟨_, _, _, _, hst.trans hrun, ihX (0 + kb + sumTo gs.size q) (by omega) _ _ _ q [] ys 0 kb hL (by simp) ⟨⟨_, b, get_set_same h0, get_set_other (by omega) hm, .inr ⟨rfl, g, rfl, fun w₁ h1 => hstop w₁ ((Aside.at c w d).trans h1)⟩, hT⟩,
          h.oth.comm (by simp) (fun i hi hm' => Array.getElem?_setIfInBounds_ne (by omega)) (fun i hi hm' => Deaf_other t (g' := 0) (by omega) _ fun op hop => mem_ofE hop) hltm, h.tr.own0 hm0 k2, ⟨s, r, hch⟩, hswd, fun _ => rfl, fun e => absurd e hkb⟩⟩
      | cons x xs' =>
        obtain ⟨_, es, k1, k2, k3⟩ := hs
        have e1 : ((x :: xs').toArray).extract 1 ((x :: xs').toArray).size = xs'.toArray := by simp
        have e2 : ((x :: xs').toArray).getD 0 undef = x := by simp
        rcases hT with ⟨nb, rfl, hGb⟩ | ⟨rfl, v, ys', g2, z', rfl, rfl, hnext⟩
        · -- the sender runs
          have hbr := sendSt_run h.sw hGb
          have hp := offers_none (c := c) h.oth (k := 0) (o := m) (.inl ⟨rfl, rfl⟩) true hm (offersAt_of_not_blocked (by rw [hbr]; simp) _ _)
          have hrun := crowd_recv_buf (P := P) (gs := gs) (sl := sl') (i := 0) h0 k1 hchd (by simp) hp
          have hx := k3 _ (Aside.put c (w.at d) (.chan cap xs'.toArray false s (r + 1) tm))
          obtain ⟨n', hG'⟩ := (recvs_iff P c S Mine z Fin (xs' ++ ys) _ _).1 hx
          rw [e1, e2] at hrun
          refine ⟨_, _, _, _, hst.trans hrun, ihL (2 * ys.length + xs'.length) _ (by simp at hL; omega) _ _ _ q xs' ys (n' + 1) (nb + 1) rfl rfl ⟨⟨Go.Conc.served (core g) (.tuple #[x, .bool true]), b, ?_, get_set_other (by omega) hm, .inl ⟨n', rfl, hG'⟩, .inl ⟨nb, rfl, hGb⟩⟩, ?_, ?_, ⟨s, r + 1, chan_setChan hchd _ _ _ _ _⟩, hS _ _ (aside_setChan w d cap _ false s (r + 1)) h.sw, fun e => by omega, fun e => by omega⟩⟩
          · rw [get_set_same h0, finishComm_recv]; rfl
          · exact h.oth.comm (by simp) (fun i hi hm' => Array.getElem?_setIfInBounds_ne (by omega)) (fun i hi hm' => deaf_two (m := m) (fun op hop => by
              rcases Array.mem_append.1 hop with hop | hop
              · exact .inl (mem_ofE hop)
              · simp at hop; rcases hop with rfl | rfl <;> exact .inl rfl) hi hm') hltm
          · rw [← Array.append_assoc]
            exact (h.tr.own0 hm0 k2).comm fun op hop => by simp at hop; rcases hop with rfl | rfl <;> exact ⟨rfl, fun mk k => by cases k⟩
        · -- the sender is parked: its value goes in behind
          have hp := offers_one (c := c) h.oth (k := 0) (o := m) (.inl ⟨rfl, rfl⟩) true hm (by rw [offersAt_parked_send, if_pos rfl])
          have hrun := crowd_recv_full (P := P) (gs := gs) (sl := sl') (i := 0) (j := m) h0 k1 hchd (by simp) hm0 hm hp
          rw [e1, e2] at hrun
          have hx := k3 _ (Aside.put c (w.at d) (.chan cap (xs'.toArray.push v) false (s + 1) (r + 1) tm))
          obtain ⟨n', hG'⟩ := (recvs_iff P c S Mine z Fin (xs' ++ v :: ys') _ _).1 hx
          obtain ⟨nb, hGb⟩ := (sendsB_iff P c S Mine ys' _).1 hnext
          have e3 : xs' ++ v :: ys' = (xs' ++ [v]) ++ ys' := by simp
          have e4 : xs'.toArray.push v = (xs' ++ [v]).toArray := by simp
          rw [e3] at hG'
          rw [e4] at hrun hG'
          refine ⟨_, _, _, _, hst.trans hrun, ihL (2 * ys'.length + (xs' ++ [v]).length) _ (by simp at hL ⊢; omega) _ _ _ q (xs' ++ [v]) ys' (n' + 1) (nb + 1) rfl rfl ⟨⟨Go.Conc.served (core g) (.tuple #[x, .bool true]), Go.Conc.served g2 undef, ?_, ?_, .inl ⟨n', rfl, hG'⟩, .inl ⟨nb, rfl, hGb⟩⟩, ?_, ?_, ⟨s + 1, r + 1, chan_setChan hchd _ _ _ _ _⟩, hS _ _ (aside_setChan w d cap _ false (s + 1) (r + 1)) h.sw, fun e => by omega, fun e => by omega⟩⟩
          · rw [get_set_same (get_set_other (by omega) h0), finishComm_recv]; rfl
          · rw [get_set_other (by omega) (get_set_same hm), finishComm_send]
          · exact h.oth.comm (by simp) (fun i hi hm' => by rw [Array.getElem?_setIfInBounds_ne (by omega), Array.getElem?_setIfInBounds_ne (by omega)]) (fun i hi hm' => deaf_two (m := m) (fun op hop => by
              rcases Array.mem_append.1 hop with hop | hop
              · exact .inl (mem_ofE hop)
              · simp at hop; rcases hop with rfl | rfl | rfl | rfl <;> first | exact .inl rfl | exact .inr rfl) hi hm') hltm
          · rw [← Array.append_assoc]
            exact (h.tr.own0 hm0 k2).comm fun op hop => by simp at hop; rcases hop with rfl | rfl | rfl | rfl <;> exact ⟨rfl, fun mk k => by cases k⟩
    · -- an ordinary step
      have hs := hstep (w.at d) (Aside.at c w d)
      obtain ⟨a', w', es, hgo, ⟨d1, d2, d3⟩, hG'⟩ := goes_elim hs
      have hrun := runT_crowd_go (P := P) (sl := sl') (i := 0) h0 (show stepG P (0 == 0) g (w.at d) = _ from hgo)
      have hch' : w'.heap[c]? = some (.chan cap xs.toArray false s r tm) := by rw [d2]; exact hch
      refine ⟨_, _, _, _, hst.trans hrun, ihX (n' + 1 + kb + sumTo gs.size q) (by omega) _ _ _ q xs ys (n' + 1) kb hL (by simp) ⟨⟨a', b, get_set_same (by rw [Array.getElem?_map, h0]; rfl), ?_, .inl ⟨n', rfl, hG'⟩, hT⟩, h.oth.go (.inl rfl) (fun op hop => mem_ofE hop) hlt0, h.tr.own0 hm0 d3, ⟨s, r, hch'⟩, d1 hswd, fun e => by omega, h.pb⟩⟩
      rw [get_set_map (by omega) hm, wok_b h.sw hT hch']
  · by_cases em : i = m
    · -- THE SENDER
      subst em
      obtain rfl : g = b := by rw [hm] at hi; exact (Option.some.inj hi).symm
      rcases hT with ⟨n, rfl, hG⟩ | ⟨_, v, ys', g2, z', rfl, rfl, _⟩
      rotate_left
      · cases hg
      have hor : (∀ w₁, S w₁ → StopS P c S Mine ys g w₁) ∨ ∃ n', n = n' + 1 ∧ ∀ w₁, S w₁ → (stepG P false g w₁).goes fun g' w' es => DB Mine w₁ w' es ∧ Goes P false (fun _ w₁ => S w₁) (DB Mine) (StopS P c S Mine ys) n' g' w' := by
        cases n with
        | zero => exact .inl hG
        | succ n => exact hG.imp id fun x => ⟨n, rfl, x.2⟩
      rcases hor with hstop | ⟨n', rfl, hstep⟩
      · have hs := hstop (w.at d) hswd
        cases ys with
        | nil =>
          -- THE CLOSE
          obtain ⟨_, hwake, g₂, es, nq, k1, k2, k3⟩ := hs
          have k1' := k1 (w.at d) cap xs.toArray s r tm hswd hchd
          have hrun := runT_crowd_go (P := P) (sl := sl') (i := i) hm (by rw [hmm]; exact k1')
          refine ⟨_, _, _, _, hst.trans hrun, ?_⟩
          obtain ⟨pc, hTC⟩ := h.tr.close (c := c) (fn := g.frame.fn) (pos := g.frame.place) hm0 hMc k2
          have hcl : ((w.at d).setChan c cap xs.toArray true s r tm).heap[c]? = some (.chan cap xs.toArray true s r tm) := chan_setChan hchd _ _ _ _ _
          have hO := h.oth.go (u := MemOp.ofEvents i g.frame.fn g.frame.place (es.push ⟨.obj c, true, true⟩)) (g := g) (g' := g₂) (x := g₂) (w' := (w.at d).setChan c cap xs.toArray true s r tm) (.inr rfl) (fun op hop => mem_ofE hop) hltm
          have hd0 : Deaf (t ++ MemOp.ofEvents i g.frame.fn g.frame.place (es.push ⟨.obj c, true, true⟩)) i = 0 := by
            rw [Deaf_own]
            refine (deafBehind_still (fun e he => ?_) _).trans h.tr.hearsM
            rcases Array.mem_push.1 he with he | rfl
            · exact ⟨fun k => ((k2 e he).1 _ k).ne_disable rfl, fun k => ((k2 e he).1 _ k).ne_enable rfl⟩
            · exact ⟨by simp, by simp⟩
          have hlv := leavers_of_in hO (get_set_same (by rw [Array.getElem?_map, hm]; rfl)) k3 hd0
          have hsw' : S ((w.at d).setChan c cap xs.toArray true s r tm) := hS _ _ (aside_setChan w d cap _ true s r) h.sw
          rcases hR with ⟨na, rfl, hGa⟩ | ⟨rfl, g0, rfl, hga⟩
          · refine sh_reach (z := z) (m := i) (cap := cap) (tm := tm) (xs := xs) (n := na) hS ⟨⟨a, ?_, ?_⟩, hlv, ⟨pc, hTC⟩, ⟨s, r, hcl⟩, hsw'⟩
            · rw [get_set_map (by omega) h0, woken_run (recvSt_run hGa)]
            · have := Goes.rely (asd_trans c) hGa (aside_setChan (tm := tm) w d cap xs.toArray true s r)
              simpa using this
          · refine sh_reach (z := z) (m := i) (cap := cap) (tm := tm) (xs := xs) (n := 0) hS ⟨⟨{ parked (core g0) #[rcase c z] (.recv true) with status := .running }, ?_, ?_⟩, hlv, ⟨pc, hTC⟩, ⟨s, r, hcl⟩, hsw'⟩
            · rw [get_set_map (by omega) h0]
              congr 1
              unfold woken
              rw [hwake]
              have : (g₂.status != .blocked && g₂.status != .waiting) = true := by rcases k3.status with k | k <;> rw [k] <;> rfl
              rw [Bool.true_and, this, if_pos rfl]
              exact again_recv_closed hcl
            · refine Goes.stop fun w₁ h1 => ?_
              have := hga w₁ ((aside_setChan w d cap xs.toArray true s r).trans h1)
              rw [List.append_nil] at this
              exact stopA_again this
        | cons v ys' =>
          obtain ⟨_, g2, z', es, k1, k2, k3⟩ := hs
          have k1' := k1 (w.at d) hswd
          have k1m : stepG P (i == 0) g (w.at d) = .comm g2 #[scase c v z'] true .send (w.at d) es := by rw [hmm]; exact k1'
          obtain ⟨nb, hGb⟩ := (sendsB_iff P c S Mine ys' _).1 k3
          rcases hR with ⟨na, rfl, hGa⟩ | ⟨rfl, g0, rfl, hga⟩
          · -- the receiver runs
            have har := recvSt_run hGa
            have hp := offers_none (c := c) h.oth (k := i) (o := 0) (.inr ⟨rfl, rfl⟩) false h0 (offersAt_of_not_blocked (by rw [har]; simp) _ _)
            by_cases hroom : xs.length < cap
            · have hrun := crowd_send_room (P := P) (gs := gs) (sl := sl') (i := i) hm k1m hchd (by simpa using hroom) hp
              have e4 : xs.toArray.push v = (xs ++ [v]).toArray := by simp
              rw [e4] at hrun
              have hGa' := Goes.rely (asd_trans c) hGa (aside_setChan (tm := tm) w d cap (xs ++ [v]).toArray false (s + 1) r)
              rw [show xs ++ v :: ys' = (xs ++ [v]) ++ ys' by simp] at hGa'
              refine ⟨_, _, _, _, hst.trans hrun, ihL (2 * ys'.length + (xs ++ [v]).length) _ (by simp at hL ⊢; omega) _ _ _ q (xs ++ [v]) ys' (na + 1) (nb + 1) rfl rfl ⟨⟨a, Go.Conc.served g2 undef, get_set_other (by omega) h0, ?_, .inl ⟨na, rfl, hGa'⟩, .inl ⟨nb, rfl, hGb⟩⟩, ?_, ?_, ⟨s + 1, r, chan_setChan hchd _ _ _ _ _⟩, hS _ _ (aside_setChan w d cap _ false (s + 1) r) h.sw, fun e => by omega, fun e => by omega⟩⟩
              · rw [get_set_same hm, finishComm_send]
              · exact h.oth.comm (by simp) (fun i' hi hm' => Array.getElem?_setIfInBounds_ne (by omega)) (fun i' hi hm' => deaf_two (m := i) (fun op hop => by
                  rcases Array.mem_append.1 hop with hop | hop
                  · exact .inr (mem_ofE hop)
                  · simp at hop; rcases hop with rfl | rfl <;> exact .inr rfl) hi hm') hltm
              · rw [← Array.append_assoc]
                exact (h.tr.ownM hm0 k2).comm fun op hop => by simp at hop; rcases hop with rfl | rfl <;> exact ⟨rfl, fun mk k => by cases k⟩
            · have hrun := crowd_waits (P := P) (gs := gs) (sl := sl') (i := i) hm k1m (fun cc hcc => by simp at hcc; rw [hcc]; exact ways_send_none hchd (by simp; omega) hp)
              refine ⟨_, _, _, _, hst.trans hrun, ihX (na + 1 + 0 + sumTo gs.size q) (by omega) _ _ _ q xs (v :: ys') (na + 1) 0 hL (by simp) ⟨⟨a, _, get_set_other (by omega) h0, get_set_same hm, recvSt_rely (.inl ⟨na, rfl, hGa⟩) (Aside.at c w d), .inr ⟨rfl, v, ys', g2, z', rfl, rfl, k3⟩⟩,
                h.oth.comm (by simp) (fun i' hi hm' => Array.getElem?_setIfInBounds_ne (by omega)) (fun i' hi hm' => Deaf_other t (g' := i) (by omega) _ fun op hop => mem_ofE hop) hltm, h.tr.ownM hm0 k2, ⟨s, r, hch⟩, hswd, fun e => by omega, fun _ => by omega⟩⟩
          · -- the receiver is parked: it is handed the value
            obtain rfl := h.pa rfl
            have hp := offers_one (c := c) h.oth (k := i) (o := 0) (.inr ⟨rfl, rfl⟩) false h0 (by rw [offersAt_parked_recv, if_pos rfl])
            have hrun := crowd_send_meets (P := P) (gs := gs) (sl := sl') (i := i) (j := 0) hm k1m hchd (by omega) h0 hp
            obtain ⟨_, es', m1, m2, m3⟩ := hga (w.at d) (Aside.at c w d)
            have hx := m3 _ (Aside.put c (w.at d) (.chan cap (#[] : Array Value) false (s + 1) (r + 1) tm))
            obtain ⟨n', hG'⟩ := (recvs_iff P c S Mine z Fin ys' _ _).1 hx
            refine ⟨_, _, _, _, hst.trans hrun, ihL (2 * ys'.length + 0) _ (by simp at hL ⊢; omega) _ _ _ q [] ys' (n' + 1) (nb + 1) rfl rfl ⟨⟨Go.Conc.served (core g0) (.tuple #[v, .bool true]), Go.Conc.served g2 undef, ?_, ?_, .inl ⟨n', rfl, hG'⟩, .inl ⟨nb, rfl, hGb⟩⟩, ?_, ?_, ⟨s + 1, r + 1, chan_setChan hchd _ _ _ _ _⟩, hS _ _ (aside_setChan w d cap _ false (s + 1) (r + 1)) h.sw, fun e => by omega, fun e => by omega⟩⟩
            · rw [get_set_other (by omega) (get_set_same h0), finishComm_recv]; rfl
            · rw [get_set_same (get_set_other (by omega) hm), finishComm_send]
            · exact h.oth.comm (by simp) (fun i' hi hm' => by rw [Array.getElem?_setIfInBounds_ne (by omega), Array.getElem?_setIfInBounds_ne (by omega)]) (fun i' hi hm' => deaf_two (m := i) (fun op hop => by
                rcases Array.mem_append.1 hop with hop | hop
                · exact .inr (mem_ofE hop)
                · simp at hop; rcases hop with rfl | rfl | rfl | rfl <;> first | exact .inl rfl | exact .inr rfl) hi hm') hltm
            · rw [← Array.append_assoc]
              exact (h.tr.ownM hm0 k2).comm fun op hop => by simp at hop; rcases hop with rfl | rfl | rfl | rfl <;> exact ⟨rfl, fun mk k => by cases k⟩
      · -- an ordinary step
        have hs := hstep (w.at d) hswd
        obtain ⟨b', w', es, hgo, ⟨rfl, d3⟩, hG'⟩ := goes_elim hs
        have hrun := runT_crowd_go (P := P) (sl := sl') (i := i) hm (by rw [hmm]; exact hgo)
        have hG2 : Goes P false (fun _ w₁ => S w₁) (DB Mine) (StopS P c S Mine ys) n' b' default := by
          cases n' with
          | zero => exact hG'
          | succ n' => exact hG'
        refine ⟨_, _, _, _, hst.trans hrun, ihX (ka + (n' + 1) + sumTo gs.size q) (by omega) _ _ _ q xs ys ka (n' + 1) hL (by simp) ⟨⟨a, b', ?_, get_set_same (by rw [Array.getElem?_map, hm]; rfl), recvSt_rely hR (Aside.at c w d), .inl ⟨n', rfl, hG2⟩⟩, h.oth.go (.inr rfl) (fun op hop => mem_ofE hop) hltm, h.tr.ownM hm0 d3, ⟨s, r, hch⟩, hswd, h.pa, fun e => by omega⟩⟩
        rw [get_set_map (by omega) h0, wok_a hR hchd]
    · -- A LEAVER
      have hpos : 0 < i := by omega
      have hq := h.oth.old i g hpos em hi
      obtain ⟨g', es, k, hrun, hmu, hqi, hq', hlt'⟩ := slip (w := w.at d) (sl := sl') hpos hi hg hq
      refine ⟨_, _, _, _, hst.trans hrun, ihX (ka + kb + sumTo gs.size (upd q i k)) (by omega) _ _ _ (upd q i k) xs ys ka kb hL (by simp) ⟨⟨a, b, ?_, ?_, recvSt_rely hR (Aside.at c w d), hT⟩, ⟨fun j x hj hjm hx => ?_, fun j hj => ?_, hpm⟩, h.tr.mute (by omega) em hmu, ⟨s, r, hch⟩, hswd, h.pa, h.pb⟩⟩
      · rw [get_set_map (by omega) h0, wok_a hR hchd]
      · rw [get_set_map em hm, wok_b h.sw hT hchd]
      · have hlt : i < gs.size := (Array.getElem?_eq_some_iff.1 hi).1
        by_cases hji : i = j
        · subst hji
          rw [Array.getElem?_setIfInBounds_self_of_lt (by simpa using hlt)] at hx
          obtain rfl := Option.some.inj hx
          rw [upd_same]
          exact hq'
        · rw [Array.getElem?_setIfInBounds_ne hji, Array.getElem?_map] at hx
          obtain ⟨y, hy, rfl⟩ := Option.map_eq_some_iff.1 hx
          have hqj := h.oth.old j y hj hjm hy
          rw [woken_quitsD hqj, upd_ne q k (Ne.symm hji), Deaf_other t hji _ (fun op hop => mem_ofE hop)]
          exact hqj
      · have hlt : i < gs.size := (Array.getElem?_eq_some_iff.1 hi).1
        rw [Deaf_other t (g' := i) (by simp at hj; omega) _ (fun op hop => mem_ofE hop)]
        exact h.oth.above j (by simpa using hj)

end
end Go.Proofs.Ytlglokbakmbpdab
