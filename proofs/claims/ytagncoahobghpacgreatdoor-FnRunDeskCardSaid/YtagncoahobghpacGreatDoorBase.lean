/-
  Words on slices of ints that a call owns or reads, and small laws about them. Nothing of a program is named here.
-/
import Derived.WalkKit
import Derived.WalkSpells
import Derived.WalkSmall
import Derived.Lib.Hide
import Derived.Deep.QuietTactic
import Derived.BigQuiet
import Derived.Laws.CopyOwn
namespace Go.Proofs.YtagncoahobghpacGreatDoor
open Go.RowKit
set_option linter.unusedVariables false

/-- Element j of xs; 0 behind its end. -/
def ix (xs : List Int) (j : Nat) : Int := xs.getD j 0

/-- Slice value v reads, in world w, as the ints xs. -/
def Rd (w : World) (v : Value) (xs : List Int) : Prop :=
  ∃ a cap, v = .slice a xs.length cap ∧ (xs = [] ∨ ∃ b off, a = some ⟨b, off, none⟩ ∧ b < w.heap.size ∧ ∀ j, j < xs.length → w.cell? ⟨b, off + j, none⟩ = some (.int .i64 (ix xs j)))

/-- Slice value v, of element type E, owns the ints xs, in a block from B on. -/
def Own (E B : Nat) (w : World) (v : Value) (xs : List Int) : Prop :=
  w.ownsRow B E 1 v xs.length (xs.map (Value.int .i64))

theorem Rd.nil (w : World) : Rd w (.slice none 0 0) [] := ⟨none, 0, rfl, .inl rfl⟩

theorem Rd.below {w w' : World} {v : Value} {xs : List Int} {B : Nat} (h : Rd w v xs) (hb : Below B w w') (hB : w.heap.size ≤ B) : Rd w' v xs := by
  obtain ⟨a, cap, rfl, h⟩ := h
  refine ⟨a, cap, rfl, ?_⟩
  rcases h with rfl | ⟨b, off, rfl, hlt, hc⟩
  · exact .inl rfl
  · refine .inr ⟨b, off, rfl, by have := hb.size; omega, fun j hj => ?_⟩
    rw [hb.cell (p := ⟨b, off + j, none⟩) (by simp; omega)]
    exact hc j hj

theorem getElem?_map_int (xs : List Int) (j : Nat) (h : j < xs.length) : (xs.map (Value.int .i64))[j]? = some (.int .i64 (ix xs j)) := by
  simp [List.getElem?_map, ix, List.getD, List.getElem?_eq_getElem h]

theorem Own.rd {E B : Nat} {w : World} {v : Value} {xs : List Int} (h : Own E B w v xs) : Rd w v xs := by
  rcases h.2 with ⟨rfl, e0⟩ | ⟨g, cap, cur, rfl, hb, hg, hn, hm, hs, ht⟩
  · have : xs = [] := List.eq_nil_of_length_eq_zero e0
    subst this; exact ⟨none, 0, rfl, .inl rfl⟩
  · refine ⟨_, cap, rfl, .inr ⟨g, 0, rfl, ?_, fun j hj => ?_⟩⟩
    · exact (Array.getElem?_eq_some_iff.1 hg).1
    · have := h.cellAt (g := g) (cap := cap) j (by simpa using hj)
      rw [Nat.zero_add, this, getElem?_map_int xs j hj]

theorem Own.below {E B B' : Nat} {w w' : World} {v : Value} {xs : List Int} (h : Own E B w v xs) (hb : Below B' w w') (hB : w.heap.size ≤ B') : Own E B w' v xs := by
  obtain ⟨h1, h2⟩ := h
  refine ⟨h1, ?_⟩
  rcases h2 with h2 | ⟨g, cap, cur, rfl, hg, hh, r⟩
  · exact .inl h2
  · refine .inr ⟨g, cap, cur, rfl, hg, ?_, r⟩
    rw [hb.block g (by have := (Array.getElem?_eq_some_iff.1 hh).1; omega)]; exact hh

theorem Own.mono {E B B' : Nat} {w : World} {v : Value} {xs : List Int} (h : Own E B w v xs) (hB : B' ≤ B) : Own E B' w v xs := by
  obtain ⟨h1, h2⟩ := h
  refine ⟨h1, ?_⟩
  rcases h2 with h2 | ⟨g, cap, cur, rfl, hg, hh, r⟩
  · exact .inl h2
  · exact .inr ⟨g, cap, cur, rfl, by omega, hh, r⟩

theorem Own.form {E B : Nat} {w : World} {v : Value} {xs : List Int} (h : Own E B w v xs) (hne : xs ≠ []) :
    ∃ g cap, v = .slice (some ⟨g, 0, none⟩) xs.length cap ∧ B ≤ g ∧ g < w.heap.size := by
  rcases h.2 with ⟨_, h0⟩ | ⟨g, cap, cur, rfl, hb, hg, _⟩
  · exact absurd (List.eq_nil_of_length_eq_zero h0) hne
  · exact ⟨g, cap, rfl, hb, (Array.getElem?_eq_some_iff.1 hg).1⟩

/-- The form of an owned slice, empty or not. -/
theorem Own.shape {E B : Nat} {w : World} {v : Value} {xs : List Int} (h : Own E B w v xs) :
    (v = .slice none 0 0 ∧ xs = []) ∨ ∃ g cap, v = .slice (some ⟨g, 0, none⟩) xs.length cap ∧ B ≤ g ∧ g < w.heap.size := by
  rcases h.2 with ⟨h, h0⟩ | ⟨g, cap, cur, rfl, hb, hg, _⟩
  · exact .inl ⟨h, List.eq_nil_of_length_eq_zero h0⟩
  · exact .inr ⟨g, cap, rfl, hb, (Array.getElem?_eq_some_iff.1 hg).1⟩

theorem Own.cell {E B g n cap : Nat} {w : World} {xs : List Int} (h : Own E B w (.slice (some ⟨g, 0, none⟩) n cap) xs) (j : Nat) (hj : j < xs.length) :
    w.cell? ⟨g, j, none⟩ = some (.int .i64 (ix xs j)) := by
  have hn : n = xs.length := by
    rcases h.2 with ⟨h', _⟩ | ⟨g', cap', cur, h', _⟩
    · simp at h'
    · simp at h'; exact h'.2.1
  subst hn
  rw [World.ownsRow.cellAt (g := g) (cap := cap) h j (by simpa using hj), getElem?_map_int xs j hj]

theorem Own.frozen {E B g n cap : Nat} {w : World} {xs : List Int} (h : Own E B w (.slice (some ⟨g, 0, none⟩) n cap) xs) (j : Nat) :
    w.frozen? ⟨g, j, none⟩ = false := by
  have hn : n = xs.length := by
    rcases h.2 with ⟨h', _⟩ | ⟨g', cap', cur, h', _⟩
    · simp at h'
    · simp at h'; exact h'.2.1
  subst hn
  exact World.ownsRow.frozenAt (g := g) (cap := cap) h j

theorem Own.set {E B g n cap : Nat} {w : World} {xs : List Int} (h : Own E B w (.slice (some ⟨g, 0, none⟩) n cap) xs) (j : Nat) (u : Int) :
    Own E B (w.setCell ⟨g, j, none⟩ (.int .i64 u)) (.slice (some ⟨g, 0, none⟩) n cap) (xs.set j u) := by
  have hn : n = xs.length := by
    rcases h.2 with ⟨h', _⟩ | ⟨g', cap', cur, h', _⟩
    · simp at h'
    · simp at h'; exact h'.2.1
  subst hn
  have := (World.ownsRow.stored (g := g) (cap := cap) h j (.int .i64 u)).1
  unfold Own
  rw [List.length_set, List.map_set]
  exact this

/-- A store elsewhere leaves what is owned. -/
theorem Own.other {E B : Nat} {w : World} {v : Value} {xs : List Int} (h : Own E B w v xs) (a : Addr) (u : Value) (hne : v.ownBlock ≠ some a.block) : Own E B (w.setCell a u) v xs := by
  obtain ⟨h1, h2⟩ := h
  refine ⟨h1, ?_⟩
  rcases h2 with h2 | ⟨g, cap, cur, rfl, hg, hh, r⟩
  · exact .inl h2
  · refine .inr ⟨g, cap, cur, rfl, hg, ?_, r⟩
    rw [Below.heap_setCell _ _ _ _ (by intro e; subst e; exact hne rfl)]; exact hh

theorem Rd.other {w : World} {v : Value} {xs : List Int} (h : Rd w v xs) (a : Addr) (u : Value) (hne : v.ownBlock ≠ some a.block) : Rd (w.setCell a u) v xs := by
  obtain ⟨ad, cap, rfl, h⟩ := h
  refine ⟨ad, cap, rfl, ?_⟩
  rcases h with rfl | ⟨b, off, rfl, hlt, hc⟩
  · exact .inl rfl
  · refine .inr ⟨b, off, rfl, by simpa [World.setCell] using hlt, fun j hj => ?_⟩
    rw [World.cell?_of_block (w := w) (Below.heap_setCell _ _ _ _ (by intro e; exact hne (by simp [Value.ownBlock]; exact e)))]
    exact hc j hj

theorem Own.drew {E B : Nat} {w : World} {v : Value} {xs : List Int} (h : Own E B w v xs) : Own E B w.drew v xs := h
theorem Rd.drew {w : World} {v : Value} {xs : List Int} (h : Rd w v xs) : Rd w.drew v xs := h

theorem Own.len {E B : Nat} {w : World} {v : Value} {xs : List Int} (h : Own E B w v xs) : xs.length ≤ maxLen := by
  rcases h.2 with ⟨_, h0⟩ | ⟨g, cap, cur, rfl, hb, hg, hn, hm, _⟩ <;> omega

theorem Own.nil (E B : Nat) (w : World) : Own E B w (.slice none 0 0) [] := World.ownsRow_nil _ _ _ _

/-- The list of n ints that f gives. -/
def tab (n : Nat) (f : Nat → Int) : List Int := (List.range n).map f
@[simp] theorem len_tab (n : Nat) (f : Nat → Int) : (tab n f).length = n := by simp [tab]
theorem getElem?_tab (n : Nat) (f : Nat → Int) (j : Nat) : (tab n f)[j]? = if j < n then some (f j) else none := by
  simp only [tab, List.getElem?_map]
  by_cases h : j < n <;> simp [h]
theorem ix_tab (n : Nat) (f : Nat → Int) (j : Nat) (h : j < n) : ix (tab n f) j = f j := by
  rw [ix, List.getD_eq_getElem?_getD, getElem?_tab, if_pos h]; rfl
theorem tab_set (n : Nat) (f : Nat → Int) (i : Nat) (u : Int) : (tab n f).set i u = tab n (fun j => if j = i then u else f j) := by
  apply List.ext_getElem?
  intro j
  rw [List.getElem?_set, getElem?_tab, getElem?_tab]
  by_cases h : i = j
  · subst h
    by_cases hn : i < n <;> simp [hn]
  · have : ¬ j = i := fun e => h e.symm
    simp [h, this]
theorem tab_congr {n : Nat} {f g : Nat → Int} (h : ∀ j, j < n → f j = g j) : tab n f = tab n g := by
  apply List.ext_getElem?
  intro j
  rw [getElem?_tab, getElem?_tab]
  by_cases hn : j < n
  · simp [hn, h j hn]
  · simp [hn]
theorem tab_self (xs : List Int) : tab xs.length (fun j => ix xs j) = xs := by
  apply List.ext_getElem?
  intro j
  rw [getElem?_tab]
  by_cases hn : j < xs.length
  · simp [hn, ix, List.getD]
  · rw [if_neg hn, List.getElem?_eq_none (by omega)]
theorem tab_succ (n : Nat) (f : Nat → Int) : tab (n + 1) f = tab n f ++ [f n] := by simp [tab, List.range_succ]
theorem tab_snoc (n : Nat) (f : Nat → Int) (u : Int) (h : u = f n) : tab n f ++ [u] = tab (n + 1) f := by rw [tab_succ, h]
theorem tab_zero (f : Nat → Int) : tab 0 f = [] := rfl
theorem tab_replicate (n : Nat) (u : Int) : List.replicate n u = tab n (fun _ => u) := by
  apply List.ext_getElem?
  intro j
  rw [getElem?_tab, List.getElem?_replicate]
theorem eq_tab {xs : List Int} {n : Nat} {f : Nat → Int} (hn : xs.length = n) (h : ∀ j, j < n → ix xs j = f j) : xs = tab n f := by
  subst hn; exact (tab_self xs).symm.trans (tab_congr h)

/-- Behind make([]int, n). -/
theorem own_made {E B n : Nat} {w : World} {v : Value} (h : w.ownsRow B E 1 v n (madeCells #[Value.int .i64 0] n).toList) : Own E B w v (tab n fun _ => 0) := by
  rw [← tab_replicate]
  have e : (madeCells #[Value.int .i64 0] n).toList = (List.replicate n (0 : Int)).map (Value.int .i64) := by
    rw [toList_madeCells_one, List.map_replicate]
  rw [e] at h
  unfold Own
  rw [List.length_replicate]
  exact h

/-- What a call makes: a fresh slice of ints. -/
def Made (E : Nat) (w : World) (xs : List Int) (e : Ending) (w' : World) : Prop := ∃ v, e = .returned v ∧ Own E w.heap.size w' v xs ∧ Below w.heap.size w w'

/-- Are two lists the same? -/
def eqB (xs ys : List Int) : Bool := decide (xs = ys)
theorem eqB_self (xs : List Int) : eqB xs xs = true := by simp [eqB]
theorem eqB_true {xs ys : List Int} (h : xs = ys) : eqB xs ys = true := by simp [eqB, h]
theorem eqB_len {xs ys : List Int} (h : xs.length ≠ ys.length) : eqB xs ys = false := by
  simp only [eqB, decide_eq_false_iff_not]; intro e; exact h (by rw [e])
theorem ext_ix {xs ys : List Int} (h : xs.length = ys.length) (hx : ∀ j, j < xs.length → ix xs j = ix ys j) : xs = ys := by
  rw [← tab_self xs, ← tab_self ys, ← h]; exact tab_congr hx
theorem eqB_no {xs ys : List Int} (k : Nat) (h : ix xs k ≠ ix ys k) : eqB xs ys = false := by
  simp only [eqB, decide_eq_false_iff_not]; intro e; exact h (by rw [e])
/-- What a call leaves that hands back a bool and turns nothing that was there. -/
def Says (b : Bool) (w : World) (e : Ending) (w' : World) : Prop := e = .returned (.bool b) ∧ Below w.heap.size w w'

theorem bel_drewN {B : Nat} {a w : World} (h : Below B a w) (n : Nat) : Below B a (w.drewN n) := below_drewN h n

theorem ret_bool {a b : Bool} (h : a = b) : Ending.returned (.bool a) = .returned (.bool b) := by rw [h]
theorem ret_int {k : IntKind} {a b : Int} (h : a = b) : Ending.returned (.int k a) = .returned (.int k b) := by rw [h]

/-- The sum of the first k numbers of f. -/
def sumN (f : Nat → Int) : Nat → Int
  | 0 => 0
  | k + 1 => sumN f k + f k
theorem sumN_congr {f g : Nat → Int} {n : Nat} (h : ∀ j, j < n → f j = g j) : sumN f n = sumN g n := by
  induction n with
  | zero => rfl
  | succ n ih => rw [sumN, sumN, ih (fun j hj => h j (by omega)), h n (by omega)]
theorem w64_addL (a b : Int) : wrap64 (wrap64 a + b) = wrap64 (a + b) := by unfold wrap64; omega
theorem w64_addR (a b : Int) : wrap64 (a + wrap64 b) = wrap64 (a + b) := by unfold wrap64; omega
theorem w64_add (a b : Int) : wrap64 (wrap64 a + wrap64 b) = wrap64 (a + b) := by unfold wrap64; omega
theorem w64_sub (a b : Int) : wrap64 (wrap64 a - wrap64 b) = wrap64 (a - b) := by unfold wrap64; omega
theorem w64_subL (a b : Int) : wrap64 (wrap64 a - b) = wrap64 (a - b) := by unfold wrap64; omega
theorem w64_subR (a b : Int) : wrap64 (a - wrap64 b) = wrap64 (a - b) := by unfold wrap64; omega
theorem w64_w64 (a : Int) : wrap64 (wrap64 a) = wrap64 a := by unfold wrap64; omega
theorem w64_id {a : Int} (h : -9223372036854775808 ≤ a ∧ a ≤ 9223372036854775807) : wrap64 a = a := by unfold wrap64; omega

theorem grown_set {w wr : World} {g : Nat} (h : w.grownBy wr (some g)) (j : Nat) (u : Value) : w.grownBy (wr.setCell ⟨g, j, none⟩ u) (some g) :=
  ⟨h.os, h.tape, h.output, by simpa [World.setCell] using h.size, fun i hi hne => (Below.heap_setCell _ _ _ _ (by intro e; subst e; exact hne rfl)).trans (h.block i hi hne)⟩

theorem grown_drew {w wr : World} {r : Option Nat} (h : w.grownBy wr r) (n : Nat) : w.grownBy (wr.drewN n) r := by
  have hb : Below w.heap.size wr (wr.drewN n) := below_drewN (Below.refl _ _) n
  exact ⟨(below_drewN (Below.refl 0 wr) n).os.trans h.os, (below_drewN (Below.refl 0 wr) n).tape.trans h.tape, (below_drewN (Below.refl 0 wr) n).output.trans h.output, Nat.le_trans h.size hb.size, fun i hi hne => (hb.block i hi).trans (h.block i hi hne)⟩

theorem Own.kept {E B : Nat} {w w' : World} {v : Value} {xs : List Int} {r : Option Nat} (h : Own E B w v xs) (hg : w.grownBy w' r) (hne : v.ownBlock = none ∨ v.ownBlock ≠ r) : Own E B w' v xs :=
  World.ownsRow.kept h hg hne

theorem Rd.kept {w w' : World} {v : Value} {xs : List Int} {r : Option Nat} (h : Rd w v xs) (hg : w.grownBy w' r) (hne : v.ownBlock = none ∨ v.ownBlock ≠ r) : Rd w' v xs := by
  obtain ⟨a, cap, rfl, h⟩ := h
  refine ⟨a, cap, rfl, ?_⟩
  rcases h with rfl | ⟨b, off, rfl, hlt, hc⟩
  · exact .inl rfl
  · refine .inr ⟨b, off, rfl, Nat.lt_of_lt_of_le hlt hg.size, fun j hj => hg.cell (hc j hj) ?_⟩
    rcases hne with h | h
    · simp [Value.ownBlock] at h
    · simpa [Value.ownBlock] using h

/-- What markIntS leaves: the numbers K0, K0 + 1, .. -/
def Marked (E B : Nat) (w : World) (v : Value) (n : Nat) (K0 : Int) (e : Ending) (w' : World) : Prop :=
  e = .returned (.int .i64 (K0 + n)) ∧ Own E B w' v (tab n fun j => K0 + j) ∧ w.grownBy w' v.ownBlock

/-- What a call leaves that hands back an int and turns nothing that was there. -/
def Tells (z : Int) (w : World) (e : Ending) (w' : World) : Prop := e = .returned (.int .i64 z) ∧ Below w.heap.size w w'

theorem bel_next {B : Nat} {w w1 w2 : World} (h : Below B w w1) (k : Below w1.heap.size w1 w2) (hB : B ≤ w1.heap.size) : Below B w w2 := h.trans (k.mono hB)
theorem bel_nxt {w w1 w2 : World} (h : Below w.heap.size w w1) (k : Below w1.heap.size w1 w2) : Below w.heap.size w w2 := h.trans (k.mono h.size)

/-- Two slices, the second made behind the first, lie apart. -/
theorem Own.apart {E E' B : Nat} {w w' : World} {v v' : Value} {xs ys : List Int} (h : Own E B w v xs) (h' : Own E' w.heap.size w' v' ys) : (v.ownBlock = none ∨ v.ownBlock ≠ v'.ownBlock) ∧ (v'.ownBlock = none ∨ v'.ownBlock ≠ v.ownBlock) := by
  have l1 := World.ownsRow.lt h
  have l2 := World.ownsRow.lt h'
  cases h1 : v.ownBlock with
  | none => cases h2 : v'.ownBlock <;> simp
  | some k => cases h2 : v'.ownBlock with
    | none => simp
    | some j =>
      have a := l1 k h1
      have b := l2 j h2
      refine ⟨.inr ?_, .inr ?_⟩ <;> (intro e; injection e with e; omega)

/-- Behind a write into a slice of the call's own. -/
theorem bel_marked {E B : Nat} {w w1 w2 : World} {v : Value} {xs : List Int} (h : Below w.heap.size w w1) (o : Own E B w1 v xs) (g : w1.grownBy w2 v.ownBlock) (hB : w.heap.size ≤ B) : Below w.heap.size w w2 :=
  h.grown g h.size fun k hk => Nat.le_trans hB (World.ownsRow.lt o k hk).1

theorem isRow_rd {w : World} {a : Option Addr} {len cap : Nat} {zs : List Int} (h : (a = none ∧ len = 0 ∧ cap = 0 ∧ zs = []) ∨
    ∃ x, a = some x ∧ len ≤ cap ∧ cap ≤ maxLen ∧ zs.length = cap ∧ (∀ i, i < zs.length → w.cell? (x.add i) = some (.int .i64 (zs.getD i 0))) ∧ ∀ n ∈ zs, (Lit.int .i64 n).wf = true) :
    ∃ xs, Rd w (.slice a len cap) xs ∧ xs.length = len ∧ xs.length ≤ maxLen ∧ ∀ n ∈ xs, (Lit.int .i64 n).wf = true := by
  rcases h with ⟨rfl, rfl, rfl, rfl⟩ | ⟨x, rfl, h1, h2, h3, h4, h5⟩
  · exact ⟨[], Rd.nil w, rfl, Nat.zero_le _, by simp⟩
  · have hl : (zs.take len).length = len := by simp; omega
    refine ⟨zs.take len, ⟨some x, cap, by rw [hl], ?_⟩, hl, by omega, fun n hn => h5 n (List.mem_of_mem_take hn)⟩
    by_cases h0 : len = 0
    · left; subst h0; rfl
    · right
      obtain ⟨b, off, spot⟩ := x
      have hspot : spot = none := by simpa [Addr.add] using World.cell?_spot (h4 0 (by omega))
      subst hspot
      refine ⟨b, off, rfl, World.block_lt_of_cell? w ⟨b, off + 0, none⟩ (h4 0 (by omega)), fun j hj => ?_⟩
      rw [hl] at hj
      have := h4 j (by omega)
      rw [show (⟨b, off, none⟩ : Addr).add j = ⟨b, off + j, none⟩ by simp [Addr.add]] at this
      rw [this]
      simp [ix, List.getD, hj]

/-- What a call makes: a fresh slice of ints, as long as its room, at the head of its block. -/
def MadeAt (E : Nat) (w : World) (xs : List Int) (e : Ending) (w' : World) : Prop :=
  ∃ g, e = .returned (.slice (some ⟨g, 0, none⟩) xs.length xs.length) ∧ w.heap.size ≤ g ∧ Own E w.heap.size w' (.slice (some ⟨g, 0, none⟩) xs.length xs.length) xs ∧ Below w.heap.size w w'
theorem MadeAt.made {E : Nat} {w : World} {xs : List Int} {e : Ending} {w' : World} (h : MadeAt E w xs e w') : Made E w xs e w' := by
  obtain ⟨g, he, hg, ho, hb⟩ := h
  exact ⟨_, he, ho, hb⟩

theorem Own.heap {E B g n : Nat} {w : World} {xs : List Int} (h : Own E B w (.slice (some ⟨g, 0, none⟩) n n) xs) : w.heap[g]? = some (.cells (xs.map (Value.int .i64)).toArray E (0, 0)) := by
  rcases h.2 with ⟨h', _⟩ | ⟨g', cap', cur, h', _, hg, hnc, _, hcs, htake⟩
  · simp at h'
  · simp only [Value.slice.injEq, Option.some.injEq, Addr.mk.injEq, and_true] at h'
    obtain ⟨rfl, rfl, rfl⟩ := h'
    rw [hg, ← htake, List.take_of_length_le (by simp [hcs]), Array.toArray_toList]

theorem own_heap {E B g : Nat} {w : World} {xs : List Int} (h : w.heap[g]? = some (.cells (xs.map (Value.int .i64)).toArray E (0, 0))) (hB : B ≤ g) (hl : xs.length ≤ maxLen) :
    Own E B w (.slice (some ⟨g, 0, none⟩) xs.length xs.length) xs :=
  ⟨by simp, .inr ⟨g, xs.length, _, rfl, hB, h, Nat.le_refl _, hl, by simp, List.take_of_length_le (by simp)⟩⟩

theorem splice_all {α : Type} (L cs : List α) (h : L.length = cs.length) : splice L 0 cs = cs := by simp [splice, h]

theorem ints_cells {w : World} {b o : Nat} {xs : List Int} (hc : ∀ j, j < xs.length → w.cell? ⟨b, o + j, none⟩ = some (.int .i64 (ix xs j))) :
    ∀ j v, (xs.map (Value.int .i64))[j]? = some v → w.cell? ((⟨b, o, none⟩ : Addr).add j) = some v := by
  intro j v hj
  have hlt : j < xs.length := by
    have := (List.getElem?_eq_some_iff.1 hj).1
    simpa using this
  rw [getElem?_map_int xs j hlt] at hj
  rw [show (⟨b, o, none⟩ : Addr).add j = ⟨b, o + j, none⟩ by simp [Addr.add], hc j hlt, hj]

end Go.Proofs.YtagncoahobghpacGreatDoor
