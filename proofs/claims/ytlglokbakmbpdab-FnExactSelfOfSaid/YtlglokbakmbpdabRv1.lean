/-
  Uw: Words on rows of units (turned by program from the words on rows of ints). Nothing of a program is named here.
  Oo: A slice of ints in a block that a call owns, from whatever place on. No program is named here.
  RvI: slices.Clone and slices.Reverse at rows of ints, by their lone contracts (written by unitgen.py).
  RvU: slices.Clone and slices.Reverse at rows of units, by their lone contracts (written by unitgen.py).
  (Merged by merge.py.)
-/
import Derived.Test.YtlglokbakmbpdabMany
import Derived.Test.YtlglokbakmbpdabChecked
import Derived.Deep.RegionHeld3
namespace Go.Proofs.Ytlglokbakmbpdab
open Go.RowKit
set_option linter.unusedVariables false

/-- Slice value v reads, in world w, as the ints xs. -/
def RdU (w : World) (v : Value) (xs : List Int) : Prop :=
  ∃ a cap, v = .slice a xs.length cap ∧ (xs = [] ∨ ∃ b off, a = some ⟨b, off, none⟩ ∧ b < w.heap.size ∧ ∀ j, j < xs.length → w.cell? ⟨b, off + j, none⟩ = some (.int .i8 (ix xs j)))

/-- Slice value v, of element type E, owns the ints xs, in a block from B on. -/
def OwnU (E B : Nat) (w : World) (v : Value) (xs : List Int) : Prop :=
  w.ownsRow B E 1 v xs.length (xs.map (Value.int .i8))

theorem RdU.nil (w : World) : RdU w (.slice none 0 0) [] := ⟨none, 0, rfl, .inl rfl⟩

theorem RdU.below {w w' : World} {v : Value} {xs : List Int} {B : Nat} (h : RdU w v xs) (hb : Below B w w') (hB : w.heap.size ≤ B) : RdU w' v xs := by
  obtain ⟨a, cap, rfl, h⟩ := h
  refine ⟨a, cap, rfl, ?_⟩
  rcases h with rfl | ⟨b, off, rfl, hlt, hc⟩
  · exact .inl rfl
  · refine .inr ⟨b, off, rfl, by have := hb.size; omega, fun j hj => ?_⟩
    rw [hb.cell (p := ⟨b, off + j, none⟩) (by simp; omega)]
    exact hc j hj

theorem getElem?_map_intU (xs : List Int) (j : Nat) (h : j < xs.length) : (xs.map (Value.int .i8))[j]? = some (.int .i8 (ix xs j)) := by
  simp [List.getElem?_map, ix, List.getD, List.getElem?_eq_getElem h]

theorem OwnU.rd {E B : Nat} {w : World} {v : Value} {xs : List Int} (h : OwnU E B w v xs) : RdU w v xs := by
  rcases h.2 with ⟨rfl, e0⟩ | ⟨g, cap, cur, rfl, hb, hg, hn, hm, hs, ht⟩
  · have : xs = [] := List.eq_nil_of_length_eq_zero e0
    subst this; exact ⟨none, 0, rfl, .inl rfl⟩
  · refine ⟨_, cap, rfl, .inr ⟨g, 0, rfl, ?_, fun j hj => ?_⟩⟩
    · exact (Array.getElem?_eq_some_iff.1 hg).1
    · have := h.cellAt (g := g) (cap := cap) j (by simpa using hj)
      rw [Nat.zero_add, this, getElem?_map_intU xs j hj]

theorem OwnU.below {E B B' : Nat} {w w' : World} {v : Value} {xs : List Int} (h : OwnU E B w v xs) (hb : Below B' w w') (hB : w.heap.size ≤ B') : OwnU E B w' v xs := by
  obtain ⟨h1, h2⟩ := h
  refine ⟨h1, ?_⟩
  rcases h2 with h2 | ⟨g, cap, cur, rfl, hg, hh, r⟩
  · exact .inl h2
  · refine .inr ⟨g, cap, cur, rfl, hg, ?_, r⟩
    rw [hb.block g (by have := (Array.getElem?_eq_some_iff.1 hh).1; omega)]; exact hh

theorem OwnU.mono {E B B' : Nat} {w : World} {v : Value} {xs : List Int} (h : OwnU E B w v xs) (hB : B' ≤ B) : OwnU E B' w v xs := by
  obtain ⟨h1, h2⟩ := h
  refine ⟨h1, ?_⟩
  rcases h2 with h2 | ⟨g, cap, cur, rfl, hg, hh, r⟩
  · exact .inl h2
  · exact .inr ⟨g, cap, cur, rfl, by omega, hh, r⟩

/-- The form of an owned slice, empty or not. -/
theorem OwnU.shape {E B : Nat} {w : World} {v : Value} {xs : List Int} (h : OwnU E B w v xs) :
    (v = .slice none 0 0 ∧ xs = []) ∨ ∃ g cap, v = .slice (some ⟨g, 0, none⟩) xs.length cap ∧ B ≤ g ∧ g < w.heap.size := by
  rcases h.2 with ⟨h, h0⟩ | ⟨g, cap, cur, rfl, hb, hg, _⟩
  · exact .inl ⟨h, List.eq_nil_of_length_eq_zero h0⟩
  · exact .inr ⟨g, cap, rfl, hb, (Array.getElem?_eq_some_iff.1 hg).1⟩

theorem OwnU.cell {E B g n cap : Nat} {w : World} {xs : List Int} (h : OwnU E B w (.slice (some ⟨g, 0, none⟩) n cap) xs) (j : Nat) (hj : j < xs.length) :
    w.cell? ⟨g, j, none⟩ = some (.int .i8 (ix xs j)) := by
  have hn : n = xs.length := by
    rcases h.2 with ⟨h', _⟩ | ⟨g', cap', cur, h', _⟩
    · simp at h'
    · simp at h'; exact h'.2.1
  subst hn
  rw [World.ownsRow.cellAt (g := g) (cap := cap) h j (by simpa using hj), getElem?_map_intU xs j hj]

theorem OwnU.frozen {E B g n cap : Nat} {w : World} {xs : List Int} (h : OwnU E B w (.slice (some ⟨g, 0, none⟩) n cap) xs) (j : Nat) :
    w.frozen? ⟨g, j, none⟩ = false := by
  have hn : n = xs.length := by
    rcases h.2 with ⟨h', _⟩ | ⟨g', cap', cur, h', _⟩
    · simp at h'
    · simp at h'; exact h'.2.1
  subst hn
  exact World.ownsRow.frozenAt (g := g) (cap := cap) h j

theorem OwnU.set {E B g n cap : Nat} {w : World} {xs : List Int} (h : OwnU E B w (.slice (some ⟨g, 0, none⟩) n cap) xs) (j : Nat) (u : Int) :
    OwnU E B (w.setCell ⟨g, j, none⟩ (.int .i8 u)) (.slice (some ⟨g, 0, none⟩) n cap) (xs.set j u) := by
  have hn : n = xs.length := by
    rcases h.2 with ⟨h', _⟩ | ⟨g', cap', cur, h', _⟩
    · simp at h'
    · simp at h'; exact h'.2.1
  subst hn
  have := (World.ownsRow.stored (g := g) (cap := cap) h j (.int .i8 u)).1
  unfold OwnU
  rw [List.length_set, List.map_set]
  exact this

theorem OwnU.drew {E B : Nat} {w : World} {v : Value} {xs : List Int} (h : OwnU E B w v xs) : OwnU E B w.drew v xs := h

theorem OwnU.len {E B : Nat} {w : World} {v : Value} {xs : List Int} (h : OwnU E B w v xs) : xs.length ≤ maxLen := by
  rcases h.2 with ⟨_, h0⟩ | ⟨g, cap, cur, rfl, hb, hg, hn, hm, _⟩ <;> omega

theorem OwnU.nil (E B : Nat) (w : World) : OwnU E B w (.slice none 0 0) [] := World.ownsRow_nil _ _ _ _

/-- Behind make([]int, n). -/
theorem own_madeU {E B n : Nat} {w : World} {v : Value} (h : w.ownsRow B E 1 v n (madeCells #[Value.int .i8 0] n).toList) : OwnU E B w v (tab n fun _ => 0) := by
  rw [← tab_replicate]
  have e : (madeCells #[Value.int .i8 0] n).toList = (List.replicate n (0 : Int)).map (Value.int .i8) := by
    rw [toList_madeCells_one, List.map_replicate]
  rw [e] at h
  unfold OwnU
  rw [List.length_replicate]
  exact h

theorem OwnU.kept {E B : Nat} {w w' : World} {v : Value} {xs : List Int} {r : Option Nat} (h : OwnU E B w v xs) (hg : w.grownBy w' r) (hne : v.ownBlock = none ∨ v.ownBlock ≠ r) : OwnU E B w' v xs :=
  World.ownsRow.kept h hg hne

/-- Two slices, the second made behind the first, lie apart. -/
theorem OwnU.apart {E E' B : Nat} {w w' : World} {v v' : Value} {xs ys : List Int} (h : OwnU E B w v xs) (h' : OwnU E' w.heap.size w' v' ys) : (v.ownBlock = none ∨ v.ownBlock ≠ v'.ownBlock) ∧ (v'.ownBlock = none ∨ v'.ownBlock ≠ v.ownBlock) := by
  have l1 := World.ownsRow.lt h
  have l2 := World.ownsRow.lt h'
  cases h1 : v.ownBlock with
  | none => cases h2 : v'.ownBlock <;> simp
  | some k => cases h2 : v'.ownBlock with
    | none => simp
    | some j =>
      have a := l1 k h1
      have b := l2 j h2
      refine ⟨.inr ?_, .inr ?_⟩ <;> (intro e; injection e with e; omega)

theorem ints_cellsU {w : World} {b o : Nat} {xs : List Int} (hc : ∀ j, j < xs.length → w.cell? ⟨b, o + j, none⟩ = some (.int .i8 (ix xs j))) :
    ∀ j v, (xs.map (Value.int .i8))[j]? = some v → w.cell? ((⟨b, o, none⟩ : Addr).add j) = some v := by
  intro j v hj
  have hlt : j < xs.length := by
    have := (List.getElem?_eq_some_iff.1 hj).1
    simpa using this
  rw [getElem?_map_intU xs j hlt] at hj
  rw [show (⟨b, o, none⟩ : Addr).add j = ⟨b, o + j, none⟩ by simp [Addr.add], hc j hlt, hj]

/-- []int{}: owns nothing yet. -/
theorem own_emptyU (E B : Nat) (w : World) (hB : B ≤ w.heap.size) : OwnU E B (w.alloc (.cells #[] E)) (.slice (some ⟨w.heap.size, 0, none⟩) 0 0) [] :=
  World.ownsRow_made w #[] 0 hB (Nat.zero_le _) rfl

theorem run_append_rdU {P : Program} {w : World} (B E : Nat) (t ty : TypeId) (ht : P.underlying t = some (.slice E)) (hinfo : (P.info? E).map (fun i => (i.zero, i.size, i.bytes)) = some (some (.int .i8 0), 1, 1))
    (v : Value) (xs : List Int) (hown : OwnU E B w v xs) (u : Value) (ys : List Int) (hrd : RdU w u ys) (hlen : xs.length + ys.length ≤ 16777216) (hbase : B ≤ w.heap.size) :
    ∃ v' w', (Builtin.append_ #[t, t] ty #[v, u]).run P w = .ok v' w' ∧ OwnU E B w' v' (xs ++ ys) ∧ w.grownBy w' v.ownBlock := by
  obtain ⟨i0, hi, hz0, hz1, hz2⟩ := info_parts hinfo
  obtain ⟨ad, cap, rfl, h⟩ := hrd
  have key : ∀ A : Addr, ad = some A → (∀ j y, (ys.map (Value.int .i8))[j]? = some y → w.cell? (A.add j) = some y) →
      ∃ v' w', (Builtin.append_ #[t, t] ty #[v, .slice ad ys.length cap]).run P w = .ok v' w' ∧ OwnU E B w' v' (xs ++ ys) ∧ w.grownBy w' v.ownBlock := by
    intro A hA hc
    subst hA
    obtain ⟨v', w', hr, h1, h2, _⟩ := run_append_own (P := P) w B t ty E i0 (.int .i8 0) 1 1 ht hi hz0 hz1 hz2 rfl (by decide) v xs.length _ hown A ys.length cap (ys.map (Value.int .i8)) (by simp) hc (ints_oneCell _ _) (by unfold maxLen; omega) (by omega) hbase
    refine ⟨v', w', hr, ?_, h2⟩
    unfold OwnU
    rw [List.length_append, List.map_append]
    exact h1
  rcases h with rfl | ⟨b, off, rfl, hb, hc⟩
  · cases ad with
    | some A => exact key A rfl (by simp)
    | none =>
      exact ⟨v, w, run_append_none t ty E i0 ht hi cap v xs.length _ hown, by rw [List.append_nil]; exact hown, World.grownBy.refl _ _⟩
  · exact key _ rfl (ints_cellsU hc)

theorem app_manyU {P : Program} {w : World} {ops : Array Oper} {rest : List Oper} {o : Oper} {a : Act} {Q : Exit → Act → World → Prop} (hgd : o.guard = none) (s x : Operand) (t : TypeId)
    (ho : o.op = .call { callee := .builtin .append, args := #[s, x], argTypes := #[t, t] })
    (B E : Nat) (ht : P.underlying t = some (.slice E)) (hinfo : (P.info? E).map (fun i => (i.zero, i.size, i.bytes)) = some (some (.int .i8 0), 1, 1))
    (v : Value) (xs : List Int) (hs : a.eval s = v) (hown : OwnU E B w v xs) (u : Value) (ys : List Int) (hx : a.eval x = u) (hrd : RdU w u ys)
    (hlen : xs.length + ys.length ≤ 16777216) (hbase : B ≤ w.heap.size)
    (h : ∀ v' w', OwnU E B w' v' (xs ++ ys) → w.grownBy w' v.ownBlock → wpList P ops Q rest (a.put o.dst v') w') : wpList P ops Q (o :: rest) a w := by
  refine wpList_plain hgd fun K hK => ?_
  obtain ⟨v', w', hrun, h1, h2⟩ := run_append_rdU (P := P) B E t o.type ht hinfo v xs hown u ys hrd hlen hbase
  unfold Oper.wp
  simp [execOp, ho, resolve, invoke, builtin, hs, hx, hrun, Result.andThen]
  exact hK _ _ (h v' w' h1 h2)

theorem RdU.alloc {w : World} {v : Value} {xs : List Int} (h : RdU w v xs) (o : Obj) : RdU (w.alloc o) v xs := h.below ((Below.refl w.heap.size w).alloc (Nat.le_refl _) o) (Nat.le_refl _)

end Go.Proofs.Ytlglokbakmbpdab

namespace Go.Proofs.Ytlglokbakmbpdab
open Go.RowKit
set_option linter.unusedVariables false

/-- Slice value v, of element type E, owns the ints xs, in a block from B on, from some place on. -/
def OwnO (E B : Nat) (w : World) (v : Value) (xs : List Int) : Prop :=
  (v = .slice none 0 0 ∧ xs = []) ∨ ∃ g off cap cur, v = .slice (some ⟨g, off, none⟩) xs.length cap ∧ B ≤ g ∧ w.heap[g]? = some (.cells cur E (0, 0)) ∧ ∀ j, j < xs.length → cur[off + j]? = some (.int .i64 (ix xs j))
theorem cell_of_heap {w : World} {g : Nat} {cur : Array Value} {E : TypeId} {fr : Nat × Nat} (h : w.heap[g]? = some (.cells cur E fr)) (j : Nat) : w.cell? ⟨g, j, none⟩ = cur[j]? := by
  simp [World.cell?, h]
theorem Own.oo {E B : Nat} {w : World} {v : Value} {xs : List Int} (h : Own E B w v xs) : OwnO E B w v xs := by
  rcases h.2 with ⟨rfl, e0⟩ | ⟨g, cap, cur, rfl, hb, hg, hn, hm, hs, ht⟩
  · exact .inl ⟨rfl, List.eq_nil_of_length_eq_zero e0⟩
  · refine .inr ⟨g, 0, cap, cur, rfl, hb, hg, fun j hj => ?_⟩
    have := Own.cell h j hj
    rw [cell_of_heap hg] at this
    rw [Nat.zero_add]; exact this
theorem OwnO.rd {E B : Nat} {w : World} {v : Value} {xs : List Int} (h : OwnO E B w v xs) : Rd w v xs := by
  rcases h with ⟨rfl, rfl⟩ | ⟨g, off, cap, cur, rfl, hb, hg, hc⟩
  · exact Rd.nil w
  · exact ⟨_, cap, rfl, .inr ⟨g, off, rfl, (Array.getElem?_eq_some_iff.1 hg).1, fun j hj => by rw [cell_of_heap hg]; exact hc j hj⟩⟩
theorem OwnO.below {E B B' : Nat} {w w' : World} {v : Value} {xs : List Int} (h : OwnO E B w v xs) (hb : Below B' w w') (hB : w.heap.size ≤ B') : OwnO E B w' v xs := by
  rcases h with h | ⟨g, off, cap, cur, rfl, hg, hh, hc⟩
  · exact .inl h
  · refine .inr ⟨g, off, cap, cur, rfl, hg, ?_, hc⟩
    rw [hb.block g (by have := (Array.getElem?_eq_some_iff.1 hh).1; omega)]; exact hh
theorem OwnO.mono {E B B' : Nat} {w : World} {v : Value} {xs : List Int} (h : OwnO E B w v xs) (hB : B' ≤ B) : OwnO E B' w v xs := by
  rcases h with h | ⟨g, off, cap, cur, rfl, hg, hh, hc⟩
  · exact .inl h
  · exact .inr ⟨g, off, cap, cur, rfl, by omega, hh, hc⟩
theorem OwnO.kept {E B : Nat} {w w' : World} {v : Value} {xs : List Int} {r : Option Nat} (h : OwnO E B w v xs) (hg : w.grownBy w' r) (hne : v.ownBlock = none ∨ v.ownBlock ≠ r) : OwnO E B w' v xs := by
  rcases h with h | ⟨g, off, cap, cur, rfl, hb, hh, hc⟩
  · exact .inl h
  · refine .inr ⟨g, off, cap, cur, rfl, hb, ?_, hc⟩
    rw [hg.block g (Array.getElem?_eq_some_iff.1 hh).1 (by rcases hne with h | h; · simp [Value.ownBlock] at h
                                                           · intro e; exact h (by simp [Value.ownBlock, e]))]
    exact hh
theorem OwnO.lt {E B : Nat} {w : World} {v : Value} {xs : List Int} (h : OwnO E B w v xs) (k : Nat) (hk : v.ownBlock = some k) : B ≤ k ∧ k < w.heap.size := by
  rcases h with ⟨rfl, _⟩ | ⟨g, off, cap, cur, rfl, hb, hh, _⟩
  · simp [Value.ownBlock] at hk
  · simp [Value.ownBlock] at hk
    subst hk
    exact ⟨hb, (Array.getElem?_eq_some_iff.1 hh).1⟩
theorem OwnO.apart {E E' B : Nat} {w w' : World} {v v' : Value} {xs ys : List Int} (h : OwnO E B w v xs) (h' : OwnO E' w.heap.size w' v' ys) : (v.ownBlock = none ∨ v.ownBlock ≠ v'.ownBlock) ∧ (v'.ownBlock = none ∨ v'.ownBlock ≠ v.ownBlock) := by
  cases e : v.ownBlock with
  | none => exact ⟨.inl rfl, by cases e' : v'.ownBlock with
    | none => exact .inl rfl
    | some k => exact .inr (by simp)⟩
  | some k =>
    cases e' : v'.ownBlock with
    | none => exact ⟨.inr (by simp), .inl rfl⟩
    | some k' =>
      have h1 := (h.lt k e).2
      have h2 := (h'.lt k' e').1
      exact ⟨.inr (by simp; omega), .inr (by simp; omega)⟩
theorem OwnO.drew {E B : Nat} {w : World} {v : Value} {xs : List Int} (h : OwnO E B w v xs) : OwnO E B w.drew v xs := h
/-- A store into it. -/
theorem OwnO.set {E B : Nat} {w : World} {g off n cap : Nat} {xs : List Int} (h : OwnO E B w (.slice (some ⟨g, off, none⟩) n cap) xs) (j : Nat) (u : Int) :
    OwnO E B (w.setCell ⟨g, off + j, none⟩ (.int .i64 u)) (.slice (some ⟨g, off, none⟩) n cap) (xs.set j u) := by
  rcases h with ⟨h, _⟩ | ⟨g', off', cap', cur, h, hb, hh, hc⟩
  · simp at h
  simp only [Value.slice.injEq, Option.some.injEq, Addr.mk.injEq] at h
  obtain ⟨⟨rfl, rfl, -⟩, rfl, rfl⟩ := h
  have hg := (Array.getElem?_eq_some_iff.1 hh).1
  refine .inr ⟨g, off, cap, cur.setIfInBounds (off + j) (.int .i64 u), by rw [List.length_set], hb, ?_, fun i hi => ?_⟩
  · simp [World.setCell, Array.getElem?_modify, hh]
  · rw [List.length_set] at hi
    by_cases e : i = j
    · subst e
      have hlt : off + i < cur.size := (Array.getElem?_eq_some_iff.1 (hc i hi)).1
      rw [Array.getElem?_setIfInBounds_self_of_lt hlt]
      unfold ix; simp [List.getD, hi]
    · rw [Array.getElem?_setIfInBounds_ne (by omega), hc i hi]
      have e' : ¬ j = i := fun h => e h.symm
      unfold ix; simp only [List.getD, List.getElem?_set, if_neg e']
theorem OwnO.cell {E B : Nat} {w : World} {g off n cap : Nat} {xs : List Int} (h : OwnO E B w (.slice (some ⟨g, off, none⟩) n cap) xs) (j : Nat) (hj : j < xs.length) : w.cell? ⟨g, off + j, none⟩ = some (.int .i64 (ix xs j)) := by
  rcases h with ⟨h, _⟩ | ⟨g', off', cap', cur, h, hb, hh, hc⟩
  · simp at h
  simp only [Value.slice.injEq, Option.some.injEq, Addr.mk.injEq] at h
  obtain ⟨⟨rfl, rfl, -⟩, rfl, rfl⟩ := h
  rw [cell_of_heap hh]; exact hc j hj
theorem OwnO.frozen {E B : Nat} {w : World} {g off n cap : Nat} {xs : List Int} (h : OwnO E B w (.slice (some ⟨g, off, none⟩) n cap) xs) (j : Nat) : w.frozen? ⟨g, j, none⟩ = false := by
  rcases h with ⟨h, _⟩ | ⟨g', off', cap', cur, h, hb, hh, hc⟩
  · simp at h
  simp only [Value.slice.injEq, Option.some.injEq, Addr.mk.injEq] at h
  obtain ⟨⟨rfl, rfl, -⟩, rfl, rfl⟩ := h
  simp [World.frozen?, hh]
/-- A part of what is owned, from place k on. -/
theorem Own.part {E B g n cap k : Nat} {w : World} {xs : List Int} (h : Own E B w (.slice (some ⟨g, 0, none⟩) n cap) xs) (hk : k ≤ n) (c : Nat) : OwnO E B w (.slice (some ⟨g, k, none⟩) (n - k) c) (xs.drop k) := by
  have hc := h.oo
  rcases hc with ⟨h', _⟩ | ⟨g', off', cap', cur, h', hb, hh, hc⟩
  · simp at h'
  simp only [Value.slice.injEq, Option.some.injEq, Addr.mk.injEq] at h'
  obtain ⟨⟨rfl, rfl, -⟩, rfl, rfl⟩ := h'
  refine .inr ⟨g, k, c, cur, by rw [List.length_drop], hb, hh, fun j hj => ?_⟩
  rw [List.length_drop] at hj
  have := hc (k + j) (by omega)
  rw [Nat.zero_add] at this
  rw [this]
  unfold ix; simp [List.getD]
theorem bel_markedO {E B : Nat} {w w1 w2 : World} {v : Value} {xs : List Int} (h : Below w.heap.size w w1) (o : OwnO E B w1 v xs) (g : w1.grownBy w2 v.ownBlock) (hB : w.heap.size ≤ B) : Below w.heap.size w w2 :=
  h.grown g h.size fun k hk => by have := (o.lt k hk).1; omega
end Go.Proofs.Ytlglokbakmbpdab

namespace Go.Proofs.Ytlglokbakmbpdab
open Go.RowKit
set_option linter.unusedVariables false

theorem infoRv : (Try.prog.info? 3).map (fun i => (i.zero, i.size, i.bytes)) = some (some (.int .i64 0), 1, 8) := by kernel_rfl

set_option maxRecDepth 100000 in
set_option maxHeartbeats 1000000 in
theorem clone_any (v : Value) (xs : List Int) (w : World) (h : Rd w v xs) (hl : xs.length ≤ 1048576) :
    Calls Try.prog 52 #[v] w fun e w' => ∃ v', e = .returned v' ∧ Own 3 w.heap.size w' v' xs ∧ Below w.heap.size w w' := by
  have h0 := h
  obtain ⟨a, cap, rfl, h1⟩ := h
  cases a with
  | none =>
    have hx : xs = [] := by
      rcases h1 with h1 | ⟨b, off, e, _⟩
      · exact h1
      · cases e
    subst hx
    clear h0 h1
    have he : ∀ w : World, (binOp .eql 33 (.slice none 0 cap) (.slice none 0 0)).run Try.prog w = .ok (.bool true) w := fun _ => rfl
    go_enter Try.func52, Try.ntmps52
    go_wp2
    go_ret
    exact ⟨_, rfl, Own.nil _ _ _, Below.refl _ _⟩
  | some ad =>
    have HR := Lib.hid (h0.alloc (.cells #[] 3))
    obtain ⟨n, hn⟩ : ∃ n, n = xs.length := ⟨_, rfl⟩
    have HN := Lib.hid hn
    rw [← hn] at HR ⊢
    have he : ∀ w : World, (binOp .eql 33 (.slice (some ad) n cap) (.slice none 0 0)).run Try.prog w = .ok (.bool false) w := fun _ => rfl
    clear h0 h1 hn
    go_enter Try.func52, Try.ntmps52
    go_wp2_with (at_builtin; refine app_many rfl _ _ 33 rfl w.heap.size 3 Try.underlying33 infoRv _ _ rfl (own_empty _ _ _ (Nat.le_refl _)) _ xs rfl HR.out ?e1 ?e2 ?_)
    case e1 => have := HN.out; simp; omega
    case e2 => simp
    intro v' w1 hO hg
    have hB := ((Below.refl w.heap.size w).alloc (Nat.le_refl _) (.cells #[] 3)).grown hg (by simp) (by simp [Value.ownBlock])
    have HO := Lib.hid hO
    clear hO hg
    go_wp2
    go_ret
    exact ⟨_, rfl, HO.out, hB⟩

/-- The first k and the last k have changed places. -/
def rvF (F : Nat → Int) (n k p : Nat) : Int := if p < k ∨ n ≤ p + k then F (n - 1 - p) else F p
def revL (xs : List Int) : List Int := tab xs.length fun p => ix xs (xs.length - 1 - p)
def RvI (E B : Nat) (w wr : World) (g n cap k : Nat) (F : Nat → Int) : Prop := Own E B wr (.slice (some ⟨g, 0, none⟩) n cap) (tab n (rvF F n k)) ∧ w.grownBy wr (some g)
theorem rv_step {E B g n cap k : Nat} {w wr : World} {F : Nat → Int} (h : RvI E B w wr g n cap k F) (hk : k + (k + 1) < n) (j : Nat) (hj : j = n - 1 - k) :
    RvI E B w ((wr.setCell ⟨g, k, none⟩ (.int .i64 (F j))).setCell ⟨g, j, none⟩ (.int .i64 (F k))) g n cap (k + 1) F := by
  refine ⟨?_, grown_set (grown_set h.2 _ _) _ _⟩
  have h1 := (h.1.set k (F j)).set j (F k)
  rw [tab_set, tab_set, tab_congr (g := rvF F n (k + 1))] at h1
  · exact h1
  · intro p hp
    unfold rvF
    by_cases e1 : p = j
    · rw [if_pos e1, if_pos (by omega)]; congr 1; omega
    · rw [if_neg e1]
      by_cases e2 : p = k
      · rw [if_pos e2, if_pos (by omega)]; congr 1; omega
      · rw [if_neg e2]
        by_cases e3 : p < k ∨ n ≤ p + k
        · rw [if_pos e3, if_pos (by omega)]
        · rw [if_neg e3, if_neg (by omega)]
theorem rv_step2 {E B g n cap k : Nat} {w wr : World} {F : Nat → Int} (h : RvI E B w wr g n cap k F) (hk : k + (k + 1) < n) (j : Nat) (hj : j = n - 1 - k) :
    RvI E B w ((wr.setCell ⟨g, j, none⟩ (.int .i64 (F k))).setCell ⟨g, k, none⟩ (.int .i64 (F j))) g n cap (k + 1) F := by
  refine ⟨?_, grown_set (grown_set h.2 _ _) _ _⟩
  have h1 := (h.1.set j (F k)).set k (F j)
  rw [tab_set, tab_set, tab_congr (g := rvF F n (k + 1))] at h1
  · exact h1
  · intro p hp
    unfold rvF
    by_cases e2 : p = k
    · rw [if_pos e2, if_pos (by omega)]; congr 1; omega
    · rw [if_neg e2]
      by_cases e1 : p = j
      · rw [if_pos e1, if_pos (by omega)]; congr 1; omega
      · rw [if_neg e1]
        by_cases e3 : p < k ∨ n ≤ p + k
        · rw [if_pos e3, if_pos (by omega)]
        · rw [if_neg e3, if_neg (by omega)]
theorem RvI.drew {E B g n cap k : Nat} {w wr : World} {F : Nat → Int} (h : RvI E B w wr g n cap k F) : RvI E B w wr.drew g n cap k F :=
  ⟨h.1, ⟨h.2.os, h.2.tape, h.2.output, h.2.size, h.2.block⟩⟩
theorem rv_end (F : Nat → Int) (n k : Nat) (h : n ≤ k + (k + 1)) : tab n (rvF F n k) = tab n fun p => F (n - 1 - p) := tab_congr fun p hp => by
  unfold rvF
  by_cases e : p < k ∨ n ≤ p + k
  · rw [if_pos e]
  · rw [if_neg e]; congr 1; omega

set_option maxHeartbeats 4000000 in
theorem reverse_any (B g cap : Nat) (xs : List Int) (w : World) (h : Own 3 B w (.slice (some ⟨g, 0, none⟩) xs.length cap) xs) (hl : xs.length ≤ 1048576) :
    Calls Try.prog 53 #[.slice (some ⟨g, 0, none⟩) xs.length cap] w fun e w' => e = .returned (.tuple #[]) ∧ Own 3 B w' (.slice (some ⟨g, 0, none⟩) xs.length cap) (revL xs) ∧ w.grownBy w' (some g) := by
  obtain ⟨n, hn⟩ : ∃ n, n = xs.length := ⟨_, rfl⟩
  obtain ⟨F, hF⟩ : ∃ F, F = ix xs := ⟨_, rfl⟩
  have HZ := Lib.hid (show revL xs = tab n fun p => F (n - 1 - p) by rw [hF, hn]; rfl)
  have HI : RvI 3 B w w g n cap 0 F := by
    refine ⟨?_, World.grownBy.refl _ _⟩
    rw [tab_congr (g := F) (fun p hp => by unfold rvF; rw [if_neg (by omega)]), hF, hn, tab_self]
    exact h
  rw [← hn] at hl ⊢
  have i1 : IntKind.i64.wrap ((n : Int) - 1) = (n : Int) - 1 := IntWalk.i64_in _ (by omega)
  clear h hn hF
  go_enter Try.func53, Try.ntmps53
  go_wp2
  go_loopw [2, 3] (fun i j wr => ∃ k : Nat, (k = 0 ∨ k + k ≤ n) ∧ i = .int .i64 k ∧ j = .int .i64 ((n : Int) - 1 - k) ∧ RvI 3 B w wr g n cap k F) (fun i _ _ => n - (intOf i).toNat)
  case atStart => exact ⟨0, .inl rfl, rfl, by simp, HI⟩
  case round =>
    obtain ⟨k, hk, rfl, rfl, hI⟩ := hrel
    clear HI
    by_cases hlt : k + (k + 1) < n
    · obtain ⟨j, hj⟩ : ∃ j, j = n - 1 - k := ⟨_, rfl⟩
      have ej : (n : Int) - 1 - (k : Int) = (j : Int) := by omega
      rw [ej]
      have c1 := hI.1.cell k (by rw [len_tab]; omega)
      have c2 := hI.1.cell j (by rw [len_tab]; omega)
      rw [ix_tab _ _ _ (by omega)] at c1 c2
      rw [show rvF F n k k = F k by unfold rvF; rw [if_neg (by omega)]] at c1
      rw [show rvF F n k j = F j by unfold rvF; rw [if_neg (by omega)]] at c2
      have f1 := hI.1.frozen k
      have f2 := hI.1.frozen j
      have i2 : (k : Int) < (j : Int) := by omega
      have i3 : (k : Int) < (n : Int) := by omega
      have i4 : (j : Int) < (n : Int) := by omega
      have i5 : IntKind.i64.wrap ((j : Int) - 1) = (j : Int) - 1 := IntWalk.i64_in _ (by omega)
      have i6 : IntKind.i64.wrap ((k : Int) + 1) = (k : Int) + 1 := IntWalk.i64_in _ (by omega)
      have HS := Lib.hid (rv_step hI hlt j hj).drew
      have HS2 := Lib.hid (rv_step2 hI hlt j hj).drew
      have HE := Lib.hid (show (j : Int) - 1 = (n : Int) - 1 - ((k + 1 : Nat) : Int) by omega)
      generalize F k = x at c1 HS HS2
      generalize F j = y at c2 HS HS2
      clear hI hj ej
      go_wp2
      go_region
      all_goals go_wp2
      all_goals go_roundw
      all_goals try (exact ⟨k + 1, by omega, by go_num, by rw [← HE.out], by first | exact HS.out | exact HS2.out⟩)
      all_goals (simp [intOf]; omega)
    · have hO := hI.1
      rw [rv_end F n k (by omega), ← HZ.out] at hO
      have HO := Lib.hid hO
      have hg := hI.2
      have i2 : ¬ (k : Int) < (n : Int) - 1 - (k : Int) := by omega
      clear hI hO
      go_wp2
      go_end0
      exact ⟨rfl, HO.out, hg⟩

end Go.Proofs.Ytlglokbakmbpdab

namespace Go.Proofs.Ytlglokbakmbpdab
open Go.RowKit
set_option linter.unusedVariables false

theorem infoRvU : (Try.prog.info? 43).map (fun i => (i.zero, i.size, i.bytes)) = some (some (.int .i8 0), 1, 1) := by kernel_rfl

set_option maxRecDepth 100000 in
set_option maxHeartbeats 1000000 in
theorem cloneU_any (v : Value) (xs : List Int) (w : World) (h : RdU w v xs) (hl : xs.length ≤ 1048576) :
    Calls Try.prog 55 #[v] w fun e w' => ∃ v', e = .returned v' ∧ OwnU 43 w.heap.size w' v' xs ∧ Below w.heap.size w w' := by
  have h0 := h
  obtain ⟨a, cap, rfl, h1⟩ := h
  cases a with
  | none =>
    have hx : xs = [] := by
      rcases h1 with h1 | ⟨b, off, e, _⟩
      · exact h1
      · cases e
    subst hx
    clear h0 h1
    have he : ∀ w : World, (binOp .eql 40 (.slice none 0 cap) (.slice none 0 0)).run Try.prog w = .ok (.bool true) w := fun _ => rfl
    go_enter Try.func55, Try.ntmps55
    go_wp2
    go_ret
    exact ⟨_, rfl, OwnU.nil _ _ _, Below.refl _ _⟩
  | some ad =>
    have HR := Lib.hid (h0.alloc (.cells #[] 43))
    obtain ⟨n, hn⟩ : ∃ n, n = xs.length := ⟨_, rfl⟩
    have HN := Lib.hid hn
    rw [← hn] at HR ⊢
    have he : ∀ w : World, (binOp .eql 40 (.slice (some ad) n cap) (.slice none 0 0)).run Try.prog w = .ok (.bool false) w := fun _ => rfl
    clear h0 h1 hn
    go_enter Try.func55, Try.ntmps55
    go_wp2_with (at_builtin; refine app_manyU rfl _ _ 40 rfl w.heap.size 43 Try.underlying40 infoRvU _ _ rfl (own_emptyU _ _ _ (Nat.le_refl _)) _ xs rfl HR.out ?e1 ?e2 ?_)
    case e1 => have := HN.out; simp; omega
    case e2 => simp
    intro v' w1 hO hg
    have hB := ((Below.refl w.heap.size w).alloc (Nat.le_refl _) (.cells #[] 43)).grown hg (by simp) (by simp [Value.ownBlock])
    have HO := Lib.hid hO
    clear hO hg
    go_wp2
    go_ret
    exact ⟨_, rfl, HO.out, hB⟩

/-- The first k and the last k have changed places. -/
def rvFU (F : Nat → Int) (n k p : Nat) : Int := if p < k ∨ n ≤ p + k then F (n - 1 - p) else F p
def revLU (xs : List Int) : List Int := tab xs.length fun p => ix xs (xs.length - 1 - p)
def RvIU (E B : Nat) (w wr : World) (g n cap k : Nat) (F : Nat → Int) : Prop := OwnU E B wr (.slice (some ⟨g, 0, none⟩) n cap) (tab n (rvFU F n k)) ∧ w.grownBy wr (some g)
theorem rv_stepU {E B g n cap k : Nat} {w wr : World} {F : Nat → Int} (h : RvIU E B w wr g n cap k F) (hk : k + (k + 1) < n) (j : Nat) (hj : j = n - 1 - k) :
    RvIU E B w ((wr.setCell ⟨g, k, none⟩ (.int .i8 (F j))).setCell ⟨g, j, none⟩ (.int .i8 (F k))) g n cap (k + 1) F := by
  refine ⟨?_, grown_set (grown_set h.2 _ _) _ _⟩
  have h1 := (h.1.set k (F j)).set j (F k)
  rw [tab_set, tab_set, tab_congr (g := rvFU F n (k + 1))] at h1
  · exact h1
  · intro p hp
    unfold rvFU
    by_cases e1 : p = j
    · rw [if_pos e1, if_pos (by omega)]; congr 1; omega
    · rw [if_neg e1]
      by_cases e2 : p = k
      · rw [if_pos e2, if_pos (by omega)]; congr 1; omega
      · rw [if_neg e2]
        by_cases e3 : p < k ∨ n ≤ p + k
        · rw [if_pos e3, if_pos (by omega)]
        · rw [if_neg e3, if_neg (by omega)]
theorem rv_step2U {E B g n cap k : Nat} {w wr : World} {F : Nat → Int} (h : RvIU E B w wr g n cap k F) (hk : k + (k + 1) < n) (j : Nat) (hj : j = n - 1 - k) :
    RvIU E B w ((wr.setCell ⟨g, j, none⟩ (.int .i8 (F k))).setCell ⟨g, k, none⟩ (.int .i8 (F j))) g n cap (k + 1) F := by
  refine ⟨?_, grown_set (grown_set h.2 _ _) _ _⟩
  have h1 := (h.1.set j (F k)).set k (F j)
  rw [tab_set, tab_set, tab_congr (g := rvFU F n (k + 1))] at h1
  · exact h1
  · intro p hp
    unfold rvFU
    by_cases e2 : p = k
    · rw [if_pos e2, if_pos (by omega)]; congr 1; omega
    · rw [if_neg e2]
      by_cases e1 : p = j
      · rw [if_pos e1, if_pos (by omega)]; congr 1; omega
      · rw [if_neg e1]
        by_cases e3 : p < k ∨ n ≤ p + k
        · rw [if_pos e3, if_pos (by omega)]
        · rw [if_neg e3, if_neg (by omega)]
theorem RvIU.drew {E B g n cap k : Nat} {w wr : World} {F : Nat → Int} (h : RvIU E B w wr g n cap k F) : RvIU E B w wr.drew g n cap k F :=
  ⟨h.1, ⟨h.2.os, h.2.tape, h.2.output, h.2.size, h.2.block⟩⟩
theorem rv_endU (F : Nat → Int) (n k : Nat) (h : n ≤ k + (k + 1)) : tab n (rvFU F n k) = tab n fun p => F (n - 1 - p) := tab_congr fun p hp => by
  unfold rvFU
  by_cases e : p < k ∨ n ≤ p + k
  · rw [if_pos e]
  · rw [if_neg e]; congr 1; omega

set_option maxHeartbeats 4000000 in
theorem reverseU_any (B g cap : Nat) (xs : List Int) (w : World) (h : OwnU 43 B w (.slice (some ⟨g, 0, none⟩) xs.length cap) xs) (hl : xs.length ≤ 1048576) :
    Calls Try.prog 56 #[.slice (some ⟨g, 0, none⟩) xs.length cap] w fun e w' => e = .returned (.tuple #[]) ∧ OwnU 43 B w' (.slice (some ⟨g, 0, none⟩) xs.length cap) (revLU xs) ∧ w.grownBy w' (some g) := by
  obtain ⟨n, hn⟩ : ∃ n, n = xs.length := ⟨_, rfl⟩
  obtain ⟨F, hF⟩ : ∃ F, F = ix xs := ⟨_, rfl⟩
  have HZ := Lib.hid (show revLU xs = tab n fun p => F (n - 1 - p) by rw [hF, hn]; rfl)
  have HI : RvIU 43 B w w g n cap 0 F := by
    refine ⟨?_, World.grownBy.refl _ _⟩
    rw [tab_congr (g := F) (fun p hp => by unfold rvFU; rw [if_neg (by omega)]), hF, hn, tab_self]
    exact h
  rw [← hn] at hl ⊢
  have i1 : IntKind.i64.wrap ((n : Int) - 1) = (n : Int) - 1 := IntWalk.i64_in _ (by omega)
  clear h hn hF
  go_enter Try.func56, Try.ntmps56
  go_wp2
  go_loopw [2, 3] (fun i j wr => ∃ k : Nat, (k = 0 ∨ k + k ≤ n) ∧ i = .int .i64 k ∧ j = .int .i64 ((n : Int) - 1 - k) ∧ RvIU 43 B w wr g n cap k F) (fun i _ _ => n - (intOf i).toNat)
  case atStart => exact ⟨0, .inl rfl, rfl, by simp, HI⟩
  case round =>
    obtain ⟨k, hk, rfl, rfl, hI⟩ := hrel
    clear HI
    by_cases hlt : k + (k + 1) < n
    · obtain ⟨j, hj⟩ : ∃ j, j = n - 1 - k := ⟨_, rfl⟩
      have ej : (n : Int) - 1 - (k : Int) = (j : Int) := by omega
      rw [ej]
      have c1 := hI.1.cell k (by rw [len_tab]; omega)
      have c2 := hI.1.cell j (by rw [len_tab]; omega)
      rw [ix_tab _ _ _ (by omega)] at c1 c2
      rw [show rvFU F n k k = F k by unfold rvFU; rw [if_neg (by omega)]] at c1
      rw [show rvFU F n k j = F j by unfold rvFU; rw [if_neg (by omega)]] at c2
      have f1 := hI.1.frozen k
      have f2 := hI.1.frozen j
      have i2 : (k : Int) < (j : Int) := by omega
      have i3 : (k : Int) < (n : Int) := by omega
      have i4 : (j : Int) < (n : Int) := by omega
      have i5 : IntKind.i64.wrap ((j : Int) - 1) = (j : Int) - 1 := IntWalk.i64_in _ (by omega)
      have i6 : IntKind.i64.wrap ((k : Int) + 1) = (k : Int) + 1 := IntWalk.i64_in _ (by omega)
      have HS := Lib.hid (rv_stepU hI hlt j hj).drew
      have HS2 := Lib.hid (rv_step2U hI hlt j hj).drew
      have HE := Lib.hid (show (j : Int) - 1 = (n : Int) - 1 - ((k + 1 : Nat) : Int) by omega)
      generalize F k = x at c1 HS HS2
      generalize F j = y at c2 HS HS2
      clear hI hj ej
      go_wp2
      go_region
      all_goals go_wp2
      all_goals go_roundw
      all_goals try (exact ⟨k + 1, by omega, by go_num, by rw [← HE.out], by first | exact HS.out | exact HS2.out⟩)
      all_goals (simp [intOf]; omega)
    · have hO := hI.1
      rw [rv_endU F n k (by omega), ← HZ.out] at hO
      have HO := Lib.hid hO
      have hg := hI.2
      have i2 : ¬ (k : Int) < (n : Int) - 1 - (k : Int) := by omega
      clear hI hO
      go_wp2
      go_end0
      exact ⟨rfl, HO.out, hg⟩

end Go.Proofs.Ytlglokbakmbpdab
