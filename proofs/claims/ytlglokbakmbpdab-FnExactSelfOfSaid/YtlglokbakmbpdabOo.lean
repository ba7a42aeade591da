/-
  A slice of ints in a block that a call owns, from whatever place on. No program is named here.
-/
import Derived.Test.YtlglokbakmbpdabMany
namespace Go.Proofs.Ytlglokbakmbpdab
open Go.RowKit
set_option linter.unusedVariables false

/-- Slice value v, of element type E, owns the ints xs, in a block from B on, from some place on. -/
def OwnO (E B : Nat) (w : World) (v : Value) (xs : List Int) : Prop :=
  (v = .slice none 0 0 ∧ xs = []) ∨ ∃ g off cap cur, v = .slice (some ⟨g, off, none⟩) xs.length cap ∧ B ≤ g ∧ w.heap[g]? = some (.cells cur E (0, 0)) ∧ ∀ j, j < xs.length → cur[off + j]? = some (.int .i64 (ix xs j))
theorem cell_of_heap {w : World} {g : Nat} {cur : Array Value} {E : TypeId} {fr : Nat × Nat} (h : w.heap[g]? = some (.cells cur E fr)) (j : Nat) : w.cell? ⟨g, j, none⟩ = cur[j]? := by
  simp [World.cell?, h]
theorem Own.oo {E B : Nat} {w : World} {v : Value} {xs : List Int} (h : Own E B w v xs) : OwnO E B w v xs := by
  rcases h.2 with ⟨rfl, e0⟩ | ⟨g, cap, cur, rfl, hb, hg, hn, hm, hs, ht⟩
  · exact .inl ⟨rfl, List.eq_nil_of_length_eq_zero e0⟩
  · refine .inr ⟨g, 0, cap, cur, rfl, hb, hg, fun j hj => ?_⟩
    have := Own.cell h j hj
    rw [cell_of_heap hg] at this
    rw [Nat.zero_add]; exact this
theorem OwnO.rd {E B : Nat} {w : World} {v : Value} {xs : List Int} (h : OwnO E B w v xs) : Rd w v xs := by
  rcases h with ⟨rfl, rfl⟩ | ⟨g, off, cap, cur, rfl, hb, hg, hc⟩
  · exact Rd.nil w
  · exact ⟨_, cap, rfl, .inr ⟨g, off, rfl, (Array.getElem?_eq_some_iff.1 hg).1, fun j hj => by rw [cell_of_heap hg]; exact hc j hj⟩⟩
theorem OwnO.below {E B B' : Nat} {w w' : World} {v : Value} {xs : List Int} (h : OwnO E B w v xs) (hb : Below B' w w') (hB : w.heap.size ≤ B') : OwnO E B w' v xs := by
  rcases h with h | ⟨g, off, cap, cur, rfl, hg, hh, hc⟩
  · exact .inl h
  · refine .inr ⟨g, off, cap, cur, rfl, hg, ?_, hc⟩
    rw [hb.block g (by have := (Array.getElem?_eq_some_iff.1 hh).1; omega)]; exact hh
theorem OwnO.mono {E B B' : Nat} {w : World} {v : Value} {xs : List Int} (h : OwnO E B w v xs) (hB : B' ≤ B) : OwnO E B' w v xs := by
  rcases h with h | ⟨g, off, cap, cur, rfl, hg, hh, hc⟩
  · exact .inl h
  · exact .inr ⟨g, off, cap, cur, rfl, by omega, hh, hc⟩
theorem OwnO.kept {E B : Nat} {w w' : World} {v : Value} {xs : List Int} {r : Option Nat} (h : OwnO E B w v xs) (hg : w.grownBy w' r) (hne : v.ownBlock = none ∨ v.ownBlock ≠ r) : OwnO E B w' v xs := by
  rcases h with h | ⟨g, off, cap, cur, rfl, hb, hh, hc⟩
  · exact .inl h
  · refine .inr ⟨g, off, cap, cur, rfl, hb, ?_, hc⟩
    rw [hg.block g (Array.getElem?_eq_some_iff.1 hh).1 (by rcases hne with h | h; · simp [Value.ownBlock] at h
                                                           · intro e; exact h (by simp [Value.ownBlock, e]))]
    exact hh
theorem OwnO.lt {E B : Nat} {w : World} {v : Value} {xs : List Int} (h : OwnO E B w v xs) (k : Nat) (hk : v.ownBlock = some k) : B ≤ k ∧ k < w.heap.size := by
  rcases h with ⟨rfl, _⟩ | ⟨g, off, cap, cur, rfl, hb, hh, _⟩
  · simp [Value.ownBlock] at hk
  · simp [Value.ownBlock] at hk
    subst hk
    exact ⟨hb, (Array.getElem?_eq_some_iff.1 hh).1⟩
theorem OwnO.apart {E E' B : Nat} {w w' : World} {v v' : Value} {xs ys : List Int} (h : OwnO E B w v xs) (h' : OwnO E' w.heap.size w' v' ys) : (v.ownBlock = none ∨ v.ownBlock ≠ v'.ownBlock) ∧ (v'.ownBlock = none ∨ v'.ownBlock ≠ v.ownBlock) := by
  cases e : v.ownBlock with
  | none => exact ⟨.inl rfl, by cases e' : v'.ownBlock with
    | none => exact .inl rfl
    | some k => exact .inr (by simp)⟩
  | some k =>
    cases e' : v'.ownBlock with
    | none => exact ⟨.inr (by simp), .inl rfl⟩
    | some k' =>
      have h1 := (h.lt k e).2
      have h2 := (h'.lt k' e').1
      exact ⟨.inr (by simp; omega), .inr (by simp; omega)⟩
theorem OwnO.drew {E B : Nat} {w : World} {v : Value} {xs : List Int} (h : OwnO E B w v xs) : OwnO E B w.drew v xs := h
/-- A store into it. -/
theorem OwnO.set {E B : Nat} {w : World} {g off n cap : Nat} {xs : List Int} (h : OwnO E B w (.slice (some ⟨g, off, none⟩) n cap) xs) (j : Nat) (u : Int) :
    OwnO E B (w.setCell ⟨g, off + j, none⟩ (.int .i64 u)) (.slice (some ⟨g, off, none⟩) n cap) (xs.set j u) := by
  rcases h with ⟨h, _⟩ | ⟨g', off', cap', cur, h, hb, hh, hc⟩
  · simp at h
  simp only [Value.slice.injEq, Option.some.injEq, Addr.mk.injEq] at h
  obtain ⟨⟨rfl, rfl, -⟩, rfl, rfl⟩ := h
  have hg := (Array.getElem?_eq_some_iff.1 hh).1
  refine .inr ⟨g, off, cap, cur.setIfInBounds (off + j) (.int .i64 u), by rw [List.length_set], hb, ?_, fun i hi => ?_⟩
  · simp [World.setCell, Array.getElem?_modify, hh]
  · rw [List.length_set] at hi
    by_cases e : i = j
    · subst e
      have hlt : off + i < cur.size := (Array.getElem?_eq_some_iff.1 (hc i hi)).1
      rw [Array.getElem?_setIfInBounds_self_of_lt hlt]
      unfold ix; simp [List.getD, hi]
    · rw [Array.getElem?_setIfInBounds_ne (by omega), hc i hi]
      have e' : ¬ j = i := fun h => e h.symm
      unfold ix; simp only [List.getD, List.getElem?_set, if_neg e']
theorem OwnO.cell {E B : Nat} {w : World} {g off n cap : Nat} {xs : List Int} (h : OwnO E B w (.slice (some ⟨g, off, none⟩) n cap) xs) (j : Nat) (hj : j < xs.length) : w.cell? ⟨g, off + j, none⟩ = some (.int .i64 (ix xs j)) := by
  rcases h with ⟨h, _⟩ | ⟨g', off', cap', cur, h, hb, hh, hc⟩
  · simp at h
  simp only [Value.slice.injEq, Option.some.injEq, Addr.mk.injEq] at h
  obtain ⟨⟨rfl, rfl, -⟩, rfl, rfl⟩ := h
  rw [cell_of_heap hh]; exact hc j hj
theorem OwnO.frozen {E B : Nat} {w : World} {g off n cap : Nat} {xs : List Int} (h : OwnO E B w (.slice (some ⟨g, off, none⟩) n cap) xs) (j : Nat) : w.frozen? ⟨g, j, none⟩ = false := by
  rcases h with ⟨h, _⟩ | ⟨g', off', cap', cur, h, hb, hh, hc⟩
  · simp at h
  simp only [Value.slice.injEq, Option.some.injEq, Addr.mk.injEq] at h
  obtain ⟨⟨rfl, rfl, -⟩, rfl, rfl⟩ := h
  simp [World.frozen?, hh]
/-- A part of what is owned, from place k on. -/
theorem Own.part {E B g n cap k : Nat} {w : World} {xs : List Int} (h : Own E B w (.slice (some ⟨g, 0, none⟩) n cap) xs) (hk : k ≤ n) (c : Nat) : OwnO E B w (.slice (some ⟨g, k, none⟩) (n - k) c) (xs.drop k) := by
  have hc := h.oo
  rcases hc with ⟨h', _⟩ | ⟨g', off', cap', cur, h', hb, hh, hc⟩
  · simp at h'
  simp only [Value.slice.injEq, Option.some.injEq, Addr.mk.injEq] at h'
  obtain ⟨⟨rfl, rfl, -⟩, rfl, rfl⟩ := h'
  refine .inr ⟨g, k, c, cur, by rw [List.length_drop], hb, hh, fun j hj => ?_⟩
  rw [List.length_drop] at hj
  have := hc (k + j) (by omega)
  rw [Nat.zero_add] at this
  rw [this]
  unfold ix; simp [List.getD]
theorem bel_markedO {E B : Nat} {w w1 w2 : World} {v : Value} {xs : List Int} (h : Below w.heap.size w w1) (o : OwnO E B w1 v xs) (g : w1.grownBy w2 v.ownBlock) (hB : w.heap.size ≤ B) : Below w.heap.size w w2 :=
  h.grown g h.size fun k hk => by have := (o.lt k hk).1; omega
end Go.Proofs.Ytlglokbakmbpdab
