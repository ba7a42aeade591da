/-
  one, rowOf and the rows that are drawn: some row of ints, each fitting its kind.
-/
import Derived.Test.YtagncoahobghpaaDoorDraw
namespace Go.Proofs.YtagncoahobghpaaDoor
open Go.RowKit
set_option linter.unusedVariables false

/-- What one leaves: a number of the list. -/
def One (T : Nat) (w : World) (R p : Nat) (xs : List Int) (e : Ending) (w' : World) : Prop :=
  ∃ k, k < xs.length ∧ e = .returned (.int .i64 (ix xs k)) ∧ Rdr T w' R (p + 1) ∧ w.grownBy w' (some R)

theorem one_any (R p : Nat) (v : Value) (xs : List Int) (w : World) (h : Rdr 42 w R p) (hp : p ≤ 1000) (hx : Rd w v xs) (h1 : 1 ≤ xs.length) (h2 : xs.length ≤ 100000) (hne : v.ownBlock ≠ some R) :
    Calls Tryd.prog 20 #[.pointer (some ⟨R, 0, none⟩), v] w (One 42 w R p xs) := by
  obtain ⟨a, cap, rfl, hr⟩ := hx
  rcases hr with rfl | ⟨b, off, rfl, hb, hc⟩
  · simp at h1
  have hbne : b ≠ R := by simpa [Value.ownBlock] using hne
  go_enter Tryd.func20, Tryd.ntmps20
  go_wp2_with fail
  refine (pick_any R p xs.length _ h hp h1 h2).mono ?_
  rintro e w1 ⟨k, rfl, hk, hR, hg⟩
  have hcx := hg.cell (hc k hk) (by simpa using hbne)
  have i1 : (k : Int) < (xs.length : Int) := by omega
  clear hc
  go_wp2
  go_ret
  exact ⟨k, hk, rfl, hR, hg⟩

/-- What a draw of a row leaves. -/
def Drawn (E T : Nat) (w : World) (R p0 : Nat) (e : Ending) (w' : World) : Prop :=
  ∃ v xs p', e = .returned v ∧ Own E w.heap.size w' v xs ∧ xs.length ≤ 64 ∧ (∀ x ∈ xs, (Lit.int .i64 x).wf = true) ∧ Rdr T w' R p' ∧ p' ≤ p0 + 100 ∧ w.grownBy w' (some R)

/-- A row on the way of being drawn. -/
def Row (E T : Nat) (w wr : World) (R : Nat) (v : Value) (k : Nat) (p : Nat) : Prop :=
  ∃ xs, Own E w.heap.size wr v xs ∧ xs.length = k ∧ (∀ x ∈ xs, (Lit.int .i64 x).wf = true) ∧ Rdr T wr R p ∧ w.grownBy wr (some R)

theorem Own.ne {E B R : Nat} {w : World} {v : Value} {xs : List Int} (h : Own E B w v xs) (hR : R < B) : v.ownBlock = none ∨ v.ownBlock ≠ some R := by
  cases hv : v.ownBlock with
  | none => exact .inl rfl
  | some k => right; intro e; injection e with e; have := (World.ownsRow.lt h k hv).1; omega

theorem Row.picked {E T R p k : Nat} {w wr w1 : World} {v : Value} (h : Row E T w wr R v k p) (hR : R < w.heap.size) (hr : Rdr T w1 R (p + 1)) (hg : wr.grownBy w1 (some R)) : Row E T w w1 R v k (p + 1) := by
  obtain ⟨xs, h1, h2, h3, h4, h5⟩ := h
  exact ⟨xs, h1.kept hg (h1.ne hR), h2, h3, hr, World.grownBy.trans h5 hg⟩
theorem Row.alloc {E T R p k : Nat} {w wr : World} {v : Value} (h : Row E T w wr R v k p) (o : Obj) : Row E T w (wr.alloc o) R v k p := by
  obtain ⟨xs, h1, h2, h3, h4, h5⟩ := h
  exact ⟨xs, h1.grow o, h2, h3, h4.kept (World.grownBy_alloc wr o none) (by simp), World.grownBy.trans h5 (World.grownBy_alloc wr o (some R))⟩
theorem Row.rdr {E T R p k : Nat} {w wr : World} {v : Value} (h : Row E T w wr R v k p) : Rdr T wr R p := by
  obtain ⟨xs, h1, h2, h3, h4, h5⟩ := h; exact h4
theorem Row.size {E T R p k : Nat} {w wr : World} {v : Value} (h : Row E T w wr R v k p) : w.heap.size ≤ wr.heap.size := by
  obtain ⟨xs, h1, h2, h3, h4, h5⟩ := h; exact h5.size
theorem Row.slice {E T R p k : Nat} {w wr : World} {v : Value} (h : Row E T w wr R v k p) : ∃ a cap, v = .slice a k cap := by
  obtain ⟨xs, h1, rfl, h3, h4, h5⟩ := h
  rcases h1.shape with ⟨rfl, rfl⟩ | ⟨g, cap, rfl, _⟩
  · exact ⟨none, 0, rfl⟩
  · exact ⟨_, _, rfl⟩
/-- Behind an append of what fits. -/
theorem Row.app {E T R p k m : Nat} {w wr w0 w1 : World} {v v' : Value} {xs ys : List Int} (h : Rdr T wr R p) (hR : R < w.heap.size) (hg0 : w.grownBy wr (some R)) (hO : Own E w.heap.size wr v xs) (hk : xs.length = k) (hx : ∀ x ∈ xs, (Lit.int .i64 x).wf = true)
    (hy : ∀ x ∈ ys, (Lit.int .i64 x).wf = true) (hm : ys.length = m) (hO' : Own E w.heap.size w1 v' (xs ++ ys)) (hg : w0.grownBy w1 v.ownBlock) (h0 : wr.grownBy w0 none) : Row E T w w1 R v' (k + m) p := by
  have hg1 := grown_thru h0 hg
  have hb : ∀ j, v.ownBlock = some j → w.heap.size ≤ j := fun j hj => (World.ownsRow.lt hO j hj).1
  refine ⟨xs ++ ys, hO', by simp [hk, hm], ?_, h.kept hg1 (fun j hj => by have := hb j hj; omega), World.grownBy.andThen hg0 hg1 (fun j hj => .inl (hb j hj))⟩
  intro x hxy
  rcases List.mem_append.1 hxy with h | h
  · exact hx x h
  · exact hy x h
theorem wf_small {x : Int} (h : -1000000 ≤ x ∧ x ≤ 1000000) : (Lit.int .i64 x).wf = true := WalkArith.wf_i64 (by omega)
theorem ix_range {xs : List Int} {lo hi : Int} (h : ∀ x ∈ xs, lo ≤ x ∧ x ≤ hi) {k : Nat} (hk : k < xs.length) : lo ≤ ix xs k ∧ ix xs k ≤ hi := by
  refine h _ ?_
  simp [ix, List.getD, List.getElem?_eq_getElem hk]

/-- A slice of numbers that are written out. -/
theorem own_lit (E B g : Nat) (w : World) (cs : Array Value) (xs : List Int) (n : Nat) (hg : w.heap.size = g) (hB : B ≤ g) (h : cs.toList = xs.map (Value.int .i64)) (hn : xs.length = n) (hl : n ≤ maxLen) :
    Own E B (w.alloc (.cells cs E)) (.slice (some ⟨g, 0, none⟩) n n) xs := by
  subst hg; subst hn
  have hs : cs.size = xs.length * 1 := by rw [← Array.length_toList, h]; simp
  have := World.ownsRow_lit (e := E) (base := B) w cs xs.length hB hl hs
  rw [h] at this
  exact this
theorem Row.drawn {E T R p k p0 : Nat} {w wr : World} {v : Value} (h : Row E T w wr R v k p) (hk : k ≤ 64) (hp : p ≤ p0 + 100) : Drawn E T w R p0 (.returned v) wr := by
  obtain ⟨xs, h1, h2, h3, h4, h5⟩ := h
  exact ⟨v, xs, p, rfl, h1, by omega, h3, h4, hp, h5⟩
theorem Row.set {E T R p k g cap j : Nat} {w wr : World} {u : Int} (h : Row E T w wr R (.slice (some ⟨g, 0, none⟩) k cap) k p) (hg : w.heap.size ≤ g) (hR : R < w.heap.size) (hu : (Lit.int .i64 u).wf = true) : Row E T w (wr.setCell ⟨g, j, none⟩ (.int .i64 u)) R (.slice (some ⟨g, 0, none⟩) k cap) k p := by
  obtain ⟨xs, h1, h2, h3, h4, h5⟩ := h
  have hgr := grown_set (World.grownBy.refl wr (some g)) j (.int .i64 u)
  refine ⟨_, h1.set j u, by simp [h2], ?_, h4.kept hgr (fun q hq => by injection hq with hq; omega), World.grownBy.andThen h5 hgr (fun q hq => by injection hq with hq; left; omega)⟩
  intro x hx
  rcases List.mem_or_eq_of_mem_set hx with h | h
  · exact h3 x h
  · rw [h]; exact hu
theorem Row.cell {E T R p k g cap j : Nat} {w wr : World} (h : Row E T w wr R (.slice (some ⟨g, 0, none⟩) k cap) k p) (hj : j < k) : (∃ u : Int, wr.cell? ⟨g, j, none⟩ = some (.int .i64 u)) ∧ wr.frozen? ⟨g, j, none⟩ = false := by
  obtain ⟨xs, h1, h2, h3, h4, h5⟩ := h
  exact ⟨⟨_, h1.cell j (by omega)⟩, h1.frozen j⟩
theorem Row.shape {E T R p k cap : Nat} {a : Option Addr} {w wr : World} (h : Row E T w wr R (.slice a k cap) k p) : k = 0 ∨ ∃ g, a = some ⟨g, 0, none⟩ ∧ w.heap.size ≤ g := by
  obtain ⟨xs, h1, h2, h3, h4, h5⟩ := h
  rcases h1.shape with ⟨h, rfl⟩ | ⟨g, c, h, hg, _⟩
  · left; simpa using h2.symm
  · right
    simp only [Value.slice.injEq] at h
    exact ⟨g, h.1, hg⟩
theorem tmod_bd {x d : Int} (h0 : 0 ≤ x) (hd : 1 ≤ d) : 0 ≤ x % d ∧ x % d < d := ⟨Int.emod_nonneg _ (by omega), Int.emod_lt_of_pos _ (by omega)⟩

end Go.Proofs.YtagncoahobghpaaDoor
