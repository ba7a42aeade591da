/-
  Append of one int to a slice that the call owns, as one law for the walk. Nothing of a program is named here.
-/
import Derived.Test.YtagncoahobghpacBase
import Derived.Deep.RegionLaw
import Derived.Maps.AppendAt
import Derived.Maps.Range
namespace Go.Proofs.Ytagncoahobghpac
open Go.RowKit
set_option linter.unusedVariables false

/-- out = append(out, u): out owned, u in a new block of one cell. -/
theorem app_int {P : Program} {w : World} {ops : Array Oper} {rest : List Oper} {o : Oper} {a : Act} {Q : Exit → Act → World → Prop} (hgd : o.guard = none) (s x : Operand) (t : TypeId)
    (ho : o.op = .call { callee := .builtin .append, args := #[s, x], argTypes := #[t, t] })
    (B E : Nat) (ht : P.underlying t = some (.slice E)) (hinfo : (P.info? E).map (fun i => (i.zero, i.size, i.bytes)) = some (some (.int .i64 0), 1, 8))
    (v : Value) (xs : List Int) (hs : a.eval s = v) (hown : Own E B w v xs) (ad : Addr) (hx : a.eval x = .slice (some ad) 1 1) (u : Int) (hnew : w.cell? ad = some (.int .i64 u))
    (hlen : xs.length ≤ 16777216) (hbase : B ≤ w.heap.size)
    (h : ∀ v' w', Own E B w' v' (xs ++ [u]) → w.grownBy w' v.ownBlock → wpList P ops Q rest (a.put o.dst v') w') : wpList P ops Q (o :: rest) a w := by
  obtain ⟨i0, hi, hz0, hz1, hz2⟩ := info_parts hinfo
  refine wpList_append_own w hgd s x t ho B E i0 (.int .i64 0) 1 8 ht hi hz0 hz1 hz2 rfl (by decide) v xs.length _ hs hown ad 1 1 [.int .i64 u] hx rfl ?_ ?_ ?_ ?_ hbase ?_
  · intro j y hj
    match j, hj with
    | 0, hj =>
      simp at hj; subst hj
      rw [show ad.add 0 = ad by cases ad; simp [Addr.add]]; exact hnew
  · intro y hy; simp at hy; subst hy; rfl
  · unfold maxLen; omega
  · omega
  · intro v' w' h1 h2 _
    refine h v' w' ?_ h2
    unfold Own
    simpa using h1

theorem bounds_i64' {n : Int} (h : (Lit.int .i64 n).wf = true) : -9223372036854775808 ≤ n ∧ n ≤ 9223372036854775807 := by
  simp only [Lit.wf, Bool.and_eq_true, decide_eq_true_eq] at h
  exact ⟨h.1, h.2⟩

theorem ix_wf {xs : List Int} (h : ∀ n ∈ xs, (Lit.int .i64 n).wf = true) (j : Nat) : wrap64 (ix xs j) = ix xs j := by
  by_cases hj : j < xs.length
  · have : ix xs j ∈ xs := by simp [ix, List.getD, List.getElem?_eq_getElem hj]
    exact w64_id (bounds_i64' (h _ this))
  · simp [ix, List.getD, List.getElem?_eq_none (Nat.le_of_not_lt hj), wrap64]
theorem tab_wf {xs : List Int} (h : ∀ n ∈ xs, (Lit.int .i64 n).wf = true) : xs = tab xs.length fun j => wrap64 (ix xs j) :=
  eq_tab rfl fun j _ => (ix_wf h j).symm

/-- []int{}: owns nothing yet. -/
theorem own_empty (E B : Nat) (w : World) (hB : B ≤ w.heap.size) : Own E B (w.alloc (.cells #[] E)) (.slice (some ⟨w.heap.size, 0, none⟩) 0 0) [] :=
  World.ownsRow_made w #[] 0 hB (Nat.zero_le _) rfl

theorem Own.grow {E B : Nat} {w : World} {v : Value} {xs : List Int} (h : Own E B w v xs) (o : Obj) : Own E B (w.alloc o) v xs := World.ownsRow.alloc h o
theorem app_below {E : Nat} {w wr w1 : World} {v : Value} {xs : List Int} {o : Obj} (hB : Below w.heap.size w wr) (hO : Own E w.heap.size wr v xs) (hg : (wr.alloc o).grownBy w1 v.ownBlock) : Below w.heap.size w w1 :=
  (hB.alloc hB.size o).grown hg (by have := hB.size; simp; omega) fun k hk => (World.ownsRow.lt hO k hk).1
theorem cell_new1 (w : World) (u : Value) (E : Nat) : (w.alloc (.cells #[u] E)).cell? ⟨w.heap.size, 0, none⟩ = some u := by
  rw [World.cell?_alloc_at _ _ _ _ rfl]; rfl

theorem grown_alloc (w : World) (o : Obj) : w.grownBy (w.alloc o) none := World.grownBy_alloc w o none
theorem grown_alloc_drew (w : World) (o : Obj) : w.grownBy (w.alloc o).drew none :=
  ⟨rfl, rfl, rfl, by simp, fun k hk _ => Below.heap_alloc w o k hk⟩
theorem grown_thru {a b c : World} {r : Option Nat} (h : a.grownBy b none) (k : b.grownBy c r) : a.grownBy c r :=
  ⟨k.os.trans h.os, k.tape.trans h.tape, k.output.trans h.output, Nat.le_trans h.size k.size, fun i hi hne => (k.block i (Nat.lt_of_lt_of_le hi h.size) hne).trans (h.block i hi (by simp))⟩

/-- The same in a region that draws its order: w0 is the world before the region. -/
theorem step_app_int {P : Program} {ops : Array Oper} {o : Oper} {a : Act} {w : World} {K : Act → World → Prop} {Q : Exit → Act → World → Prop} {F : Prop} (w0 : World)
    (hgd : o.guard = none) (s x : Operand) (t : TypeId) (ho : o.op = .call { callee := .builtin .append, args := #[s, x], argTypes := #[t, t] })
    (B E : Nat) (ht : P.underlying t = some (.slice E)) (hinfo : (P.info? E).map (fun i => (i.zero, i.size, i.bytes)) = some (some (.int .i64 0), 1, 8))
    (v : Value) (xs : List Int) (hs : a.eval s = v) (hown0 : Own E B w0 v xs) (hg0 : w0.grownBy w none) (ad : Addr) (hx : a.eval x = .slice (some ad) 1 1) (u : Int) (hnew : w.cell? ad = some (.int .i64 u))
    (hlen : xs.length ≤ 16777216) (hbase : B ≤ w0.heap.size)
    (h : ∀ v' w', Own E B w' v' (xs ++ [u]) → w0.grownBy w' v.ownBlock → K (a.put o.dst v') w') : if Region.wanted o (yielded ops a.tmps) = true then Oper.wp P o a w K Q else F := by
  have hw : Region.wanted o (yielded ops a.tmps) = true := by simp [Region.wanted, hgd]
  rw [if_pos hw]
  have hown : Own E B w v xs := hown0.kept hg0 (by cases v.ownBlock <;> simp)
  obtain ⟨i0, hi, hz0, hz1, hz2⟩ := info_parts hinfo
  refine wp_append_own w s x t ho B E i0 (.int .i64 0) 1 8 ht hi hz0 hz1 hz2 rfl (by decide) v xs.length _ hs hown ad 1 1 [.int .i64 u] hx rfl ?_ ?_ ?_ ?_ (Nat.le_trans hbase hg0.size) ?_
  · intro j y hj
    match j, hj with
    | 0, hj =>
      simp at hj; subst hj
      rw [show ad.add 0 = ad by cases ad; simp [Addr.add]]; exact hnew
  · intro y hy; simp at hy; subst hy; rfl
  · unfold maxLen; omega
  · omega
  · intro v' w' h1 h2 _
    refine h v' w' ?_ (grown_thru hg0 h2)
    unfold Own
    simpa using h1

theorem app_below0 {E : Nat} {w wr w1 : World} {v : Value} {xs : List Int} (hB : Below w.heap.size w wr) (hO : Own E w.heap.size wr v xs) (hg : wr.grownBy w1 v.ownBlock) : Below w.heap.size w w1 :=
  hB.grown hg hB.size fun k hk => (World.ownsRow.lt hO k hk).1

end Go.Proofs.Ytagncoahobghpac
