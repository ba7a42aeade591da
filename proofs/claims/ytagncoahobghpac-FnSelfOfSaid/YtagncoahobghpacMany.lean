/-
  Append of many ints to a slice that the call owns, the source nil, empty or not. Nothing of a program is named here.
-/
import Derived.Test.YtagncoahobghpacApp
namespace Go.Proofs.Ytagncoahobghpac
open Go.RowKit
set_option linter.unusedVariables false

theorem run_append_none {P : Program} {w : World} {base : Nat} {size : Nat} (t ty e : TypeId) (i : TypeInfo) (ht : P.underlying t = some (.slice e)) (hi : P.info? e = some i) (c : Nat)
    (v : Value) (n : Nat) (xs : List Value) (hown : w.ownsRow base e size v n xs) :
    (Builtin.append_ #[t, t] ty #[v, .slice none 0 c]).run P w = .ok v w := by
  rcases hown.2 with ⟨rfl, rfl⟩ | ⟨g, cap, cur, rfl, _, _, hnc, _⟩
  · simp [Builtin.append_, run_underlying ht, sizeOf, typeInfo, hi, Builtin.lenOf, Builtin.firstCells]
  · simp [Builtin.append_, run_underlying ht, sizeOf, typeInfo, hi, Builtin.lenOf, Builtin.firstCells, hnc, storeCells]

theorem run_append_rd {P : Program} {w : World} (B E : Nat) (t ty : TypeId) (ht : P.underlying t = some (.slice E)) (hinfo : (P.info? E).map (fun i => (i.zero, i.size, i.bytes)) = some (some (.int .i64 0), 1, 8))
    (v : Value) (xs : List Int) (hown : Own E B w v xs) (u : Value) (ys : List Int) (hrd : Rd w u ys) (hlen : xs.length + ys.length ≤ 16777216) (hbase : B ≤ w.heap.size) :
    ∃ v' w', (Builtin.append_ #[t, t] ty #[v, u]).run P w = .ok v' w' ∧ Own E B w' v' (xs ++ ys) ∧ w.grownBy w' v.ownBlock := by
  obtain ⟨i0, hi, hz0, hz1, hz2⟩ := info_parts hinfo
  obtain ⟨ad, cap, rfl, h⟩ := hrd
  have key : ∀ A : Addr, ad = some A → (∀ j y, (ys.map (Value.int .i64))[j]? = some y → w.cell? (A.add j) = some y) →
      ∃ v' w', (Builtin.append_ #[t, t] ty #[v, .slice ad ys.length cap]).run P w = .ok v' w' ∧ Own E B w' v' (xs ++ ys) ∧ w.grownBy w' v.ownBlock := by
    intro A hA hc
    subst hA
    obtain ⟨v', w', hr, h1, h2, _⟩ := run_append_own (P := P) w B t ty E i0 (.int .i64 0) 1 8 ht hi hz0 hz1 hz2 rfl (by decide) v xs.length _ hown A ys.length cap (ys.map (Value.int .i64)) (by simp) hc (ints_oneCell _ _) (by unfold maxLen; omega) (by omega) hbase
    refine ⟨v', w', hr, ?_, h2⟩
    unfold Own
    rw [List.length_append, List.map_append]
    exact h1
  rcases h with rfl | ⟨b, off, rfl, hb, hc⟩
  · cases ad with
    | some A => exact key A rfl (by simp)
    | none =>
      exact ⟨v, w, run_append_none t ty E i0 ht hi cap v xs.length _ hown, by rw [List.append_nil]; exact hown, World.grownBy.refl _ _⟩
  · exact key _ rfl (ints_cells hc)

theorem app_many {P : Program} {w : World} {ops : Array Oper} {rest : List Oper} {o : Oper} {a : Act} {Q : Exit → Act → World → Prop} (hgd : o.guard = none) (s x : Operand) (t : TypeId)
    (ho : o.op = .call { callee := .builtin .append, args := #[s, x], argTypes := #[t, t] })
    (B E : Nat) (ht : P.underlying t = some (.slice E)) (hinfo : (P.info? E).map (fun i => (i.zero, i.size, i.bytes)) = some (some (.int .i64 0), 1, 8))
    (v : Value) (xs : List Int) (hs : a.eval s = v) (hown : Own E B w v xs) (u : Value) (ys : List Int) (hx : a.eval x = u) (hrd : Rd w u ys)
    (hlen : xs.length + ys.length ≤ 16777216) (hbase : B ≤ w.heap.size)
    (h : ∀ v' w', Own E B w' v' (xs ++ ys) → w.grownBy w' v.ownBlock → wpList P ops Q rest (a.put o.dst v') w') : wpList P ops Q (o :: rest) a w := by
  refine wpList_plain hgd fun K hK => ?_
  obtain ⟨v', w', hrun, h1, h2⟩ := run_append_rd (P := P) B E t o.type ht hinfo v xs hown u ys hrd hlen hbase
  unfold Oper.wp
  simp [execOp, ho, resolve, invoke, builtin, hs, hx, hrun, Result.andThen]
  exact hK _ _ (h v' w' h1 h2)

theorem Rd.alloc {w : World} {v : Value} {xs : List Int} (h : Rd w v xs) (o : Obj) : Rd (w.alloc o) v xs := h.below ((Below.refl w.heap.size w).alloc (Nat.le_refl _) o) (Nat.le_refl _)
end Go.Proofs.Ytagncoahobghpac
