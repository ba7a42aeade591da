/-
  Append of one int, or of many, to a slice that the call owns, and where what is left lies; two owned slices that lie apart. Nothing of a program is named here.
-/
import Derived.Test.YtagncoahobghpacMany
namespace Go.Proofs.Ytagncoahobghpac
open Go.RowKit
set_option linter.unusedVariables false

/-- Two slices lie in two blocks. -/
def Apt (u v : Value) : Prop := ∀ k, u.ownBlock = some k → v.ownBlock ≠ some k
theorem Apt.symm {u v : Value} (h : Apt u v) : Apt v u := fun k hk hu => h k hu hk
theorem Apt.kept {u v : Value} (h : Apt u v) : u.ownBlock = none ∨ u.ownBlock ≠ v.ownBlock := by
  cases hu : u.ownBlock with
  | none => exact .inl rfl
  | some k => exact .inr fun e => h k hu e.symm
/-- v' is v grown, in the same block or in a new one. -/
theorem Apt.grown {E B : Nat} {w : World} {u v v' : Value} {xs : List Int} (h : Apt u v) (hu : Own E B w u xs) (hv : v'.ownBlock = v.ownBlock ∨ v'.ownBlock = some w.heap.size) : Apt u v' := by
  intro k hk e
  have hl := (World.ownsRow.lt hu k hk).2
  rcases hv with q | q
  · exact h k hk (q ▸ e)
  · rw [q] at e; injection e with e; omega

theorem app_int_at {P : Program} {w : World} {ops : Array Oper} {rest : List Oper} {o : Oper} {a : Act} {Q : Exit → Act → World → Prop} (hgd : o.guard = none) (s x : Operand) (t : TypeId)
    (ho : o.op = .call { callee := .builtin .append, args := #[s, x], argTypes := #[t, t] })
    (B E : Nat) (ht : P.underlying t = some (.slice E)) (hinfo : (P.info? E).map (fun i => (i.zero, i.size, i.bytes)) = some (some (.int .i64 0), 1, 8))
    (v : Value) (xs : List Int) (hs : a.eval s = v) (hown : Own E B w v xs) (ad : Addr) (hx : a.eval x = .slice (some ad) 1 1) (u : Int) (hnew : w.cell? ad = some (.int .i64 u))
    (hlen : xs.length ≤ 16777216) (hbase : B ≤ w.heap.size)
    (h : ∀ v' w', Own E B w' v' (xs ++ [u]) → w.grownBy w' v.ownBlock → (v'.ownBlock = v.ownBlock ∨ v'.ownBlock = some w.heap.size) → wpList P ops Q rest (a.put o.dst v') w') : wpList P ops Q (o :: rest) a w := by
  obtain ⟨i0, hi, hz0, hz1, hz2⟩ := info_parts hinfo
  refine wpList_append_own_at w hgd s x t ho B E i0 (.int .i64 0) 1 8 ht hi hz0 hz1 hz2 rfl (by decide) v xs.length _ hs hown ad 1 1 [.int .i64 u] hx rfl ?_ ?_ ?_ ?_ hbase ?_
  · intro j y hj
    match j, hj with
    | 0, hj =>
      simp at hj; subst hj
      rw [show ad.add 0 = ad by cases ad; simp [Addr.add]]; exact hnew
  · intro y hy; simp at hy; subst hy; rfl
  · unfold maxLen; omega
  · omega
  · intro v' w' h1 h2 _ h4
    refine h v' w' ?_ h2 h4
    unfold Own
    simpa using h1

/-- The same in a region that draws its order: w0 is the world before the region. -/
theorem step_app_int_at {P : Program} {ops : Array Oper} {o : Oper} {a : Act} {w : World} {K : Act → World → Prop} {Q : Exit → Act → World → Prop} {F : Prop} (w0 : World)
    (hgd : o.guard = none) (s x : Operand) (t : TypeId) (ho : o.op = .call { callee := .builtin .append, args := #[s, x], argTypes := #[t, t] })
    (B E : Nat) (ht : P.underlying t = some (.slice E)) (hinfo : (P.info? E).map (fun i => (i.zero, i.size, i.bytes)) = some (some (.int .i64 0), 1, 8))
    (v : Value) (xs : List Int) (hs : a.eval s = v) (hown0 : Own E B w0 v xs) (hg0 : w0.grownBy w none) (ad : Addr) (hx : a.eval x = .slice (some ad) 1 1) (u : Int) (hnew : w.cell? ad = some (.int .i64 u))
    (hlen : xs.length ≤ 16777216) (hbase : B ≤ w0.heap.size)
    (h : ∀ v' w', Own E B w' v' (xs ++ [u]) → w0.grownBy w' v.ownBlock → (v'.ownBlock = v.ownBlock ∨ ∃ g, v'.ownBlock = some g ∧ w0.heap.size ≤ g) → K (a.put o.dst v') w') : if Region.wanted o (yielded ops a.tmps) = true then Oper.wp P o a w K Q else F := by
  have hw : Region.wanted o (yielded ops a.tmps) = true := by simp [Region.wanted, hgd]
  rw [if_pos hw]
  have hown : Own E B w v xs := hown0.kept hg0 (by cases v.ownBlock <;> simp)
  obtain ⟨i0, hi, hz0, hz1, hz2⟩ := info_parts hinfo
  obtain ⟨v', w', hr, h2, h3, h4, h5⟩ := run_append_own_at (P := P) w B t o.type E i0 (.int .i64 0) 1 8 ht hi hz0 hz1 hz2 rfl (by decide) v xs.length _ hown ad 1 1 [.int .i64 u] (by simp) (by
    intro j y hj
    match j, hj with
    | 0, hj =>
      simp at hj; subst hj
      rw [show ad.add 0 = ad by cases ad; simp [Addr.add]]; exact hnew) (by intro y hy; simp at hy; subst hy; rfl) (by unfold maxLen; omega) (by omega) (Nat.le_trans hbase hg0.size)
  unfold Oper.wp execOp
  simp only [ho, resolve, invoke, builtin, Sem.run_bind, Sem.run_pure, Result.andThen_ok, List.map_toArray, List.map_cons, List.map_nil, hs, hx, hr]
  refine h v' w' ?_ (grown_thru hg0 h3) ?_
  · unfold Own
    simpa using h2
  · rcases h5 with q | q
    · exact .inl q
    · exact .inr ⟨_, q, hg0.size⟩
/-- Many ints, in a region that draws its order. -/
theorem step_app_many {P : Program} {ops : Array Oper} {o : Oper} {a : Act} {w : World} {K : Act → World → Prop} {Q : Exit → Act → World → Prop} {F : Prop}
    (hgd : o.guard = none) (s x : Operand) (t : TypeId) (ho : o.op = .call { callee := .builtin .append, args := #[s, x], argTypes := #[t, t] })
    (B E : Nat) (ht : P.underlying t = some (.slice E)) (hinfo : (P.info? E).map (fun i => (i.zero, i.size, i.bytes)) = some (some (.int .i64 0), 1, 8))
    (v : Value) (xs : List Int) (hs : a.eval s = v) (hown : Own E B w v xs) (u : Value) (ys : List Int) (hx : a.eval x = u) (hrd : Rd w u ys)
    (hlen : xs.length + ys.length ≤ 16777216) (hbase : B ≤ w.heap.size)
    (h : ∀ v' w', Own E B w' v' (xs ++ ys) → w.grownBy w' v.ownBlock → K (a.put o.dst v') w') : if Region.wanted o (yielded ops a.tmps) = true then Oper.wp P o a w K Q else F := by
  have hw : Region.wanted o (yielded ops a.tmps) = true := by simp [Region.wanted, hgd]
  rw [if_pos hw]
  obtain ⟨v', w', hrun, h1, h2⟩ := run_append_rd (P := P) B E t o.type ht hinfo v xs hown u ys hrd hlen hbase
  unfold Oper.wp
  simp [execOp, ho, resolve, invoke, builtin, hs, hx, hrun, Result.andThen]
  exact h v' w' h1 h2
theorem Apt.grown2 {E B : Nat} {w : World} {u v v' : Value} {xs : List Int} (h : Apt u v) (hu : Own E B w u xs) (hv : v'.ownBlock = v.ownBlock ∨ ∃ g, v'.ownBlock = some g ∧ w.heap.size ≤ g) : Apt u v' := by
  intro k hk e
  have hl := (World.ownsRow.lt hu k hk).2
  rcases hv with q | ⟨g, q, hg⟩
  · exact h k hk (q ▸ e)
  · rw [q] at e; injection e with e; omega

theorem own_slN {E B n : Nat} {w : World} {v : Value} {xs : List Int} (h : Own E B w v xs) (hn : xs.length = n) : ∃ a cap, v = .slice a n cap := by
  subst hn
  rcases h.shape with ⟨rfl, rfl⟩ | ⟨g, cap, rfl, _⟩
  · exact ⟨none, 0, rfl⟩
  · exact ⟨_, _, rfl⟩

/-- A piece of a slice that is read. -/
theorem Rd.drop {w : World} {b off n cap k : Nat} {xs : List Int} (h : Rd w (.slice (some ⟨b, off, none⟩) n cap) xs) (hk : k ≤ n) : Rd w (.slice (some ⟨b, off + k, none⟩) (n - k) (cap - k)) (xs.drop k) := by
  obtain ⟨a', cap', he, h⟩ := h
  simp only [Value.slice.injEq] at he
  obtain ⟨rfl, rfl, rfl⟩ := he
  have hl : (xs.drop k).length = xs.length - k := by simp
  refine ⟨_, cap - k, by rw [hl], ?_⟩
  rcases h with rfl | ⟨b', off', he, hlt, hc⟩
  · left; simp
  · simp only [Option.some.injEq, Addr.mk.injEq, and_true] at he
    obtain ⟨rfl, rfl⟩ := he
    refine .inr ⟨b, off + k, rfl, hlt, fun j hj => ?_⟩
    rw [hl] at hj
    have := hc (k + j) (by omega)
    rw [show off + k + j = off + (k + j) by omega, this]
    simp [ix, List.getD]

/-- 's[k:]' as the model has it: at its capacity it keeps the old address. -/
theorem rd_tail {w : World} {g n cap k : Nat} {xs : List Int} (h : Rd w (.slice (some ⟨g, 0, none⟩) n cap) xs) (hk : k ≤ n) (hc : n ≤ cap) : Rd w (.slice (if cap = k then some ⟨g, 0, none⟩ else some ⟨g, k, none⟩) (n - k) (cap - k)) (xs.drop k) := by
  by_cases e : cap = k
  · rw [if_pos e]
    have hn : n = xs.length := by
      obtain ⟨a', cap', he, _⟩ := h
      simp only [Value.slice.injEq] at he
      exact he.2.1
    have h0 : xs.drop k = [] := List.eq_nil_of_length_eq_zero (by rw [List.length_drop]; omega)
    rw [h0, show n - k = 0 by omega]
    exact ⟨_, _, rfl, .inl rfl⟩
  · rw [if_neg e]
    have := h.drop hk
    rw [Nat.zero_add] at this
    exact this

end Go.Proofs.Ytagncoahobghpac
