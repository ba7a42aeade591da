/-
  A map of bools that a call owns, told by the keys that it has. Nothing of a program is named here.
-/
import Derived.Test.YtagncoahobghpaaBase
import Derived.Maps.OwnSet
import Derived.Maps.RangeWalk
import Derived.Carry
namespace Go.Proofs.Ytagncoahobghpaa
open Go.RowKit
open Go.Maps (Keyed)
set_option linter.unusedVariables false

/-- Block b is a map of at most n entries, all of them true; its keys are just those that M tells. -/
def Free (P : Program) (K E : TypeId) (w : World) (b n : Nat) (M : Int → Bool) : Prop :=
  ∃ D : DataW Unit, w.ownsMap P K (plainElem P E) b n D ∧ ∀ z : Int, (Lit.int .i64 z).wf = true → Maps.has D (.int .i64 z) = M z ∧ D.atKey (.int .i64 z) (.lit (.bool false)) = .lit (.bool (M z))
theorem Free.kept {P : Program} {K E : TypeId} {w w' : World} {b n : Nat} {M : Int → Bool} {row : Option Nat} (h : Free P K E w b n M) (hg : w.grownBy w' row) (hne : some b ≠ row) : Free P K E w' b n M := by
  obtain ⟨D, h1, h2⟩ := h
  exact ⟨D, h1.kept hg hne, h2⟩
theorem Free.lt {P : Program} {K E : TypeId} {w : World} {b n : Nat} {M : Int → Bool} (h : Free P K E w b n M) : b < w.heap.size := by
  obtain ⟨D, h1, _⟩ := h
  exact h1.lt
theorem Free.congr {P : Program} {K E : TypeId} {w : World} {b n : Nat} {M M' : Int → Bool} (h : Free P K E w b n M) (e : ∀ z, M z = M' z) : Free P K E w b n M' := by
  obtain ⟨D, h1, h2⟩ := h
  exact ⟨D, h1, fun z hz => by rw [← e z]; exact h2 z hz⟩
theorem Free.below {P : Program} {K E : TypeId} {w w' : World} {b n B : Nat} {M : Int → Bool} (h : Free P K E w b n M) (hb : Below B w w') (hB : w.heap.size ≤ B) : Free P K E w' b n M := by
  obtain ⟨D, h1, h2⟩ := h
  obtain ⟨es, clock, hh, r⟩ := h1
  have hl := (Array.getElem?_eq_some_iff.1 hh).1
  exact ⟨D, ⟨es, clock, by rw [hb.block b (by omega)]; exact hh, r⟩, h2⟩
theorem free_made (P : Program) (K E : TypeId) (w : World) : Free P K E (w.alloc (.map #[] 0)) w.heap.size 0 fun _ => false :=
  ⟨.map [], World.ownsMap_made w P K _, fun z _ => ⟨rfl, rfl⟩⟩
theorem isKey_int (z : Int) : WideAt.IsKeyLit (.int .i64 z) := trivial
theorem int_ne {y z : Int} (h : y ≠ z) : Lit.int .i64 y ≠ Lit.int .i64 z := fun e => h (by injection e)
theorem same_int (y z : Int) : (Lit.int .i64 y).sameKey (.int .i64 z) = (y == z) := by
  by_cases e : y = z
  · subst e; rw [WideAt.sameKey_self (isKey_int y)]; simp
  · rw [Maps.sameKey_ne (int_ne e)]; simp [e]

section
variable {P : Program} {K E : TypeId} (w : World) {ops : Array Oper} {rest : List Oper} {o : Oper} {a : Act} {Q : Exit → Act → World → Prop}

/-- m[z] = true. -/
theorem free_update (hg : o.guard = none) (m x v : Operand) (t : TypeId) (hop : o.op = Op.mapUpdate t m x v) (ht : P.underlying t = some (.map K E)) (hk : P.underlying K = some (.int .i64)) (he : P.underlying E = some .bool)
    (b n : Nat) (M : Int → Bool) (hm : a.eval m = .map (some b)) (h : Free P K E w b n M) (hn : n < maxLen) (z : Int) (hx : a.eval x = .int .i64 z) (hz : (Lit.int .i64 z).wf = true) (hv : a.eval v = .bool true)
    (hK : ∀ w', Free P K E w' b (n + 1) (fun y => M y || (y == z)) → w.grownBy w' (some b) → wpList P ops Q rest (a.put o.dst undef) w') : wpList P ops Q (o :: rest) a w := by
  obtain ⟨D, hD, hM⟩ := h
  refine wpList_mapUpdate_own w hg m x v t hop K E (Maps.int_keyed hk) ht _ b n D hm hD hn _ _ (.int .i64 z) hx hv (Maps.keyOf_int_mk hk hz) (.lit (.bool true)) [] (plainElem_bool he true) ?_
  intro w' h1 h2
  refine hK w' ⟨_, h1, fun y hy => ?_⟩ h2
  by_cases e : y = z
  · subst e
    rw [Maps.has_put_same hD.isMap (isKey_int y), Maps.atKey_put_same hD.isMap (isKey_int y)]; simp
  · rw [Maps.has_put_other (int_ne e), Maps.atKey_put_other (int_ne e)]
    have e2 : (y == z) = false := by simp [e]
    show _ = (M y || (y == z)) ∧ _ = DataW.lit (Lit.bool (M y || (y == z)))
    rw [e2, Bool.or_false]; exact hM y hy

/-- delete(m, z). -/
theorem free_delete (hg : o.guard = none) (m x : Operand) (t : TypeId) (hop : o.op = Op.call { callee := Callee.builtin Builtin.delete, args := #[m, x], argTypes := #[t, K] }) (ht : P.underlying t = some (.map K E)) (hk : P.underlying K = some (.int .i64))
    (b n : Nat) (M : Int → Bool) (hm : a.eval m = .map (some b)) (h : Free P K E w b n M) (z : Int) (hx : a.eval x = .int .i64 z) (hz : (Lit.int .i64 z).wf = true)
    (hK : ∀ w', Free P K E w' b n (fun y => M y && !(y == z)) → w.grownBy w' (some b) → wpList P ops Q rest (a.put o.dst (.tuple #[])) w') : wpList P ops Q (o :: rest) a w := by
  obtain ⟨D, hD, hM⟩ := h
  refine wpList_delete_own w hg m x t K hop E (Maps.int_keyed hk) ht _ b n D hm hD _ (.int .i64 z) hx (Maps.keyOf_int_mk hk hz) ?_
  intro w' h1 h2
  refine hK w' ⟨_, h1, fun y hy => ?_⟩ h2.grown
  by_cases e : y = z
  · subst e
    rw [Maps.has_del_same, Maps.atKey_del_same]; simp
  · rw [Maps.has_del_other (int_ne e), Maps.atKey_del_other (int_ne e)]
    have e2 : (y == z) = false := by simp [e]
    show _ = (M y && !(y == z)) ∧ _ = DataW.lit (Lit.bool (M y && !(y == z)))
    rw [e2]; simpa using hM y hy

theorem plainElem_bool_inv {H : Type} {P : Program} {e : TypeId} (he : P.underlying e = some .bool) {v : Value} {z : DataW H × List MemPlace} (h : plainElem P e v = some z) : ∃ c, v = .bool c ∧ z = (.lit (.bool c), []) := by
  unfold plainElem at h
  rw [he] at h
  cases v <;> simp at h
  subst h
  exact ⟨_, rfl, rfl⟩

/-- m[z]. -/
theorem free_lookup (hg : o.guard = none) (m x : Operand) (t : TypeId) (hop : o.op = Op.lookup t m x false) (ht : P.underlying t = some (.map K E)) (hk : P.underlying K = some (.int .i64)) (he : P.underlying E = some .bool) (hz0 : (zeroValue E).run P w = .ok (.bool false) w)
    (b n : Nat) (M : Int → Bool) (hm : a.eval m = .map (some b)) (h : Free P K E w b n M) (z : Int) (hx : a.eval x = .int .i64 z) (hz : (Lit.int .i64 z).wf = true)
    (hK : wpList P ops Q rest (a.put o.dst (.bool (M z))) w) : wpList P ops Q (o :: rest) a w := by
  obtain ⟨D, hD, hM⟩ := h
  obtain ⟨v, ps, hrun, hv⟩ := hD.lookup (Maps.int_keyed hk) ht hz0 (plainElem_bool he false) (Maps.keyOf_int_mk hk hz)
  obtain ⟨c, rfl, hc⟩ := plainElem_bool_inv he hv
  have e : c = M z := by
    have e1 := congrArg Prod.fst hc
    rw [(hM z hz).2] at e1
    simpa using e1.symm
  subst e
  refine wpList_plain hg fun K' hK' => ?_
  unfold Oper.wp
  simp [execOp, hop, hm, hx, hrun, Result.andThen]
  exact hK' _ _ hK

/-- Block r is a range over it; L tells the keys that are still to come, cnt how many they are. -/
def FreeR (P : Program) (K E : TypeId) (w : World) (b r n : Nat) (M L : Int → Bool) (cnt : Nat) : Prop :=
  ∃ (D : DataW Unit) (left : Lit → Bool), w.ranges P K (plainElem P E) b r n D left cnt ∧ (∀ z : Int, (Lit.int .i64 z).wf = true → Maps.has D (.int .i64 z) = M z) ∧ ∀ z : Int, (Lit.int .i64 z).wf = true → left (.int .i64 z) = L z
theorem FreeR.left_eq {P : Program} {K E : TypeId} {w : World} {b r n cnt : Nat} {M L : Int → Bool} (h : FreeR P K E w b r n M L cnt) : w.rangeLeft b r = cnt := by
  obtain ⟨D, left, h1, _⟩ := h
  exact h1.left_eq
theorem free_range (hg : o.guard = none) (m : Operand) (t : TypeId) (hop : o.op = Op.range t m) (ht : P.underlying t = some (.map K E)) (hk : P.underlying K = some (.int .i64)) (b n : Nat) (M : Int → Bool) (hm : a.eval m = .map (some b)) (h : Free P K E w b n M)
    (hK : ∀ w' cnt, FreeR P K E w' b w.heap.size n M M cnt → w.grownBy w' none → w'.heap.size = w.heap.size + 1 → wpList P ops Q rest (a.put o.dst (.pointer (some ⟨w.heap.size, 0, none⟩))) w') : wpList P ops Q (o :: rest) a w := by
  obtain ⟨D, hD, hM⟩ := h
  refine wpList_range_own w hg m t hop K E (Maps.int_keyed hk) ht _ b n D hm hD ?_
  intro w' h1 h2 h3
  exact hK w' _ ⟨D, _, h1, fun z hz => (hM z hz).1, fun z hz => (hM z hz).1⟩ h2 h3
theorem free_next (hg : o.guard = none) (it : Operand) (hop : o.op = Op.next it false) (hk : P.underlying K = some (.int .i64)) (he : P.underlying E = some .bool) (b r n : Nat) (M L : Int → Bool) (cnt : Nat) (hit : a.eval it = .pointer (some ⟨r, 0, none⟩)) (h : FreeR P K E w b r n M L cnt)
    (hDone : (∀ z : Int, (Lit.int .i64 z).wf = true → L z = false) → wpList P ops Q rest (a.put o.dst (.tuple #[.bool false])) w)
    (hMore : ∀ (x : Int) (v : Value) (w' : World) (cnt' : Nat), (Lit.int .i64 x).wf = true → L x = true → FreeR P K E w' b r n M (fun z => L z && !(z == x)) cnt' → cnt' < cnt → w.grownBy w' (some r) → w'.heap.size = w.heap.size →
      (Instr.entry (.pointer (some ⟨r, 0, none⟩))).run P w' = .ok (.tuple #[.int .i64 x, v]) w' → wpList P ops Q rest (a.put o.dst (.tuple #[.bool true, .int .i64 x, v])) w') : wpList P ops Q (o :: rest) a w := by
  obtain ⟨D, left, hR, hM, hL⟩ := h
  refine wpList_next_ranges w hg it hop K (Maps.int_keyed hk) (plainElem P E) (Value.int .i64) Value.bool (fun key kl hkey => by obtain ⟨x, rfl, _⟩ := Maps.keyOf_int_inv hk hkey; exact ⟨x, rfl⟩) (fun v y hv => by obtain ⟨c, rfl, _⟩ := plainElem_bool_inv he hv; exact ⟨c, rfl⟩)
    b r n D left cnt hit hR (fun h0 hl => hDone fun z hz => by rw [← hL z hz]; exact hl _) ?_
  intro x c kl y w' cnt' hkey hlk hv hat hrg hlt hgr hsz hen
  obtain ⟨x', ex, rfl, hwx⟩ := Maps.keyOf_int_inv hk hkey
  cases ex
  refine hMore x (.bool c) w' cnt' hwx (by rw [← hL x hwx]; exact hlk) ⟨D, _, hrg, hM, fun z hz => ?_⟩ hlt hgr hsz hen
  show (left (.int .i64 z) && !(Lit.int .i64 z).sameKey (.int .i64 x)) = _
  rw [hL z hz, same_int]
end
end Go.Proofs.Ytagncoahobghpaa
