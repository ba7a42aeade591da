/-
  newReader, the rows that are drawn, and each Draw function of one row.
-/
import Derived.Test.YtagncoahobghpaaDoorRowOf
namespace Go.Proofs.YtagncoahobghpaaDoor
open Go.RowKit
set_option linter.unusedVariables false

/-- What newReader leaves. -/
def Opened (T : Nat) (w : World) (e : Ending) (w' : World) : Prop := ∃ R, e = .returned (.pointer (some ⟨R, 0, none⟩)) ∧ Rdr T w' R 0 ∧ Below w.heap.size w w' ∧ w.heap.size ≤ R

theorem Rdr.fresh {T n cap : Nat} {a : Option Addr} {w : World} (h : RdB w (.slice a n cap) n) (m : Nat) (hm : m ≤ n) (hm2 : m ≤ 2000) (cc : Nat) : Rdr T (w.alloc (.cells #[.slice a m cc, .int .i64 0] T)) w.heap.size 0 := by
  obtain ⟨a', cap', he, h1, h2, h⟩ := h
  simp only [Value.slice.injEq, true_and] at he
  obtain ⟨rfl, rfl⟩ := he
  refine ⟨a, m, cc, heap_alloc_new w _, hm2, ?_⟩
  rcases h with h | ⟨b, off, rfl, hb, hc⟩
  · left; omega
  · refine .inr ⟨b, off, rfl, hb, fun j hj => ?_⟩
    obtain ⟨c, q1, q2⟩ := hc j (by omega)
    exact ⟨c, q1, (World.cell?_of_block (w := w) (Below.heap_alloc w _ b hb)).trans q2⟩

set_option maxHeartbeats 1000000 in
theorem newReader_any (v : Value) (n : Nat) (w : World) (h : RdB w v n) :
    Calls Tryd.prog 15 #[v] w (Opened 42 w) := by
  have h0 := h
  obtain ⟨a, cap, rfl, h1, h2, -⟩ := h0
  unfold maxLen at h2
  by_cases hbig : 2000 < n
  · have HR := Lib.hid (Rdr.fresh (T := 42) h 2000 (by omega) (Nat.le_refl _) cap)
    have i1 : (2000 : Int) ≤ (cap : Int) := by omega
    clear h
    go_enter Tryd.func15, Tryd.ntmps15
    go_wp2
    go_ret
    exact ⟨_, rfl, HR.out, (Below.refl _ _).alloc (Nat.le_refl _) _, Nat.le_refl _⟩
  · have HR := Lib.hid (Rdr.fresh (T := 42) h n (Nat.le_refl _) (by omega) cap)
    clear h
    go_enter Tryd.func15, Tryd.ntmps15
    go_wp2
    go_ret
    exact ⟨_, rfl, HR.out, (Below.refl _ _).alloc (Nat.le_refl _) _, Nat.le_refl _⟩

/-- What a Draw function of one row leaves: some row. -/
def DrewRow (E : Nat) (w : World) (e : Ending) (w' : World) : Prop := ∃ v xs, e = .returned v ∧ Own E w.heap.size w' v xs ∧ xs.length ≤ 64 ∧ (∀ x ∈ xs, (Lit.int .i64 x).wf = true) ∧ Below w.heap.size w w'
theorem drewRow_of {E T : Nat} {w w1 w2 : World} {R p : Nat} {e : Ending} (b : Below w.heap.size w w1) (hR : w.heap.size ≤ R) (h : Drawn E T w1 R p e w2) : DrewRow E w e w2 := by
  obtain ⟨v, xs, p', rfl, hO, hl, hw, hR2, hp', g⟩ := h
  exact ⟨v, xs, rfl, hO.mono b.size, hl, hw, b.grown g b.size (fun k hk => by injection hk with hk; omega)⟩

end Go.Proofs.YtagncoahobghpaaDoor
