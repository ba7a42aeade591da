/-
  newReader, the rows that are drawn, and each Draw function of one row.
-/
import Derived.Test.YtagncoahobghpacRowOf
namespace Go.Proofs.Ytagncoahobghpac
open Go.RowKit
set_option linter.unusedVariables false

/-- What newReader leaves. -/
def Opened (T : Nat) (w : World) (e : Ending) (w' : World) : Prop := ∃ R, e = .returned (.pointer (some ⟨R, 0, none⟩)) ∧ Rdr T w' R 0 ∧ Below w.heap.size w w' ∧ w.heap.size ≤ R

theorem Rdr.fresh {T n cap : Nat} {a : Option Addr} {w : World} (h : RdB w (.slice a n cap) n) (m : Nat) (hm : m ≤ n) (hm2 : m ≤ 2000) (cc : Nat) : Rdr T (w.alloc (.cells #[.slice a m cc, .int .i64 0] T)) w.heap.size 0 := by
  obtain ⟨a', cap', he, h1, h2, h⟩ := h
  simp only [Value.slice.injEq, true_and] at he
  obtain ⟨rfl, rfl⟩ := he
  refine ⟨a, m, cc, heap_alloc_new w _, hm2, ?_⟩
  rcases h with h | ⟨b, off, rfl, hb, hc⟩
  · left; omega
  · refine .inr ⟨b, off, rfl, hb, fun j hj => ?_⟩
    obtain ⟨c, q1, q2⟩ := hc j (by omega)
    exact ⟨c, q1, (World.cell?_of_block (w := w) (Below.heap_alloc w _ b hb)).trans q2⟩

set_option maxHeartbeats 1000000 in
theorem newReader_any (v : Value) (n : Nat) (w : World) (h : RdB w v n) :
    Calls Try.prog 22 #[v] w (Opened 56 w) := by
  have h0 := h
  obtain ⟨a, cap, rfl, h1, h2, -⟩ := h0
  unfold maxLen at h2
  by_cases hbig : 2000 < n
  · have HR := Lib.hid (Rdr.fresh (T := 56) h 2000 (by omega) (Nat.le_refl _) cap)
    have i1 : (2000 : Int) ≤ (cap : Int) := by omega
    clear h
    go_enter Try.func22, Try.ntmps22
    go_wp2
    go_ret
    exact ⟨_, rfl, HR.out, (Below.refl _ _).alloc (Nat.le_refl _) _, Nat.le_refl _⟩
  · have HR := Lib.hid (Rdr.fresh (T := 56) h n (Nat.le_refl _) (by omega) cap)
    clear h
    go_enter Try.func22, Try.ntmps22
    go_wp2
    go_ret
    exact ⟨_, rfl, HR.out, (Below.refl _ _).alloc (Nat.le_refl _) _, Nat.le_refl _⟩

theorem someRow_any (R p : Nat) (w : World) (h : Rdr 56 w R p) (hp : p ≤ 300) :
    Calls Try.prog 25 #[.pointer (some ⟨R, 0, none⟩)] w (Drawn 3 56 w R (p + 1)) := by
  have hR := h.lt
  go_enter Try.func25, Try.ntmps25
  go_wp2_with fail
  have hlit := own_lit 3 0 w.heap.size w #[.int .i64 4, .int .i64 6, .int .i64 5, .int .i64 8, .int .i64 3, .int .i64 2, .int .i64 1, .int .i64 0, .int .i64 12, .int .i64 16] [4, 6, 5, 8, 3, 2, 1, 0, 12, 16] 10 rfl (Nat.zero_le _) rfl rfl (by unfold maxLen; omega)
  have h1 := h.kept (World.grownBy_alloc w (.cells #[.int .i64 4, .int .i64 6, .int .i64 5, .int .i64 8, .int .i64 3, .int .i64 2, .int .i64 1, .int .i64 0, .int .i64 12, .int .i64 16] 3) none) (by simp)
  have hg0 := World.grownBy_alloc w (.cells #[.int .i64 4, .int .i64 6, .int .i64 5, .int .i64 8, .int .i64 3, .int .i64 2, .int .i64 1, .int .i64 0, .int .i64 12, .int .i64 16] 3) (some R)
  refine (one_any R p _ [4, 6, 5, 8, 3, 2, 1, 0, 12, 16] _ h1 (by omega) hlit.rd (by simp) (by simp) (by simp [Value.ownBlock]; omega)).mono ?_
  rintro e w1 ⟨k, hk, rfl, hR1, g1⟩
  have hZ := ix_range (lo := 0) (hi := 16) (by decide : ∀ x ∈ ([4, 6, 5, 8, 3, 2, 1, 0, 12, 16] : List Int), (0 : Int) ≤ x ∧ x ≤ 16) hk
  obtain ⟨m, hm⟩ : ∃ m : Nat, ix [4, 6, 5, 8, 3, 2, 1, 0, 12, 16] k = (m : Int) := ⟨(ix [4, 6, 5, 8, 3, 2, 1, 0, 12, 16] k).toNat, by omega⟩
  rw [hm] at hZ ⊢
  clear hm hlit h1 hk
  go_wp2_with fail
  refine (rowOf_any R (p + 1) m _ hR1 (by omega) (by omega)).mono ?_
  rintro e w2 ⟨v, xs, p', rfl, hO, hl, hw, hR2, hp', g2⟩
  go_wp2
  go_ret
  have hgg := World.grownBy.trans hg0 g1
  exact ⟨v, xs, p', rfl, hO.mono hgg.size, hl, hw, hR2, by omega, World.grownBy.trans hgg g2⟩

/-- What a Draw function of one row leaves: some row. -/
def DrewRow (E : Nat) (w : World) (e : Ending) (w' : World) : Prop := ∃ v xs, e = .returned v ∧ Own E w.heap.size w' v xs ∧ xs.length ≤ 64 ∧ (∀ x ∈ xs, (Lit.int .i64 x).wf = true) ∧ Below w.heap.size w w'
theorem drewRow_of {E T : Nat} {w w1 w2 : World} {R p : Nat} {e : Ending} (b : Below w.heap.size w w1) (hR : w.heap.size ≤ R) (h : Drawn E T w1 R p e w2) : DrewRow E w e w2 := by
  obtain ⟨v, xs, p', rfl, hO, hl, hw, hR2, hp', g⟩ := h
  exact ⟨v, xs, rfl, hO.mono b.size, hl, hw, b.grown g b.size (fun k hk => by injection hk with hk; omega)⟩

theorem drawSelfOf_any (v : Value) (n : Nat) (w : World) (h : RdB w v n) :
    Calls Try.prog 12 #[v] w (DrewRow 3 w) := by
  go_enter Try.func12, Try.ntmps12
  go_wp2_with fail
  refine (newReader_any v n _ h).mono ?_
  rintro e w1 ⟨R, rfl, hR, b1, hRs⟩
  go_wp2_with fail
  refine (someRow_any R 0 _ hR (by omega)).mono ?_
  rintro e w2 hd
  have hd := drewRow_of b1 hRs hd
  obtain ⟨u, xs, rfl, r⟩ := hd
  go_wp2
  go_ret
  exact ⟨u, xs, rfl, r⟩

end Go.Proofs.Ytagncoahobghpac
