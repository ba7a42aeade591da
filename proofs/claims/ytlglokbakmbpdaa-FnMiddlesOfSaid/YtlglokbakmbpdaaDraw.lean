/-
  The reader of drawn numbers: newReader, pick, one: what they hand back lies in its range.
-/
import Derived.Test.YtlglokbakmbpdaaInfo
import Derived.Test.YtlglokbakmbpdaaMany
namespace Go.Proofs.Ytlglokbakmbpdaa
open Go.RowKit
set_option linter.unusedVariables false

/-- Slice value v reads as n bytes. -/
def RdB (w : World) (v : Value) (n : Nat) : Prop :=
  ∃ a cap, v = .slice a n cap ∧ n ≤ cap ∧ cap ≤ maxLen ∧ (n = 0 ∨ ∃ b off, a = some ⟨b, off, none⟩ ∧ b < w.heap.size ∧ ∀ j, j < n → ∃ c : Nat, c ≤ 255 ∧ w.cell? ⟨b, off + j, none⟩ = some (.int .u8 c))

/-- Block R is a reader that stands at place p. T: the struct's type. -/
def Rdr (T : Nat) (w : World) (R : Nat) (p : Nat) : Prop :=
  ∃ cd n cc, w.heap[R]? = some (.cells #[.slice cd n cc, .int .i64 p] T (0, 0)) ∧ n ≤ 2000 ∧ (n = 0 ∨ ∃ b off, cd = some ⟨b, off, none⟩ ∧ b < R ∧ ∀ j, j < n → ∃ c : Nat, c ≤ 255 ∧ w.cell? ⟨b, off + j, none⟩ = some (.int .u8 c))

theorem two_cell0 {w : World} {b : Nat} {u v : Value} {t : TypeId} (h : w.heap[b]? = some (.cells #[u, v] t (0, 0))) : w.cell? ⟨b, 0, none⟩ = some u := by simp [World.cell?, h]
theorem two_cell1 {w : World} {b : Nat} {u v : Value} {t : TypeId} (h : w.heap[b]? = some (.cells #[u, v] t (0, 0))) : w.cell? ⟨b, 1, none⟩ = some v := by simp [World.cell?, h]
theorem two_free1 {w : World} {b : Nat} {u v : Value} {t : TypeId} (h : w.heap[b]? = some (.cells #[u, v] t (0, 0))) : w.frozen? ⟨b, 1, none⟩ = false := by simp [World.frozen?, h]
theorem two_set1 {w : World} {b : Nat} {u v x : Value} {t : TypeId} (h : w.heap[b]? = some (.cells #[u, v] t (0, 0))) : (w.setCell ⟨b, 1, none⟩ x).heap[b]? = some (.cells #[u, x] t (0, 0)) := by
  have hlt := (Array.getElem?_eq_some_iff.1 h).1
  have h' : w.heap[b] = .cells #[u, v] t (0, 0) := by simpa [Array.getElem?_eq_getElem hlt] using h
  show (w.heap.modify b _)[b]? = _
  rw [Array.getElem?_eq_getElem (by simpa using hlt), Array.getElem_modify_self, h']
  rfl

theorem Rdr.moved {T R p : Nat} {w : World} (h : Rdr T w R p) : Rdr T (w.setCell ⟨R, 1, none⟩ (.int .i64 ((p : Int) + 1))) R (p + 1) := by
  obtain ⟨cd, n, cc, hh, hn, h⟩ := h
  refine ⟨cd, n, cc, two_set1 hh, hn, ?_⟩
  rcases h with h | ⟨b, off, rfl, hb, hc⟩
  · exact .inl h
  · refine .inr ⟨b, off, rfl, hb, fun j hj => ?_⟩
    obtain ⟨c, h1, h2⟩ := hc j hj
    refine ⟨c, h1, ?_⟩
    rw [World.cell?_of_block (w := w) (Below.heap_setCell _ _ _ _ (by show b ≠ R; omega))]
    exact h2
theorem Rdr.kept {T R p : Nat} {w w' : World} {r : Option Nat} (h : Rdr T w R p) (hg : w.grownBy w' r) (hr : ∀ k, r = some k → R < k) : Rdr T w' R p := by
  obtain ⟨cd, n, cc, hh, hn, h⟩ := h
  have hR := (Array.getElem?_eq_some_iff.1 hh).1
  refine ⟨cd, n, cc, (hg.block R hR (fun e => by have := hr R e.symm; omega)).trans hh, hn, ?_⟩
  rcases h with h | ⟨b, off, rfl, hb, hc⟩
  · exact .inl h
  · refine .inr ⟨b, off, rfl, hb, fun j hj => ?_⟩
    obtain ⟨c, h1, h2⟩ := hc j hj
    exact ⟨c, h1, hg.cell h2 (fun e => by have := hr b e.symm; omega)⟩
theorem Rdr.drewN {T R p : Nat} {w : World} (h : Rdr T w R p) (n : Nat) : Rdr T (w.drewN n) R p := h.kept (grown_drew (World.grownBy.refl w none) n) (by simp)
theorem Rdr.lt {T R p : Nat} {w : World} (h : Rdr T w R p) : R < w.heap.size := by
  obtain ⟨cd, n, cc, hh, _⟩ := h
  exact (Array.getElem?_eq_some_iff.1 hh).1

/-- What pick leaves: a number from 0 up to less than m; the reader one place on; nothing else is turned. -/
def Picked (T : Nat) (w : World) (R p m : Nat) (e : Ending) (w' : World) : Prop :=
  ∃ x : Nat, e = .returned (.int .i64 x) ∧ x < m ∧ Rdr T w' R (p + 1) ∧ w.grownBy w' (some R)

theorem i64_xor_nat (a b : Nat) (ha : a < 9223372036854775808) (hb : b < 9223372036854775808) : bits .xor .i64 (a : Int) (b : Int) = ((a ^^^ b : Nat) : Int) := by
  have hx : a ^^^ b < 2 ^ 63 := Nat.xor_lt_two_pow (by omega) (by omega)
  show IntKind.i64.wrap ((BitVec.ofInt 64 (a : Int) ^^^ BitVec.ofInt 64 (b : Int)).toNat : Int) = _
  rw [BitVec.toNat_xor, ofInt_i64 a ha, ofInt_i64 b hb, IntKind.wrap_i64]
  omega

set_option maxHeartbeats 1000000 in
theorem pick_any (R p m : Nat) (w : World) (h : Rdr 63 w R p) (hp : p ≤ 5000) (hm1 : 1 ≤ m) (hm2 : m ≤ 100000) :
    Calls Try.prog 64 #[.pointer (some ⟨R, 0, none⟩), .int .i64 m] w (Picked 63 w R p m) := by
  have hmv := h.moved
  have hgv := grown_set (World.grownBy.refl w (some R)) 1 (.int .i64 ((p : Int) + 1))
  obtain ⟨cd, n, cc, hh, hn, hc⟩ := h
  have c0 := two_cell0 hh
  have c1 := two_cell1 hh
  have f1 := two_free1 hh
  have e1 : ((m : Int) < 1) = False := by simp; omega
  have HV := Lib.hid hmv
  have HG := Lib.hid hgv
  clear hh hmv hgv
  rcases hc with rfl | ⟨b, off, rfl, hb, hc⟩
  · go_enter Try.func64, Try.ntmps64
    go_wp2
    go_ret
    exact ⟨0, rfl, by omega, HV.out, HG.out⟩
  · by_cases hn0 : n = 0
    · subst hn0
      clear hc
      go_enter Try.func64, Try.ntmps64
      go_wp2
      go_ret
      exact ⟨0, rfl, by omega, HV.out, HG.out⟩
    have hbne : b ≠ R := by omega
    have hn1 : ((n : Int) == 0) = false := by simp; omega
    by_cases hlt : p < n
    · obtain ⟨c, hc1, hc2⟩ := hc p hlt
      have hmod : Hid ((c : Int) % (m : Int) = ((c % m : Nat) : Int)) := (Int.natCast_emod c m).symm
      clear hc
      go_enter Try.func64, Try.ntmps64
      go_wp2
      go_ret
      exact ⟨c % m, ret_int hmod.out, Nat.mod_lt _ (by omega), HV.out, HG.out⟩
    · obtain ⟨i1, hi1⟩ : ∃ i, i = p % n := ⟨_, rfl⟩
      obtain ⟨i2, hi2⟩ : ∃ i, i = (p * 7 + 3) % n := ⟨_, rfl⟩
      obtain ⟨q, hq⟩ : ∃ q, q = p / n := ⟨_, rfl⟩
      have hl1 : i1 < n := by rw [hi1]; exact Nat.mod_lt _ (by omega)
      have hl2 : i2 < n := by rw [hi2]; exact Nat.mod_lt _ (by omega)
      have hqp : q ≤ p := by rw [hq]; exact Nat.div_le_self _ _
      have m1 : (p : Int).tmod (n : Int) = (i1 : Int) := by rw [Int.tmod_eq_emod_of_nonneg (by omega), hi1, Int.natCast_emod]
      have m2 : ((p : Int) * 7 + 3).tmod (n : Int) = (i2 : Int) := by rw [Int.tmod_eq_emod_of_nonneg (by omega), hi2, Int.natCast_emod]; rfl
      have m3 : (p : Int).tdiv (n : Int) = (q : Int) := by rw [Int.tdiv_eq_ediv_of_nonneg (by omega), hq, Int.natCast_ediv]
      obtain ⟨b1, hb1, hd1⟩ := hc i1 hl1
      obtain ⟨b2, hb2, hd2⟩ := hc i2 hl2
      have v1 : IntKind.i64.wrap ((p : Int) * 7) = (p : Int) * 7 := IntWalk.i64_in _ (by omega)
      have v2 : IntKind.i64.wrap ((p : Int) * 7 + 3) = (p : Int) * 7 + 3 := IntWalk.i64_in _ (by omega)
      have v3 : IntKind.i64.wrap (q : Int) = (q : Int) := IntWalk.i64_in _ (by omega)
      have v4 : IntKind.i64.wrap (b1 : Int) = (b1 : Int) := IntWalk.i64_in _ (by omega)
      have v5 : IntKind.i64.wrap (b2 : Int) = (b2 : Int) := IntWalk.i64_in _ (by omega)
      have v6 : IntKind.i64.wrap ((b1 : Int) * 131) = (b1 : Int) * 131 := IntWalk.i64_in _ (by omega)
      have v7 : IntKind.i64.wrap ((b2 : Int) * 1117) = (b2 : Int) * 1117 := IntWalk.i64_in _ (by omega)
      have v8 : IntKind.i64.wrap ((b1 : Int) * 131 + (b2 : Int) * 1117) = (b1 : Int) * 131 + (b2 : Int) * 1117 := IntWalk.i64_in _ (by omega)
      have v9 : IntKind.i64.wrap ((p : Int) * 29) = (p : Int) * 29 := IntWalk.i64_in _ (by omega)
      have va : IntKind.i64.wrap ((b1 : Int) * 131 + (b2 : Int) * 1117 + (p : Int) * 29) = (b1 : Int) * 131 + (b2 : Int) * 1117 + (p : Int) * 29 := IntWalk.i64_in _ (by omega)
      have vb : IntKind.i64.wrap ((q : Int) * 53) = (q : Int) * 53 := IntWalk.i64_in _ (by omega)
      have vc : IntKind.i64.wrap ((b1 : Int) * 131 + (b2 : Int) * 1117 + (p : Int) * 29 + (q : Int) * 53) = (b1 : Int) * 131 + (b2 : Int) * 1117 + (p : Int) * 29 + (q : Int) * 53 := IntWalk.i64_in _ (by omega)
      have j1 : (0 : Int) ≤ (i1 : Int) := by omega
      have j2 : (i1 : Int) < (n : Int) := by omega
      have j3 : (0 : Int) ≤ (i2 : Int) := by omega
      have j4 : (i2 : Int) < (n : Int) := by omega
      have HVV : Hid (∃ X : Nat, (b1 : Int) * 131 + (b2 : Int) * 1117 + (p : Int) * 29 + (q : Int) * 53 = (X : Int) ∧ X ≤ 1000000) := ⟨b1 * 131 + b2 * 1117 + p * 29 + q * 53, by omega, by omega⟩
      clear hc hi1 hi2 hq hqp
      go_enter Try.func64, Try.ntmps64
      go_wp2
      go_quiet (fail)
      clear m1 m2 m3 v1 v2 v3 v4 v5 v6 v7 v8 v9 va vb vc j1 j2 j3 j4 hd1 hd2
      obtain ⟨X, hX, hXl⟩ := HVV.out
      rw [hX]
      obtain ⟨Y, hY⟩ : ∃ Y, Y = X / 64 := ⟨_, rfl⟩
      obtain ⟨Z, hZ⟩ : ∃ Z, Z = X ^^^ Y := ⟨_, rfl⟩
      have y1 : (X : Int) / 64 = (Y : Int) := by omega
      have y2 : bits .xor .i64 (X : Int) (Y : Int) = (Z : Int) := by rw [i64_xor_nat X Y (by omega) (by omega), hZ]
      have hmod : Hid ((Z : Int) % (m : Int) = ((Z % m : Nat) : Int)) := (Int.natCast_emod Z m).symm
      clear hY hZ hX
      go_wp2
      go_ret
      exact ⟨Z % m, ret_int hmod.out, Nat.mod_lt _ (by omega), HV.out.drewN _, grown_drew HG.out _⟩

end Go.Proofs.Ytlglokbakmbpdaa
