/-
  Joined texts: Draw, FnM, PdP, PtP.
-/
import Derived.Test.YtagncoahobghpacGreatDoorJGdE08
import Derived.Test.YtagncoahobghpacGreatDoorJGdE11
import Derived.Test.YtagncoahobghpacGreatDoorMa1
import Derived.Deep.RegionLaw
import Derived.IntWalk
import Derived.StillTailTactics
import Derived.Test.YtagncoahobghpacGreatDoorPm1
namespace Go.Proofs.YtagncoahobghpacGreatDoor
open Go.RowKit
set_option linter.unusedVariables false

/-- Slice value v reads as n bytes. -/
def RdB (w : World) (v : Value) (n : Nat) : Prop :=
  ∃ a cap, v = .slice a n cap ∧ n ≤ cap ∧ cap ≤ maxLen ∧ (n = 0 ∨ ∃ b off, a = some ⟨b, off, none⟩ ∧ b < w.heap.size ∧ ∀ j, j < n → ∃ c : Nat, c ≤ 255 ∧ w.cell? ⟨b, off + j, none⟩ = some (.int .u8 c))

/-- Block R is a reader that stands at place p. T: the struct's type. -/
def Rdr (T : Nat) (w : World) (R : Nat) (p : Nat) : Prop :=
  ∃ cd n cc, w.heap[R]? = some (.cells #[.slice cd n cc, .int .i64 p] T (0, 0)) ∧ n ≤ 2000 ∧ (n = 0 ∨ ∃ b off, cd = some ⟨b, off, none⟩ ∧ b < R ∧ ∀ j, j < n → ∃ c : Nat, c ≤ 255 ∧ w.cell? ⟨b, off + j, none⟩ = some (.int .u8 c))

theorem two_cell0 {w : World} {b : Nat} {u v : Value} {t : TypeId} (h : w.heap[b]? = some (.cells #[u, v] t (0, 0))) : w.cell? ⟨b, 0, none⟩ = some u := by simp [World.cell?, h]
theorem two_cell1 {w : World} {b : Nat} {u v : Value} {t : TypeId} (h : w.heap[b]? = some (.cells #[u, v] t (0, 0))) : w.cell? ⟨b, 1, none⟩ = some v := by simp [World.cell?, h]
theorem two_free1 {w : World} {b : Nat} {u v : Value} {t : TypeId} (h : w.heap[b]? = some (.cells #[u, v] t (0, 0))) : w.frozen? ⟨b, 1, none⟩ = false := by simp [World.frozen?, h]
theorem two_set1 {w : World} {b : Nat} {u v x : Value} {t : TypeId} (h : w.heap[b]? = some (.cells #[u, v] t (0, 0))) : (w.setCell ⟨b, 1, none⟩ x).heap[b]? = some (.cells #[u, x] t (0, 0)) := by
  have hlt := (Array.getElem?_eq_some_iff.1 h).1
  have h' : w.heap[b] = .cells #[u, v] t (0, 0) := by simpa [Array.getElem?_eq_getElem hlt] using h
  show (w.heap.modify b _)[b]? = _
  rw [Array.getElem?_eq_getElem (by simpa using hlt), Array.getElem_modify_self, h']
  rfl

theorem Rdr.moved {T R p : Nat} {w : World} (h : Rdr T w R p) : Rdr T (w.setCell ⟨R, 1, none⟩ (.int .i64 ((p : Int) + 1))) R (p + 1) := by
  obtain ⟨cd, n, cc, hh, hn, h⟩ := h
  refine ⟨cd, n, cc, two_set1 hh, hn, ?_⟩
  rcases h with h | ⟨b, off, rfl, hb, hc⟩
  · exact .inl h
  · refine .inr ⟨b, off, rfl, hb, fun j hj => ?_⟩
    obtain ⟨c, h1, h2⟩ := hc j hj
    refine ⟨c, h1, ?_⟩
    rw [World.cell?_of_block (w := w) (Below.heap_setCell _ _ _ _ (by show b ≠ R; omega))]
    exact h2
theorem Rdr.kept {T R p : Nat} {w w' : World} {r : Option Nat} (h : Rdr T w R p) (hg : w.grownBy w' r) (hr : ∀ k, r = some k → R < k) : Rdr T w' R p := by
  obtain ⟨cd, n, cc, hh, hn, h⟩ := h
  have hR := (Array.getElem?_eq_some_iff.1 hh).1
  refine ⟨cd, n, cc, (hg.block R hR (fun e => by have := hr R e.symm; omega)).trans hh, hn, ?_⟩
  rcases h with h | ⟨b, off, rfl, hb, hc⟩
  · exact .inl h
  · refine .inr ⟨b, off, rfl, hb, fun j hj => ?_⟩
    obtain ⟨c, h1, h2⟩ := hc j hj
    exact ⟨c, h1, hg.cell h2 (fun e => by have := hr b e.symm; omega)⟩
theorem Rdr.drewN {T R p : Nat} {w : World} (h : Rdr T w R p) (n : Nat) : Rdr T (w.drewN n) R p := h.kept (grown_drew (World.grownBy.refl w none) n) (by simp)
theorem Rdr.lt {T R p : Nat} {w : World} (h : Rdr T w R p) : R < w.heap.size := by
  obtain ⟨cd, n, cc, hh, _⟩ := h
  exact (Array.getElem?_eq_some_iff.1 hh).1

/-- What pick leaves: a number from 0 up to less than m; the reader one place on; nothing else is turned. -/
def Picked (T : Nat) (w : World) (R p m : Nat) (e : Ending) (w' : World) : Prop :=
  ∃ x : Nat, e = .returned (.int .i64 x) ∧ x < m ∧ Rdr T w' R (p + 1) ∧ w.grownBy w' (some R)

theorem i64_xor_nat (a b : Nat) (ha : a < 9223372036854775808) (hb : b < 9223372036854775808) : bits .xor .i64 (a : Int) (b : Int) = ((a ^^^ b : Nat) : Int) := by
  have hx : a ^^^ b < 2 ^ 63 := Nat.xor_lt_two_pow (by omega) (by omega)
  show IntKind.i64.wrap ((BitVec.ofInt 64 (a : Int) ^^^ BitVec.ofInt 64 (b : Int)).toNat : Int) = _
  rw [BitVec.toNat_xor, ofInt_i64 a ha, ofInt_i64 b hb, IntKind.wrap_i64]
  omega

set_option maxHeartbeats 1000000 in
theorem pick_any (R p m : Nat) (w : World) (h : Rdr 51 w R p) (hp : p ≤ 5000) (hm1 : 1 ≤ m) (hm2 : m ≤ 100000) :
    Calls Tryz.prog 17 #[.pointer (some ⟨R, 0, none⟩), .int .i64 m] w (Picked 51 w R p m) := by
  have hmv := h.moved
  have hgv := grown_set (World.grownBy.refl w (some R)) 1 (.int .i64 ((p : Int) + 1))
  obtain ⟨cd, n, cc, hh, hn, hc⟩ := h
  have c0 := two_cell0 hh
  have c1 := two_cell1 hh
  have f1 := two_free1 hh
  have e1 : ((m : Int) < 1) = False := by simp; omega
  have HV := Lib.hid hmv
  have HG := Lib.hid hgv
  clear hh hmv hgv
  rcases hc with rfl | ⟨b, off, rfl, hb, hc⟩
  · go_enter Tryz.func17, Tryz.ntmps17
    go_wp2
    go_ret
    exact ⟨0, rfl, by omega, HV.out, HG.out⟩
  · by_cases hn0 : n = 0
    · subst hn0
      clear hc
      go_enter Tryz.func17, Tryz.ntmps17
      go_wp2
      go_ret
      exact ⟨0, rfl, by omega, HV.out, HG.out⟩
    have hbne : b ≠ R := by omega
    have hn1 : ((n : Int) == 0) = false := by simp; omega
    by_cases hlt : p < n
    · obtain ⟨c, hc1, hc2⟩ := hc p hlt
      have hmod : Hid ((c : Int) % (m : Int) = ((c % m : Nat) : Int)) := (Int.natCast_emod c m).symm
      clear hc
      go_enter Tryz.func17, Tryz.ntmps17
      go_wp2
      go_ret
      exact ⟨c % m, ret_int hmod.out, Nat.mod_lt _ (by omega), HV.out, HG.out⟩
    · obtain ⟨i1, hi1⟩ : ∃ i, i = p % n := ⟨_, rfl⟩
      obtain ⟨i2, hi2⟩ : ∃ i, i = (p * 7 + 3) % n := ⟨_, rfl⟩
      obtain ⟨q, hq⟩ : ∃ q, q = p / n := ⟨_, rfl⟩
      have hl1 : i1 < n := by rw [hi1]; exact Nat.mod_lt _ (by omega)
      have hl2 : i2 < n := by rw [hi2]; exact Nat.mod_lt _ (by omega)
      have hqp : q ≤ p := by rw [hq]; exact Nat.div_le_self _ _
      have m1 : (p : Int).tmod (n : Int) = (i1 : Int) := by rw [Int.tmod_eq_emod_of_nonneg (by omega), hi1, Int.natCast_emod]
      have m2 : ((p : Int) * 7 + 3).tmod (n : Int) = (i2 : Int) := by rw [Int.tmod_eq_emod_of_nonneg (by omega), hi2, Int.natCast_emod]; rfl
      have m3 : (p : Int).tdiv (n : Int) = (q : Int) := by rw [Int.tdiv_eq_ediv_of_nonneg (by omega), hq, Int.natCast_ediv]
      obtain ⟨b1, hb1, hd1⟩ := hc i1 hl1
      obtain ⟨b2, hb2, hd2⟩ := hc i2 hl2
      have v1 : IntKind.i64.wrap ((p : Int) * 7) = (p : Int) * 7 := IntWalk.i64_in _ (by omega)
      have v2 : IntKind.i64.wrap ((p : Int) * 7 + 3) = (p : Int) * 7 + 3 := IntWalk.i64_in _ (by omega)
      have v3 : IntKind.i64.wrap (q : Int) = (q : Int) := IntWalk.i64_in _ (by omega)
      have v4 : IntKind.i64.wrap (b1 : Int) = (b1 : Int) := IntWalk.i64_in _ (by omega)
      have v5 : IntKind.i64.wrap (b2 : Int) = (b2 : Int) := IntWalk.i64_in _ (by omega)
      have v6 : IntKind.i64.wrap ((b1 : Int) * 131) = (b1 : Int) * 131 := IntWalk.i64_in _ (by omega)
      have v7 : IntKind.i64.wrap ((b2 : Int) * 1117) = (b2 : Int) * 1117 := IntWalk.i64_in _ (by omega)
      have v8 : IntKind.i64.wrap ((b1 : Int) * 131 + (b2 : Int) * 1117) = (b1 : Int) * 131 + (b2 : Int) * 1117 := IntWalk.i64_in _ (by omega)
      have v9 : IntKind.i64.wrap ((p : Int) * 29) = (p : Int) * 29 := IntWalk.i64_in _ (by omega)
      have va : IntKind.i64.wrap ((b1 : Int) * 131 + (b2 : Int) * 1117 + (p : Int) * 29) = (b1 : Int) * 131 + (b2 : Int) * 1117 + (p : Int) * 29 := IntWalk.i64_in _ (by omega)
      have vb : IntKind.i64.wrap ((q : Int) * 53) = (q : Int) * 53 := IntWalk.i64_in _ (by omega)
      have vc : IntKind.i64.wrap ((b1 : Int) * 131 + (b2 : Int) * 1117 + (p : Int) * 29 + (q : Int) * 53) = (b1 : Int) * 131 + (b2 : Int) * 1117 + (p : Int) * 29 + (q : Int) * 53 := IntWalk.i64_in _ (by omega)
      have j1 : (0 : Int) ≤ (i1 : Int) := by omega
      have j2 : (i1 : Int) < (n : Int) := by omega
      have j3 : (0 : Int) ≤ (i2 : Int) := by omega
      have j4 : (i2 : Int) < (n : Int) := by omega
      have HVV : Hid (∃ X : Nat, (b1 : Int) * 131 + (b2 : Int) * 1117 + (p : Int) * 29 + (q : Int) * 53 = (X : Int) ∧ X ≤ 1000000) := ⟨b1 * 131 + b2 * 1117 + p * 29 + q * 53, by omega, by omega⟩
      clear hc hi1 hi2 hq hqp
      go_enter Tryz.func17, Tryz.ntmps17
      go_wp2
      go_quiet (fail)
      clear m1 m2 m3 v1 v2 v3 v4 v5 v6 v7 v8 v9 va vb vc j1 j2 j3 j4 hd1 hd2
      obtain ⟨X, hX, hXl⟩ := HVV.out
      rw [hX]
      obtain ⟨Y, hY⟩ : ∃ Y, Y = X / 64 := ⟨_, rfl⟩
      obtain ⟨Z, hZ⟩ : ∃ Z, Z = X ^^^ Y := ⟨_, rfl⟩
      have y1 : (X : Int) / 64 = (Y : Int) := by omega
      have y2 : bits .xor .i64 (X : Int) (Y : Int) = (Z : Int) := by rw [i64_xor_nat X Y (by omega) (by omega), hZ]
      have hmod : Hid ((Z : Int) % (m : Int) = ((Z % m : Nat) : Int)) := (Int.natCast_emod Z m).symm
      clear hY hZ hX
      go_wp2
      go_ret
      exact ⟨Z % m, ret_int hmod.out, Nat.mod_lt _ (by omega), HV.out.drewN _, grown_drew HG.out _⟩

end Go.Proofs.YtagncoahobghpacGreatDoor

namespace Go.Proofs.YtagncoahobghpacGreatDoor
open Go.RowKit
set_option linter.unusedVariables false

theorem isRow_rdB {w : World} {a : Option Addr} {len cap : Nat} {zs : List Int} (h : (a = none ∧ len = 0 ∧ cap = 0 ∧ zs = []) ∨
    ∃ x, a = some x ∧ len ≤ cap ∧ cap ≤ maxLen ∧ zs.length = cap ∧ (∀ i, i < zs.length → w.cell? (x.add i) = some (.int .u8 (zs.getD i 0))) ∧ ∀ n ∈ zs, (Lit.int .u8 n).wf = true) : RdB w (.slice a len cap) len := by
  rcases h with ⟨rfl, rfl, rfl, rfl⟩ | ⟨x, rfl, h1, h2, h3, h4, h5⟩
  · exact ⟨none, 0, rfl, Nat.le_refl _, Nat.zero_le _, .inl rfl⟩
  · refine ⟨some x, cap, rfl, h1, h2, ?_⟩
    by_cases h0 : len = 0
    · exact .inl h0
    · right
      obtain ⟨b, off, spot⟩ := x
      have hspot : spot = none := by simpa [Addr.add] using World.cell?_spot (h4 0 (by omega))
      subst hspot
      refine ⟨b, off, rfl, World.block_lt_of_cell? w ⟨b, off + 0, none⟩ (h4 0 (by omega)), fun j hj => ?_⟩
      have h := h4 j (by omega)
      rw [show (⟨b, off, none⟩ : Addr).add j = ⟨b, off + j, none⟩ by simp [Addr.add]] at h
      have hm : zs.getD j 0 ∈ zs := by simp [List.getD, List.getElem?_eq_getElem (show j < zs.length by omega)]
      have hw := h5 _ hm
      simp only [Lit.wf, Bool.and_eq_true, decide_eq_true_eq] at hw
      have e0 : IntKind.min .u8 = 0 := by decide
      have e1 : IntKind.max .u8 = 255 := by decide
      rw [e0, e1] at hw
      exact ⟨(zs.getD j 0).toNat, by omega, by rw [h, Int.toNat_of_nonneg hw.1]⟩

theorem Rd.take {w : World} {a : Option Addr} {n cap k : Nat} {xs : List Int} (h : Rd w (.slice a n cap) xs) (hk : k ≤ xs.length) : Rd w (.slice a k cap) (xs.take k) := by
  obtain ⟨a', cap', he, h⟩ := h
  simp only [Value.slice.injEq] at he
  obtain ⟨rfl, rfl, rfl⟩ := he
  have hl : (xs.take k).length = k := by simp; omega
  refine ⟨a, cap, by rw [hl], ?_⟩
  rcases h with rfl | ⟨b, off, rfl, hlt, hc⟩
  · left; simp
  · refine .inr ⟨b, off, rfl, hlt, fun j hj => ?_⟩
    rw [hl] at hj
    rw [hc j (by omega)]
    simp [ix, List.getD, hj]
theorem ix_take {xs : List Int} {k j : Nat} (h : j < k) : ix (xs.take k) j = ix xs j := by simp [ix, List.getD, h]
theorem vrB_take {xs : List Int} (k : Nat) (h : vrB xs = true) : vrB (xs.take k) = true := by
  obtain ⟨h1, h2⟩ := vrB_of h
  refine vrB_yes (by simp; omega) fun j hj => ?_
  rw [List.length_take] at hj
  rw [ix_take (by omega)]
  exact h2 j (by omega)

theorem Own.max64 {xs : List Int} (h : xs.length ≤ 64) : xs.length ≤ maxLen := by unfold maxLen; omega
theorem own_sl {E B : Nat} {w : World} {v : Value} {xs : List Int} (h : Own E B w v xs) : ∃ a cap, v = .slice a xs.length cap := by
  rcases h.shape with ⟨rfl, rfl⟩ | ⟨g, cap, rfl, _⟩
  · exact ⟨none, 0, rfl⟩
  · exact ⟨_, _, rfl⟩

theorem rd_drop1 {w : World} {g n c : Nat} {xs : List Int} (h : Rd w (.slice (some ⟨g, 0, none⟩) (n + 1) c) xs) : Rd w (.slice (some ⟨g, 1, none⟩) n (c - 1)) (xs.drop 1) := by
  obtain ⟨a', cap', he, h⟩ := h
  simp only [Value.slice.injEq] at he
  obtain ⟨rfl, hn, rfl⟩ := he
  have hl : (xs.drop 1).length = n := by simp; omega
  refine ⟨_, c - 1, by rw [hl], ?_⟩
  rcases h with rfl | ⟨b, off, he, hlt, hc⟩
  · simp at hn
  · simp only [Option.some.injEq, Addr.mk.injEq, and_true] at he
    obtain ⟨rfl, rfl⟩ := he
    refine .inr ⟨g, 1, rfl, hlt, fun j hj => ?_⟩
    rw [hl] at hj
    have := hc (j + 1) (by omega)
    rw [show 1 + j = 0 + (j + 1) by omega, this]
    simp [ix, List.getD]

end Go.Proofs.YtagncoahobghpacGreatDoor

namespace Go.Proofs.YtagncoahobghpacGreatDoor
open Go.RowKit
set_option linter.unusedVariables false

/-- The product of two rows. -/
def mulL (xs ys : List Int) : List Int := if xs.length = 0 ∨ ys.length = 0 then [] else tab (xs.length + ys.length - 1) fun j => wrap64 (mulE (ix xs) (ix ys) xs.length ys.length j)
def timF (xs ys : List Int) : List Int := if vrB xs = true ∧ vrB ys = true then mulL xs ys else []
theorem timF_yes {xs ys : List Int} (h1 : vrB xs = true) (h2 : vrB ys = true) : timF xs ys = mulL xs ys := by unfold timF; exact if_pos ⟨h1, h2⟩
theorem timF_no {xs ys : List Int} (h : ¬ (vrB xs = true ∧ vrB ys = true)) : timF xs ys = [] := by unfold timF; exact if_neg h
theorem mulL_none {xs ys : List Int} (h : xs.length = 0 ∨ ys.length = 0) : mulL xs ys = [] := by unfold mulL; exact if_pos h
theorem mulL_some {xs ys : List Int} (h1 : xs.length ≠ 0) (h2 : ys.length ≠ 0) : mulL xs ys = tab (xs.length + ys.length - 1) fun j => wrap64 (mulE (ix xs) (ix ys) xs.length ys.length j) := by
  unfold mulL; exact if_neg fun h => h.elim h1 h2

/-- The product on the way. -/
def PdI (E : Nat) (w wr : World) (g N m x y : Nat) (F G : Nat → Int) : Prop :=
  Own E w.heap.size wr (.slice (some ⟨g, 0, none⟩) N N) (tab N fun j => wrap64 (mulP F G m x y j)) ∧ Below w.heap.size w wr
theorem PdI.step {E g N m x y : Nat} {w wr : World} {F G : Nat → Int} (h : PdI E w wr g N m x y F G) (hg : w.heap.size ≤ g) :
    PdI E w (wr.setCell ⟨g, x + y, none⟩ (.int .i64 (wrap64 (wrap64 (mulP F G m x y (x + y)) + wrap64 (F x * G y))))) g N m x (y + 1) F G := by
  refine ⟨?_, h.2.setCell hg _⟩
  have := h.1.set (x + y) (wrap64 (wrap64 (mulP F G m x y (x + y)) + wrap64 (F x * G y)))
  rw [tab_set, tab_congr (g := fun j => wrap64 (mulP F G m x (y + 1) j))] at this
  · exact this
  · intro j hj
    by_cases e : j = x + y
    · subst e; rw [if_pos rfl, mulP_step, if_pos rfl, w64_add]
    · rw [if_neg e, mulP_step, if_neg (fun q => e q.symm), Int.add_zero]
theorem PdI.next {E g N m x : Nat} {w wr : World} {F G : Nat → Int} (h : PdI E w wr g N m x m F G) : PdI E w wr g N m (x + 1) 0 F G := by
  refine ⟨?_, h.2⟩
  rw [tab_congr (g := fun j => wrap64 (mulP F G m x m j)) (fun j _ => by rw [mulP_next])]; exact h.1
theorem PdI.drew {E g N m x y : Nat} {w wr : World} {F G : Nat → Int} (h : PdI E w wr g N m x y F G) (n : Nat) : PdI E w (wr.drewN n) g N m x y F G :=
  ⟨h.1.below (below_drewN (Below.refl wr.heap.size wr) n) (Nat.le_refl _), below_drewN h.2 n⟩

theorem timF_len (xs ys : List Int) : (timF xs ys).length ≤ 1048576 := by
  unfold timF
  split
  · rename_i h
    have h1 := (vrB_of h.1).1
    have h2 := (vrB_of h.2).1
    unfold mulL
    split
    · simp
    · rw [len_tab]; omega
  · simp

end Go.Proofs.YtagncoahobghpacGreatDoor

namespace Go.Proofs.YtagncoahobghpacGreatDoor
open Go Go.Conc Go.RowKit
set_option linter.unusedVariables false

theorem addP_tab (L : Nat) (g : Nat → Int) (p : Nat) (x : Int) (hp : p < L) : addP (tab L g) (p, x) = tab L fun j => if j = p then wrap64 (g j + x) else g j := by
  unfold addP
  rw [ix_tab _ _ _ hp, tab_set]
  refine tab_congr fun j _ => ?_
  by_cases h : j = p
  · subst h; rfl
  · rw [if_neg h, if_neg h]

section
variable {F G : Nat → Int} {f : Nat → Nat → Nat × Int} {m L : Nat}
theorem prR_fold {i : Nat} (hf : ∀ j, (f i j).1 = i + j ∧ ∀ z, wrap64 (z + (f i j).2) = wrap64 (z + F i * G j)) : ∀ (k j : Nat), i + j + k ≤ L → (prR f i j k).foldl addP (tab L fun p => wrap64 (mulP F G m i j p)) = tab L fun p => wrap64 (mulP F G m i (j + k) p)
  | 0, j, _ => rfl
  | k + 1, j, h => by
    obtain ⟨e1, e2⟩ := hf j
    have e0 : f i j = (i + j, (f i j).2) := by rw [← e1]
    rw [prR, List.foldl_cons, e0, addP_tab _ _ _ _ (by omega)]
    have e3 : (tab L fun p => if p = i + j then wrap64 (wrap64 (mulP F G m i j p) + (f i j).2) else wrap64 (mulP F G m i j p)) = tab L fun p => wrap64 (mulP F G m i (j + 1) p) := by
      refine tab_congr fun p _ => ?_
      rw [mulP_step]
      by_cases hp : p = i + j
      · rw [if_pos hp, if_pos hp.symm, e2, w64_addL]
      · rw [if_neg hp, if_neg fun h => hp h.symm, Int.add_zero]
    rw [e3, prR_fold hf k (j + 1) (by omega)]
    rw [show j + 1 + k = j + (k + 1) by omega]

theorem prA_fold (hf : ∀ i j, (f i j).1 = i + j ∧ ∀ z, wrap64 (z + (f i j).2) = wrap64 (z + F i * G j)) : ∀ (r i : Nat), (r ≠ 0 → i + r + m ≤ L + 1) → (prA f m i r).foldl addP (tab L fun p => wrap64 (mulP F G m i 0 p)) = tab L fun p => wrap64 (mulP F G m (i + r) 0 p)
  | 0, i, _ => rfl
  | r + 1, i, h => by
    have h' := h (by omega)
    rw [prA, List.foldl_append, prR_fold (hf i) m 0 (by omega)]
    rw [show (tab L fun p => wrap64 (mulP F G m i (0 + m) p)) = tab L fun p => wrap64 (mulP F G m (i + 1) 0 p) from tab_congr fun p _ => by rw [Nat.zero_add, mulP_next]]
    rw [prA_fold hf r (i + 1) (fun _ => by omega), show i + 1 + r = i + (r + 1) by omega]

theorem prod_fold (hf : ∀ i j, (f i j).1 = i + j ∧ ∀ z, wrap64 (z + (f i j).2) = wrap64 (z + F i * G j)) {n : Nat} (hL : n + m ≤ L + 1) : (prA f m 0 n).foldl addP (List.replicate L 0) = tab L fun p => wrap64 (mulE F G n m p) := by
  rw [tab_replicate, show (tab L fun _ => (0 : Int)) = tab L fun p => wrap64 (mulP F G m 0 0 p) from tab_congr fun p _ => by rw [mulP_zero]; unfold wrap64; omega, prA_fold hf n 0 (fun _ => by omega), Nat.zero_add]
  exact tab_congr fun p _ => by rw [mulP_all]
end

theorem RF_own {N sb : Nat} {W : World} {zs : List Int} {w : World} (hsb : sb < N) (hW : W.heap.size = sb) (hz : zs.length ≤ maxLen) (h : RF N sb W zs w) : Own 3 W.heap.size w (.slice (some ⟨sb, 0, none⟩) zs.length zs.length) zs ∧ Below W.heap.size W w := by
  refine ⟨⟨by simp, .inr ⟨sb, zs.length, _, rfl, by omega, h.sums, Nat.le_refl _, hz, by simp, ?_⟩⟩, ⟨h.os, h.tape, h.output, by have := h.size; omega, fun k hk => h.keep k (by omega) (by omega)⟩⟩
  rw [Nat.mul_one, List.toList_toArray, List.take_of_length_le (by simp)]
end Go.Proofs.YtagncoahobghpacGreatDoor
