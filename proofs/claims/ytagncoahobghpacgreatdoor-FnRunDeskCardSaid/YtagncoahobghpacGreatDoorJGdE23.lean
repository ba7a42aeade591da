/-
  Joined texts: Rest, OrdBy, WvI.
-/
import Derived.Test.YtagncoahobghpacGreatDoorJGdE08
import Derived.Test.YtagncoahobghpacGreatDoorMa1
import Derived.Deep.RegionHeld3
namespace Go.Proofs.YtagncoahobghpacGreatDoor
open Go.RowKit
set_option linter.unusedVariables false

/-- What a call leaves that hands back a rest and turns nothing that was there. -/
def Rests (z : Int) (w : World) (e : Ending) (w' : World) : Prop := e = .returned (.agg #[.int .i64 z]) ∧ Below w.heap.size w w'

/-- A block of one cell, new before a call, is behind it as it was. -/
theorem held_new {W w1 : World} {c : Value} {E k : Nat} (hb : Below (W.alloc (.cells #[c] E)).heap.size (W.alloc (.cells #[c] E)) w1) (hk : W.heap.size = k) :
    w1.cell? ⟨k, 0, none⟩ = some c ∧ w1.frozen? ⟨k, 0, none⟩ = false ∧ k < w1.heap.size := by
  subst hk
  refine ⟨?_, ?_, ?_⟩
  · rw [hb.cell (p := ⟨W.heap.size, 0, none⟩) (by simp)]; exact cell_new1 _ _ _
  · rw [hb.frozen (p := ⟨W.heap.size, 0, none⟩) (by simp)]; simp [go_sem]
  · have := hb.size; simp at this; omega

set_option maxHeartbeats 1000000 in
theorem restOf_any (z : Int) (w : World) (h0 : 0 ≤ z) (h1 : z ≤ 1000000) :
    Calls Tryz.prog 90 #[.int .i64 z] w (Rests (z % 97) w) := by
  go_enter Tryz.func90, Tryz.ntmps90
  go_wp2
  exact bodyPost_ret (v := .agg #[.int .i64 (z % 97)]) (by simp [results, Tryz.results90, go_sem]) rfl ⟨rfl, (Below.refl _ _).alloc (Nat.le_refl _) _⟩

theorem restOf_one (w : World) : Calls Tryz.prog 90 #[.int .i64 1] w (Rests 1 w) := restOf_any 1 w (by omega) (by omega)

theorem restOf_none (w : World) : Calls Tryz.prog 90 #[.int .i64 0] w (Rests 0 w) := restOf_any 0 w (by omega) (by omega)

set_option maxHeartbeats 1000000 in
theorem times_any (x y : Int) (w : World) (hx : 0 ≤ x ∧ x ≤ 96) (hy : 0 ≤ y ∧ y ≤ 96) :
    Calls Tryz.prog 113 #[.agg #[.int .i64 x], .agg #[.int .i64 y]] w (Rests (x * y % 97) w) := by
  obtain ⟨hx0, hx1⟩ := hx
  obtain ⟨hy0, hy1⟩ := hy
  have h0 : 0 ≤ x * y := Int.mul_nonneg hx0 hy0
  have h1 : x * y ≤ 96 * 96 := Int.mul_le_mul hx1 hy1 hy0 (by omega)
  go_enter Tryz.func113, Tryz.ntmps113
  go_wp2_with fail
  refine (restOf_any _ _ h0 (by omega)).mono ?_
  rintro e w1 ⟨rfl, b1⟩
  obtain ⟨hc, hf, hs⟩ := held_new b1 (k := w.heap.size + 1 + 1) (by simp)
  go_wp2
  exact bodyPost_ret (v := .agg #[.int .i64 (x * y % 97)]) (by simp [results, Tryz.results113, go_sem, hc]) rfl ⟨rfl, ((((Below.refl _ _).alloc (Nat.le_refl _) _).alloc (by simp) _).alloc (by simp; omega) _ |>.trans (b1.mono (by simp; omega))).setCell (by simp; omega) _⟩

set_option maxHeartbeats 1000000 in
theorem plus_any (x y : Int) (w : World) (hx : 0 ≤ x ∧ x ≤ 96) (hy : 0 ≤ y ∧ y ≤ 96) :
    Calls Tryz.prog 114 #[.agg #[.int .i64 x], .agg #[.int .i64 y]] w (Rests ((x + y) % 97) w) := by
  obtain ⟨hx0, hx1⟩ := hx
  obtain ⟨hy0, hy1⟩ := hy
  go_enter Tryz.func114, Tryz.ntmps114
  go_wp2_with fail
  refine (restOf_any _ _ (by omega) (by omega)).mono ?_
  rintro e w1 ⟨rfl, b1⟩
  obtain ⟨hc, hf, hs⟩ := held_new b1 (k := w.heap.size + 1 + 1) (by simp)
  go_wp2
  exact bodyPost_ret (v := .agg #[.int .i64 ((x + y) % 97)]) (by simp [results, Tryz.results114, go_sem, hc]) rfl ⟨rfl, ((((Below.refl _ _).alloc (Nat.le_refl _) _).alloc (by simp) _).alloc (by simp; omega) _ |>.trans (b1.mono (by simp; omega))).setCell (by simp; omega) _⟩

/-- A store leaves the other blocks. -/
theorem cell_else (w : World) {a : Addr} (u : Value) {k o : Nat} (h : k ≠ a.block) : (w.setCell a u).cell? ⟨k, o, none⟩ = w.cell? ⟨k, o, none⟩ := World.cell?_of_block (w := w) (Below.heap_setCell _ _ _ _ h)
theorem frozen_else (w : World) {a : Addr} (u : Value) {k o : Nat} (h : k ≠ a.block) : (w.setCell a u).frozen? ⟨k, o, none⟩ = w.frozen? ⟨k, o, none⟩ := World.frozen?_of_block (w := w) (Below.heap_setCell _ _ _ _ h)

/-- What power carries round: its result's cell, and the power so far. -/
structure PwI (w wr : World) (z : Int) : Prop where
  res : wr.cell? ⟨w.heap.size + 1, 0, none⟩ = some (.int .i64 0)
  resf : wr.frozen? ⟨w.heap.size + 1, 0, none⟩ = false
  cur : wr.cell? ⟨w.heap.size + 1 + 1, 0, none⟩ = some (.int .i64 z)
  curf : wr.frozen? ⟨w.heap.size + 1 + 1, 0, none⟩ = false
  size : w.heap.size + 1 + 1 < wr.heap.size
  bel : Below w.heap.size w wr
theorem PwI.call {w wr w1 : World} {z : Int} (h : PwI w wr z) (b : Below wr.heap.size wr w1) : PwI w w1 z := by
  have hs := h.size
  refine ⟨?_, ?_, ?_, ?_, Nat.lt_of_lt_of_le hs b.size, h.bel.trans (b.mono (by omega))⟩
  · rw [b.cell (p := ⟨w.heap.size + 1, 0, none⟩) (by show w.heap.size + 1 < _; omega)]; exact h.res
  · rw [b.frozen (p := ⟨w.heap.size + 1, 0, none⟩) (by show w.heap.size + 1 < _; omega)]; exact h.resf
  · rw [b.cell (p := ⟨w.heap.size + 1 + 1, 0, none⟩) (by show w.heap.size + 1 + 1 < _; omega)]; exact h.cur
  · rw [b.frozen (p := ⟨w.heap.size + 1 + 1, 0, none⟩) (by show w.heap.size + 1 + 1 < _; omega)]; exact h.curf
theorem PwI.alloc {w wr : World} {z : Int} (h : PwI w wr z) (o : Obj) : PwI w (wr.alloc o) z := h.call ((Below.refl _ _).alloc (Nat.le_refl _) _)
theorem PwI.drew {w wr : World} {z : Int} (h : PwI w wr z) : PwI w wr.drew z := ⟨h.res, h.resf, h.cur, h.curf, h.size, below_drewN h.bel 1⟩
theorem PwI.set {w wr : World} {z : Int} (h : PwI w wr z) (u : Int) : PwI w (wr.setCell ⟨w.heap.size + 1 + 1, 0, none⟩ (.int .i64 u)) u := by
  have hs := h.size
  refine ⟨?_, ?_, ?_, ?_, by simpa [World.setCell] using hs, h.bel.setCell (by show w.heap.size ≤ w.heap.size + 1 + 1; omega) _⟩
  · rw [World.cell?_of_block (w := wr) (Below.heap_setCell _ _ _ _ (by show w.heap.size + 1 ≠ w.heap.size + 1 + 1; omega))]; exact h.res
  · rw [World.frozen?_of_block (w := wr) (Below.heap_setCell _ _ _ _ (by show w.heap.size + 1 ≠ w.heap.size + 1 + 1; omega))]; exact h.resf
  · have hc := h.cur; simp [go_sem, hc]
  · have hf := h.curf; simp [go_sem, hf]
theorem PwI.start (w : World) (x : Int) (c : Value) (E : Nat) : PwI w (((w.alloc (.cells #[c] E)).alloc (.cells #[.int .i64 0] E)).alloc (.cells #[.int .i64 x] E)) x := by
  have b := (Below.refl ((w.alloc (.cells #[c] E)).alloc (.cells #[.int .i64 0] E)).heap.size ((w.alloc (.cells #[c] E)).alloc (.cells #[.int .i64 0] E))).alloc (Nat.le_refl _) (.cells #[.int .i64 x] E)
  obtain ⟨h1, h2, -⟩ := held_new b (k := w.heap.size + 1) (by simp)
  obtain ⟨h3, h4, -⟩ := held_new (Below.refl _ (((w.alloc (.cells #[c] E)).alloc (.cells #[.int .i64 0] E)).alloc (.cells #[.int .i64 x] E))) (k := w.heap.size + 1 + 1) (by simp)
  exact ⟨h1, h2, h3, h4, by simp, ((((Below.refl _ _).alloc (Nat.le_refl _) _).alloc (by simp) _).alloc (by simp; omega) _)⟩

/-- The power behind k of the exponents. -/
def pwk (x : Nat) (es : List Int) : Nat → Nat
  | 0 => x
  | k + 1 => pm (pwk x es k) (ix es k).toNat
theorem pwk_lt {x : Nat} (hx : x < 97) (es : List Int) (k : Nat) : pwk x es k < 97 := by
  cases k with
  | zero => exact hx
  | succ k => exact pm_lt _ _
theorem pm_next (x m : Nat) : ((pm x m : Nat) : Int) * (x : Int) % 97 = ((pm x (m + 1) : Nat) : Int) := by
  show _ = ((pm x m * x % 97 : Nat) : Int)
  rw [Int.natCast_emod, Int.natCast_mul]; rfl

set_option maxHeartbeats 4000000 in
theorem restPow_any (x : Nat) (es : List Int) (v : Value) (w : World) (h : Rd w v es) (hx : x < 97) (hl : es.length ≤ 16) (he : ∀ j, j < es.length → 0 ≤ ix es j ∧ ix es j ≤ 96) :
    Calls Tryz.prog 112 #[.agg #[.int .i64 x], v] w (Rests (pwk x es es.length) w) := by
  obtain ⟨a, cap, rfl, h⟩ := h
  rcases h with rfl | ⟨b, off, rfl, hb, hc⟩
  · have HP := Lib.hid (PwI.start w x (.int .i64 x) 115)
    go_enter Tryz.func112, Tryz.ntmps112
    go_wp2
    refine wp_loop_rounds 1 ?_
    rw [rounds_succ]
    go_wp2
    exact bodyPost_ret (v := .agg #[.int .i64 x]) (by simp [results, Tryz.results112, go_sem]) rfl ⟨rfl, ((((Below.refl _ _).alloc (Nat.le_refl _) _).alloc (by simp) _).alloc (by simp; omega) _)⟩
  · have HP := PwI.start w x (.int .i64 x) 115
    go_enter Tryz.func112, Tryz.ntmps112
    go_wp2
    go_loopw [12] (fun i wr => ∃ k : Nat, k ≤ es.length ∧ i = .int .i64 k ∧ PwI w wr (pwk x es k : Nat)) (fun i _ => es.length - (intOf i).toNat)
    case atStart => exact ⟨0, Nat.zero_le _, rfl, HP⟩
    case round =>
      obtain ⟨k, hk, rfl, hI⟩ := hrel
      by_cases hlt : k < es.length
      · have hck : wr.cell? ⟨b, off + k, none⟩ = some (.int .i64 (ix es k)) := (hI.bel.cell (by exact hb)).trans (hc k hlt)
        have hE := he k hlt
        have HPK : Hid (pwk x es (k + 1) = pm (pwk x es k) (ix es k).toNat) := rfl
        have hp := pwk_lt hx es k
        clear HP hc he
        generalize pwk x es k = p at hI HPK hp
        obtain ⟨m, hm⟩ : ∃ m : Nat, ix es k = (m : Int) := ⟨(ix es k).toNat, by omega⟩
        rw [hm] at hck HPK hE
        have HPK := Lib.hid (show pwk x es (k + 1) = pm p m by rw [HPK.out]; simp)
        clear hm
        have HI := Lib.hid hI
        obtain ⟨hr1, hr2, hr3, hr4, hr5, -⟩ := hI
        obtain ⟨gb, hgb⟩ : ∃ gb, gb = wr.heap.size := ⟨_, rfl⟩
        have hgs : w.heap.size + 1 + 1 < gb := by omega
        have HGB := Lib.hid hgb
        clear hgb
        go_wp2_with fail
        refine (restOf_one _).mono ?_
        rintro e w1 ⟨rfl, b1⟩
        have hI1 := (HI.out.alloc (.cells #[.int .i64 p] 115)).call b1
        obtain ⟨hb1, -, hb2⟩ := held_new b1 (k := wr.heap.size) rfl
        rw [← HGB.out] at hb1 hb2 ⊢
        have hI2 := Lib.hid (hI1.set 1)
        obtain ⟨hq1, hq2, hq3, hq4, hq5, -⟩ := hI1
        clear hr1 hr2 hr3 hr4 hr5
        go_wp2
        go_loopw [19] (fun i wr => ∃ j : Nat, j ≤ m ∧ i = .int .i64 j ∧ PwI w wr (pm p j : Nat) ∧ wr.cell? ⟨gb, 0, none⟩ = some (.int .i64 p) ∧ gb < wr.heap.size) (fun i _ => m - (intOf i).toNat)
        case atStart => exact ⟨0, Nat.zero_le _, rfl, hI2.out, (cell_else w1 _ (k := gb) (by show gb ≠ w.heap.size + 1 + 1; omega)).trans hb1, by simpa [World.setCell] using hb2⟩
        case round =>
          obtain ⟨j, hj, rfl, hJ, hbc, hbs⟩ := hrel
          by_cases hjl : j < m
          · have HJ := Lib.hid hJ
            obtain ⟨hr1, hr2, hr3, hr4, hr5, -⟩ := hJ
            have hq := pm_lt p j
            go_wp2_with fail
            refine (times_any _ _ _ (by omega) (by omega)).mono ?_
            rintro e w2 ⟨rfl, b2⟩
            rw [pm_next]
            have hI3 := HJ.out.call b2
            have hbc := b2.cell (p := ⟨gb, 0, none⟩) hbs |>.trans hbc
            have hbs := Nat.lt_of_lt_of_le hbs b2.size
            have hI4 := Lib.hid (hI3.set (pm p (j + 1) : Nat))
            have HBC := Lib.hid ((cell_else w2 (a := ⟨w.heap.size + 1 + 1, 0, none⟩) (.int .i64 (pm p (j + 1) : Nat)) (k := gb) (o := 0) (by show gb ≠ w.heap.size + 1 + 1; omega)).trans hbc)
            obtain ⟨hq1, hq2, hq3, hq4, hq5, -⟩ := hI3
            clear hr1 hr2 hr3 hr4 hr5
            go_wp2
            go_roundw
            case rel => exact ⟨j + 1, by omega, by go_num, hI4.out, HBC.out, by simpa [World.setCell] using hbs⟩
            case measure => simp [intOf]; omega
          · obtain rfl : j = m := by omega
            rw [← HPK.out] at hJ
            have HJ := Lib.hid hJ
            clear hJ
            go_wp2
            go_roundw
            case rel => exact ⟨k + 1, by omega, by go_num, HJ.out⟩
            case measure => simp [intOf]; omega
      · obtain rfl : k = es.length := by omega
        obtain ⟨hr1, hr2, hr3, hr4, hr5, hbel⟩ := hI
        obtain ⟨z, hz⟩ : ∃ z, pwk x es es.length = z := ⟨_, rfl⟩
        rw [hz] at hr3
        have HZ := Lib.hid hz
        clear hz
        have hs1 : w.heap.size + 1 < wr.heap.size := by omega
        go_wp2
        exact bodyPost_ret (v := .agg #[.int .i64 z]) (by simp [results, Tryz.results112, go_sem, hr1]) rfl ⟨by rw [HZ.out], hbel.setCell (by simp) _⟩

theorem power_one (x k : Nat) (v : Value) (w : World) (h : Rd w v [(k : Int)]) (hx : x < 97) (hk : k ≤ 96) :
    Calls Tryz.prog 112 #[.agg #[.int .i64 x], v] w (Rests (pm x k : Nat) w) := by
  refine restPow_any x [(k : Int)] v w h hx (by simp) ?_
  intro j hj
  obtain rfl : j = 0 := by simpa using hj
  simp only [ix, List.getD_cons_zero]
  omega

theorem rd_lit1 (w : World) (z : Int) (E k : Nat) (hk : w.heap.size = k) : Rd (w.alloc (.cells #[.int .i64 z] E)) (.slice (some ⟨k, 0, none⟩) 1 1) [z] := by
  subst hk
  refine ⟨_, 1, rfl, .inr ⟨_, _, rfl, by simp, fun j hj => ?_⟩⟩
  obtain rfl : j = 0 := by simpa using hj
  exact cell_new1 _ _ _
theorem held_old {W w1 : World} {c : Value} {k o : Nat} (b : Below W.heap.size W w1) (hk : k < W.heap.size) (hc : W.cell? ⟨k, o, none⟩ = some c) (hf : W.frozen? ⟨k, o, none⟩ = false) :
    w1.cell? ⟨k, o, none⟩ = some c ∧ w1.frozen? ⟨k, o, none⟩ = false ∧ k < w1.heap.size :=
  ⟨by rw [b.cell (p := ⟨k, o, none⟩) hk]; exact hc, by rw [b.frozen (p := ⟨k, o, none⟩) hk]; exact hf, Nat.lt_of_lt_of_le hk b.size⟩

end Go.Proofs.YtagncoahobghpacGreatDoor

namespace Go.Proofs.YtagncoahobghpacGreatDoor
open Go.RowKit
set_option linter.unusedVariables false

def obF (x : Int) : Int := if 1 ≤ x ∧ x ≤ 96 then (ordN x.toNat : Nat) else -1
theorem obF_yes {n : Nat} (h0 : 1 ≤ n) (h1 : n ≤ 96) : obF n = (ordN n : Nat) := by unfold obF; rw [if_pos (by omega), Int.toNat_natCast]
theorem obF_no {x : Int} (h : ¬ (1 ≤ x ∧ x ≤ 96)) : obF x = -1 := by unfold obF; exact if_neg h
theorem pm_first {x : Nat} (h : x < 97) : pm x 1 = x := by show 1 * x % 97 = x; rw [Nat.one_mul, Nat.mod_eq_of_lt h]

/-- What OrderBy carries round: the base and the power so far. -/
structure ObI (w wr : World) (gb g : Nat) (x z : Int) : Prop where
  base : wr.cell? ⟨gb, 0, none⟩ = some (.int .i64 x)
  cur : wr.cell? ⟨g, 0, none⟩ = some (.int .i64 z)
  curf : wr.frozen? ⟨g, 0, none⟩ = false
  lo : w.heap.size ≤ gb
  next : gb < g
  size : g < wr.heap.size
  bel : Below w.heap.size w wr
theorem ObI.call {w wr w1 : World} {gb g : Nat} {x z : Int} (h : ObI w wr gb g x z) (b : Below wr.heap.size wr w1) : ObI w w1 gb g x z := by
  have hs := h.size
  have hn := h.next
  have hl := h.lo
  refine ⟨?_, ?_, ?_, hl, hn, Nat.lt_of_lt_of_le hs b.size, h.bel.trans (b.mono (by omega))⟩
  · rw [b.cell (p := ⟨gb, 0, none⟩) (by show gb < _; omega)]; exact h.base
  · rw [b.cell (p := ⟨g, 0, none⟩) hs]; exact h.cur
  · rw [b.frozen (p := ⟨g, 0, none⟩) hs]; exact h.curf
theorem ObI.drew {w wr : World} {gb g : Nat} {x z : Int} (h : ObI w wr gb g x z) : ObI w wr.drew gb g x z := ⟨h.base, h.cur, h.curf, h.lo, h.next, h.size, below_drewN h.bel 1⟩
theorem ObI.fresh {w wr : World} {gb g : Nat} {x z : Int} (h : ObI w wr gb g x z) (E : Nat) : ObI w (wr.alloc (.cells #[.int .i64 z] E)) gb wr.heap.size x z := by
  have hs := h.size
  have hn := h.next
  obtain ⟨h3, h4, h5⟩ := held_new (Below.refl _ (wr.alloc (.cells #[.int .i64 z] E))) (k := wr.heap.size) rfl
  have h' := h.call ((Below.refl _ _).alloc (Nat.le_refl _) (.cells #[.int .i64 z] E))
  exact ⟨h'.base, h3, h4, h.lo, by omega, h5, h'.bel⟩
theorem ObI.set {w wr : World} {gb g : Nat} {x z : Int} (h : ObI w wr gb g x z) (u : Int) : ObI w (wr.setCell ⟨g, 0, none⟩ (.int .i64 u)) gb g x u := by
  have hs := h.size
  have hn := h.next
  have hl := h.lo
  refine ⟨?_, ?_, ?_, hl, hn, by simpa [World.setCell] using hs, h.bel.setCell (by show w.heap.size ≤ g; omega) _⟩
  · rw [cell_else wr _ (k := gb) (by show gb ≠ g; omega)]; exact h.base
  · have hc := h.cur; simp [go_sem, hc]
  · have hf := h.curf; simp [go_sem, hf]

theorem ObI.start (n : Nat) (w w1 : World) (b : Below w.heap.size w w1) (E : Nat) (hn : n < 97) : ObI w ((w1.alloc (.cells #[.int .i64 n] E)).alloc (.cells #[.int .i64 n] E)) w1.heap.size (w1.heap.size + 1) n (pm n 1 : Nat) := by
  rw [pm_first hn]
  have b2 := (Below.refl (w1.alloc (.cells #[.int .i64 n] E)).heap.size (w1.alloc (.cells #[.int .i64 n] E))).alloc (Nat.le_refl _) (.cells #[.int .i64 n] E)
  obtain ⟨h1, h2, -⟩ := held_new b2 (k := w1.heap.size) rfl
  obtain ⟨h3, h4, -⟩ := held_new (Below.refl _ ((w1.alloc (.cells #[.int .i64 n] E)).alloc (.cells #[.int .i64 n] E))) (k := w1.heap.size + 1) (by simp)
  have hs := b.size
  exact ⟨h1, h3, h4, hs, by omega, by simp, (b.alloc hs _).alloc (by simp; omega) _⟩

set_option maxHeartbeats 2000000 in
theorem implOrderBy_any (x : Int) (w : World) :
    Calls Tryz.prog 111 #[.int .i64 x] w (Tells (obF x) w) := by
  by_cases hx : 1 ≤ x ∧ x ≤ 96
  · obtain ⟨n, rfl⟩ : ∃ n : Nat, x = (n : Int) := ⟨x.toNat, by omega⟩
    have hn0 : 1 ≤ n := by omega
    have hn1 : n ≤ 96 := by omega
    have hx0 : (1 : Int) ≤ (n : Int) := by omega
    have hx1 : (n : Int) ≤ 96 := by omega
    obtain ⟨ho1, ho2, -, ho4⟩ := ord_facts n (by omega) (by omega)
    have HF := Lib.hid (obF_yes hn0 hn1)
    have HO := Lib.hid ho4
    have hlt97 : n < 97 := by omega
    have hmod : (n : Int) % 97 = (n : Int) := by omega
    have HM := Lib.hid hmod
    clear ho4 hmod hx
    go_enter Tryz.func111, Tryz.ntmps111
    go_wp2_with fail
    refine (restOf_any _ _ (by omega) (by omega)).mono ?_
    rintro e w1 ⟨rfl, b1⟩
    rw [HM.out]
    have HST := Lib.hid (ObI.start n w w1 b1 115 hlt97)
    go_wp2
    go_loopw [4, 5] (fun o p wr => ∃ k g : Nat, 1 ≤ k ∧ k ≤ ordN n ∧ o = .int .i64 k ∧ p = .pointer (some ⟨g, 0, none⟩) ∧ ObI w wr w1.heap.size g n (pm n k : Nat)) (fun o _ _ => ordN n - (intOf o).toNat)
    case atStart => exact ⟨1, _, by omega, by omega, rfl, rfl, HST.out⟩
    case round =>
      obtain ⟨k, g, hk0, hk1, rfl, rfl, hI⟩ := hrel
      have HI := Lib.hid hI
      obtain ⟨-, hc, hf, -, -, hs, -⟩ := hI
      by_cases h1 : pm n k = 1
      · have hkN : k = ordN n := by
          apply Classical.byContradiction
          intro hk
          exact ord_least n hlt97 hn0 k (by omega) hk0 h1
        have HK := Lib.hid hkN
        rw [h1] at hc HI
        have hID := HI.out.drew
        clear hkN h1
        go_wp2
        go_region_held3 (fun w' => w'.cell? ⟨g, 0, none⟩ = some (.int .i64 1)) (first | exact hc | go_keep)
          (first
            | (go_at_call 90; refine (restOf_one _).mono ?_; rintro e w2 ⟨rfl, b2⟩; have hID := hID.call b2; have hc := hID.cur))
        all_goals
          have hbel := hID.bel
          clear hID HI
          go_wp2
          go_ret
          exact ⟨ret_int (by rw [HF.out, HK.out]), hbel⟩
      · have hkl : k < ordN n := by
          apply Classical.byContradiction
          intro hk
          exact h1 ((show k = ordN n by omega) ▸ HO.out)
        have hne : ((pm n k : Nat) : Int) ≠ 1 := by omega
        have e1 : (((pm n k : Nat) : Int) == 1) = false := by simpa using hne
        have e2 : (((pm n k : Nat) : Int) != 1) = true := by simpa using hne
        have hID := HI.out.drew
        go_wp2
        go_region_held3 (fun w' => w'.cell? ⟨g, 0, none⟩ = some (.int .i64 (pm n k : Nat))) (first | exact hc | go_keep)
          (first
            | (go_at_call 90; refine (restOf_one _).mono ?_; rintro e w2 ⟨rfl, b2⟩; have hID := hID.call b2; have hc := hID.cur))
        all_goals
          have hc3 := hID.base
          have hcc := hID.cur
          have hss := hID.size
          have hID2 := hID.fresh 115
          have hq := pm_lt n k
          have hcN := hID2.base
          have hcM := hID2.cur
          clear HI
          go_wp2_with fail
          refine (times_any _ _ _ (by omega) (by omega)).mono ?_
          rintro e w3 ⟨rfl, b3⟩
          rw [pm_next]
          have hID3 := hID2.call b3
          have HS := Lib.hid (hID3.set (pm n (k + 1) : Nat))
          have hc4 := hID3.cur
          have hf4 := hID3.curf
          clear hID hID2 hID3 hc3 hcc hcN hcM
          go_wp2
          go_roundw
          case rel => exact ⟨k + 1, _, by omega, by omega, by go_num, rfl, HS.out⟩
          case measure => simp [intOf]; omega
  · have HF := Lib.hid (obF_no hx)
    by_cases h1 : x < 1
    · clear hx
      go_enter Tryz.func111, Tryz.ntmps111
      go_wp2
      go_ret
      exact ⟨ret_int HF.out.symm, Below.refl _ _⟩
    · have h2 : 97 ≤ x := by omega
      clear hx
      go_enter Tryz.func111, Tryz.ntmps111
      go_wp2
      go_ret
      exact ⟨ret_int HF.out.symm, Below.refl _ _⟩

theorem div96 {n : Nat} (h : 96 % n = 0) : (96 : Int) % (n : Int) = 0 := by rw [show (96 : Int) = ((96 : Nat) : Int) from rfl, ← Int.natCast_emod, h]; rfl
theorem div96' {n : Nat} (h : (96 : Int) % (n : Int) = 0) : 96 % n = 0 := by
  rw [show (96 : Int) = ((96 : Nat) : Int) from rfl, ← Int.natCast_emod] at h
  omega
def rootF (n : Int) : Int := if 1 ≤ n ∧ n ≤ 96 ∧ 96 % n = 0 then (rtN n.toNat : Nat) else -1
theorem rootF_yes {n : Nat} (h0 : 1 ≤ n) (h1 : n ≤ 96) (h2 : 96 % n = 0) : rootF n = (rtN n : Nat) := by
  unfold rootF
  rw [if_pos ⟨by omega, by omega, div96 h2⟩, Int.toNat_natCast]
theorem rootF_no {n : Int} (h : ¬ (1 ≤ n ∧ n ≤ 96 ∧ 96 % n = 0)) : rootF n = -1 := by unfold rootF; exact if_neg h
/-- The first number of an order is its root. -/
theorem rootF_hit {n : Int} {x : Nat} (h0 : 1 ≤ x) (h1 : x ≤ 96) (he : ((ordN x : Nat) : Int) = n) (hl : ∀ y : Nat, 1 ≤ y → y < x → ((ordN y : Nat) : Int) ≠ n) : rootF n = (x : Int) := by
  subst he
  obtain ⟨a, b, c, -⟩ := ord_facts x (by omega) (by omega)
  rw [rootF_yes a b c]
  obtain ⟨d, e, f⟩ := rt_facts (ordN x) (by omega) a c
  have g := rt_least (ordN x) (by omega) a c
  rcases Nat.lt_trichotomy (rtN (ordN x)) x with q | q | q
  · exact absurd (by rw [f]) (hl _ d q)
  · rw [q]
  · exact absurd rfl (g x q (by omega))
theorem rootF_miss {n : Int} (hl : ∀ y : Nat, 1 ≤ y → y < 97 → ((ordN y : Nat) : Int) ≠ n) : rootF n = -1 := by
  refine rootF_no fun ⟨h0, h1, h2⟩ => ?_
  obtain ⟨m, rfl⟩ : ∃ m : Nat, n = (m : Int) := ⟨n.toNat, by omega⟩
  obtain ⟨d, e, f⟩ := rt_facts m (by omega) (by omega) (div96' h2)
  exact hl _ d e (by rw [f])

set_option maxHeartbeats 2000000 in
theorem implRootOf_any (n : Int) (w : World) :
    Calls Tryz.prog 91 #[.int .i64 n] w (Tells (rootF n) w) := by
  go_enter Tryz.func91, Tryz.ntmps91
  go_wp2
  go_loopw [3] (fun i wr => ∃ x : Nat, 1 ≤ x ∧ x ≤ 97 ∧ i = .int .i64 x ∧ Hid (∀ y : Nat, 1 ≤ y → y < x → ((ordN y : Nat) : Int) ≠ n) ∧ Below w.heap.size w wr) (fun i _ => 97 - (intOf i).toNat)
  case atStart => exact ⟨1, by omega, by omega, rfl, fun y h1 h2 => by omega, Below.refl _ _⟩
  case round =>
    obtain ⟨x, hx0, hx1, rfl, hl, hB⟩ := hrel
    by_cases hlt : x < 97
    · have hxi : (x : Int) < 97 := by omega
      have HOB := Lib.hid (obF_yes hx0 (by omega))
      obtain ⟨z, hz⟩ : ∃ z : Nat, z = ordN x := ⟨_, rfl⟩
      have HZ := Lib.hid hz
      rw [← hz] at HOB
      clear hz
      go_wp2_with fail
      refine (implOrderBy_any _ _).mono ?_
      rintro e w1 ⟨rfl, b1⟩
      rw [HOB.out]
      have hB1 := bel_nxt hB b1
      by_cases he : (z : Int) = n
      · have e1 : ((z : Int) == n) = true := by simpa using he
        have HE := Lib.hid he
        clear he
        go_wp2
        go_ret
        exact ⟨ret_int (rootF_hit hx0 (by omega) (by rw [← HZ.out]; exact HE.out) hl.out).symm, hB1⟩
      · have e1 : ((z : Int) == n) = false := by simpa using he
        have HE := Lib.hid he
        clear he
        go_wp2
        go_roundw
        case rel =>
          refine ⟨x + 1, by omega, by omega, by go_num, fun y h1 h2 => ?_, hB1⟩
          by_cases hy : y = x
          · subst hy; rw [← HZ.out]; exact HE.out
          · exact hl.out y h1 (by omega)
        case measure => simp [intOf]; omega
    · obtain rfl : x = 97 := by omega
      have HM := Lib.hid (rootF_miss hl.out)
      clear hl
      go_wp2
      go_ret
      exact ⟨ret_int HM.out.symm, hB⟩

end Go.Proofs.YtagncoahobghpacGreatDoor

namespace Go.Proofs.YtagncoahobghpacGreatDoor
open Go.RowKit
set_option linter.unusedVariables false

theorem infoRest : (Tryz.prog.info? 115).map (fun i => (i.zero, i.size, i.bytes)) = some (some (.agg #[.int .i64 0]), 1, 8) := by kernel_rfl

set_option maxHeartbeats 2000000 in
theorem restsOf_any (v : Value) (xs : List Int) (w : World) (h : Rd w v xs) (hn : 0 < xs.length) (hl : xs.length ≤ 96) (hr : ∀ j, j < xs.length → 0 ≤ ix xs j ∧ ix xs j ≤ 96) :
    Calls Tryz.prog 94 #[v] w (MadeAt 115 w xs) := by
  obtain ⟨a, cap, rfl, h⟩ := h
  obtain ⟨i0, hi, hz0, hz1, hz2⟩ := info_parts infoRest
  rcases h with rfl | ⟨b, off, rfl, hb, hc⟩
  · simp at hn
  obtain ⟨n, hnn⟩ : ∃ n, n = xs.length := ⟨_, rfl⟩
  have HN := Lib.hid hnn
  have HX := Lib.hid (show xs = tab n (ix xs) by rw [hnn]; exact (tab_self xs).symm)
  obtain ⟨F, hF⟩ : ∃ F, F = ix xs := ⟨_, rfl⟩
  rw [← hF, ← hnn] at hc hr
  rw [← hF] at HX
  rw [← hnn] at hn hl ⊢
  clear hF hnn
  go_enter Tryz.func94, Tryz.ntmps94
  go_wp2_with (at_make; refine wpList_make_full _ rfl _ _ 118 rfl w.heap.size 115 i0 (.agg #[.int .i64 0]) 1 Tryz.underlying118 hi hz0 hz1 _ _ _ _ n rfl rfl rfl rfl ?c1 ?c2 ?c3 ?_)
  case c1 => rw [hz2]; omega
  case c2 => unfold maxLen; omega
  case c3 => omega
  intro w1 hown hgrow
  have hO := own_made hown
  have hB := (Below.refl w.heap.size w).grown hgrow (Nat.le_refl _) (by simp)
  clear hown hgrow hi hz0 hz1 hz2
  go_wp2
  go_loopw [11] (fun i wr => ∃ k : Nat, k ≤ n ∧ i = .int .i64 k ∧ Own 115 w.heap.size wr (.slice (some ⟨w.heap.size, 0, none⟩) n n) (tab n (upto k F fun _ => 0)) ∧ Below w.heap.size w wr)
    (fun i _ => n - (intOf i).toNat)
  case atStart => exact ⟨0, Nat.zero_le _, rfl, by rw [upto_none]; exact hO, hB⟩
  case round =>
    obtain ⟨k, hk, rfl, hOr, hBr⟩ := hrel
    by_cases hlt : k < n
    · have hcx : wr.cell? ⟨b, off + k, none⟩ = some (.int .i64 (F k)) := (hBr.cell (by exact hb)).trans (hc k hlt)
      obtain ⟨hr0, hr1⟩ := hr k hlt
      have HM := Lib.hid (Int.emod_eq_of_lt hr0 (show F k < 97 by omega))
      have HO := Lib.hid hOr
      have HB := Lib.hid hBr
      clear hO hB hOr hBr hc hr
      go_wp2_with fail
      refine (restOf_any _ _ hr0 (by omega)).mono ?_
      rintro e w2 ⟨rfl, b2⟩
      rw [HM.out]
      have hO2 := HO.out.below b2 (Nat.le_refl _)
      have hB2 := bel_nxt HB.out b2
      have hck := hO2.cell k (by simpa using hlt)
      have hfk := hO2.frozen k
      have HO3 := hO2.set k (F k)
      rw [upto_set] at HO3
      have HO3 := Lib.hid HO3
      have HB3 := Lib.hid (hB2.setCell (p := ⟨w.heap.size, k, none⟩) (Nat.le_refl _) (.int .i64 (F k)))
      clear hO2 hB2 hcx
      go_wp2
      go_roundw
      case rel => exact ⟨k + 1, by omega, by go_num, HO3.out, HB3.out⟩
      case measure => simp [intOf]; omega
    · obtain rfl : k = n := by omega
      rw [upto_all] at hOr
      have HO := Lib.hid hOr
      clear hOr hO hB
      go_wp2
      go_ret
      exact ⟨w.heap.size, by rw [← HN.out]; rfl, Nat.le_refl _, by rw [HX.out, len_tab]; exact HO.out, hBr⟩

set_option maxHeartbeats 2000000 in
theorem numbersOf_any (v : Value) (xs : List Int) (w : World) (h : Rd w v xs) (hn : 0 < xs.length) (hl : xs.length ≤ 96) :
    Calls Tryz.prog 92 #[v] w (MadeAt 3 w xs) := by
  obtain ⟨a, cap, rfl, h⟩ := h
  obtain ⟨i0, hi, hz0, hz1, hz2⟩ := info_parts infoInt
  rcases h with rfl | ⟨b, off, rfl, hb, hc⟩
  · simp at hn
  obtain ⟨n, hnn⟩ : ∃ n, n = xs.length := ⟨_, rfl⟩
  have HN := Lib.hid hnn
  have HX := Lib.hid (show xs = tab n (ix xs) by rw [hnn]; exact (tab_self xs).symm)
  obtain ⟨F, hF⟩ : ∃ F, F = ix xs := ⟨_, rfl⟩
  rw [← hF, ← hnn] at hc
  rw [← hF] at HX
  rw [← hnn] at hn hl ⊢
  clear hF hnn
  go_enter Tryz.func92, Tryz.ntmps92
  go_wp2_with (at_make; refine wpList_make_full _ rfl _ _ 35 rfl w.heap.size 3 i0 (.int .i64 0) 1 Tryz.underlying35 hi hz0 hz1 _ _ _ _ n rfl rfl rfl rfl ?c1 ?c2 ?c3 ?_)
  case c1 => rw [hz2]; omega
  case c2 => unfold maxLen; omega
  case c3 => omega
  intro w1 hown hgrow
  have hO := own_made hown
  have hB := (Below.refl w.heap.size w).grown hgrow (Nat.le_refl _) (by simp)
  clear hown hgrow hi hz0 hz1 hz2
  go_wp2
  go_loopw [11] (fun i wr => ∃ k : Nat, k ≤ n ∧ i = .int .i64 k ∧ Own 3 w.heap.size wr (.slice (some ⟨w.heap.size, 0, none⟩) n n) (tab n (upto k F fun _ => 0)) ∧ Below w.heap.size w wr)
    (fun i _ => n - (intOf i).toNat)
  case atStart => exact ⟨0, Nat.zero_le _, rfl, by rw [upto_none]; exact hO, hB⟩
  case round =>
    obtain ⟨k, hk, rfl, hOr, hBr⟩ := hrel
    by_cases hlt : k < n
    · have hcx : wr.cell? ⟨b, off + k, none⟩ = some (.int .i64 (F k)) := (hBr.cell (by exact hb)).trans (hc k hlt)
      have hO2 := hOr.grow (.cells #[.int .i64 (F k)] 115)
      have hB2 := hBr.alloc hBr.size (.cells #[.int .i64 (F k)] 115)
      have hck := hO2.cell k (by simpa using hlt)
      have hfk := hO2.frozen k
      have HO3 := (hOr.set k (F k)).grow (.cells #[.int .i64 (F k)] 115)
      rw [upto_set] at HO3
      have HO3 := Lib.hid HO3
      have hsw : w.heap.size ≤ (wr.setCell ⟨w.heap.size, k, none⟩ (.int .i64 (F k))).heap.size := by have := hBr.size; simpa [World.setCell] using this
      have HB3 := Lib.hid ((hBr.setCell (p := ⟨w.heap.size, k, none⟩) (Nat.le_refl _) (.int .i64 (F k))).alloc hsw (.cells #[.int .i64 (F k)] 115))
      clear hsw
      have hsz := (World.ownsRow.lt hOr w.heap.size rfl).2
      clear hO2 hB2 hO hB hOr hBr hc
      go_wp2
      go_roundw
      case rel => exact ⟨k + 1, by omega, by go_num, HO3.out, HB3.out⟩
      case measure => simp [intOf]; omega
    · obtain rfl : k = n := by omega
      rw [upto_all] at hOr
      have HO := Lib.hid hOr
      clear hOr hO hB
      go_wp2
      go_ret
      exact ⟨w.heap.size, by rw [← HN.out]; rfl, Nat.le_refl _, by rw [HX.out, len_tab]; exact HO.out, hBr⟩

theorem vsB_no_div {xs : List Int} (h : ¬ (0 < xs.length ∧ 96 % xs.length = 0)) : vsB xs = false := by
  cases hb : vsB xs with
  | false => rfl
  | true => have := (vsB_iff xs).1 hb; exact absurd ⟨this.some, this.div⟩ h
theorem vsB_no_at {xs : List Int} (k : Nat) (hk : k < xs.length) (h : ¬ (0 ≤ ix xs k ∧ ix xs k ≤ 96)) : vsB xs = false := by
  cases hb : vsB xs with
  | false => rfl
  | true => have := (vsB_iff xs).1 hb; exact absurd (this.rest k hk) h
theorem vsB_yes {xs : List Int} (h : ∀ j, j < xs.length → 0 ≤ ix xs j ∧ ix xs j ≤ 96) (h0 : 0 < xs.length) (h1 : 96 % xs.length = 0) : vsB xs = true := by
  refine (vsB_iff xs).2 ⟨h, h0, ?_, h1⟩
  apply Classical.byContradiction
  intro hn
  rw [Nat.mod_eq_of_lt (by omega)] at h1
  omega
theorem mod96 (n : Nat) : (96 : Int) % (n : Int) = ((96 % n : Nat) : Int) := by rw [show (96 : Int) = ((96 : Nat) : Int) from rfl, ← Int.natCast_emod]

set_option maxHeartbeats 2000000 in
theorem implValidRests_any (v : Value) (xs : List Int) (w : World) (h : Rd w v xs) (hl : xs.length ≤ maxLen) :
    Calls Tryz.prog 89 #[v] w fun e w' => e = .returned (.bool (vsB xs)) ∧ w = w' := by
  unfold maxLen at hl
  obtain ⟨a, cap, rfl, h⟩ := h
  by_cases h0 : xs.length = 0
  · have hno := Lib.hid (vsB_no_div (xs := xs) (fun hh => by have := hh.1; omega))
    have e0 : ((xs.length : Int) == 0) = true := by rw [beq_iff_eq]; omega
    clear h h0
    go_enter Tryz.func89, Tryz.ntmps89
    go_wp2
    go_ret
    exact ⟨ret_bool hno.out.symm, rfl⟩
  rcases h with rfl | ⟨b, off, rfl, hb, hc⟩
  · simp at h0
  have hpos : 0 < xs.length := by omega
  have hposi : (0 : Int) < (xs.length : Int) := by omega
  have e0 : ((xs.length : Int) == 0) = false := by rw [beq_eq_false_iff_ne]; omega
  clear h0
  by_cases hd : 96 % xs.length = 0
  · have HD := Lib.hid hd
    have e1 : ((96 : Int) % (xs.length : Int) != 0) = false := by rw [mod96, hd]; rfl
    have e2 : ((96 : Int) % (xs.length : Int) == 0) = true := by rw [mod96, hd]; rfl
    clear hd
    go_enter Tryz.func89, Tryz.ntmps89
    go_wp2
    go_loop [16] (fun i => ∃ k : Nat, k ≤ xs.length ∧ i = .int .i64 k ∧ Hid (∀ j, j < k → 0 ≤ ix xs j ∧ ix xs j ≤ 96)) (fun i => xs.length - (intOf i).toNat)
    case atStart => exact ⟨0, Nat.zero_le _, rfl, fun j hj => absurd hj (Nat.not_lt_zero j)⟩
    case round =>
      obtain ⟨k, hk, rfl, hok⟩ := hrel
      by_cases hlt : k < xs.length
      · have hck := hc k hlt
        clear hc
        by_cases h1 : 0 ≤ ix xs k
        · by_cases h2 : ix xs k ≤ 96
          · have h1' : ¬ ix xs k < 0 := by omega
            have h2' : ¬ 97 ≤ ix xs k := by omega
            go_wp2
            go_round
            case rel =>
              refine ⟨k + 1, by omega, by go_num, fun j hj => ?_⟩
              by_cases e : j = k
              · subst e; exact ⟨h1, h2⟩
              · exact hok.out j (by omega)
            case measure => simp [intOf]; omega
          · have hno := Lib.hid (vsB_no_at k hlt (fun e => h2 e.2))
            have h1' : ¬ ix xs k < 0 := by omega
            have h2' : 97 ≤ ix xs k := by omega
            clear h2
            go_wp2
            go_ret
            exact ⟨ret_bool hno.out.symm, rfl⟩
        · have hno := Lib.hid (vsB_no_at k hlt (fun e => h1 e.1))
          have h1' : ix xs k < 0 := by omega
          clear h1
          go_wp2
          go_ret
          exact ⟨ret_bool hno.out.symm, rfl⟩
      · have hkl : k = xs.length := by omega
        subst hkl
        have hyes := Lib.hid (vsB_yes hok.out hpos HD.out)
        go_wp2
        go_ret
        exact ⟨ret_bool hyes.out.symm, rfl⟩
  · have hno := Lib.hid (vsB_no_div (xs := xs) (fun hh => hd hh.2))
    have e1 : ((96 : Int) % (xs.length : Int) != 0) = true := by rw [mod96, bne_iff_ne]; omega
    have e2 : ((96 : Int) % (xs.length : Int) == 0) = false := by rw [mod96, beq_eq_false_iff_ne]; omega
    clear hc hd
    go_enter Tryz.func89, Tryz.ntmps89
    go_wp2
    go_ret
    exact ⟨ret_bool hno.out.symm, rfl⟩

/-- How many of the first k are other than 0. -/
def cntN (xs : List Int) (k : Nat) : Int := sumN (fun i => nz (ix xs i)) k
theorem cntN_bd (xs : List Int) (k : Nat) : 0 ≤ cntN xs k ∧ cntN xs k ≤ k := by
  induction k with
  | zero => exact ⟨Int.le_refl _, Int.le_refl _⟩
  | succ k ih =>
    show 0 ≤ cntN xs k + nz (ix xs k) ∧ cntN xs k + nz (ix xs k) ≤ _
    rcases nz_01 (ix xs k) with q | q <;> omega

end Go.Proofs.YtagncoahobghpacGreatDoor
