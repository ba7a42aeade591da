/-
  A rest and its methods, by their contracts.
-/
import Derived.Test.YtabbfehjgchmgaaInfo
import Derived.Test.YtabbfehjgchmgaaWvL
namespace Go.Proofs.Ytabbfehjgchmgaa
open Go.RowKit
set_option linter.unusedVariables false

/-- What a call leaves that hands back a rest and turns nothing that was there. -/
def Rests (z : Int) (w : World) (e : Ending) (w' : World) : Prop := e = .returned (.agg #[.int .i64 z]) ∧ Below w.heap.size w w'

/-- A block of one cell, new before a call, is behind it as it was. -/
theorem held_new {W w1 : World} {c : Value} {E k : Nat} (hb : Below (W.alloc (.cells #[c] E)).heap.size (W.alloc (.cells #[c] E)) w1) (hk : W.heap.size = k) :
    w1.cell? ⟨k, 0, none⟩ = some c ∧ w1.frozen? ⟨k, 0, none⟩ = false ∧ k < w1.heap.size := by
  subst hk
  refine ⟨?_, ?_, ?_⟩
  · rw [hb.cell (p := ⟨W.heap.size, 0, none⟩) (by simp)]; exact cell_new1 _ _ _
  · rw [hb.frozen (p := ⟨W.heap.size, 0, none⟩) (by simp)]; simp [go_sem]
  · have := hb.size; simp at this; omega

set_option maxHeartbeats 1000000 in
theorem restOf_any (z : Int) (w : World) (h0 : 0 ≤ z) (h1 : z ≤ 1000000) :
    Calls Try.prog 46 #[.int .i64 z] w (Rests (z % 97) w) := by
  go_enter Try.func46, Try.ntmps46
  go_wp2
  exact bodyPost_ret (v := .agg #[.int .i64 (z % 97)]) (by simp [results, Try.results46, go_sem]) rfl ⟨rfl, (Below.refl _ _).alloc (Nat.le_refl _) _⟩

theorem restOf_one (w : World) : Calls Try.prog 46 #[.int .i64 1] w (Rests 1 w) := restOf_any 1 w (by omega) (by omega)

theorem restOf_none (w : World) : Calls Try.prog 46 #[.int .i64 0] w (Rests 0 w) := restOf_any 0 w (by omega) (by omega)

set_option maxHeartbeats 1000000 in
theorem times_any (x y : Int) (w : World) (hx : 0 ≤ x ∧ x ≤ 96) (hy : 0 ≤ y ∧ y ≤ 96) :
    Calls Try.prog 47 #[.agg #[.int .i64 x], .agg #[.int .i64 y]] w (Rests (x * y % 97) w) := by
  obtain ⟨hx0, hx1⟩ := hx
  obtain ⟨hy0, hy1⟩ := hy
  have h0 : 0 ≤ x * y := Int.mul_nonneg hx0 hy0
  have h1 : x * y ≤ 96 * 96 := Int.mul_le_mul hx1 hy1 hy0 (by omega)
  go_enter Try.func47, Try.ntmps47
  go_wp2_with fail
  refine (restOf_any _ _ h0 (by omega)).mono ?_
  rintro e w1 ⟨rfl, b1⟩
  obtain ⟨hc, hf, hs⟩ := held_new b1 (k := w.heap.size + 1 + 1) (by simp)
  go_wp2
  exact bodyPost_ret (v := .agg #[.int .i64 (x * y % 97)]) (by simp [results, Try.results47, go_sem, hc]) rfl ⟨rfl, ((((Below.refl _ _).alloc (Nat.le_refl _) _).alloc (by simp) _).alloc (by simp; omega) _ |>.trans (b1.mono (by simp; omega))).setCell (by simp; omega) _⟩

set_option maxHeartbeats 1000000 in
theorem plus_any (x y : Int) (w : World) (hx : 0 ≤ x ∧ x ≤ 96) (hy : 0 ≤ y ∧ y ≤ 96) :
    Calls Try.prog 61 #[.agg #[.int .i64 x], .agg #[.int .i64 y]] w (Rests ((x + y) % 97) w) := by
  obtain ⟨hx0, hx1⟩ := hx
  obtain ⟨hy0, hy1⟩ := hy
  go_enter Try.func61, Try.ntmps61
  go_wp2_with fail
  refine (restOf_any _ _ (by omega) (by omega)).mono ?_
  rintro e w1 ⟨rfl, b1⟩
  obtain ⟨hc, hf, hs⟩ := held_new b1 (k := w.heap.size + 1 + 1) (by simp)
  go_wp2
  exact bodyPost_ret (v := .agg #[.int .i64 ((x + y) % 97)]) (by simp [results, Try.results61, go_sem, hc]) rfl ⟨rfl, ((((Below.refl _ _).alloc (Nat.le_refl _) _).alloc (by simp) _).alloc (by simp; omega) _ |>.trans (b1.mono (by simp; omega))).setCell (by simp; omega) _⟩

/-- A store leaves the other blocks. -/
theorem cell_else (w : World) {a : Addr} (u : Value) {k o : Nat} (h : k ≠ a.block) : (w.setCell a u).cell? ⟨k, o, none⟩ = w.cell? ⟨k, o, none⟩ := World.cell?_of_block (w := w) (Below.heap_setCell _ _ _ _ h)
theorem frozen_else (w : World) {a : Addr} (u : Value) {k o : Nat} (h : k ≠ a.block) : (w.setCell a u).frozen? ⟨k, o, none⟩ = w.frozen? ⟨k, o, none⟩ := World.frozen?_of_block (w := w) (Below.heap_setCell _ _ _ _ h)

/-- What power carries round: its result's cell, and the power so far. -/
structure PwI (w wr : World) (z : Int) : Prop where
  res : wr.cell? ⟨w.heap.size + 1, 0, none⟩ = some (.int .i64 0)
  resf : wr.frozen? ⟨w.heap.size + 1, 0, none⟩ = false
  cur : wr.cell? ⟨w.heap.size + 1 + 1, 0, none⟩ = some (.int .i64 z)
  curf : wr.frozen? ⟨w.heap.size + 1 + 1, 0, none⟩ = false
  size : w.heap.size + 1 + 1 < wr.heap.size
  bel : Below w.heap.size w wr
theorem PwI.call {w wr w1 : World} {z : Int} (h : PwI w wr z) (b : Below wr.heap.size wr w1) : PwI w w1 z := by
  have hs := h.size
  refine ⟨?_, ?_, ?_, ?_, Nat.lt_of_lt_of_le hs b.size, h.bel.trans (b.mono (by omega))⟩
  · rw [b.cell (p := ⟨w.heap.size + 1, 0, none⟩) (by show w.heap.size + 1 < _; omega)]; exact h.res
  · rw [b.frozen (p := ⟨w.heap.size + 1, 0, none⟩) (by show w.heap.size + 1 < _; omega)]; exact h.resf
  · rw [b.cell (p := ⟨w.heap.size + 1 + 1, 0, none⟩) (by show w.heap.size + 1 + 1 < _; omega)]; exact h.cur
  · rw [b.frozen (p := ⟨w.heap.size + 1 + 1, 0, none⟩) (by show w.heap.size + 1 + 1 < _; omega)]; exact h.curf
theorem PwI.alloc {w wr : World} {z : Int} (h : PwI w wr z) (o : Obj) : PwI w (wr.alloc o) z := h.call ((Below.refl _ _).alloc (Nat.le_refl _) _)
theorem PwI.drew {w wr : World} {z : Int} (h : PwI w wr z) : PwI w wr.drew z := ⟨h.res, h.resf, h.cur, h.curf, h.size, below_drewN h.bel 1⟩
theorem PwI.set {w wr : World} {z : Int} (h : PwI w wr z) (u : Int) : PwI w (wr.setCell ⟨w.heap.size + 1 + 1, 0, none⟩ (.int .i64 u)) u := by
  have hs := h.size
  refine ⟨?_, ?_, ?_, ?_, by simpa [World.setCell] using hs, h.bel.setCell (by show w.heap.size ≤ w.heap.size + 1 + 1; omega) _⟩
  · rw [World.cell?_of_block (w := wr) (Below.heap_setCell _ _ _ _ (by show w.heap.size + 1 ≠ w.heap.size + 1 + 1; omega))]; exact h.res
  · rw [World.frozen?_of_block (w := wr) (Below.heap_setCell _ _ _ _ (by show w.heap.size + 1 ≠ w.heap.size + 1 + 1; omega))]; exact h.resf
  · have hc := h.cur; simp [go_sem, hc]
  · have hf := h.curf; simp [go_sem, hf]
theorem PwI.start (w : World) (x : Int) (c : Value) (E : Nat) : PwI w (((w.alloc (.cells #[c] E)).alloc (.cells #[.int .i64 0] E)).alloc (.cells #[.int .i64 x] E)) x := by
  have b := (Below.refl ((w.alloc (.cells #[c] E)).alloc (.cells #[.int .i64 0] E)).heap.size ((w.alloc (.cells #[c] E)).alloc (.cells #[.int .i64 0] E))).alloc (Nat.le_refl _) (.cells #[.int .i64 x] E)
  obtain ⟨h1, h2, -⟩ := held_new b (k := w.heap.size + 1) (by simp)
  obtain ⟨h3, h4, -⟩ := held_new (Below.refl _ (((w.alloc (.cells #[c] E)).alloc (.cells #[.int .i64 0] E)).alloc (.cells #[.int .i64 x] E))) (k := w.heap.size + 1 + 1) (by simp)
  exact ⟨h1, h2, h3, h4, by simp, ((((Below.refl _ _).alloc (Nat.le_refl _) _).alloc (by simp) _).alloc (by simp; omega) _)⟩

/-- The power behind k of the exponents. -/
def pwk (x : Nat) (es : List Int) : Nat → Nat
  | 0 => x
  | k + 1 => pm (pwk x es k) (ix es k).toNat
theorem pwk_lt {x : Nat} (hx : x < 97) (es : List Int) (k : Nat) : pwk x es k < 97 := by
  cases k with
  | zero => exact hx
  | succ k => exact pm_lt _ _
theorem pm_next (x m : Nat) : ((pm x m : Nat) : Int) * (x : Int) % 97 = ((pm x (m + 1) : Nat) : Int) := by
  show _ = ((pm x m * x % 97 : Nat) : Int)
  rw [Int.natCast_emod, Int.natCast_mul]; rfl

set_option maxHeartbeats 4000000 in
theorem power_any (x : Nat) (es : List Int) (v : Value) (w : World) (h : Rd w v es) (hx : x < 97) (hl : es.length ≤ 16) (he : ∀ j, j < es.length → 0 ≤ ix es j ∧ ix es j ≤ 96) :
    Calls Try.prog 65 #[.agg #[.int .i64 x], v] w (Rests (pwk x es es.length) w) := by
  obtain ⟨a, cap, rfl, h⟩ := h
  rcases h with rfl | ⟨b, off, rfl, hb, hc⟩
  · have HP := Lib.hid (PwI.start w x (.int .i64 x) 44)
    go_enter Try.func65, Try.ntmps65
    go_wp2
    refine wp_loop_rounds 1 ?_
    rw [rounds_succ]
    go_wp2
    exact bodyPost_ret (v := .agg #[.int .i64 x]) (by simp [results, Try.results65, go_sem]) rfl ⟨rfl, ((((Below.refl _ _).alloc (Nat.le_refl _) _).alloc (by simp) _).alloc (by simp; omega) _)⟩
  · have HP := PwI.start w x (.int .i64 x) 44
    go_enter Try.func65, Try.ntmps65
    go_wp2
    go_loopw [12] (fun i wr => ∃ k : Nat, k ≤ es.length ∧ i = .int .i64 k ∧ PwI w wr (pwk x es k : Nat)) (fun i _ => es.length - (intOf i).toNat)
    case atStart => exact ⟨0, Nat.zero_le _, rfl, HP⟩
    case round =>
      obtain ⟨k, hk, rfl, hI⟩ := hrel
      by_cases hlt : k < es.length
      · have hck : wr.cell? ⟨b, off + k, none⟩ = some (.int .i64 (ix es k)) := (hI.bel.cell (by exact hb)).trans (hc k hlt)
        have hE := he k hlt
        have HPK : Hid (pwk x es (k + 1) = pm (pwk x es k) (ix es k).toNat) := rfl
        have hp := pwk_lt hx es k
        clear HP hc he
        generalize pwk x es k = p at hI HPK hp
        obtain ⟨m, hm⟩ : ∃ m : Nat, ix es k = (m : Int) := ⟨(ix es k).toNat, by omega⟩
        rw [hm] at hck HPK hE
        have HPK := Lib.hid (show pwk x es (k + 1) = pm p m by rw [HPK.out]; simp)
        clear hm
        have HI := Lib.hid hI
        obtain ⟨hr1, hr2, hr3, hr4, hr5, -⟩ := hI
        obtain ⟨gb, hgb⟩ : ∃ gb, gb = wr.heap.size := ⟨_, rfl⟩
        have hgs : w.heap.size + 1 + 1 < gb := by omega
        have HGB := Lib.hid hgb
        clear hgb
        go_wp2_with fail
        refine (restOf_one _).mono ?_
        rintro e w1 ⟨rfl, b1⟩
        have hI1 := (HI.out.alloc (.cells #[.int .i64 p] 44)).call b1
        obtain ⟨hb1, -, hb2⟩ := held_new b1 (k := wr.heap.size) rfl
        rw [← HGB.out] at hb1 hb2 ⊢
        have hI2 := Lib.hid (hI1.set 1)
        obtain ⟨hq1, hq2, hq3, hq4, hq5, -⟩ := hI1
        clear hr1 hr2 hr3 hr4 hr5
        go_wp2
        go_loopw [19] (fun i wr => ∃ j : Nat, j ≤ m ∧ i = .int .i64 j ∧ PwI w wr (pm p j : Nat) ∧ wr.cell? ⟨gb, 0, none⟩ = some (.int .i64 p) ∧ gb < wr.heap.size) (fun i _ => m - (intOf i).toNat)
        case atStart => exact ⟨0, Nat.zero_le _, rfl, hI2.out, (cell_else w1 _ (k := gb) (by show gb ≠ w.heap.size + 1 + 1; omega)).trans hb1, by simpa [World.setCell] using hb2⟩
        case round =>
          obtain ⟨j, hj, rfl, hJ, hbc, hbs⟩ := hrel
          by_cases hjl : j < m
          · have HJ := Lib.hid hJ
            obtain ⟨hr1, hr2, hr3, hr4, hr5, -⟩ := hJ
            have hq := pm_lt p j
            go_wp2_with fail
            refine (times_any _ _ _ (by omega) (by omega)).mono ?_
            rintro e w2 ⟨rfl, b2⟩
            rw [pm_next]
            have hI3 := HJ.out.call b2
            have hbc := b2.cell (p := ⟨gb, 0, none⟩) hbs |>.trans hbc
            have hbs := Nat.lt_of_lt_of_le hbs b2.size
            have hI4 := Lib.hid (hI3.set (pm p (j + 1) : Nat))
            have HBC := Lib.hid ((cell_else w2 (a := ⟨w.heap.size + 1 + 1, 0, none⟩) (.int .i64 (pm p (j + 1) : Nat)) (k := gb) (o := 0) (by show gb ≠ w.heap.size + 1 + 1; omega)).trans hbc)
            obtain ⟨hq1, hq2, hq3, hq4, hq5, -⟩ := hI3
            clear hr1 hr2 hr3 hr4 hr5
            go_wp2
            go_roundw
            case rel => exact ⟨j + 1, by omega, by go_num, hI4.out, HBC.out, by simpa [World.setCell] using hbs⟩
            case measure => simp [intOf]; omega
          · obtain rfl : j = m := by omega
            rw [← HPK.out] at hJ
            have HJ := Lib.hid hJ
            clear hJ
            go_wp2
            go_roundw
            case rel => exact ⟨k + 1, by omega, by go_num, HJ.out⟩
            case measure => simp [intOf]; omega
      · obtain rfl : k = es.length := by omega
        obtain ⟨hr1, hr2, hr3, hr4, hr5, hbel⟩ := hI
        obtain ⟨z, hz⟩ : ∃ z, pwk x es es.length = z := ⟨_, rfl⟩
        rw [hz] at hr3
        have HZ := Lib.hid hz
        clear hz
        have hs1 : w.heap.size + 1 < wr.heap.size := by omega
        go_wp2
        exact bodyPost_ret (v := .agg #[.int .i64 z]) (by simp [results, Try.results65, go_sem, hr1]) rfl ⟨by rw [HZ.out], hbel.setCell (by simp) _⟩

theorem power_one (x k : Nat) (v : Value) (w : World) (h : Rd w v [(k : Int)]) (hx : x < 97) (hk : k ≤ 96) :
    Calls Try.prog 65 #[.agg #[.int .i64 x], v] w (Rests (pm x k : Nat) w) := by
  refine power_any x [(k : Int)] v w h hx (by simp) ?_
  intro j hj
  obtain rfl : j = 0 := by simpa using hj
  simp only [ix, List.getD_cons_zero]
  omega

theorem rd_lit1 (w : World) (z : Int) (E k : Nat) (hk : w.heap.size = k) : Rd (w.alloc (.cells #[.int .i64 z] E)) (.slice (some ⟨k, 0, none⟩) 1 1) [z] := by
  subst hk
  refine ⟨_, 1, rfl, .inr ⟨_, _, rfl, by simp, fun j hj => ?_⟩⟩
  obtain rfl : j = 0 := by simpa using hj
  exact cell_new1 _ _ _
theorem held_old {W w1 : World} {c : Value} {k o : Nat} (b : Below W.heap.size W w1) (hk : k < W.heap.size) (hc : W.cell? ⟨k, o, none⟩ = some c) (hf : W.frozen? ⟨k, o, none⟩ = false) :
    w1.cell? ⟨k, o, none⟩ = some c ∧ w1.frozen? ⟨k, o, none⟩ = false ∧ k < w1.heap.size :=
  ⟨by rw [b.cell (p := ⟨k, o, none⟩) hk]; exact hc, by rw [b.frozen (p := ⟨k, o, none⟩) hk]; exact hf, Nat.lt_of_lt_of_le hk b.size⟩

set_option maxHeartbeats 1000000 in
theorem inverse_any (x : Nat) (w : World) (hx : x < 97) :
    Calls Try.prog 58 #[.agg #[.int .i64 x]] w (Rests (invN x : Nat) w) := by
  have HI : Hid (pm x 95 = invN x) := rfl
  go_enter Try.func58, Try.ntmps58
  go_wp2_with fail
  refine (power_one x 95 _ _ (rd_lit1 _ _ _ _ (by simp)) hx (by omega)).mono ?_
  rintro e w1 ⟨rfl, b1⟩
  rw [HI.out]
  obtain ⟨hc, hf, hs⟩ := held_old (k := w.heap.size + 1) (o := 0) (c := .int .i64 0) b1 (by simp) (by simp [go_sem]) (by simp [go_sem])
  clear HI
  go_wp2
  exact bodyPost_ret (v := .agg #[.int .i64 (invN x : Nat)]) (by simp [results, Try.results58, go_sem, hc]) rfl ⟨rfl, ((((Below.refl _ _).alloc (Nat.le_refl _) _).alloc (by simp) _).alloc (by simp; omega) _ |>.trans (b1.mono (by simp; omega))).setCell (by simp) _⟩

end Go.Proofs.Ytabbfehjgchmgaa
