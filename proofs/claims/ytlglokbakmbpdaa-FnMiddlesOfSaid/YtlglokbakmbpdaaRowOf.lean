/-
  one, rowOf and the rows that are drawn: some row of ints, each fitting its kind.
-/
import Derived.Test.YtlglokbakmbpdaaDraw
namespace Go.Proofs.Ytlglokbakmbpdaa
open Go.RowKit
set_option linter.unusedVariables false

/-- What one leaves: a number of the list. -/
def One (T : Nat) (w : World) (R p : Nat) (xs : List Int) (e : Ending) (w' : World) : Prop :=
  ∃ k, k < xs.length ∧ e = .returned (.int .i64 (ix xs k)) ∧ Rdr T w' R (p + 1) ∧ w.grownBy w' (some R)

theorem one_any (R p : Nat) (v : Value) (xs : List Int) (w : World) (h : Rdr 63 w R p) (hp : p ≤ 4000) (hx : Rd w v xs) (h1 : 1 ≤ xs.length) (h2 : xs.length ≤ 100000) (hne : v.ownBlock ≠ some R) :
    Calls Try.prog 49 #[.pointer (some ⟨R, 0, none⟩), v] w (One 63 w R p xs) := by
  obtain ⟨a, cap, rfl, hr⟩ := hx
  rcases hr with rfl | ⟨b, off, rfl, hb, hc⟩
  · simp at h1
  have hbne : b ≠ R := by simpa [Value.ownBlock] using hne
  go_enter Try.func49, Try.ntmps49
  go_wp2_with fail
  refine (pick_any R p xs.length _ h (by omega) h1 h2).mono ?_
  rintro e w1 ⟨k, rfl, hk, hR, hg⟩
  have hcx := hg.cell (hc k hk) (by simpa using hbne)
  have i1 : (k : Int) < (xs.length : Int) := by omega
  clear hc
  go_wp2
  go_ret
  exact ⟨k, hk, rfl, hR, hg⟩

/-- What a draw of a row leaves. -/
def Drawn (E T : Nat) (w : World) (R p0 : Nat) (e : Ending) (w' : World) : Prop :=
  ∃ v xs p', e = .returned v ∧ Own E w.heap.size w' v xs ∧ xs.length ≤ 64 ∧ (∀ x ∈ xs, (Lit.int .i64 x).wf = true) ∧ Rdr T w' R p' ∧ p' ≤ p0 + 100 ∧ w.grownBy w' (some R)

/-- A row on the way of being drawn. -/
def Row (E T : Nat) (w wr : World) (R : Nat) (v : Value) (k : Nat) (p : Nat) : Prop :=
  ∃ xs, Own E w.heap.size wr v xs ∧ xs.length = k ∧ (∀ x ∈ xs, (Lit.int .i64 x).wf = true) ∧ Rdr T wr R p ∧ w.grownBy wr (some R)

theorem Own.ne {E B R : Nat} {w : World} {v : Value} {xs : List Int} (h : Own E B w v xs) (hR : R < B) : v.ownBlock = none ∨ v.ownBlock ≠ some R := by
  cases hv : v.ownBlock with
  | none => exact .inl rfl
  | some k => right; intro e; injection e with e; have := (World.ownsRow.lt h k hv).1; omega

theorem Row.picked {E T R p k : Nat} {w wr w1 : World} {v : Value} (h : Row E T w wr R v k p) (hR : R < w.heap.size) (hr : Rdr T w1 R (p + 1)) (hg : wr.grownBy w1 (some R)) : Row E T w w1 R v k (p + 1) := by
  obtain ⟨xs, h1, h2, h3, h4, h5⟩ := h
  exact ⟨xs, h1.kept hg (h1.ne hR), h2, h3, hr, World.grownBy.trans h5 hg⟩
theorem Row.alloc {E T R p k : Nat} {w wr : World} {v : Value} (h : Row E T w wr R v k p) (o : Obj) : Row E T w (wr.alloc o) R v k p := by
  obtain ⟨xs, h1, h2, h3, h4, h5⟩ := h
  exact ⟨xs, h1.grow o, h2, h3, h4.kept (World.grownBy_alloc wr o none) (by simp), World.grownBy.trans h5 (World.grownBy_alloc wr o (some R))⟩
theorem Row.rdr {E T R p k : Nat} {w wr : World} {v : Value} (h : Row E T w wr R v k p) : Rdr T wr R p := by
  obtain ⟨xs, h1, h2, h3, h4, h5⟩ := h; exact h4
theorem Row.size {E T R p k : Nat} {w wr : World} {v : Value} (h : Row E T w wr R v k p) : w.heap.size ≤ wr.heap.size := by
  obtain ⟨xs, h1, h2, h3, h4, h5⟩ := h; exact h5.size
theorem Row.slice {E T R p k : Nat} {w wr : World} {v : Value} (h : Row E T w wr R v k p) : ∃ a cap, v = .slice a k cap := by
  obtain ⟨xs, h1, rfl, h3, h4, h5⟩ := h
  rcases h1.shape with ⟨rfl, rfl⟩ | ⟨g, cap, rfl, _⟩
  · exact ⟨none, 0, rfl⟩
  · exact ⟨_, _, rfl⟩
/-- Behind an append of what fits. -/
theorem Row.app {E T R p k m : Nat} {w wr w0 w1 : World} {v v' : Value} {xs ys : List Int} (h : Rdr T wr R p) (hR : R < w.heap.size) (hg0 : w.grownBy wr (some R)) (hO : Own E w.heap.size wr v xs) (hk : xs.length = k) (hx : ∀ x ∈ xs, (Lit.int .i64 x).wf = true)
    (hy : ∀ x ∈ ys, (Lit.int .i64 x).wf = true) (hm : ys.length = m) (hO' : Own E w.heap.size w1 v' (xs ++ ys)) (hg : w0.grownBy w1 v.ownBlock) (h0 : wr.grownBy w0 none) : Row E T w w1 R v' (k + m) p := by
  have hg1 := grown_thru h0 hg
  have hb : ∀ j, v.ownBlock = some j → w.heap.size ≤ j := fun j hj => (World.ownsRow.lt hO j hj).1
  refine ⟨xs ++ ys, hO', by simp [hk, hm], ?_, h.kept hg1 (fun j hj => by have := hb j hj; omega), World.grownBy.andThen hg0 hg1 (fun j hj => .inl (hb j hj))⟩
  intro x hxy
  rcases List.mem_append.1 hxy with h | h
  · exact hx x h
  · exact hy x h
theorem wf_small {x : Int} (h : -1000000 ≤ x ∧ x ≤ 1000000) : (Lit.int .i64 x).wf = true := WalkArith.wf_i64 (by omega)
theorem ix_range {xs : List Int} {lo hi : Int} (h : ∀ x ∈ xs, lo ≤ x ∧ x ≤ hi) {k : Nat} (hk : k < xs.length) : lo ≤ ix xs k ∧ ix xs k ≤ hi := by
  refine h _ ?_
  simp [ix, List.getD, List.getElem?_eq_getElem hk]

/-- A slice of numbers that are written out. -/
theorem own_lit (E B g : Nat) (w : World) (cs : Array Value) (xs : List Int) (n : Nat) (hg : w.heap.size = g) (hB : B ≤ g) (h : cs.toList = xs.map (Value.int .i64)) (hn : xs.length = n) (hl : n ≤ maxLen) :
    Own E B (w.alloc (.cells cs E)) (.slice (some ⟨g, 0, none⟩) n n) xs := by
  subst hg; subst hn
  have hs : cs.size = xs.length * 1 := by rw [← Array.length_toList, h]; simp
  have := World.ownsRow_lit (e := E) (base := B) w cs xs.length hB hl hs
  rw [h] at this
  exact this
theorem Row.drawn {E T R p k p0 : Nat} {w wr : World} {v : Value} (h : Row E T w wr R v k p) (hk : k ≤ 64) (hp : p ≤ p0 + 100) : Drawn E T w R p0 (.returned v) wr := by
  obtain ⟨xs, h1, h2, h3, h4, h5⟩ := h
  exact ⟨v, xs, p, rfl, h1, by omega, h3, h4, hp, h5⟩
theorem Row.set {E T R p k g cap j : Nat} {w wr : World} {u : Int} (h : Row E T w wr R (.slice (some ⟨g, 0, none⟩) k cap) k p) (hg : w.heap.size ≤ g) (hR : R < w.heap.size) (hu : (Lit.int .i64 u).wf = true) : Row E T w (wr.setCell ⟨g, j, none⟩ (.int .i64 u)) R (.slice (some ⟨g, 0, none⟩) k cap) k p := by
  obtain ⟨xs, h1, h2, h3, h4, h5⟩ := h
  have hgr := grown_set (World.grownBy.refl wr (some g)) j (.int .i64 u)
  refine ⟨_, h1.set j u, by simp [h2], ?_, h4.kept hgr (fun q hq => by injection hq with hq; omega), World.grownBy.andThen h5 hgr (fun q hq => by injection hq with hq; left; omega)⟩
  intro x hx
  rcases List.mem_or_eq_of_mem_set hx with h | h
  · exact h3 x h
  · rw [h]; exact hu
theorem Row.cell {E T R p k g cap j : Nat} {w wr : World} (h : Row E T w wr R (.slice (some ⟨g, 0, none⟩) k cap) k p) (hj : j < k) : (∃ u : Int, wr.cell? ⟨g, j, none⟩ = some (.int .i64 u)) ∧ wr.frozen? ⟨g, j, none⟩ = false := by
  obtain ⟨xs, h1, h2, h3, h4, h5⟩ := h
  exact ⟨⟨_, h1.cell j (by omega)⟩, h1.frozen j⟩
theorem Row.shape {E T R p k cap : Nat} {a : Option Addr} {w wr : World} (h : Row E T w wr R (.slice a k cap) k p) : k = 0 ∨ ∃ g, a = some ⟨g, 0, none⟩ ∧ w.heap.size ≤ g := by
  obtain ⟨xs, h1, h2, h3, h4, h5⟩ := h
  rcases h1.shape with ⟨h, rfl⟩ | ⟨g, c, h, hg, _⟩
  · left; simpa using h2.symm
  · right
    simp only [Value.slice.injEq] at h
    exact ⟨g, h.1, hg⟩
theorem tmod_bd {x d : Int} (h0 : 0 ≤ x) (hd : 1 ≤ d) : 0 ≤ x % d ∧ x % d < d := ⟨Int.emod_nonneg _ (by omega), Int.emod_lt_of_pos _ (by omega)⟩

set_option maxHeartbeats 8000000 in
set_option maxRecDepth 100000 in
theorem rowOf_any (R p n : Nat) (w : World) (h : Rdr 63 w R p) (hp : p ≤ 3000) (hn : n ≤ 32) :
    Calls Try.prog 48 #[.pointer (some ⟨R, 0, none⟩), .int .i64 n] w (Drawn 3 63 w R p) := by
  have hR := h.lt
  go_enter Try.func48, Try.ntmps48
  go_wp2_with fail
  have hr0 : Row 3 63 w (w.alloc (.cells #[] 3)) R (.slice (some ⟨w.heap.size, 0, none⟩) 0 0) 0 p :=
    ⟨[], own_empty _ _ w (Nat.le_refl _), rfl, by simp, h.kept (World.grownBy_alloc w _ none) (by simp), World.grownBy_alloc w _ _⟩
  have hr1 := hr0.alloc (.cells #[.int .i64 5, .int .i64 20, .int .i64 3, .int .i64 200, .int .i64 1000] 3)
  have hlit := own_lit 3 0 (w.heap.size + 1) (w.alloc (.cells #[] 3)) #[.int .i64 5, .int .i64 20, .int .i64 3, .int .i64 200, .int .i64 1000] [5, 20, 3, 200, 1000] 5 (by simp) (Nat.zero_le _) rfl rfl (by unfold maxLen; omega)
  refine (one_any R p _ [5, 20, 3, 200, 1000] _ hr1.rdr (by omega) hlit.rd (by simp) (by simp) (by simp [Value.ownBlock]; omega)).mono ?_
  rintro e w1 ⟨k0, hk0, rfl, hR1, g1⟩
  have hM := ix_range (lo := 3) (hi := 1000) (by decide : ∀ x ∈ ([5, 20, 3, 200, 1000] : List Int), (3 : Int) ≤ x ∧ x ≤ 1000) hk0
  obtain ⟨M, hMM⟩ : ∃ M, M = ix [5, 20, 3, 200, 1000] k0 := ⟨_, rfl⟩
  rw [← hMM] at hM ⊢
  obtain ⟨hM1, hM2⟩ := hM
  have hrow := hr1.picked hR hR1 g1
  clear hMM hr0 hr1 hlit hR1 g1 hk0 h
  go_wp2
  go_loopw [5] (fun v wr => ∃ a cap k q, v = .slice a k cap ∧ k ≤ n ∧ q ≤ p + 1 + 2 * k ∧ Row 3 63 w wr R v k q) (fun v _ => n - (match v with | .slice _ k _ => k | _ => 0))
  case atStart => exact ⟨_, _, 0, p + 1, rfl, Nat.zero_le _, by omega, hrow⟩
  case round =>
    obtain ⟨a, cap, k, q, rfl, hk, hq, hrw⟩ := hrel
    clear hrow
    by_cases hlt : k < n
    · go_wp2_with fail
      refine (pick_any R q 256 _ hrw.rdr (by omega) (by omega) (by omega)).mono ?_
      rintro e w2 ⟨x, rfl, hx, hR2, g2⟩
      have hrw := hrw.picked hR hR2 g2
      go_wp2_with fail
      refine (pick_any R (q + 1) 256 _ hrw.rdr (by omega) (by omega) (by omega)).mono ?_
      rintro e w3 ⟨y, rfl, hy, hR3, g3⟩
      have hrw := hrw.picked hR hR3 g3
      clear hR2 g2 hR3 g3
      have hbd := tmod_bd (x := (x : Int) * 256 + (y : Int)) (d := 2 * M + 1) (by omega) (by omega)
      obtain ⟨hb1, hb2⟩ := hbd
      have i0 : ((2 * M + 1) == 0) = false := by simp; omega
      have hsz := hrw.size
      obtain ⟨xs, hO, hxk, hxw, hR4, hg4⟩ := hrw
      have HX := Lib.hid hxk
      clear hxk
      go_wp2_with (at_builtin; refine app_int rfl _ _ 23 rfl w.heap.size 3 Try.underlying23 infoInt _ xs rfl (hO.grow _) ⟨w3.heap.size, 0, none⟩ rfl (((x : Int) * 256 + (y : Int)) % (2 * M + 1) - M) ?c1 ?c2 ?c3 ?_)
      case c1 => exact cell_new1 _ _ _
      case c2 => have := HX.out; omega
      case c3 => simp; omega
      intro v' w5 hO' hg'
      have hrow' := Row.app hR4 hR hg4 hO HX.out hxw (ys := [((x : Int) * 256 + (y : Int)) % (2 * M + 1) - M]) (m := 1) (by intro z hz; simp at hz; subst hz; exact wf_small (by omega)) rfl hO' hg' (World.grownBy_alloc w3 _ none)
      obtain ⟨a', c', hv'⟩ := hrow'.slice
      subst hv'
      clear hO hO' hg' hR4 hg4 hxw hb1 hb2 i0
      go_wp2
      go_roundw
      case rel => exact ⟨a', c', k + 1, q + 1 + 1, rfl, by omega, by omega, hrow'⟩
      case measure => simp; omega
    · obtain rfl : k = n := by omega
      go_wp2_with fail
      refine (pick_any R q 12 _ hrw.rdr (by omega) (by omega) (by omega)).mono ?_
      rintro e w2 ⟨x, rfl, hx, hR2, g2⟩
      have hrw := hrw.picked hR hR2 g2
      clear hR2 g2
      by_cases hx0 : x = 0
      · subst hx0
        rcases hrw.shape with hk0 | ⟨g, rfl, hg⟩
        · subst hk0
          go_wp2
          refine wp_loop_rounds 1 ?_
          rw [rounds_succ]
          go_wp2_with fail
          refine (pick_any R (q + 1) 40 _ hrw.rdr (by omega) (by omega) (by omega)).mono ?_
          rintro e w4 ⟨y, rfl, hy, hR4, g4⟩
          have hrw := hrw.picked hR hR4 g4
          clear hR4 g4
          by_cases hy0 : y = 0
          · subst hy0
            go_wp2_with fail
            have hrw2 := hrw.alloc (.cells #[.int .i64 1001, .int .i64 (-1001)] 3)
            have hlit := own_lit 3 0 w4.heap.size w4 #[.int .i64 1001, .int .i64 (-1001)] [1001, -1001] 2 rfl (Nat.zero_le _) rfl rfl (by unfold maxLen; omega)
            have hsz := hrw.size
            refine (one_any R ((q + 1) + 1) _ [1001, -1001] _ hrw2.rdr (by omega) hlit.rd (by simp) (by simp) (by simp [Value.ownBlock]; omega)).mono ?_
            rintro e w5 ⟨k1, hk1, rfl, hR5, g5⟩
            have hZ := ix_range (lo := -1001) (hi := 1001) (by decide : ∀ x ∈ ([1001, -1001] : List Int), (-1001 : Int) ≤ x ∧ x ≤ 1001) hk1
            obtain ⟨Z, hZZ⟩ : ∃ Z, Z = ix [1001, -1001] k1 := ⟨_, rfl⟩
            rw [← hZZ] at hZ ⊢
            have hrw3 := hrw2.picked hR hR5 g5
            have hsz3 := hrw3.size
            obtain ⟨xs, hO, hxk, hxw, hR6, hg6⟩ := hrw3
            have HX := Lib.hid hxk
            clear hxk hZZ hrw hrw2 hlit hR5 g5 hk1 hsz
            go_wp2_with (at_builtin; refine app_int rfl _ _ 23 rfl w.heap.size 3 Try.underlying23 infoInt _ xs rfl (hO.grow _) ⟨w5.heap.size, 0, none⟩ rfl Z ?_ ?_ ?_ ?_)
            · exact cell_new1 _ _ _
            · have := HX.out; omega
            · simp; omega
            intro v' w7 hO' hg'
            have hrow' := Row.app hR6 hR hg6 hO HX.out hxw (ys := [Z]) (m := 1) (by intro z hz; simp at hz; subst hz; exact wf_small (by omega)) rfl hO' hg' (World.grownBy_alloc w5 _ none)
            clear hO hO' hg' hR6 hg6 hxw
            go_wp2
            go_ret
            exact hrow'.drawn (by omega) (by omega)
          · have y0 : ((y : Int) == 0) = false := by simp; omega
            by_cases hy1 : y = 1
            · subst hy1
              have hsz := hrw.size
              obtain ⟨xs, hO, hxk, hxw, hR6, hg6⟩ := hrw
              have HX := Lib.hid hxk
              clear hxk
              have hlit := own_lit 3 0 w4.heap.size w4 #[.int .i64 1, .int .i64 1, .int .i64 1, .int .i64 1, .int .i64 1, .int .i64 1, .int .i64 1, .int .i64 1, .int .i64 1, .int .i64 1, .int .i64 1, .int .i64 1, .int .i64 1, .int .i64 1, .int .i64 1, .int .i64 1, .int .i64 1] [1, 1, 1, 1, 1, 1, 1, 1, 1, 1, 1, 1, 1, 1, 1, 1, 1] 17 rfl (Nat.zero_le _) rfl rfl (by unfold maxLen; omega)
              go_wp2_with (at_builtin; refine app_many rfl _ _ 23 rfl w.heap.size 3 Try.underlying23 infoInt _ xs rfl (hO.grow _) _ [1, 1, 1, 1, 1, 1, 1, 1, 1, 1, 1, 1, 1, 1, 1, 1, 1] rfl hlit.rd ?_ ?_ ?_)
              · have := HX.out; simp; omega
              · simp; omega
              intro v' w7 hO' hg'
              have hrow' := Row.app hR6 hR hg6 hO HX.out hxw (m := 17) (by intro z hz; exact wf_small (by simp at hz; omega)) rfl hO' hg' (World.grownBy_alloc w4 _ none)
              clear hO hO' hg' hR6 hg6 hxw hlit
              go_wp2
              go_ret
              exact hrow'.drawn (by omega) (by omega)
            · have y1 : ((y : Int) == 1) = false := by simp; omega
              go_wp2
              go_ret
              exact hrw.drawn (by omega) (by omega)
        · go_wp2
          go_loopw [7] (fun i wr => ∃ j : Nat, j ≤ k ∧ i = .int .i64 j ∧ Row 3 63 w wr R (.slice (some ⟨g, 0, none⟩) k cap) k (q + 1)) (fun i _ => k - (intOf i).toNat)
          case atStart => exact ⟨0, Nat.zero_le _, rfl, hrw⟩
          case round =>
            obtain ⟨j, hj, rfl, hrj⟩ := hrel
            clear hrw
            by_cases hjk : j < k
            · obtain ⟨⟨u, hcu⟩, hfu⟩ := hrj.cell hjk
              have HS := Lib.hid (hrj.set (j := j) (u := 3 * (j : Int) + 1) hg hR (wf_small (by omega)))
              clear hrj
              go_wp2
              go_roundw
              case rel => exact ⟨j + 1, by omega, by go_num, HS.out⟩
              case measure => simp [intOf]; omega
            · obtain rfl : j = k := by omega
              have hrw := hrj
              clear hrj
              go_wp2_with fail
              refine (pick_any R (q + 1) 40 _ hrw.rdr (by omega) (by omega) (by omega)).mono ?_
              rintro e w4 ⟨y, rfl, hy, hR4, g4⟩
              have hrw := hrw.picked hR hR4 g4
              clear hR4 g4
              by_cases hy0 : y = 0
              · subst hy0
                go_wp2_with fail
                have hrw2 := hrw.alloc (.cells #[.int .i64 1001, .int .i64 (-1001)] 3)
                have hlit := own_lit 3 0 w4.heap.size w4 #[.int .i64 1001, .int .i64 (-1001)] [1001, -1001] 2 rfl (Nat.zero_le _) rfl rfl (by unfold maxLen; omega)
                have hsz := hrw.size
                refine (one_any R ((q + 1) + 1) _ [1001, -1001] _ hrw2.rdr (by omega) hlit.rd (by simp) (by simp) (by simp [Value.ownBlock]; omega)).mono ?_
                rintro e w5 ⟨k1, hk1, rfl, hR5, g5⟩
                have hZ := ix_range (lo := -1001) (hi := 1001) (by decide : ∀ x ∈ ([1001, -1001] : List Int), (-1001 : Int) ≤ x ∧ x ≤ 1001) hk1
                obtain ⟨Z, hZZ⟩ : ∃ Z, Z = ix [1001, -1001] k1 := ⟨_, rfl⟩
                rw [← hZZ] at hZ ⊢
                have hrw3 := hrw2.picked hR hR5 g5
                have hsz3 := hrw3.size
                obtain ⟨xs, hO, hxk, hxw, hR6, hg6⟩ := hrw3
                have HX := Lib.hid hxk
                clear hxk hZZ hrw hrw2 hlit hR5 g5 hk1 hsz
                go_wp2_with (at_builtin; refine app_int rfl _ _ 23 rfl w.heap.size 3 Try.underlying23 infoInt _ xs rfl (hO.grow _) ⟨w5.heap.size, 0, none⟩ rfl Z ?_ ?_ ?_ ?_)
                · exact cell_new1 _ _ _
                · have := HX.out; omega
                · simp; omega
                intro v' w7 hO' hg'
                have hrow' := Row.app hR6 hR hg6 hO HX.out hxw (ys := [Z]) (m := 1) (by intro z hz; simp at hz; subst hz; exact wf_small (by omega)) rfl hO' hg' (World.grownBy_alloc w5 _ none)
                clear hO hO' hg' hR6 hg6 hxw
                go_wp2
                go_ret
                exact hrow'.drawn (by omega) (by omega)
              · have y0 : ((y : Int) == 0) = false := by simp; omega
                by_cases hy1 : y = 1
                · subst hy1
                  have hsz := hrw.size
                  obtain ⟨xs, hO, hxk, hxw, hR6, hg6⟩ := hrw
                  have HX := Lib.hid hxk
                  clear hxk
                  have hlit := own_lit 3 0 w4.heap.size w4 #[.int .i64 1, .int .i64 1, .int .i64 1, .int .i64 1, .int .i64 1, .int .i64 1, .int .i64 1, .int .i64 1, .int .i64 1, .int .i64 1, .int .i64 1, .int .i64 1, .int .i64 1, .int .i64 1, .int .i64 1, .int .i64 1, .int .i64 1] [1, 1, 1, 1, 1, 1, 1, 1, 1, 1, 1, 1, 1, 1, 1, 1, 1] 17 rfl (Nat.zero_le _) rfl rfl (by unfold maxLen; omega)
                  go_wp2_with (at_builtin; refine app_many rfl _ _ 23 rfl w.heap.size 3 Try.underlying23 infoInt _ xs rfl (hO.grow _) _ [1, 1, 1, 1, 1, 1, 1, 1, 1, 1, 1, 1, 1, 1, 1, 1, 1] rfl hlit.rd ?_ ?_ ?_)
                  · have := HX.out; simp; omega
                  · simp; omega
                  intro v' w7 hO' hg'
                  have hrow' := Row.app hR6 hR hg6 hO HX.out hxw (m := 17) (by intro z hz; exact wf_small (by simp at hz; omega)) rfl hO' hg' (World.grownBy_alloc w4 _ none)
                  clear hO hO' hg' hR6 hg6 hxw hlit
                  go_wp2
                  go_ret
                  exact hrow'.drawn (by omega) (by omega)
                · have y1 : ((y : Int) == 1) = false := by simp; omega
                  go_wp2
                  go_ret
                  exact hrw.drawn (by omega) (by omega)
      · have x0 : ((x : Int) == 0) = false := by simp; omega
        go_wp2_with fail
        refine (pick_any R (q + 1) 40 _ hrw.rdr (by omega) (by omega) (by omega)).mono ?_
        rintro e w4 ⟨y, rfl, hy, hR4, g4⟩
        have hrw := hrw.picked hR hR4 g4
        clear hR4 g4
        by_cases hy0 : y = 0
        · subst hy0
          go_wp2_with fail
          have hrw2 := hrw.alloc (.cells #[.int .i64 1001, .int .i64 (-1001)] 3)
          have hlit := own_lit 3 0 w4.heap.size w4 #[.int .i64 1001, .int .i64 (-1001)] [1001, -1001] 2 rfl (Nat.zero_le _) rfl rfl (by unfold maxLen; omega)
          have hsz := hrw.size
          refine (one_any R ((q + 1) + 1) _ [1001, -1001] _ hrw2.rdr (by omega) hlit.rd (by simp) (by simp) (by simp [Value.ownBlock]; omega)).mono ?_
          rintro e w5 ⟨k1, hk1, rfl, hR5, g5⟩
          have hZ := ix_range (lo := -1001) (hi := 1001) (by decide : ∀ x ∈ ([1001, -1001] : List Int), (-1001 : Int) ≤ x ∧ x ≤ 1001) hk1
          obtain ⟨Z, hZZ⟩ : ∃ Z, Z = ix [1001, -1001] k1 := ⟨_, rfl⟩
          rw [← hZZ] at hZ ⊢
          have hrw3 := hrw2.picked hR hR5 g5
          have hsz3 := hrw3.size
          obtain ⟨xs, hO, hxk, hxw, hR6, hg6⟩ := hrw3
          have HX := Lib.hid hxk
          clear hxk hZZ hrw hrw2 hlit hR5 g5 hk1 hsz
          go_wp2_with (at_builtin; refine app_int rfl _ _ 23 rfl w.heap.size 3 Try.underlying23 infoInt _ xs rfl (hO.grow _) ⟨w5.heap.size, 0, none⟩ rfl Z ?_ ?_ ?_ ?_)
          · exact cell_new1 _ _ _
          · have := HX.out; omega
          · simp; omega
          intro v' w7 hO' hg'
          have hrow' := Row.app hR6 hR hg6 hO HX.out hxw (ys := [Z]) (m := 1) (by intro z hz; simp at hz; subst hz; exact wf_small (by omega)) rfl hO' hg' (World.grownBy_alloc w5 _ none)
          clear hO hO' hg' hR6 hg6 hxw
          go_wp2
          go_ret
          exact hrow'.drawn (by omega) (by omega)
        · have y0 : ((y : Int) == 0) = false := by simp; omega
          by_cases hy1 : y = 1
          · subst hy1
            have hsz := hrw.size
            obtain ⟨xs, hO, hxk, hxw, hR6, hg6⟩ := hrw
            have HX := Lib.hid hxk
            clear hxk
            have hlit := own_lit 3 0 w4.heap.size w4 #[.int .i64 1, .int .i64 1, .int .i64 1, .int .i64 1, .int .i64 1, .int .i64 1, .int .i64 1, .int .i64 1, .int .i64 1, .int .i64 1, .int .i64 1, .int .i64 1, .int .i64 1, .int .i64 1, .int .i64 1, .int .i64 1, .int .i64 1] [1, 1, 1, 1, 1, 1, 1, 1, 1, 1, 1, 1, 1, 1, 1, 1, 1] 17 rfl (Nat.zero_le _) rfl rfl (by unfold maxLen; omega)
            go_wp2_with (at_builtin; refine app_many rfl _ _ 23 rfl w.heap.size 3 Try.underlying23 infoInt _ xs rfl (hO.grow _) _ [1, 1, 1, 1, 1, 1, 1, 1, 1, 1, 1, 1, 1, 1, 1, 1, 1] rfl hlit.rd ?_ ?_ ?_)
            · have := HX.out; simp; omega
            · simp; omega
            intro v' w7 hO' hg'
            have hrow' := Row.app hR6 hR hg6 hO HX.out hxw (m := 17) (by intro z hz; exact wf_small (by simp at hz; omega)) rfl hO' hg' (World.grownBy_alloc w4 _ none)
            clear hO hO' hg' hR6 hg6 hxw hlit
            go_wp2
            go_ret
            exact hrow'.drawn (by omega) (by omega)
          · have y1 : ((y : Int) == 1) = false := by simp; omega
            go_wp2
            go_ret
            exact hrw.drawn (by omega) (by omega)

end Go.Proofs.Ytlglokbakmbpdaa
