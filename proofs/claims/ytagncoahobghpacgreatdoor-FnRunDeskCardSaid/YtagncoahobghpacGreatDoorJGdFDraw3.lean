/-
  The Draw functions of chapter 3: what they draw lies in range.
-/
import Derived.Test.YtagncoahobghpacGreatDoorJGdF00
namespace Go.Proofs.YtagncoahobghpacGreatDoor
open Go.RowKit
set_option linter.unusedVariables false

/-- What a Draw function of one int leaves. -/
def DrewOne (w : World) (e : Ending) (w' : World) : Prop := ∃ z : Int, e = .returned (.int .i64 z) ∧ (-1000000 ≤ z ∧ z ≤ 1000000) ∧ Below w.heap.size w w'
def DrewRow2 (E : Nat) (w : World) (e : Ending) (w' : World) : Prop := ∃ u v xs ys, e = .returned (.tuple #[u, v]) ∧ Own E w.heap.size w' u xs ∧ Own E w.heap.size w' v ys ∧ xs.length ≤ 64 ∧ ys.length ≤ 64 ∧ (∀ n ∈ xs, (Lit.int .i64 n).wf = true) ∧ (∀ n ∈ ys, (Lit.int .i64 n).wf = true) ∧ Below w.heap.size w w'
def DrewRowInt (E : Nat) (w : World) (e : Ending) (w' : World) : Prop := ∃ u xs z, e = .returned (.tuple #[u, .int .i64 z]) ∧ Own E w.heap.size w' u xs ∧ xs.length ≤ 64 ∧ (∀ n ∈ xs, (Lit.int .i64 n).wf = true) ∧ (-1000000 ≤ z ∧ z ≤ 1000000) ∧ Below w.heap.size w w'
theorem bel_rdr {w a b : World} {R : Nat} (h : Below w.heap.size w a) (g : a.grownBy b (some R)) (hR : w.heap.size ≤ R) : Below w.heap.size w b := h.grown g h.size (fun k hk => by injection hk with hk; omega)
theorem own_slD {E B : Nat} {w : World} {v : Value} {xs : List Int} (h : Own E B w v xs) : ∃ a cap, v = .slice a xs.length cap := by
  rcases h.shape with ⟨rfl, rfl⟩ | ⟨g, cap, rfl, _⟩
  · exact ⟨none, 0, rfl⟩
  · exact ⟨_, _, rfl⟩

set_option maxHeartbeats 8000000 in
set_option maxRecDepth 100000 in
theorem someRests_any (R p n : Nat) (w : World) (h : Rdr 51 w R p) (hp : p ≤ 3000) (hn : n ≤ 32) :
    Calls Tryz.prog 18 #[.pointer (some ⟨R, 0, none⟩), .int .i64 n] w (Drawn 3 51 w R p) := by
  have hR := h.lt
  have hr0 : Row 3 51 w (w.alloc (.cells #[] 3)) R (.slice (some ⟨w.heap.size, 0, none⟩) 0 0) 0 p :=
    ⟨[], own_empty _ _ w (Nat.le_refl _), rfl, by simp, h.kept (World.grownBy_alloc w _ none) (by simp), World.grownBy_alloc w _ _⟩
  clear h
  go_enter Tryz.func18, Tryz.ntmps18
  go_wp2_with fail
  refine (pick_any R p 3 _ hr0.rdr (by omega) (by omega) (by omega)).mono ?_
  rintro e w1 ⟨x0, rfl, hx0, hR1, g1⟩
  have hrow := hr0.picked hR hR1 g1
  obtain ⟨thin, hth⟩ : ∃ b, ((x0 : Int) == 0) = b := ⟨_, rfl⟩
  clear hr0 hR1 g1
  go_wp2
  clear hth
  go_loopw [5] (fun v wr => ∃ a cap k q, v = .slice a k cap ∧ k ≤ n ∧ q ≤ p + 1 + 2 * k ∧ Row 3 51 w wr R v k q) (fun v _ => n - (match v with | .slice _ k _ => k | _ => 0))
  case atStart => exact ⟨_, _, 0, p + 1, rfl, Nat.zero_le _, by omega, hrow⟩
  case round =>
    obtain ⟨a, cap, k, q, rfl, hk, hq, hrw⟩ := hrel
    clear hrow
    by_cases hlt : k < n
    · go_wp2_with fail
      refine (pick_any R q 97 _ hrw.rdr (by omega) (by omega) (by omega)).mono ?_
      rintro e w2 ⟨x, rfl, hx, hR2, g2⟩
      have hrw := hrw.picked hR hR2 g2
      clear hR2 g2
      cases thin with
      | true =>
        go_wp2_with fail
        refine (pick_any R (q + 1) 3 _ hrw.rdr (by omega) (by omega) (by omega)).mono ?_
        rintro e w3 ⟨y, rfl, hy, hR3, g3⟩
        have hrw := hrw.picked hR hR3 g3
        clear hR3 g3
        by_cases hy0 : 0 < y
        · have hyi : (0 : Int) < (y : Int) := by omega
          have hsz := hrw.size
          obtain ⟨xs, hO, hxk, hxw, hR4, hg4⟩ := hrw
          have HX := Lib.hid hxk
          clear hxk
          go_wp2_with (at_builtin; refine app_int rfl _ _ 35 rfl w.heap.size 3 Tryz.underlying35 infoInt _ xs rfl (hO.grow _) ⟨w3.heap.size, 0, none⟩ rfl (0) ?c1 ?c2 ?c3 ?_)
          case c1 => exact cell_new1 _ _ _
          case c2 => have := HX.out; omega
          case c3 => simp; omega
          intro v' w5 hO' hg'
          have hrow' := Row.app hR4 hR hg4 hO HX.out hxw (ys := [(0)]) (m := 1) (by intro z hz; simp at hz; subst hz; exact wf_small (by omega)) rfl hO' hg' (World.grownBy_alloc w3 _ none)
          obtain ⟨a', c', hv'⟩ := hrow'.slice
          subst hv'
          clear hO hO' hg' hR4 hg4 hxw
          go_wp2
          go_roundw
          case rel => exact ⟨a', c', k + 1, q + 1 + 1, rfl, by omega, by omega, hrow'⟩
          case measure => simp; omega
        · have hyi : ¬ (0 : Int) < (y : Int) := by omega
          have hsz := hrw.size
          obtain ⟨xs, hO, hxk, hxw, hR4, hg4⟩ := hrw
          have HX := Lib.hid hxk
          clear hxk
          go_wp2_with (at_builtin; refine app_int rfl _ _ 35 rfl w.heap.size 3 Tryz.underlying35 infoInt _ xs rfl (hO.grow _) ⟨w3.heap.size, 0, none⟩ rfl ((x : Int)) ?c1 ?c2 ?c3 ?_)
          case c1 => exact cell_new1 _ _ _
          case c2 => have := HX.out; omega
          case c3 => simp; omega
          intro v' w5 hO' hg'
          have hrow' := Row.app hR4 hR hg4 hO HX.out hxw (ys := [((x : Int))]) (m := 1) (by intro z hz; simp at hz; subst hz; exact wf_small (by omega)) rfl hO' hg' (World.grownBy_alloc w3 _ none)
          obtain ⟨a', c', hv'⟩ := hrow'.slice
          subst hv'
          clear hO hO' hg' hR4 hg4 hxw
          go_wp2
          go_roundw
          case rel => exact ⟨a', c', k + 1, q + 1 + 1, rfl, by omega, by omega, hrow'⟩
          case measure => simp; omega
      | false =>
        have hsz := hrw.size
        obtain ⟨xs, hO, hxk, hxw, hR4, hg4⟩ := hrw
        have HX := Lib.hid hxk
        clear hxk
        go_wp2_with (at_builtin; refine app_int rfl _ _ 35 rfl w.heap.size 3 Tryz.underlying35 infoInt _ xs rfl (hO.grow _) ⟨w2.heap.size, 0, none⟩ rfl ((x : Int)) ?c1 ?c2 ?c3 ?_)
        case c1 => exact cell_new1 _ _ _
        case c2 => have := HX.out; omega
        case c3 => simp; omega
        intro v' w5 hO' hg'
        have hrow' := Row.app hR4 hR hg4 hO HX.out hxw (ys := [((x : Int))]) (m := 1) (by intro z hz; simp at hz; subst hz; exact wf_small (by omega)) rfl hO' hg' (World.grownBy_alloc w2 _ none)
        obtain ⟨a', c', hv'⟩ := hrow'.slice
        subst hv'
        clear hO hO' hg' hR4 hg4 hxw
        go_wp2
        go_roundw
        case rel => exact ⟨a', c', k + 1, q + 1, rfl, by omega, by omega, hrow'⟩
        case measure => simp; omega
    · obtain rfl : k = n := by omega
      by_cases hk0 : k = 0
      · subst hk0
        go_wp2
        go_ret
        exact hrw.drawn (by omega) (by omega)
      · rcases hrw.shape with hz | ⟨g, rfl, hg⟩
        · omega
        have hki : (0 : Int) < (k : Int) := by omega
        go_wp2_with fail
        refine (pick_any R q 30 _ hrw.rdr (by omega) (by omega) (by omega)).mono ?_
        rintro e w2 ⟨x, rfl, hx, hR2, g2⟩
        have hrw := hrw.picked hR hR2 g2
        clear hR2 g2
        by_cases hx0 : x = 0
        · subst hx0
          go_wp2_with fail
          have hrw2 := hrw.alloc (.cells #[.int .i64 97, .int .i64 (-1)] 3)
          have hlit := own_lit 3 0 w2.heap.size w2 #[.int .i64 97, .int .i64 (-1)] [97, -1] 2 rfl (Nat.zero_le _) rfl rfl (by unfold maxLen; omega)
          have hsz := hrw.size
          refine (one_any R (q + 1) _ [97, -1] _ hrw2.rdr (by omega) hlit.rd (by simp) (by simp) (by simp [Value.ownBlock]; omega)).mono ?_
          rintro e w3 ⟨k1, hk1, rfl, hR5, g5⟩
          have hZ := ix_range (lo := -1) (hi := 97) (by decide : ∀ x ∈ ([97, -1] : List Int), (-1 : Int) ≤ x ∧ x ≤ 97) hk1
          have hrw3 := hrw2.picked hR hR5 g5
          generalize ix [97, -1] k1 = z at hZ ⊢
          obtain ⟨⟨u, hcu⟩, hfu⟩ := hrw3.cell (j := 0) (by omega)
          have hrw4 := hrw3.set (j := 0) (u := z) hg hR (wf_small (by omega))
          clear hrw hrw2 hlit hR5 g5 hk1 hrw3
          go_wp2
          go_ret
          exact hrw4.drawn (by omega) (by omega)
        · have e1 : ((x : Int) == 0) = false := by simp; omega
          go_wp2
          go_ret
          exact hrw.drawn (by omega) (by omega)

end Go.Proofs.YtagncoahobghpacGreatDoor
