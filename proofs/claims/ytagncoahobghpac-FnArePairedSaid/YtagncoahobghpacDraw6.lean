/-
  DrawIsQuiet: the rows that it draws lie in range.
-/
import Derived.Test.YtagncoahobghpacDrawW
namespace Go.Proofs.Ytagncoahobghpac
open Go.RowKit
set_option linter.unusedVariables false

theorem own_sl26 {E B : Nat} {w : World} {v : Value} {xs : List Int} (h : Own E B w v xs) : ∃ a cap, v = .slice a xs.length cap := by
  rcases h.shape with ⟨rfl, rfl⟩ | ⟨g, cap, rfl, _⟩
  · exact ⟨none, 0, rfl⟩
  · exact ⟨_, _, rfl⟩
/-- What a Draw function of one int leaves. -/

theorem bel_reader6 {w a b : World} {R : Nat} (h : Below w.heap.size w a) (g : a.grownBy b (some R)) (hR : w.heap.size ≤ R) : Below w.heap.size w b := h.grown g h.size (fun k hk => by injection hk with hk; omega)

set_option maxHeartbeats 4000000 in
theorem signRow_any6 (R p n : Nat) (w : World) (h : Rdr 56 w R p) (hp : p ≤ 500) (hn : n ≤ 32) :
    Calls Try.prog 46 #[.pointer (some ⟨R, 0, none⟩), .int .i64 n] w (Drawn 3 56 w R p) := by
  have hR := h.lt
  have hr0 : Row 3 56 w (w.alloc (.cells #[] 3)) R (.slice (some ⟨w.heap.size, 0, none⟩) 0 0) 0 p :=
    ⟨[], own_empty _ _ w (Nat.le_refl _), rfl, by simp, h.kept (World.grownBy_alloc w _ none) (by simp), World.grownBy_alloc w _ _⟩
  clear h
  go_enter Try.func46, Try.ntmps46
  go_wp2
  go_loopw [5] (fun v wr => ∃ a cap k q, v = .slice a k cap ∧ k ≤ n ∧ q ≤ p + k ∧ Row 3 56 w wr R v k q) (fun v _ => n - (match v with | .slice _ k _ => k | _ => 0))
  case atStart => exact ⟨_, _, 0, p, rfl, Nat.zero_le _, by omega, hr0⟩
  case round =>
    obtain ⟨a, cap, k, q, rfl, hk, hq, hrw⟩ := hrel
    clear hr0
    by_cases hlt : k < n
    · go_wp2_with fail
      refine (pick_any R q 2 _ hrw.rdr (by omega) (by omega) (by omega)).mono ?_
      rintro e w2 ⟨x, rfl, hx, hR2, g2⟩
      have hrw := hrw.picked hR hR2 g2
      clear hR2 g2
      have hsz := hrw.size
      obtain ⟨xs, hO, hxk, hxw, hR4, hg4⟩ := hrw
      have HX := Lib.hid hxk
      clear hxk
      go_wp2_with (at_builtin; refine app_int rfl _ _ 23 rfl w.heap.size 3 Try.underlying23 infoInt _ xs rfl (hO.grow _) ⟨w2.heap.size, 0, none⟩ rfl (1 - 2 * (x : Int)) ?c1 ?c2 ?c3 ?_)
      case c1 => exact cell_new1 _ _ _
      case c2 => have := HX.out; omega
      case c3 => simp; omega
      intro v' w5 hO' hg'
      have hrow' := Row.app hR4 hR hg4 hO HX.out hxw (ys := [1 - 2 * (x : Int)]) (m := 1) (by intro z hz; simp at hz; subst hz; exact wf_small (by omega)) rfl hO' hg' (World.grownBy_alloc w2 _ none)
      obtain ⟨a', c', hv'⟩ := hrow'.slice
      subst hv'
      clear hO hO' hg' hR4 hg4 hxw
      go_wp2
      go_roundw
      case rel => exact ⟨a', c', k + 1, q + 1, rfl, by omega, by omega, hrow'⟩
      case measure => simp; omega
    · obtain rfl : k = n := by omega
      by_cases hk0 : k = 0
      · subst hk0
        go_wp2
        go_ret
        exact hrw.drawn (by omega) (by omega)
      · rcases hrw.shape with hz | ⟨g, rfl, hg⟩
        · omega
        have hki : (0 : Int) < (k : Int) := by omega
        go_wp2_with fail
        refine (pick_any R q 24 _ hrw.rdr (by omega) (by omega) (by omega)).mono ?_
        rintro e w2 ⟨x, rfl, hx, hR2, g2⟩
        have hrw := hrw.picked hR hR2 g2
        clear hR2 g2
        by_cases hx0 : x = 0
        · subst hx0
          go_wp2_with fail
          have hrw2 := hrw.alloc (.cells #[.int .i64 0, .int .i64 2] 3)
          have hlit := own_lit 3 0 w2.heap.size w2 #[.int .i64 0, .int .i64 2] [0, 2] 2 rfl (Nat.zero_le _) rfl rfl (by unfold maxLen; omega)
          have hsz := hrw.size
          refine (one_any R (q + 1) _ [0, 2] _ hrw2.rdr (by omega) hlit.rd (by simp) (by simp) (by simp [Value.ownBlock]; omega)).mono ?_
          rintro e w3 ⟨k1, hk1, rfl, hR5, g5⟩
          have hZ := ix_range (lo := 0) (hi := 2) (by decide : ∀ x ∈ ([0, 2] : List Int), (0 : Int) ≤ x ∧ x ≤ 2) hk1
          have hrw3 := hrw2.picked hR hR5 g5
          generalize ix [0, 2] k1 = z at hZ ⊢
          obtain ⟨⟨u, hcu⟩, hfu⟩ := hrw3.cell (j := 0) (by omega)
          have hrw4 := hrw3.set (j := 0) (u := z) hg hR (wf_small (by omega))
          clear hrw hrw2 hlit hR5 g5 hk1 hrw3
          go_wp2
          go_ret
          exact hrw4.drawn (by omega) (by omega)
        · have e1 : ((x : Int) == 0) = false := by simp; omega
          go_wp2
          go_ret
          exact hrw.drawn (by omega) (by omega)

end Go.Proofs.Ytagncoahobghpac
