/-
  The Draw functions of chapter 3: what they draw lies in range.
-/
import Derived.Test.YtabbfehjgchmgaaRowOf
import Derived.Test.YtabbfehjgchmgaaDrawRow
namespace Go.Proofs.Ytabbfehjgchmgaa
open Go.RowKit
set_option linter.unusedVariables false

/-- What a Draw function of one int leaves. -/
def DrewOne (w : World) (e : Ending) (w' : World) : Prop := ∃ z : Int, e = .returned (.int .i64 z) ∧ (-1000000 ≤ z ∧ z ≤ 1000000) ∧ Below w.heap.size w w'
def DrewRow2 (E : Nat) (w : World) (e : Ending) (w' : World) : Prop := ∃ u v xs ys, e = .returned (.tuple #[u, v]) ∧ Own E w.heap.size w' u xs ∧ Own E w.heap.size w' v ys ∧ xs.length ≤ 64 ∧ ys.length ≤ 64 ∧ (∀ n ∈ xs, (Lit.int .i64 n).wf = true) ∧ (∀ n ∈ ys, (Lit.int .i64 n).wf = true) ∧ Below w.heap.size w w'
def DrewRowInt (E : Nat) (w : World) (e : Ending) (w' : World) : Prop := ∃ u xs z, e = .returned (.tuple #[u, .int .i64 z]) ∧ Own E w.heap.size w' u xs ∧ xs.length ≤ 64 ∧ (∀ n ∈ xs, (Lit.int .i64 n).wf = true) ∧ (-1000000 ≤ z ∧ z ≤ 1000000) ∧ Below w.heap.size w w'
theorem bel_rdr {w a b : World} {R : Nat} (h : Below w.heap.size w a) (g : a.grownBy b (some R)) (hR : w.heap.size ≤ R) : Below w.heap.size w b := h.grown g h.size (fun k hk => by injection hk with hk; omega)
theorem own_slD {E B : Nat} {w : World} {v : Value} {xs : List Int} (h : Own E B w v xs) : ∃ a cap, v = .slice a xs.length cap := by
  rcases h.shape with ⟨rfl, rfl⟩ | ⟨g, cap, rfl, _⟩
  · exact ⟨none, 0, rfl⟩
  · exact ⟨_, _, rfl⟩

set_option maxHeartbeats 8000000 in
set_option maxRecDepth 100000 in
theorem someRests_any (R p n : Nat) (w : World) (h : Rdr 57 w R p) (hp : p ≤ 500) (hn : n ≤ 32) :
    Calls Try.prog 51 #[.pointer (some ⟨R, 0, none⟩), .int .i64 n] w (Drawn 3 57 w R p) := by
  have hR := h.lt
  have hr0 : Row 3 57 w (w.alloc (.cells #[] 3)) R (.slice (some ⟨w.heap.size, 0, none⟩) 0 0) 0 p :=
    ⟨[], own_empty _ _ w (Nat.le_refl _), rfl, by simp, h.kept (World.grownBy_alloc w _ none) (by simp), World.grownBy_alloc w _ _⟩
  clear h
  go_enter Try.func51, Try.ntmps51
  go_wp2_with fail
  refine (pick_any R p 3 _ hr0.rdr (by omega) (by omega) (by omega)).mono ?_
  rintro e w1 ⟨x0, rfl, hx0, hR1, g1⟩
  have hrow := hr0.picked hR hR1 g1
  obtain ⟨thin, hth⟩ : ∃ b, ((x0 : Int) == 0) = b := ⟨_, rfl⟩
  clear hr0 hR1 g1
  go_wp2
  clear hth
  go_loopw [5] (fun v wr => ∃ a cap k q, v = .slice a k cap ∧ k ≤ n ∧ q ≤ p + 1 + 2 * k ∧ Row 3 57 w wr R v k q) (fun v _ => n - (match v with | .slice _ k _ => k | _ => 0))
  case atStart => exact ⟨_, _, 0, p + 1, rfl, Nat.zero_le _, by omega, hrow⟩
  case round =>
    obtain ⟨a, cap, k, q, rfl, hk, hq, hrw⟩ := hrel
    clear hrow
    by_cases hlt : k < n
    · go_wp2_with fail
      refine (pick_any R q 97 _ hrw.rdr (by omega) (by omega) (by omega)).mono ?_
      rintro e w2 ⟨x, rfl, hx, hR2, g2⟩
      have hrw := hrw.picked hR hR2 g2
      clear hR2 g2
      cases thin with
      | true =>
        go_wp2_with fail
        refine (pick_any R (q + 1) 3 _ hrw.rdr (by omega) (by omega) (by omega)).mono ?_
        rintro e w3 ⟨y, rfl, hy, hR3, g3⟩
        have hrw := hrw.picked hR hR3 g3
        clear hR3 g3
        by_cases hy0 : 0 < y
        · have hyi : (0 : Int) < (y : Int) := by omega
          have hsz := hrw.size
          obtain ⟨xs, hO, hxk, hxw, hR4, hg4⟩ := hrw
          have HX := Lib.hid hxk
          clear hxk
          go_wp2_with (at_builtin; refine app_int rfl _ _ 27 rfl w.heap.size 3 Try.underlying27 infoInt _ xs rfl (hO.grow _) ⟨w3.heap.size, 0, none⟩ rfl (0) ?c1 ?c2 ?c3 ?_)
          case c1 => exact cell_new1 _ _ _
          case c2 => have := HX.out; omega
          case c3 => simp; omega
          intro v' w5 hO' hg'
          have hrow' := Row.app hR4 hR hg4 hO HX.out hxw (ys := [(0)]) (m := 1) (by intro z hz; simp at hz; subst hz; exact wf_small (by omega)) rfl hO' hg' (World.grownBy_alloc w3 _ none)
          obtain ⟨a', c', hv'⟩ := hrow'.slice
          subst hv'
          clear hO hO' hg' hR4 hg4 hxw
          go_wp2
          go_roundw
          case rel => exact ⟨a', c', k + 1, q + 1 + 1, rfl, by omega, by omega, hrow'⟩
          case measure => simp; omega
        · have hyi : ¬ (0 : Int) < (y : Int) := by omega
          have hsz := hrw.size
          obtain ⟨xs, hO, hxk, hxw, hR4, hg4⟩ := hrw
          have HX := Lib.hid hxk
          clear hxk
          go_wp2_with (at_builtin; refine app_int rfl _ _ 27 rfl w.heap.size 3 Try.underlying27 infoInt _ xs rfl (hO.grow _) ⟨w3.heap.size, 0, none⟩ rfl ((x : Int)) ?c1 ?c2 ?c3 ?_)
          case c1 => exact cell_new1 _ _ _
          case c2 => have := HX.out; omega
          case c3 => simp; omega
          intro v' w5 hO' hg'
          have hrow' := Row.app hR4 hR hg4 hO HX.out hxw (ys := [((x : Int))]) (m := 1) (by intro z hz; simp at hz; subst hz; exact wf_small (by omega)) rfl hO' hg' (World.grownBy_alloc w3 _ none)
          obtain ⟨a', c', hv'⟩ := hrow'.slice
          subst hv'
          clear hO hO' hg' hR4 hg4 hxw
          go_wp2
          go_roundw
          case rel => exact ⟨a', c', k + 1, q + 1 + 1, rfl, by omega, by omega, hrow'⟩
          case measure => simp; omega
      | false =>
        have hsz := hrw.size
        obtain ⟨xs, hO, hxk, hxw, hR4, hg4⟩ := hrw
        have HX := Lib.hid hxk
        clear hxk
        go_wp2_with (at_builtin; refine app_int rfl _ _ 27 rfl w.heap.size 3 Try.underlying27 infoInt _ xs rfl (hO.grow _) ⟨w2.heap.size, 0, none⟩ rfl ((x : Int)) ?c1 ?c2 ?c3 ?_)
        case c1 => exact cell_new1 _ _ _
        case c2 => have := HX.out; omega
        case c3 => simp; omega
        intro v' w5 hO' hg'
        have hrow' := Row.app hR4 hR hg4 hO HX.out hxw (ys := [((x : Int))]) (m := 1) (by intro z hz; simp at hz; subst hz; exact wf_small (by omega)) rfl hO' hg' (World.grownBy_alloc w2 _ none)
        obtain ⟨a', c', hv'⟩ := hrow'.slice
        subst hv'
        clear hO hO' hg' hR4 hg4 hxw
        go_wp2
        go_roundw
        case rel => exact ⟨a', c', k + 1, q + 1, rfl, by omega, by omega, hrow'⟩
        case measure => simp; omega
    · obtain rfl : k = n := by omega
      by_cases hk0 : k = 0
      · subst hk0
        go_wp2
        go_ret
        exact hrw.drawn (by omega) (by omega)
      · rcases hrw.shape with hz | ⟨g, rfl, hg⟩
        · omega
        have hki : (0 : Int) < (k : Int) := by omega
        go_wp2_with fail
        refine (pick_any R q 30 _ hrw.rdr (by omega) (by omega) (by omega)).mono ?_
        rintro e w2 ⟨x, rfl, hx, hR2, g2⟩
        have hrw := hrw.picked hR hR2 g2
        clear hR2 g2
        by_cases hx0 : x = 0
        · subst hx0
          go_wp2_with fail
          have hrw2 := hrw.alloc (.cells #[.int .i64 97, .int .i64 (-1)] 3)
          have hlit := own_lit 3 0 w2.heap.size w2 #[.int .i64 97, .int .i64 (-1)] [97, -1] 2 rfl (Nat.zero_le _) rfl rfl (by unfold maxLen; omega)
          have hsz := hrw.size
          refine (one_any R (q + 1) _ [97, -1] _ hrw2.rdr (by omega) hlit.rd (by simp) (by simp) (by simp [Value.ownBlock]; omega)).mono ?_
          rintro e w3 ⟨k1, hk1, rfl, hR5, g5⟩
          have hZ := ix_range (lo := -1) (hi := 97) (by decide : ∀ x ∈ ([97, -1] : List Int), (-1 : Int) ≤ x ∧ x ≤ 97) hk1
          have hrw3 := hrw2.picked hR hR5 g5
          generalize ix [97, -1] k1 = z at hZ ⊢
          obtain ⟨⟨u, hcu⟩, hfu⟩ := hrw3.cell (j := 0) (by omega)
          have hrw4 := hrw3.set (j := 0) (u := z) hg hR (wf_small (by omega))
          clear hrw hrw2 hlit hR5 g5 hk1 hrw3
          go_wp2
          go_ret
          exact hrw4.drawn (by omega) (by omega)
        · have e1 : ((x : Int) == 0) = false := by simp; omega
          go_wp2
          go_ret
          exact hrw.drawn (by omega) (by omega)

/-- What restCount leaves. -/
def Counted (w : World) (R p : Nat) (e : Ending) (w' : World) : Prop := ∃ m : Nat, e = .returned (.int .i64 m) ∧ m ≤ 16 ∧ Rdr 57 w' R (p + 1) ∧ w.grownBy w' (some R)
theorem restCount_any (R p : Nat) (w : World) (h : Rdr 57 w R p) (hp : p ≤ 500) :
    Calls Try.prog 52 #[.pointer (some ⟨R, 0, none⟩)] w (Counted w R p) := by
  go_enter Try.func52, Try.ntmps52
  go_wp2_with fail
  have hlit := own_lit 3 0 w.heap.size w #[.int .i64 4, .int .i64 8, .int .i64 6, .int .i64 3, .int .i64 2, .int .i64 12, .int .i64 16, .int .i64 1, .int .i64 5, .int .i64 0] [4, 8, 6, 3, 2, 12, 16, 1, 5, 0] 10 rfl (Nat.zero_le _) rfl rfl (by unfold maxLen; omega)
  have hlt := h.lt
  have h1 := h.kept (World.grownBy_alloc w (.cells #[.int .i64 4, .int .i64 8, .int .i64 6, .int .i64 3, .int .i64 2, .int .i64 12, .int .i64 16, .int .i64 1, .int .i64 5, .int .i64 0] 3) none) (by simp)
  refine (one_any R (p) _ [4, 8, 6, 3, 2, 12, 16, 1, 5, 0] _ h1 (by omega) hlit.rd (by simp) (by simp) (by simp [Value.ownBlock]; omega)).mono ?_
  rintro e w1 ⟨k, hk, rfl, hRw1, gw1⟩
  have hZ := ix_range (lo := 0) (hi := 16) (xs := [4, 8, 6, 3, 2, 12, 16, 1, 5, 0]) (by intro z hz; simp only [List.mem_cons, List.not_mem_nil, or_false] at hz; omega) hk
  have gw1 := grown_thru (World.grownBy_alloc w (.cells #[.int .i64 4, .int .i64 8, .int .i64 6, .int .i64 3, .int .i64 2, .int .i64 12, .int .i64 16, .int .i64 1, .int .i64 5, .int .i64 0] 3) none) gw1
  obtain ⟨m, hm⟩ : ∃ m : Nat, ix [4, 8, 6, 3, 2, 12, 16, 1, 5, 0] k = (m : Int) := ⟨(ix [4, 8, 6, 3, 2, 12, 16, 1, 5, 0] k).toNat, by omega⟩
  rw [hm] at hZ ⊢
  clear hm hlit h1
  go_wp2
  go_ret
  exact ⟨m, rfl, by omega, hRw1, gw1⟩

theorem drawValidRests_any (v : Value) (n : Nat) (w : World) (h : RdB w v n) :
    Calls Try.prog 19 #[v] w (DrewRow 3 w) := by
  go_enter Try.func19, Try.ntmps19
  go_wp2_with fail
  refine (newReader_any v n _ h).mono ?_
  rintro e w1 ⟨R, rfl, hR, b1, hRs⟩
  go_wp2_with fail
  refine (restCount_any R 0 _ hR (by omega)).mono ?_
  rintro e w2 ⟨m, rfl, hm, hR2, g2⟩
  have b2 := bel_rdr b1 g2 hRs
  go_wp2_with fail
  refine (someRests_any R (0 + 1) m _ hR2 (by omega) (by omega)).mono ?_
  rintro e w4 hd
  have hd := drewRow_of b2 hRs hd
  obtain ⟨u, xs, rfl, r⟩ := hd
  go_wp2
  go_ret
  exact ⟨u, xs, rfl, r⟩

theorem drawWaveOf_any (v : Value) (n : Nat) (w : World) (h : RdB w v n) :
    Calls Try.prog 22 #[v] w (DrewRow 3 w) := by
  go_enter Try.func22, Try.ntmps22
  go_wp2_with fail
  refine (newReader_any v n _ h).mono ?_
  rintro e w1 ⟨R, rfl, hR, b1, hRs⟩
  go_wp2_with fail
  refine (restCount_any R 0 _ hR (by omega)).mono ?_
  rintro e w2 ⟨m, rfl, hm, hR2, g2⟩
  have b2 := bel_rdr b1 g2 hRs
  go_wp2_with fail
  refine (someRests_any R (0 + 1) m _ hR2 (by omega) (by omega)).mono ?_
  rintro e w4 hd
  have hd := drewRow_of b2 hRs hd
  obtain ⟨u, xs, rfl, r⟩ := hd
  go_wp2
  go_ret
  exact ⟨u, xs, rfl, r⟩

theorem drawUnwaveOf_any (v : Value) (n : Nat) (w : World) (h : RdB w v n) :
    Calls Try.prog 29 #[v] w (DrewRow 3 w) := by
  go_enter Try.func29, Try.ntmps29
  go_wp2_with fail
  refine (newReader_any v n _ h).mono ?_
  rintro e w1 ⟨R, rfl, hR, b1, hRs⟩
  go_wp2_with fail
  refine (restCount_any R 0 _ hR (by omega)).mono ?_
  rintro e w2 ⟨m, rfl, hm, hR2, g2⟩
  have b2 := bel_rdr b1 g2 hRs
  go_wp2_with fail
  refine (someRests_any R (0 + 1) m _ hR2 (by omega) (by omega)).mono ?_
  rintro e w4 hd
  have hd := drewRow_of b2 hRs hd
  obtain ⟨u, xs, rfl, r⟩ := hd
  go_wp2
  go_ret
  exact ⟨u, xs, rfl, r⟩

theorem drawSpreadOf_any (v : Value) (n : Nat) (w : World) (h : RdB w v n) :
    Calls Try.prog 38 #[v] w (DrewRow 3 w) := by
  go_enter Try.func38, Try.ntmps38
  go_wp2_with fail
  refine (newReader_any v n _ h).mono ?_
  rintro e w1 ⟨R, rfl, hR, b1, hRs⟩
  go_wp2_with fail
  refine (restCount_any R 0 _ hR (by omega)).mono ?_
  rintro e w2 ⟨m, rfl, hm, hR2, g2⟩
  have b2 := bel_rdr b1 g2 hRs
  go_wp2_with fail
  refine (someRests_any R (0 + 1) m _ hR2 (by omega) (by omega)).mono ?_
  rintro e w4 hd
  have hd := drewRow_of b2 hRs hd
  obtain ⟨u, xs, rfl, r⟩ := hd
  go_wp2
  go_ret
  exact ⟨u, xs, rfl, r⟩

theorem drawRingOf_any (v : Value) (n : Nat) (w : World) (h : RdB w v n) :
    Calls Try.prog 31 #[v] w (DrewRow2 3 w) := by
  go_enter Try.func31, Try.ntmps31
  go_wp2_with fail
  refine (newReader_any v n _ h).mono ?_
  rintro e w1 ⟨R, rfl, hR, b1, hRs⟩
  go_wp2_with fail
  refine (restCount_any R 0 _ hR (by omega)).mono ?_
  rintro e w2 ⟨m, rfl, hm, hR2, g2⟩
  have b2 := bel_rdr b1 g2 hRs
  go_wp2_with fail
  refine (someRests_any R (0 + 1) m _ hR2 (by omega) (by omega)).mono ?_
  rintro e w3 ⟨u, xs, p', rfl, o, hl, hw, hR3, hp', g3⟩
  have b3 := bel_rdr b2 g3 hRs
  have hne := o.ne hR2.lt
  have o := o.mono b2.size
  go_wp2_with fail
  refine (someRests_any R p' m _ hR3 (by omega) (by omega)).mono ?_
  rintro e w4 ⟨u', ys, p'', rfl, o', hl', hw', hR4, hp'', g4⟩
  have b4 := bel_rdr b3 g4 hRs
  have o := o.kept g4 hne
  have o' := o'.mono b3.size
  clear hne g3 g4 hR3 hR4 b3 b2
  obtain ⟨a, c, rfl⟩ := own_slD o
  obtain ⟨a', c', rfl⟩ := own_slD o'
  go_wp2
  go_ret2
  exact ⟨_, _, xs, ys, rfl, o, o', hl, hl', hw, hw', b4⟩

theorem drawTurnOf_any (v : Value) (n : Nat) (w : World) (h : RdB w v n) :
    Calls Try.prog 35 #[v] w (DrewRowInt 3 w) := by
  go_enter Try.func35, Try.ntmps35
  go_wp2_with fail
  refine (newReader_any v n _ h).mono ?_
  rintro e w1 ⟨R, rfl, hR, b1, hRs⟩
  go_wp2_with fail
  refine (restCount_any R 0 _ hR (by omega)).mono ?_
  rintro e w2 ⟨m, rfl, hm, hR2, g2⟩
  have b2 := bel_rdr b1 g2 hRs
  go_wp2_with fail
  refine (someRests_any R (0 + 1) m _ hR2 (by omega) (by omega)).mono ?_
  rintro e w3 ⟨u, xs, p', rfl, o, hl, hw, hR3, hp', g3⟩
  have b3 := bel_rdr b2 g3 hRs
  have hne := o.ne hR2.lt
  have o := o.mono b2.size
  clear hR hR2 b1 b2 g2 g3
  go_wp2_with fail
  have hlit := own_lit 3 0 w3.heap.size w3 #[.int .i64 1, .int .i64 2, .int .i64 3, .int .i64 5, .int .i64 0, .int .i64 16, .int .i64 17, .int .i64 (-1)] [1, 2, 3, 5, 0, 16, 17, -1] 8 rfl (Nat.zero_le _) rfl rfl (by unfold maxLen; omega)
  have hlt := hR3.lt
  have h1 := hR3.kept (World.grownBy_alloc w3 (.cells #[.int .i64 1, .int .i64 2, .int .i64 3, .int .i64 5, .int .i64 0, .int .i64 16, .int .i64 17, .int .i64 (-1)] 3) none) (by simp)
  refine (one_any R (p') _ [1, 2, 3, 5, 0, 16, 17, -1] _ h1 (by omega) hlit.rd (by simp) (by simp) (by simp [Value.ownBlock]; omega)).mono ?_
  rintro e w4 ⟨k, hk, rfl, hRw4, gw4⟩
  have hZ := ix_range (lo := -1) (hi := 17) (xs := [1, 2, 3, 5, 0, 16, 17, -1]) (by intro z hz; simp only [List.mem_cons, List.not_mem_nil, or_false] at hz; omega) hk
  have gw4 := grown_thru (World.grownBy_alloc w3 (.cells #[.int .i64 1, .int .i64 2, .int .i64 3, .int .i64 5, .int .i64 0, .int .i64 16, .int .i64 17, .int .i64 (-1)] 3) none) gw4
  have b4 := bel_rdr b3 gw4 hRs
  have o := o.kept gw4 hne
  generalize ix [1, 2, 3, 5, 0, 16, 17, -1] k = z at hZ ⊢
  obtain ⟨a, c, rfl⟩ := own_slD o
  clear hlit h1 hne gw4 hRw4 b3
  go_wp2
  go_ret2
  exact ⟨_, xs, z, rfl, o, hl, hw, by omega, b4⟩

theorem drawRootOf_any (v : Value) (n : Nat) (w : World) (h : RdB w v n) :
    Calls Try.prog 16 #[v] w (DrewOne w) := by
  go_enter Try.func16, Try.ntmps16
  go_wp2_with fail
  refine (newReader_any v n _ h).mono ?_
  rintro e w1 ⟨R, rfl, hR, b1, hRs⟩
  go_wp2_with fail
  have hlit := own_lit 3 0 w1.heap.size w1 #[.int .i64 8, .int .i64 16, .int .i64 4, .int .i64 2, .int .i64 1, .int .i64 3, .int .i64 6, .int .i64 12, .int .i64 32, .int .i64 48, .int .i64 96, .int .i64 5, .int .i64 0] [8, 16, 4, 2, 1, 3, 6, 12, 32, 48, 96, 5, 0] 13 rfl (Nat.zero_le _) rfl rfl (by unfold maxLen; omega)
  have hlt := hR.lt
  have h1 := hR.kept (World.grownBy_alloc w1 (.cells #[.int .i64 8, .int .i64 16, .int .i64 4, .int .i64 2, .int .i64 1, .int .i64 3, .int .i64 6, .int .i64 12, .int .i64 32, .int .i64 48, .int .i64 96, .int .i64 5, .int .i64 0] 3) none) (by simp)
  refine (one_any R (0) _ [8, 16, 4, 2, 1, 3, 6, 12, 32, 48, 96, 5, 0] _ h1 (by omega) hlit.rd (by simp) (by simp) (by simp [Value.ownBlock]; omega)).mono ?_
  rintro e w2 ⟨k, hk, rfl, hRw2, gw2⟩
  have hZ := ix_range (lo := 0) (hi := 96) (xs := [8, 16, 4, 2, 1, 3, 6, 12, 32, 48, 96, 5, 0]) (by intro z hz; simp only [List.mem_cons, List.not_mem_nil, or_false] at hz; omega) hk
  have gw2 := grown_thru (World.grownBy_alloc w1 (.cells #[.int .i64 8, .int .i64 16, .int .i64 4, .int .i64 2, .int .i64 1, .int .i64 3, .int .i64 6, .int .i64 12, .int .i64 32, .int .i64 48, .int .i64 96, .int .i64 5, .int .i64 0] 3) none) gw2
  have b2 := bel_rdr b1 gw2 hRs
  generalize ix [8, 16, 4, 2, 1, 3, 6, 12, 32, 48, 96, 5, 0] k = z at hZ ⊢
  clear hlit h1 gw2 hRw2 b1
  go_wp2
  go_ret
  exact ⟨z, rfl, by omega, b2⟩

theorem drawOrderBy_any (v : Value) (n : Nat) (w : World) (h : RdB w v n) :
    Calls Try.prog 12 #[v] w (DrewOne w) := by
  go_enter Try.func12, Try.ntmps12
  go_wp2_with fail
  refine (newReader_any v n _ h).mono ?_
  rintro e w1 ⟨R, rfl, hR, b1, hRs⟩
  go_wp2_with fail
  refine (pick_any R 0 96 _ hR (by omega) (by omega) (by omega)).mono ?_
  rintro e w2 ⟨x1, rfl, hx1, hR2, g2⟩
  have b2 := bel_rdr b1 g2 hRs
  go_wp2_with fail
  refine (pick_any R 1 96 _ hR2 (by omega) (by omega) (by omega)).mono ?_
  rintro e w3 ⟨x2, rfl, hx2, hR3, g3⟩
  have b3 := bel_rdr b2 g3 hRs
  clear hR hR2 b1 b2 g2 g3
  go_wp2_with fail
  have hlit := own_lit 3 0 w3.heap.size w3 #[.int .i64 (1 + (x1 : Int)), .int .i64 (1 + (x2 : Int)), .int .i64 (1), .int .i64 (96), .int .i64 (97), .int .i64 (0)] [1 + (x1 : Int), 1 + (x2 : Int), 1, 96, 97, 0] 6 rfl (Nat.zero_le _) rfl rfl (by unfold maxLen; omega)
  have hlt := hR3.lt
  have h1 := hR3.kept (World.grownBy_alloc w3 (.cells #[.int .i64 (1 + (x1 : Int)), .int .i64 (1 + (x2 : Int)), .int .i64 (1), .int .i64 (96), .int .i64 (97), .int .i64 (0)] 3) none) (by simp)
  refine (one_any R 2 _ [1 + (x1 : Int), 1 + (x2 : Int), 1, 96, 97, 0] _ h1 (by omega) hlit.rd (by simp) (by simp) (by simp [Value.ownBlock]; omega)).mono ?_
  rintro e w4 ⟨k, hk, rfl, hR4, g4⟩
  have hZ := ix_range (lo := 0) (hi := 97) (xs := [1 + (x1 : Int), 1 + (x2 : Int), 1, 96, 97, 0]) (by intro z hz; simp only [List.mem_cons, List.not_mem_nil, or_false] at hz; omega) hk
  have g4 := grown_thru (World.grownBy_alloc w3 (.cells #[.int .i64 (1 + (x1 : Int)), .int .i64 (1 + (x2 : Int)), .int .i64 (1), .int .i64 (96), .int .i64 (97), .int .i64 (0)] 3) none) g4
  have b4 := bel_rdr b3 g4 hRs
  generalize ix [1 + (x1 : Int), 1 + (x2 : Int), 1, 96, 97, 0] k = z at hZ ⊢
  clear hlit h1 g4 hR4 b3
  go_wp2
  go_ret
  exact ⟨z, rfl, by omega, b4⟩

theorem drawSquareSum_any (v : Value) (n : Nat) (w : World) (h : RdB w v n) :
    Calls Try.prog 40 #[v] w (DrewOne w) := by
  go_enter Try.func40, Try.ntmps40
  go_wp2_with fail
  refine (newReader_any v n _ h).mono ?_
  rintro e w1 ⟨R, rfl, hR, b1, hRs⟩
  go_wp2_with fail
  refine (pick_any R 0 16 _ hR (by omega) (by omega) (by omega)).mono ?_
  rintro e w2 ⟨x1, rfl, hx1, hR2, g2⟩
  have b2 := bel_rdr b1 g2 hRs
  go_wp2_with fail
  refine (pick_any R 1 16 _ hR2 (by omega) (by omega) (by omega)).mono ?_
  rintro e w3 ⟨x2, rfl, hx2, hR3, g3⟩
  have b3 := bel_rdr b2 g3 hRs
  clear hR hR2 b1 b2 g2 g3
  go_wp2_with fail
  have hlit := own_lit 3 0 w3.heap.size w3 #[.int .i64 ((x1 : Int)), .int .i64 ((x2 : Int)), .int .i64 (1), .int .i64 (15), .int .i64 (16), .int .i64 (-1)] [(x1 : Int), (x2 : Int), 1, 15, 16, -1] 6 rfl (Nat.zero_le _) rfl rfl (by unfold maxLen; omega)
  have hlt := hR3.lt
  have h1 := hR3.kept (World.grownBy_alloc w3 (.cells #[.int .i64 ((x1 : Int)), .int .i64 ((x2 : Int)), .int .i64 (1), .int .i64 (15), .int .i64 (16), .int .i64 (-1)] 3) none) (by simp)
  refine (one_any R 2 _ [(x1 : Int), (x2 : Int), 1, 15, 16, -1] _ h1 (by omega) hlit.rd (by simp) (by simp) (by simp [Value.ownBlock]; omega)).mono ?_
  rintro e w4 ⟨k, hk, rfl, hR4, g4⟩
  have hZ := ix_range (lo := -1) (hi := 16) (xs := [(x1 : Int), (x2 : Int), 1, 15, 16, -1]) (by intro z hz; simp only [List.mem_cons, List.not_mem_nil, or_false] at hz; omega) hk
  have g4 := grown_thru (World.grownBy_alloc w3 (.cells #[.int .i64 ((x1 : Int)), .int .i64 ((x2 : Int)), .int .i64 (1), .int .i64 (15), .int .i64 (16), .int .i64 (-1)] 3) none) g4
  have b4 := bel_rdr b3 g4 hRs
  generalize ix [(x1 : Int), (x2 : Int), 1, 15, 16, -1] k = z at hZ ⊢
  clear hlit h1 g4 hR4 b3
  go_wp2
  go_ret
  exact ⟨z, rfl, by omega, b4⟩

end Go.Proofs.Ytabbfehjgchmgaa
