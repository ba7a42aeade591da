/-
  The Draw functions of chapter 2: what they draw lies in range.
-/
import Derived.Test.YtpalmbcknjmmcaaDrawRow
import Derived.Test.YtpalmbcknjmmcaaSgS
import Derived.Test.YtpalmbcknjmmcaaCube
namespace Go.Proofs.Ytpalmbcknjmmcaa
open Go.RowKit
set_option linter.unusedVariables false

theorem own_sl2 {E B : Nat} {w : World} {v : Value} {xs : List Int} (h : Own E B w v xs) : ∃ a cap, v = .slice a xs.length cap := by
  rcases h.shape with ⟨rfl, rfl⟩ | ⟨g, cap, rfl, _⟩
  · exact ⟨none, 0, rfl⟩
  · exact ⟨_, _, rfl⟩
/-- What a Draw function of one int leaves. -/
def DrewInt (w : World) (e : Ending) (w' : World) : Prop := ∃ z : Int, e = .returned (.int .i64 z) ∧ (-1000000 ≤ z ∧ z ≤ 1000000) ∧ Below w.heap.size w w'
def DrewTwo (w : World) (e : Ending) (w' : World) : Prop := ∃ y z : Int, e = .returned (.tuple #[.int .i64 y, .int .i64 z]) ∧ (-1000000 ≤ y ∧ y ≤ 1000000) ∧ (-1000000 ≤ z ∧ z ≤ 1000000) ∧ Below w.heap.size w w'
theorem bel_reader {w a b : World} {R : Nat} (h : Below w.heap.size w a) (g : a.grownBy b (some R)) (hR : w.heap.size ≤ R) : Below w.heap.size w b := h.grown g h.size (fun k hk => by injection hk with hk; omega)

theorem drawOrderOf_any (v : Value) (n : Nat) (w : World) (h : RdB w v n) :
    Calls Try.prog 38 #[v] w (DrewInt w) := by
  go_enter Try.func38, Try.ntmps38
  go_wp2_with fail
  refine (newReader_any v n _ h).mono ?_
  rintro e w1 ⟨R, rfl, hR, b1, hRs⟩
  go_wp2_with fail
  have hlt := hR.lt
  have hlit := own_lit 3 0 w1.heap.size w1 #[.int .i64 3, .int .i64 4, .int .i64 2, .int .i64 1, .int .i64 0, .int .i64 5, .int .i64 (-1)] [3, 4, 2, 1, 0, 5, -1] 7 rfl (Nat.zero_le _) rfl rfl (by unfold maxLen; omega)
  have h1 := hR.kept (World.grownBy_alloc w1 (.cells #[.int .i64 3, .int .i64 4, .int .i64 2, .int .i64 1, .int .i64 0, .int .i64 5, .int .i64 (-1)] 3) none) (by simp)
  have b2 := b1.alloc b1.size (.cells #[.int .i64 3, .int .i64 4, .int .i64 2, .int .i64 1, .int .i64 0, .int .i64 5, .int .i64 (-1)] 3)
  refine (one_any R 0 _ [3, 4, 2, 1, 0, 5, -1] _ h1 (by omega) hlit.rd (by simp) (by simp) (by simp [Value.ownBlock]; omega)).mono ?_
  rintro e w2 ⟨k, hk, rfl, hR2, g2⟩
  have hZ := ix_range (lo := -1) (hi := 5) (by decide : ∀ x ∈ ([3, 4, 2, 1, 0, 5, -1] : List Int), (-1 : Int) ≤ x ∧ x ≤ 5) hk
  go_wp2
  go_ret
  exact ⟨_, rfl, by omega, bel_reader b2 g2 hRs⟩

theorem drawChangesIn_any (v : Value) (n : Nat) (w : World) (h : RdB w v n) :
    Calls Try.prog 34 #[v] w (DrewTwo w) := by
  go_enter Try.func34, Try.ntmps34
  go_wp2_with fail
  refine (newReader_any v n _ h).mono ?_
  rintro e w1 ⟨R, rfl, hR, b1, hRs⟩
  go_wp2_with fail
  have hlt := hR.lt
  have hlit := own_lit 3 0 w1.heap.size w1 #[.int .i64 3, .int .i64 4, .int .i64 2, .int .i64 1, .int .i64 0, .int .i64 5, .int .i64 (-1)] [3, 4, 2, 1, 0, 5, -1] 7 rfl (Nat.zero_le _) rfl rfl (by unfold maxLen; omega)
  have h1 := hR.kept (World.grownBy_alloc w1 (.cells #[.int .i64 3, .int .i64 4, .int .i64 2, .int .i64 1, .int .i64 0, .int .i64 5, .int .i64 (-1)] 3) none) (by simp)
  have b2 := b1.alloc b1.size (.cells #[.int .i64 3, .int .i64 4, .int .i64 2, .int .i64 1, .int .i64 0, .int .i64 5, .int .i64 (-1)] 3)
  refine (one_any R 0 _ [3, 4, 2, 1, 0, 5, -1] _ h1 (by omega) hlit.rd (by simp) (by simp) (by simp [Value.ownBlock]; omega)).mono ?_
  rintro e w2 ⟨k, hk, rfl, hR2, g2⟩
  have hZ := ix_range (lo := -1) (hi := 5) (by decide : ∀ x ∈ ([3, 4, 2, 1, 0, 5, -1] : List Int), (-1 : Int) ≤ x ∧ x ≤ 5) hk
  have b2 := bel_reader b2 g2 hRs
  generalize ix [3, 4, 2, 1, 0, 5, -1] k = y at hZ ⊢
  clear hlit h1 g2 hk
  go_wp2_with fail
  refine (pick_any R 1 16 _ hR2 (by omega) (by omega) (by omega)).mono ?_
  rintro e w3 ⟨x1, rfl, hx1, hR3, g3⟩
  have b3 := bel_reader b2 g3 hRs
  go_wp2_with fail
  refine (pick_any R 2 8 _ hR3 (by omega) (by omega) (by omega)).mono ?_
  rintro e w4 ⟨x2, rfl, hx2, hR4, g4⟩
  have b4 := bel_reader b3 g4 hRs
  go_wp2_with fail
  refine (pick_any R 3 4 _ hR4 (by omega) (by omega) (by omega)).mono ?_
  rintro e w5 ⟨x3, rfl, hx3, hR5, g5⟩
  have b5 := bel_reader b4 g5 hRs
  have hlt5 := hR5.lt
  clear g3 g4 g5 hR2 hR3 hR4 b2 b3 b4
  go_wp2_with fail
  have hlit := own_lit 3 0 w5.heap.size w5 #[.int .i64 x1, .int .i64 x2, .int .i64 x3, .int .i64 0, .int .i64 16, .int .i64 (-1)] [(x1 : Int), x2, x3, 0, 16, -1] 6 rfl (Nat.zero_le _) rfl rfl (by unfold maxLen; omega)
  have h1 := hR5.kept (World.grownBy_alloc w5 (.cells #[.int .i64 x1, .int .i64 x2, .int .i64 x3, .int .i64 0, .int .i64 16, .int .i64 (-1)] 3) none) (by simp)
  have b6 := b5.alloc b5.size (.cells #[.int .i64 x1, .int .i64 x2, .int .i64 x3, .int .i64 0, .int .i64 16, .int .i64 (-1)] 3)
  refine (one_any R 4 _ [(x1 : Int), x2, x3, 0, 16, -1] _ h1 (by omega) hlit.rd (by simp) (by simp) (by simp [Value.ownBlock]; omega)).mono ?_
  rintro e w6 ⟨k2, hk2, rfl, hR6, g6⟩
  have hZ2 := ix_range (lo := -1) (hi := 16) (xs := [(x1 : Int), x2, x3, 0, 16, -1]) (by intro z hz; simp only [List.mem_cons, List.not_mem_nil, or_false] at hz; omega) hk2
  generalize ix [(x1 : Int), x2, x3, 0, 16, -1] k2 = z at hZ2 ⊢
  have b6 := bel_reader b6 g6 hRs
  go_wp2
  go_ret2
  exact ⟨y, z, rfl, by omega, by omega, b6⟩

set_option maxHeartbeats 4000000 in
theorem signRow_any (R p n : Nat) (w : World) (h : Rdr 66 w R p) (hp : p ≤ 500) (hn : n ≤ 32) :
    Calls Try.prog 81 #[.pointer (some ⟨R, 0, none⟩), .int .i64 n] w (Drawn 3 66 w R p) := by
  have hR := h.lt
  have hr0 : Row 3 66 w (w.alloc (.cells #[] 3)) R (.slice (some ⟨w.heap.size, 0, none⟩) 0 0) 0 p :=
    ⟨[], own_empty _ _ w (Nat.le_refl _), rfl, by simp, h.kept (World.grownBy_alloc w _ none) (by simp), World.grownBy_alloc w _ _⟩
  clear h
  go_enter Try.func81, Try.ntmps81
  go_wp2
  go_loopw [5] (fun v wr => ∃ a cap k q, v = .slice a k cap ∧ k ≤ n ∧ q ≤ p + k ∧ Row 3 66 w wr R v k q) (fun v _ => n - (match v with | .slice _ k _ => k | _ => 0))
  case atStart => exact ⟨_, _, 0, p, rfl, Nat.zero_le _, by omega, hr0⟩
  case round =>
    obtain ⟨a, cap, k, q, rfl, hk, hq, hrw⟩ := hrel
    clear hr0
    by_cases hlt : k < n
    · go_wp2_with fail
      refine (pick_any R q 2 _ hrw.rdr (by omega) (by omega) (by omega)).mono ?_
      rintro e w2 ⟨x, rfl, hx, hR2, g2⟩
      have hrw := hrw.picked hR hR2 g2
      clear hR2 g2
      have hsz := hrw.size
      obtain ⟨xs, hO, hxk, hxw, hR4, hg4⟩ := hrw
      have HX := Lib.hid hxk
      clear hxk
      go_wp2_with (at_builtin; refine app_int rfl _ _ 23 rfl w.heap.size 3 Try.underlying23 infoInt _ xs rfl (hO.grow _) ⟨w2.heap.size, 0, none⟩ rfl (1 - 2 * (x : Int)) ?c1 ?c2 ?c3 ?_)
      case c1 => exact cell_new1 _ _ _
      case c2 => have := HX.out; omega
      case c3 => simp; omega
      intro v' w5 hO' hg'
      have hrow' := Row.app hR4 hR hg4 hO HX.out hxw (ys := [1 - 2 * (x : Int)]) (m := 1) (by intro z hz; simp at hz; subst hz; exact wf_small (by omega)) rfl hO' hg' (World.grownBy_alloc w2 _ none)
      obtain ⟨a', c', hv'⟩ := hrow'.slice
      subst hv'
      clear hO hO' hg' hR4 hg4 hxw
      go_wp2
      go_roundw
      case rel => exact ⟨a', c', k + 1, q + 1, rfl, by omega, by omega, hrow'⟩
      case measure => simp; omega
    · obtain rfl : k = n := by omega
      by_cases hk0 : k = 0
      · subst hk0
        go_wp2
        go_ret
        exact hrw.drawn (by omega) (by omega)
      · rcases hrw.shape with hz | ⟨g, rfl, hg⟩
        · omega
        have hki : (0 : Int) < (k : Int) := by omega
        go_wp2_with fail
        refine (pick_any R q 24 _ hrw.rdr (by omega) (by omega) (by omega)).mono ?_
        rintro e w2 ⟨x, rfl, hx, hR2, g2⟩
        have hrw := hrw.picked hR hR2 g2
        clear hR2 g2
        by_cases hx0 : x = 0
        · subst hx0
          go_wp2_with fail
          have hrw2 := hrw.alloc (.cells #[.int .i64 0, .int .i64 2] 3)
          have hlit := own_lit 3 0 w2.heap.size w2 #[.int .i64 0, .int .i64 2] [0, 2] 2 rfl (Nat.zero_le _) rfl rfl (by unfold maxLen; omega)
          have hsz := hrw.size
          refine (one_any R (q + 1) _ [0, 2] _ hrw2.rdr (by omega) hlit.rd (by simp) (by simp) (by simp [Value.ownBlock]; omega)).mono ?_
          rintro e w3 ⟨k1, hk1, rfl, hR5, g5⟩
          have hZ := ix_range (lo := 0) (hi := 2) (by decide : ∀ x ∈ ([0, 2] : List Int), (0 : Int) ≤ x ∧ x ≤ 2) hk1
          have hrw3 := hrw2.picked hR hR5 g5
          generalize ix [0, 2] k1 = z at hZ ⊢
          obtain ⟨⟨u, hcu⟩, hfu⟩ := hrw3.cell (j := 0) (by omega)
          have hrw4 := hrw3.set (j := 0) (u := z) hg hR (wf_small (by omega))
          clear hrw hrw2 hlit hR5 g5 hk1 hrw3
          go_wp2
          go_ret
          exact hrw4.drawn (by omega) (by omega)
        · have e1 : ((x : Int) == 0) = false := by simp; omega
          go_wp2
          go_ret
          exact hrw.drawn (by omega) (by omega)

set_option maxHeartbeats 2000000 in
theorem drawIsBent_any (v : Value) (n : Nat) (w : World) (h : RdB w v n) :
    Calls Try.prog 48 #[v] w (DrewRow 3 w) := by
  go_enter Try.func48, Try.ntmps48
  go_wp2_with fail
  refine (newReader_any v n _ h).mono ?_
  rintro e w1 ⟨R, rfl, hR, b1, hRs⟩
  go_wp2_with fail
  refine (pick_any R 0 4 _ hR (by omega) (by omega) (by omega)).mono ?_
  rintro e w2 ⟨x, rfl, hx, hR2, g2⟩
  have b2 := bel_reader b1 g2 hRs
  by_cases hx0 : x = 0
  · subst hx0
    go_wp2
    go_ret
    exact ⟨_, [1, 1, 1, -1], rfl, own_lit 3 w.heap.size w2.heap.size w2 #[.int .i64 1, .int .i64 1, .int .i64 1, .int .i64 (-1)] [1, 1, 1, -1] 4 rfl b2.size rfl rfl (by unfold maxLen; omega), by simp, by decide, b2.alloc b2.size _⟩
  · have e1 : ((x : Int) == 0) = false := by simp; omega
    go_wp2_with fail
    have hlt := hR2.lt
    have hlit := own_lit 3 0 w2.heap.size w2 #[.int .i64 4, .int .i64 4, .int .i64 16, .int .i64 2, .int .i64 1, .int .i64 8, .int .i64 3, .int .i64 0] [4, 4, 16, 2, 1, 8, 3, 0] 8 rfl (Nat.zero_le _) rfl rfl (by unfold maxLen; omega)
    have h1 := hR2.kept (World.grownBy_alloc w2 (.cells #[.int .i64 4, .int .i64 4, .int .i64 16, .int .i64 2, .int .i64 1, .int .i64 8, .int .i64 3, .int .i64 0] 3) none) (by simp)
    have b3 := b2.alloc b2.size (.cells #[.int .i64 4, .int .i64 4, .int .i64 16, .int .i64 2, .int .i64 1, .int .i64 8, .int .i64 3, .int .i64 0] 3)
    refine (one_any R 1 _ [4, 4, 16, 2, 1, 8, 3, 0] _ h1 (by omega) hlit.rd (by simp) (by simp) (by simp [Value.ownBlock]; omega)).mono ?_
    rintro e w3 ⟨k, hk, rfl, hR3, g3⟩
    have hZ := ix_range (lo := 0) (hi := 16) (by decide : ∀ x ∈ ([4, 4, 16, 2, 1, 8, 3, 0] : List Int), (0 : Int) ≤ x ∧ x ≤ 16) hk
    obtain ⟨m, hm⟩ : ∃ m : Nat, ix [4, 4, 16, 2, 1, 8, 3, 0] k = (m : Int) := ⟨(ix [4, 4, 16, 2, 1, 8, 3, 0] k).toNat, by omega⟩
    rw [hm] at hZ ⊢
    have b3 := bel_reader b3 g3 hRs
    clear hm hlit h1 hk g3
    go_wp2_with fail
    refine (signRow_any R 2 m _ hR3 (by omega) (by omega)).mono ?_
    rintro e w4 hd
    have hd := drewRow_of b3 hRs hd
    obtain ⟨u, xs, rfl, r⟩ := hd
    go_wp2
    go_ret
    exact ⟨u, xs, rfl, r⟩

set_option maxHeartbeats 4000000 in
theorem drawUnsignsOf_any (v : Value) (n : Nat) (w : World) (h : RdB w v n) :
    Calls Try.prog 31 #[v] w (DrewRow 3 w) := by
  go_enter Try.func31, Try.ntmps31
  go_wp2_with fail
  refine (newReader_any v n _ h).mono ?_
  rintro e w1 ⟨R, rfl, hR, b1, hRs⟩
  go_wp2_with fail
  refine (cubeRow_any R 0 _ hR (by omega)).mono ?_
  rintro e w2 ⟨u, xs, p', rfl, o, hl, hw, hR2, hp', g2⟩
  have b2 := bel_reader b1 g2 hRs
  have hne := o.ne hR.lt
  have hs1 := b1.size
  clear h hR b1 g2
  go_wp2_with fail
  refine (pick_any R p' 3 _ hR2 (by omega) (by omega) (by omega)).mono ?_
  rintro e w3 ⟨x, rfl, hx, hR3, g3⟩
  have b3 := bel_reader b2 g3 hRs
  have o := (o.kept g3 hne).mono hs1
  clear hne g3 b2 hR2 hR3
  by_cases hx0 : x = 0
  · subst hx0
    obtain ⟨a, c, rfl⟩ := own_sl2 o
    go_wp2
    go_ret
    exact ⟨_, xs, rfl, o, hl, hw, b3⟩
  · have hxi : (0 : Int) < (x : Int) := by omega
    have HV := Lib.hid fun w (h : Rd w u xs) => validCube_any u xs w h (by unfold maxLen; omega)
    cases hc : cubeB xs with
    | false =>
      rw [hc] at HV
      obtain ⟨a, c, rfl⟩ := own_sl2 o
      clear hc
      go_wp2_with fail
      refine (HV.out _ o.rd).mono ?_
      rintro e w4 ⟨rfl, b4⟩
      have o := o.below b4 (Nat.le_refl _)
      have b4 := bel_nxt b3 b4
      go_wp2
      go_ret
      exact ⟨_, xs, rfl, o, hl, hw, b4⟩
    | true =>
      rw [hc] at HV
      have hp := cube_pos hc
      have h16 := (vrB_of (cubeB_of hc).1).1
      obtain ⟨g, c, rfl, hg, -⟩ := o.form (by intro e; rw [e] at hp; simp at hp)
      clear hc
      go_wp2_with fail
      refine (HV.out _ o.rd).mono ?_
      rintro e w4 ⟨rfl, b4⟩
      have o := o.below b4 (Nat.le_refl _)
      have b4 := bel_nxt b3 b4
      clear b3 HV
      obtain ⟨n, hn⟩ : ∃ n, n = xs.length := ⟨_, rfl⟩
      rw [← hn] at o hp h16 ⊢
      have hI : ∃ zs : List Int, zs.length = n ∧ Own 3 w.heap.size w4 (.slice (some ⟨g, 0, none⟩) n c) zs := ⟨xs, hn.symm, o⟩
      clear hn o hw hl
      go_wp2
      go_loopw [5] (fun i wr => ∃ k : Nat, k ≤ n ∧ i = .int .i64 k ∧ (∃ zs : List Int, zs.length = n ∧ Own 3 w.heap.size wr (.slice (some ⟨g, 0, none⟩) n c) zs) ∧ Below w.heap.size w wr) (fun i _ => n - (intOf i).toNat)
      case atStart => exact ⟨0, Nat.zero_le _, rfl, hI, b4⟩
      case round =>
        obtain ⟨k, hk, rfl, ⟨zs, hzl, hO⟩, hB⟩ := hrel
        clear hI b4
        by_cases hlt : k < n
        · have hck := hO.cell k (by omega)
          have hfk := hO.frozen k
          generalize hz : ix zs k = z at hck
          have HO := Lib.hid fun y => hO.set k y
          have HB := Lib.hid fun y => hB.setCell (p := ⟨g, k, none⟩) hg (.int .i64 y)
          have HZ := Lib.hid hzl
          clear hO hB hz hzl
          go_wp2
          go_roundw
          case rel => exact ⟨k + 1, by omega, by go_num, ⟨_, by rw [List.length_set]; exact HZ.out, HO.out _⟩, HB.out _⟩
          case measure => simp [intOf]; omega
        · obtain rfl : k = n := by omega
          have HSG := Lib.hid (specsigns_any _ zs wr hO.rd (by omega) (by omega))
          have HZ := Lib.hid hzl
          clear hO hzl
          go_wp2_with fail
          refine HSG.out.mono ?_
          rintro e w6 ⟨u6, rfl, o6, b6⟩
          go_wp2
          go_ret
          refine ⟨_, signsL zs, rfl, o6.mono hB.size, by rw [len_signsL, HZ.out]; omega, fun y hy => ?_, bel_nxt hB b6⟩
          unfold signsL tab at hy
          obtain ⟨j, _, rfl⟩ := List.mem_map.1 hy
          exact wrap64_wf _

end Go.Proofs.Ytpalmbcknjmmcaa
