/-
  somePair: the rows that it draws lie in range.
-/
import Derived.Test.YtagncoahobghpacDraw6
import Derived.Test.YtagncoahobghpacDbS
namespace Go.Proofs.Ytagncoahobghpac
open Go.RowKit
set_option linter.unusedVariables false

theorem mem_set6 {xs : List Int} {k : Nat} {z : Int} (h : ∀ n ∈ xs, (Lit.int .i64 n).wf = true) (hz : (Lit.int .i64 z).wf = true) : ∀ n ∈ xs.set k z, (Lit.int .i64 n).wf = true := by
  intro n hn
  rcases List.mem_or_eq_of_mem_set hn with h' | h'
  · exact h n h'
  · rw [h']; exact hz
/-- Both rows on the way. -/
def Pr (E T : Nat) (w wr : World) (R : Nat) (u v : Value) (n m p : Nat) : Prop :=
  ∃ xs ys, Own E w.heap.size wr u xs ∧ Own E w.heap.size wr v ys ∧ ((u.ownBlock = none ∨ u.ownBlock ≠ v.ownBlock) ∧ (v.ownBlock = none ∨ v.ownBlock ≠ u.ownBlock)) ∧ xs.length = n ∧ ys.length = m ∧ (∀ x ∈ xs, (Lit.int .i64 x).wf = true) ∧ (∀ x ∈ ys, (Lit.int .i64 x).wf = true) ∧ Rdr T wr R p ∧ w.grownBy wr (some R)
theorem Pr.rdr {E T R n m p : Nat} {w wr : World} {u v : Value} (h : Pr E T w wr R u v n m p) : Rdr T wr R p := by
  obtain ⟨xs, ys, h1, h2, h3, h4, h5, h6, h7, h8, h9⟩ := h; exact h8
theorem Pr.size {E T R n m p : Nat} {w wr : World} {u v : Value} (h : Pr E T w wr R u v n m p) : w.heap.size ≤ wr.heap.size := by
  obtain ⟨xs, ys, h1, h2, h3, h4, h5, h6, h7, h8, h9⟩ := h; exact h9.size
theorem Pr.picked {E T R n m p : Nat} {w wr w1 : World} {u v : Value} (h : Pr E T w wr R u v n m p) (hR : R < w.heap.size) {p' : Nat} (hr : Rdr T w1 R p') (hg : wr.grownBy w1 (some R)) : Pr E T w w1 R u v n m p' := by
  obtain ⟨xs, ys, h1, h2, h3, h4, h5, h6, h7, h8, h9⟩ := h
  exact ⟨xs, ys, h1.kept hg (h1.ne hR), h2.kept hg (h2.ne hR), h3, h4, h5, h6, h7, hr, World.grownBy.trans h9 hg⟩
theorem Pr.below {E T R n m p : Nat} {w wr w1 : World} {u v : Value} (h : Pr E T w wr R u v n m p) (hb : Below wr.heap.size wr w1) : Pr E T w w1 R u v n m p := by
  obtain ⟨xs, ys, h1, h2, h3, h4, h5, h6, h7, h8, h9⟩ := h
  have hg : wr.grownBy w1 none := ⟨hb.os, hb.tape, hb.output, hb.size, fun k hk _ => hb.block k hk⟩
  exact ⟨xs, ys, h1.below hb (Nat.le_refl _), h2.below hb (Nat.le_refl _), h3, h4, h5, h6, h7, h8.kept hg (by simp), World.grownBy.andThen h9 hg (by simp)⟩
theorem wf_w64 (z : Int) : (Lit.int .i64 (wrap64 z)).wf = true := WalkArith.wf_i64 (by unfold wrap64; omega)
theorem Pr.set {E T R n m p g c j : Nat} {w wr : World} {v : Value} (h : Pr E T w wr R (.slice (some ⟨g, 0, none⟩) n c) v n m p) (hR : R < w.heap.size) (hj : j < n) :
    ∃ z : Int, wr.cell? ⟨g, j, none⟩ = some (.int .i64 z) ∧ wr.frozen? ⟨g, j, none⟩ = false ∧ ∀ y : Int, (Lit.int .i64 y).wf = true → Pr E T w (wr.setCell ⟨g, j, none⟩ (.int .i64 y)) R (.slice (some ⟨g, 0, none⟩) n c) v n m p := by
  obtain ⟨xs, ys, h1, h2, h3, h4, h5, h6, h7, h8, h9⟩ := h
  have hg : w.heap.size ≤ g := (World.ownsRow.lt h1 g (by simp [Value.ownBlock])).1
  have hgb := grown_set (World.grownBy.refl wr (some g)) j
  refine ⟨ix xs j, h1.cell j (by omega), h1.frozen j, fun y hy => ⟨xs.set j y, ys, h1.set j y, h2.kept (hgb (.int .i64 y)) (by have := h3.2; simpa [Value.ownBlock] using this), h3, by rw [List.length_set]; exact h4, h5, mem_set6 h6 hy, h7, h8.kept (hgb (.int .i64 y)) (fun k hk => by injection hk with hk; omega), ?_⟩⟩
  exact World.grownBy.andThen h9 (hgb (.int .i64 y)) (fun k hk => .inl (by injection hk with hk; omega))

set_option maxHeartbeats 8000000 in
theorem somePair_any (R p : Nat) (w : World) (h : Rdr 56 w R p) (hp : p ≤ 300) :
    Calls Try.prog 36 #[.pointer (some ⟨R, 0, none⟩)] w fun e w' => ∃ u v n m p', e = .returned (.tuple #[u, v]) ∧ Pr 3 56 w w' R u v n m p' ∧ n ≤ 64 ∧ m ≤ 64 := by
  have hR := h.lt
  go_enter Try.func36, Try.ntmps36
  go_wp2_with fail
  have h1 := h.kept (World.grownBy_alloc w (.cells #[.int .i64 1] 3) none) (by simp)
  refine (pick_any R p 2 _ h1 (by omega) (by omega) (by omega)).mono ?_
  rintro e w1 ⟨x, rfl, hx, hR1, g1⟩
  have hP : Pr 3 56 w (w1.alloc (.cells #[.int .i64 (1 - 2 * (x : Int))] 3)) R (.slice (some ⟨w.heap.size, 0, none⟩) 1 1) (.slice (some ⟨w1.heap.size, 0, none⟩) 1 1) 1 1 (p + 1) := by
    have o1 := own_lit 3 w.heap.size w.heap.size w #[.int .i64 1] [1] 1 rfl (Nat.le_refl _) rfl rfl (by unfold maxLen; omega)
    have o1 := o1.kept g1 (by simp [Value.ownBlock]; omega)
    have hs := g1.size
    simp at hs
    have o2 := own_lit 3 w.heap.size w1.heap.size w1 #[.int .i64 (1 - 2 * (x : Int))] [1 - 2 * (x : Int)] 1 rfl (by omega) rfl rfl (by unfold maxLen; omega)
    refine ⟨_, _, o1.grow _, o2, by simp [Value.ownBlock]; omega, rfl, rfl, by decide, ?_, hR1.kept (World.grownBy_alloc w1 _ none) (by simp), ?_⟩
    · intro y hy
      rw [List.mem_singleton] at hy
      subst hy
      exact wf_small (by omega)
    · exact World.grownBy.trans (World.grownBy.trans (World.grownBy_alloc w (.cells #[.int .i64 1] 3) (some R)) g1) (World.grownBy_alloc w1 _ (some R))
  have i1 : IntKind.i64.wrap (2 * (x : Int)) = 2 * (x : Int) := IntWalk.i64_in _ (by omega)
  have i2 : IntKind.i64.wrap (1 - 2 * (x : Int)) = 1 - 2 * (x : Int) := IntWalk.i64_in _ (by omega)
  have HPP := Lib.hid hP
  clear hP h1 hR1 g1 h
  go_wp2_with fail
  obtain ⟨wc, hwc⟩ : ∃ wc, wc = w1.alloc (.cells #[.int .i64 (1 - 2 * (x : Int))] 3) := ⟨_, rfl⟩
  have hcs : w1.heap.size + 1 = wc.heap.size := by rw [hwc]; simp
  have HP2 := HPP.out
  rw [← hwc] at HP2 ⊢
  rw [hcs]
  clear HPP
  have hlit := own_lit 3 0 wc.heap.size wc #[.int .i64 1, .int .i64 2, .int .i64 3, .int .i64 0, .int .i64 4] [1, 2, 3, 0, 4] 5 rfl (Nat.zero_le _) rfl rfl (by unfold maxLen; omega)
  have hP3 := HP2.below (Below.alloc (Below.refl wc.heap.size wc) (Nat.le_refl _) (.cells #[.int .i64 1, .int .i64 2, .int .i64 3, .int .i64 0, .int .i64 4] 3))
  have hRc := HP2.rdr.lt
  refine (one_any R (p + 1) _ [1, 2, 3, 0, 4] _ hP3.rdr (by omega) hlit.rd (by simp) (by simp) (by simp [Value.ownBlock]; omega)).mono ?_
  rintro e w3 ⟨k, hk, rfl, hR3, g3⟩
  have hZ := ix_range (lo := 0) (hi := 4) (by decide : ∀ x ∈ ([1, 2, 3, 0, 4] : List Int), (0 : Int) ≤ x ∧ x ≤ 4) hk
  obtain ⟨q0, hq0⟩ : ∃ q : Nat, ix [1, 2, 3, 0, 4] k = (q : Int) := ⟨(ix [1, 2, 3, 0, 4] k).toNat, by omega⟩
  rw [hq0] at hZ ⊢
  have hP4 := hP3.picked hR hR3 g3
  have hq4 : q0 ≤ 4 := by omega
  have HPP := Lib.hid hP4
  clear hq0 hlit hk g3 hP3 HP2 hR3 hP4 hcs hwc hRc hZ i1 i2
  go_wp2
  go_loopw [4, 5, 6] (fun u v i wr => ∃ q n m p' : Nat, ∃ a1 a2 : Option Addr, ∃ c1 c2 : Nat, q ≤ 4 ∧ i = .int .i64 q ∧ u = .slice a1 n c1 ∧ v = .slice a2 m c2 ∧ n ≤ 16 ∧ m ≤ 16 ∧ p' + q ≤ p + 10 ∧ Hid (Pr 3 56 w wr R (.slice a1 n c1) (.slice a2 m c2) n m p')) (fun _ _ i _ => (intOf i).toNat)
  case atStart => exact ⟨q0, 1, 1, _, _, _, _, _, hq4, rfl, rfl, rfl, by omega, by omega, by omega, HPP⟩
  case round =>
    obtain ⟨q, n, m, p', a1, a2, c1, c2, hq, rfl, rfl, rfl, hn, hm, hpp, HP⟩ := hrel
    clear HPP
    by_cases hq0 : q = 0
    · subst hq0
      go_wp2_with fail
      refine (pick_any R p' 4 _ HP.out.rdr (by omega) (by omega) (by omega)).mono ?_
      rintro e w4 ⟨x4, rfl, hx4, hR4, g4⟩
      have HP4 := Lib.hid (HP.out.picked hR hR4 g4)
      clear HP hR4 g4
      by_cases h0 : x4 = 0
      · subst h0
        go_wp2_with fail
        have hs4 := HP4.out.size
        have hg0 : w.grownBy w4 (some R) := by
          obtain ⟨xs, ys, h1, h2, h3, h4, h5, h6, h7, h8, h9⟩ := HP4.out; exact h9
        refine (signRow_any6 R (p' + 1) 4 _ HP4.out.rdr (by omega) (by omega)).mono ?_
        rintro e w5 ⟨u5, xs, p5, rfl, o5, hl5, hw5, hR5, hp5, g5⟩
        have hRB := HP4.out.rdr.lt
        go_wp2_with fail
        refine (signRow_any6 R p5 4 _ hR5 (by omega) (by omega)).mono ?_
        rintro e w6 ⟨u6, ys, p6, rfl, o6, hl6, hw6, hR6, hp6, g6⟩
        have ap := Own.apart o5 o6
        have o5 := (o5.kept g6 (o5.ne hRB)).mono hs4
        have o6 := o6.mono (Nat.le_trans hs4 g5.size)
        have hF : Pr 3 56 w w6 R u5 u6 xs.length ys.length p6 := ⟨xs, ys, o5, o6, ap, rfl, rfl, hw5, hw6, hR6, World.grownBy.trans (World.grownBy.trans hg0 g5) g6⟩
        have HF := Lib.hid hF
        obtain ⟨a5, c5, rfl⟩ := own_sl26 o5
        obtain ⟨a6, c6, rfl⟩ := own_sl26 o6
        clear hF o5 o6 ap g5 g6 hR5 hR6 hg0
        go_wp2
        go_ret2
        exact ⟨_, _, _, _, _, rfl, HF.out, hl5, hl6⟩
      · have e1 : ((x4 : Int) == 0) = false := by simp; omega
        clear h0
        go_wp2
        go_ret2
        exact ⟨_, _, _, _, _, rfl, HP4.out, by omega, by omega⟩
    · have k0 : (0 : Int) < (q : Int) := by omega
      obtain ⟨xs, ys, h1, h2, h3, h4, h5, h6, h7, h8, h9⟩ := HP.out
      have hD := specDoublePair_any (.slice a1 n c1) (.slice a2 m c2) xs ys wr h1.rd h2.rd (by unfold maxLen; omega) (by unfold maxLen; omega)
      have HD := Lib.hid hD
      have HW := Lib.hid h6
      have HW2 := Lib.hid h7
      have H1 := Lib.hid h1
      have H2 := Lib.hid h2
      have H3 := Lib.hid h3
      have H8 := Lib.hid h8
      have H9 := Lib.hid h9
      have H4 := Lib.hid h4
      have H5 := Lib.hid h5
      clear hD h1 h2 h3 h4 h5 h6 h7 h8 h9
      go_wp2_with fail
      refine HD.out.mono ?_
      rintro e w4 ⟨r, rfl, u4, v4, rfl, o4, o5, ap, b4⟩
      have hsz := H9.out.size
      have HPq : Hid (∃ n' m' : Nat, ∃ a1' a2' : Option Addr, ∃ c1' c2' : Nat, n' ≤ 16 ∧ m' ≤ 16 ∧ (okD xs ys = true → u4 = .slice a1' n' c1' ∧ v4 = .slice a2' m' c2') ∧ (okD xs ys = false → a1' = a1 ∧ n' = n ∧ c1' = c1 ∧ a2' = a2 ∧ m' = m ∧ c2' = c2) ∧ Pr 3 56 w w4 R (.slice a1' n' c1') (.slice a2' m' c2') n' m' p') := by
        apply Lib.hid
        have hg : wr.grownBy w4 none := ⟨b4.os, b4.tape, b4.output, b4.size, fun k hk _ => b4.block k hk⟩
        cases hok : okD xs ys with
        | false =>
          exact ⟨n, m, a1, a2, c1, c2, hn, hm, (fun h => by cases h), (fun _ => ⟨rfl, rfl, rfl, rfl, rfl, rfl⟩), HP.out.below b4⟩
        | true =>
          obtain ⟨hp1, hp2⟩ := okD_of hok
          have hd := okD_yes hp1 hp2
          obtain ⟨b1, d1, rfl⟩ := own_sl26 o4
          obtain ⟨b2, d2, rfl⟩ := own_sl26 o5
          refine ⟨_, _, b1, b2, d1, d2, dp1_len xs ys, dp2_len xs ys, (fun _ => ⟨rfl, rfl⟩), (fun h => by cases h), dp1 xs ys, dp2 xs ys, o4.mono hsz, o5.mono hsz, ap, rfl, rfl, ?_, ?_, H8.out.kept hg (by simp), World.grownBy.andThen H9.out hg (by simp)⟩
          · rw [hd.2.1]
            intro y hy
            rcases List.mem_append.1 hy with h | h
            · exact HW.out y h
            · exact HW2.out y h
          · rw [hd.2.2]
            intro y hy
            rcases List.mem_append.1 hy with h | h
            · exact HW.out y h
            · unfold ngL tab at h
              obtain ⟨j, _, rfl⟩ := List.mem_map.1 h
              exact wf_w64 _
      have hslu : ∃ b1 d1 e1, ∃ _ : True, u4 = .slice b1 d1 e1 := by obtain ⟨a, c, h⟩ := own_sl26 o4; exact ⟨_, _, _, trivial, h⟩
      have hslv : ∃ b1 d1 e1, ∃ _ : True, v4 = .slice b1 d1 e1 := by obtain ⟨a, c, h⟩ := own_sl26 o5; exact ⟨_, _, _, trivial, h⟩
      obtain ⟨n', m', a1', a2', c1', c2', hn', hm', hyes, hno, hPr⟩ := HPq.out
      have HPr := Lib.hid hPr
      clear HD hsz hPr HPq o4 o5 ap b4 H1 H2 H3 H8 H9 H4 H5 HW HW2
      have hqq : 1 ≤ q := by omega
      clear hq0
      cases hok : okD xs ys with
      | true =>
        obtain ⟨rfl, rfl⟩ := hyes hok
        clear hyes hno hok
        go_wp2_with fail
        refine (pick_any R p' 3 _ HPr.out.rdr (by omega) (by omega) (by omega)).mono ?_
        rintro e w5 ⟨x5, rfl, hx5, hR5, g5⟩
        have HP5 := Lib.hid (HPr.out.picked hR hR5 g5)
        clear HPr HP hR5 g5
        by_cases h0 : x5 = 0
        · subst h0
          go_wp2
          go_loopw [10] (fun j wq => ∃ t : Nat, t ≤ n' ∧ j = .int .i64 t ∧ Hid (Pr 3 56 w wq R (.slice a1' n' c1') (.slice a2' m' c2') n' m' (p' + 1))) (fun j _ => n' - (intOf j).toNat)
          case atStart => exact ⟨0, Nat.zero_le _, rfl, HP5⟩
          case round =>
            obtain ⟨t, ht, rfl, HQ⟩ := hrel
            clear HP5
            by_cases htl : t < n'
            · have t0 : (t : Int) < (n' : Int) := by omega
              obtain ⟨g, rfl⟩ : ∃ g, a1' = some ⟨g, 0, none⟩ := by
                obtain ⟨xs, ys, h1, h2, h3, h4, h5, h6, h7, h8, h9⟩ := HQ.out
                rcases h1.shape with ⟨_, hx⟩ | ⟨g, c, hx, _, _⟩
                · rw [hx] at h4; simp at h4; omega
                · simp only [Value.slice.injEq] at hx; exact ⟨g, hx.1⟩
              obtain ⟨z, d1, f1, hset⟩ := HQ.out.set hR htl
              have HS := Lib.hid (hset (wrap64 (-z)) (wf_w64 _))
              clear HQ hset
              go_wp2
              go_roundw
              case rel => exact ⟨t + 1, by omega, by go_num, HS⟩
              case measure => simp [intOf]; omega
            · obtain rfl : t = n' := by omega
              have e2 : IntKind.i64.wrap ((q : Int) - 1) = ((q - 1 : Nat) : Int) := by rw [IntKind.wrap_i64]; omega
              go_wp2
              go_roundw
              case rel => exact ⟨q - 1, t, m', p' + 1, a1', a2', c1', c2', by omega, rfl, rfl, rfl, hn', hm', by omega, HQ⟩
              case measure => simp [intOf]; omega
        · have e1 : ((x5 : Int) == 0) = false := by simp; omega
          have e2 : IntKind.i64.wrap ((q : Int) - 1) = ((q - 1 : Nat) : Int) := by rw [IntKind.wrap_i64]; omega
          clear h0
          go_wp2
          go_roundw
          case rel => exact ⟨q - 1, n', m', p' + 1, a1', a2', c1', c2', by omega, rfl, rfl, rfl, hn', hm', by omega, HP5⟩
          case measure => simp [intOf]; omega
      | false =>
        obtain ⟨rfl, rfl, rfl, rfl, rfl, rfl⟩ := hno hok
        obtain ⟨b1, d1, e1, k1, rfl⟩ : ∃ b1 d1 e1, ∃ _ : True, u4 = .slice b1 d1 e1 := hslu
        obtain ⟨b2, d2, e2, k2, rfl⟩ : ∃ b1 d1 e1, ∃ _ : True, v4 = .slice b1 d1 e1 := hslv
        clear hyes hno hok
        go_wp2_with fail
        refine (pick_any R p' 3 _ HPr.out.rdr (by omega) (by omega) (by omega)).mono ?_
        rintro e w5 ⟨x5, rfl, hx5, hR5, g5⟩
        have HP5 := Lib.hid (HPr.out.picked hR hR5 g5)
        clear HPr HP hR5 g5
        by_cases h0 : x5 = 0
        · subst h0
          go_wp2
          go_loopw [10] (fun j wq => ∃ t : Nat, t ≤ n' ∧ j = .int .i64 t ∧ Hid (Pr 3 56 w wq R (.slice a1' n' c1') (.slice a2' m' c2') n' m' (p' + 1))) (fun j _ => n' - (intOf j).toNat)
          case atStart => exact ⟨0, Nat.zero_le _, rfl, HP5⟩
          case round =>
            obtain ⟨t, ht, rfl, HQ⟩ := hrel
            clear HP5
            by_cases htl : t < n'
            · have t0 : (t : Int) < (n' : Int) := by omega
              obtain ⟨g, rfl⟩ : ∃ g, a1' = some ⟨g, 0, none⟩ := by
                obtain ⟨xs, ys, h1, h2, h3, h4, h5, h6, h7, h8, h9⟩ := HQ.out
                rcases h1.shape with ⟨_, hx⟩ | ⟨g, c, hx, _, _⟩
                · rw [hx] at h4; simp at h4; omega
                · simp only [Value.slice.injEq] at hx; exact ⟨g, hx.1⟩
              obtain ⟨z, d1, f1, hset⟩ := HQ.out.set hR htl
              have HS := Lib.hid (hset (wrap64 (-z)) (wf_w64 _))
              clear HQ hset
              go_wp2
              go_roundw
              case rel => exact ⟨t + 1, by omega, by go_num, HS⟩
              case measure => simp [intOf]; omega
            · obtain rfl : t = n' := by omega
              have e2 : IntKind.i64.wrap ((q : Int) - 1) = ((q - 1 : Nat) : Int) := by rw [IntKind.wrap_i64]; omega
              go_wp2
              go_roundw
              case rel => exact ⟨q - 1, t, m', p' + 1, a1', a2', c1', c2', by omega, rfl, rfl, rfl, hn', hm', by omega, HQ⟩
              case measure => simp [intOf]; omega
        · have e1 : ((x5 : Int) == 0) = false := by simp; omega
          have e2 : IntKind.i64.wrap ((q : Int) - 1) = ((q - 1 : Nat) : Int) := by rw [IntKind.wrap_i64]; omega
          clear h0
          go_wp2
          go_roundw
          case rel => exact ⟨q - 1, n', m', p' + 1, a1', a2', c1', c2', by omega, rfl, rfl, rfl, hn', hm', by omega, HP5⟩
          case measure => simp [intOf]; omega

theorem drawArePaired_any (v : Value) (n : Nat) (w : World) (h : RdB w v n) :
    Calls Try.prog 18 #[v] w (DrewRow2 3 w) := by
  go_enter Try.func18, Try.ntmps18
  go_wp2_with fail
  refine (newReader_any v n _ h).mono ?_
  rintro e w1 ⟨R, rfl, hR, b1, hRs⟩
  go_wp2_with fail
  refine (somePair_any R 0 _ hR (by omega)).mono ?_
  rintro e w3 ⟨u1, u2, n1, n2, p', rfl, hP, hn1, hn2⟩
  obtain ⟨xs, ys, h1, h2, h3, h4, h5, h6, h7, h8, h9⟩ := hP
  have b3 := bel_rdr b1 h9 hRs
  obtain ⟨a1, c1, rfl⟩ := own_sl26 h1
  obtain ⟨a2, c2, rfl⟩ := own_sl26 h2
  have H1 := Lib.hid (h1.mono b1.size)
  have H2 := Lib.hid (h2.mono b1.size)
  have HL1 := Lib.hid h4
  have HL2 := Lib.hid h5
  clear h1 h2 h3 h8 h9 hR b1 h4 h5
  go_wp2
  go_ret2
  exact ⟨_, _, xs, ys, rfl, H1.out, H2.out, by rw [HL1.out]; exact hn1, by rw [HL2.out]; exact hn2, h6, h7, b3⟩

end Go.Proofs.Ytagncoahobghpac