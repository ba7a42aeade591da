/-
  The Draw function of MixOf: two rows and a text.
-/
import Derived.Test.YtpalmbcknjmmcaaDraw2
namespace Go.Proofs.Ytpalmbcknjmmcaa
open Go.RowKit
set_option linter.unusedVariables false

theorem of_any (R p g n : Nat) (S : Nat → ByteArray) (w : World) (h : Rdr 66 w R p) (hp : p ≤ 1000) (hc : ∀ j, j < n → w.cell? ⟨g, j, none⟩ = some (.string (S j))) (hg : g ≠ R) (h1 : 1 ≤ n) (h2 : n ≤ 100000) :
    Calls Try.prog 75 #[.pointer (some ⟨R, 0, none⟩), .slice (some ⟨g, 0, none⟩) n n] w fun e w' => ∃ k, k < n ∧ e = .returned (.string (S k)) ∧ Rdr 66 w' R (p + 1) ∧ w.grownBy w' (some R) := by
  have HC := Lib.hid hc
  clear hc
  go_enter Try.func75, Try.ntmps75
  go_wp2_with fail
  refine (pick_any R p n _ h hp h1 h2).mono ?_
  rintro e w1 ⟨k, rfl, hk, hR, hgr⟩
  have hcx := hgr.cell (HC.out k hk) (by simpa using hg)
  have i1 : (k : Int) < (n : Int) := by omega
  clear HC
  go_wp2
  go_ret
  exact ⟨k, hk, rfl, hR, hgr⟩

/-- What the Draw function leaves. -/
def DrewMix (E : Nat) (w : World) (e : Ending) (w' : World) : Prop :=
  ∃ u v xs ys s, e = .returned (.tuple #[u, v, .string s]) ∧ Own E w.heap.size w' u xs ∧ Own E w.heap.size w' v ys ∧ xs.length ≤ 64 ∧ ys.length ≤ 64 ∧ (∀ n ∈ xs, (Lit.int .i64 n).wf = true) ∧ (∀ n ∈ ys, (Lit.int .i64 n).wf = true) ∧ Below w.heap.size w w'
theorem mem_set_wf {xs : List Int} {k : Nat} {z : Int} (h : ∀ n ∈ xs, (Lit.int .i64 n).wf = true) (hz : (Lit.int .i64 z).wf = true) : ∀ n ∈ xs.set k z, (Lit.int .i64 n).wf = true := by
  intro n hn
  rcases List.mem_or_eq_of_mem_set hn with h' | h'
  · exact h n h'
  · rw [h']; exact hz
/-- Both rows on the way. -/
def Both (E T : Nat) (w wr : World) (R p m : Nat) (u v : Value) : Prop :=
  ∃ xs ys, Own E w.heap.size wr u xs ∧ Own E w.heap.size wr v ys ∧ xs.length = m ∧ ys.length = m ∧ (∀ n ∈ xs, (Lit.int .i64 n).wf = true) ∧ (∀ n ∈ ys, (Lit.int .i64 n).wf = true) ∧ Rdr T wr R p ∧ Below w.heap.size w wr
theorem Both.step {E T : Nat} {w wr : World} {R p m g1 c1 g2 c2 k : Nat} (h : Both E T w wr R p m (.slice (some ⟨g1, 0, none⟩) m c1) (.slice (some ⟨g2, 0, none⟩) m c2)) (hk : k < m) (hg : g1 ≠ g2) (h1 : w.heap.size ≤ g1) (h2 : w.heap.size ≤ g2) (hR1 : R < g1) (hR2 : R < g2) :
    ∃ z1 z2 : Int, wr.cell? ⟨g1, k, none⟩ = some (.int .i64 z1) ∧ wr.frozen? ⟨g1, k, none⟩ = false ∧ wr.cell? ⟨g2, k, none⟩ = some (.int .i64 z2) ∧ wr.frozen? ⟨g2, k, none⟩ = false ∧
      ∀ y1 y2 : Int, (Lit.int .i64 y1).wf = true → (Lit.int .i64 y2).wf = true →
        (wr.setCell ⟨g1, k, none⟩ (.int .i64 y1)).cell? ⟨g2, k, none⟩ = some (.int .i64 z2) ∧
        Both E T w ((wr.setCell ⟨g1, k, none⟩ (.int .i64 y1)).setCell ⟨g2, k, none⟩ (.int .i64 y2)) R p m (.slice (some ⟨g1, 0, none⟩) m c1) (.slice (some ⟨g2, 0, none⟩) m c2) := by
  obtain ⟨xs, ys, o1, o2, l1, l2, w1, w2, hR, hB⟩ := h
  refine ⟨ix xs k, ix ys k, o1.cell k (by omega), o1.frozen k, o2.cell k (by omega), o2.frozen k, fun y1 y2 hy1 hy2 => ⟨?_, ?_⟩⟩
  · rw [World.cell?_of_block (w := wr) (Below.heap_setCell _ _ _ _ (by exact fun e => hg e.symm))]
    exact o2.cell k (by omega)
  · have p1 := o1.set k y1
    have p2 := o2.other ⟨g1, k, none⟩ (.int .i64 y1) (by simp [Value.ownBlock]; exact fun e => hg e.symm)
    have q1 := p1.other ⟨g2, k, none⟩ (.int .i64 y2) (by simp [Value.ownBlock]; exact hg)
    have q2 := p2.set k y2
    refine ⟨_, _, q1, q2, by rw [List.length_set]; exact l1, by rw [List.length_set]; exact l2, mem_set_wf w1 hy1, mem_set_wf w2 hy2, ?_, (hB.setCell (p := ⟨g1, k, none⟩) h1 _).setCell (p := ⟨g2, k, none⟩) h2 _⟩
    exact (hR.kept (grown_set (World.grownBy.refl wr (some g1)) k (.int .i64 y1)) (fun j hj => by injection hj with hj; omega)).kept (grown_set (World.grownBy.refl _ (some g2)) k (.int .i64 y2)) (fun j hj => by injection hj with hj; omega)

def texts (j : Nat) : ByteArray := [({ data := #[120, 111, 114] } : ByteArray), { data := #[111, 114] }, { data := #[97, 110, 100] }, { data := #[120, 111, 114] }, { data := #[] }].getD j { data := #[] }
theorem tmod5_wf (z : Int) : (Lit.int .i64 (z.tmod 5)).wf = true := by
  have h := Int.natAbs_tmod z 5
  have h2 : (5 : Int).natAbs = 5 := rfl
  rw [h2] at h
  exact wf_small (by omega)
theorem texts_at (w : World) : ∀ j, j < 5 → (w.alloc (.cells #[.string { data := #[120, 111, 114] }, .string { data := #[111, 114] }, .string { data := #[97, 110, 100] }, .string { data := #[120, 111, 114] }, .string { data := #[] }] 9)).cell? ⟨w.heap.size, j, none⟩ = some (.string (texts j)) := by
  intro j hj
  have : j = 0 ∨ j = 1 ∨ j = 2 ∨ j = 3 ∨ j = 4 := by omega
  rcases this with rfl | rfl | rfl | rfl | rfl <;> (rw [World.cell?_alloc_at _ _ _ _ rfl]; rfl)

set_option maxHeartbeats 8000000 in
theorem drawMixOf_any (v : Value) (n : Nat) (w : World) (h : RdB w v n) :
    Calls Try.prog 40 #[v] w (DrewMix 3 w) := by
  go_enter Try.func40, Try.ntmps40
  go_wp2_with fail
  refine (newReader_any v n _ h).mono ?_
  rintro e w1 ⟨R, rfl, hR, b1, hRs⟩
  clear h
  go_wp2_with fail
  have hlt := hR.lt
  have hlit := own_lit 3 0 w1.heap.size w1 #[.int .i64 4, .int .i64 8, .int .i64 2, .int .i64 16, .int .i64 1, .int .i64 3] [4, 8, 2, 16, 1, 3] 6 rfl (Nat.zero_le _) rfl rfl (by unfold maxLen; omega)
  have h1 := hR.kept (World.grownBy_alloc w1 (.cells #[.int .i64 4, .int .i64 8, .int .i64 2, .int .i64 16, .int .i64 1, .int .i64 3] 3) none) (by simp)
  have b2 := b1.alloc b1.size (.cells #[.int .i64 4, .int .i64 8, .int .i64 2, .int .i64 16, .int .i64 1, .int .i64 3] 3)
  refine (one_any R 0 _ [4, 8, 2, 16, 1, 3] _ h1 (by omega) hlit.rd (by simp) (by simp) (by simp [Value.ownBlock]; omega)).mono ?_
  rintro e w2 ⟨k, hk, rfl, hR2, g2⟩
  have hZ := ix_range (lo := 1) (hi := 16) (by decide : ∀ x ∈ ([4, 8, 2, 16, 1, 3] : List Int), (1 : Int) ≤ x ∧ x ≤ 16) hk
  obtain ⟨m, hm⟩ : ∃ m : Nat, ix [4, 8, 2, 16, 1, 3] k = (m : Int) := ⟨(ix [4, 8, 2, 16, 1, 3] k).toNat, by omega⟩
  rw [hm] at hZ ⊢
  have b2 := bel_reader b2 g2 hRs
  clear hm hlit h1 hk g2 hR b1 hlt
  go_wp2_with fail
  have hRB1 := hR2.lt
  have hB1 := b2.size
  refine (rowOf_any R 1 m _ hR2 (by omega) (by omega)).mono ?_
  rintro e w3 ⟨u, xs, p3, rfl, o1, hl1, hw1, hR3, hp3, g3⟩
  have b3 := bel_reader b2 g3 hRs
  go_wp2_with fail
  have hRB2 := hR3.lt
  have hB2 := b3.size
  refine (rowOf_any R p3 m _ hR3 (by omega) (by omega)).mono ?_
  rintro e w4 ⟨v4, ys, p4, rfl, o2, hl2, hw2, hR4, hp4, g4⟩
  have ap := Own.apart o1 o2
  have b4 := bel_reader b3 g4 hRs
  have o1 := o1.kept g4 (o1.ne hRB1)
  go_wp2_with fail
  refine (pick_any R p4 2 _ hR4 (by omega) (by omega) (by omega)).mono ?_
  rintro e w5 ⟨x, rfl, hx, hR5, g5⟩
  have b5 := bel_reader b4 g5 hRs
  have o1 := o1.kept g5 (o1.ne hRB1)
  have o2 := o2.kept g5 (o2.ne hRB2)
  clear g3 g4 g5 b2 b3 b4 hR2 hR3 hR4
  obtain ⟨a1, c1, rfl⟩ := own_sl2 o1
  obtain ⟨a2, c2, rfl⟩ := own_sl2 o2
  by_cases hx0 : x = 0
  · subst hx0
    by_cases hm1 : xs.length = m
    · rw [hm1] at o1 ap ⊢
      by_cases hm2 : ys.length = m
      · rw [hm2] at o2 ap ⊢
        obtain ⟨g1, d1, he1, hg1, -⟩ := o1.form (by intro e; rw [e] at hm1; simp at hm1; omega)
        obtain ⟨g2, d2, he2, hg2, -⟩ := o2.form (by intro e; rw [e] at hm2; simp at hm2; omega)
        simp only [Value.slice.injEq] at he1 he2
        obtain ⟨rfl, -, rfl⟩ := he1
        obtain ⟨rfl, -, rfl⟩ := he2
        have hne : g1 ≠ g2 := by
          have := ap.1
          simp [Value.ownBlock] at this
          exact this
        have hI : Both 3 66 w w5 R (p4 + 1) m (.slice (some ⟨g1, 0, none⟩) m c1) (.slice (some ⟨g2, 0, none⟩) m c2) := ⟨xs, ys, o1.mono hB1, o2.mono hB2, hm1, hm2, hw1, hw2, hR5, b5⟩
        have hG1 : w.heap.size ≤ g1 := Nat.le_trans hB1 hg1
        have hG2 : w.heap.size ≤ g2 := Nat.le_trans hB2 hg2
        have hr1 : R < g1 := Nat.lt_of_lt_of_le hRB1 hg1
        have hr2 : R < g2 := Nat.lt_of_lt_of_le hRB2 hg2
        clear o1 o2 ap hm1 hm2 hw1 hw2 hR5 b5 hl1 hl2 hg1 hg2
        go_wp2
        go_loopw [9] (fun i wr => ∃ j : Nat, j ≤ m ∧ i = .int .i64 j ∧ Both 3 66 w wr R (p4 + 1) m (.slice (some ⟨g1, 0, none⟩) m c1) (.slice (some ⟨g2, 0, none⟩) m c2)) (fun i _ => m - (intOf i).toNat)
        case atStart => exact ⟨0, Nat.zero_le _, rfl, hI⟩
        case round =>
          obtain ⟨j, hj, rfl, hIr⟩ := hrel
          clear hI
          by_cases hlt : j < m
          · obtain ⟨z1, z2, q1, q2, q3, q4, q5⟩ := hIr.step hlt hne hG1 hG2 hr1 hr2
            have y1 := (q5 (z1.tmod 5) (z2.tmod 5) (tmod5_wf z1) (tmod5_wf z2))
            have hq := y1.1
            have HY := Lib.hid y1.2
            clear q5 y1 hIr
            go_wp2
            go_roundw
            case rel => exact ⟨j + 1, by omega, by go_num, HY.out⟩
            case measure => simp [intOf]; omega
          · obtain rfl : j = m := by omega
            obtain ⟨xs, ys, oT1, oT2, l1, l2, hwT1, hwT2, hRT, bT⟩ := hIr
            have hlT1 : xs.length ≤ 64 := by omega
            have hlT2 : ys.length ≤ 64 := by omega
            go_wp2_with fail
            have hltT := hRT.lt
            refine (of_any R (p4 + 1) wr.heap.size 5 texts _ (hRT.kept (World.grownBy_alloc wr (.cells #[.string { data := #[120, 111, 114] }, .string { data := #[111, 114] }, .string { data := #[97, 110, 100] }, .string { data := #[120, 111, 114] }, .string { data := #[] }] 9) none) (by simp)) (by omega) (texts_at wr) (by omega) (by omega) (by omega)).mono ?_
            rintro e wz ⟨kz, hkz, rfl, hRz, gz⟩
            have bz := bel_reader (bT.alloc bT.size (.cells #[.string { data := #[120, 111, 114] }, .string { data := #[111, 114] }, .string { data := #[97, 110, 100] }, .string { data := #[120, 111, 114] }, .string { data := #[] }] 9)) gz hRs
            have n1 := (.inr (by simp [Value.ownBlock]; omega) : (Value.slice (some ⟨g1, 0, none⟩) j c1).ownBlock = none ∨ (Value.slice (some ⟨g1, 0, none⟩) j c1).ownBlock ≠ some R)
            have n2 := (.inr (by simp [Value.ownBlock]; omega) : (Value.slice (some ⟨g2, 0, none⟩) j c2).ownBlock = none ∨ (Value.slice (some ⟨g2, 0, none⟩) j c2).ownBlock ≠ some R)
            have oZ1 := (oT1.grow (.cells #[.string { data := #[120, 111, 114] }, .string { data := #[111, 114] }, .string { data := #[97, 110, 100] }, .string { data := #[120, 111, 114] }, .string { data := #[] }] 9)).kept gz n1
            have oZ2 := (oT2.grow (.cells #[.string { data := #[120, 111, 114] }, .string { data := #[111, 114] }, .string { data := #[97, 110, 100] }, .string { data := #[120, 111, 114] }, .string { data := #[] }] 9)).kept gz n2
            go_wp2
            go_ret3
            exact ⟨_, _, _, _, _, rfl, oZ1, oZ2, hlT1, hlT2, hwT1, hwT2, bz⟩
      · have e2 : ((ys.length : Int) == (m : Int)) = false := by rw [beq_eq_false_iff_ne]; omega
        have oT1 := o1
        have oT2 := o2
        have hRT := hR5
        have bT := b5
        have hlT1 := hl1
        have hlT2 := hl2
        have hwT1 := hw1
        have hwT2 := hw2
        clear o1 o2 ap hR5 b5 hl1 hl2 hw1 hw2
        go_wp2_with fail
        have hltT := hRT.lt
        refine (of_any R (p4 + 1) w5.heap.size 5 texts _ (hRT.kept (World.grownBy_alloc w5 (.cells #[.string { data := #[120, 111, 114] }, .string { data := #[111, 114] }, .string { data := #[97, 110, 100] }, .string { data := #[120, 111, 114] }, .string { data := #[] }] 9) none) (by simp)) (by omega) (texts_at w5) (by omega) (by omega) (by omega)).mono ?_
        rintro e wz ⟨kz, hkz, rfl, hRz, gz⟩
        have bz := bel_reader (bT.alloc bT.size (.cells #[.string { data := #[120, 111, 114] }, .string { data := #[111, 114] }, .string { data := #[97, 110, 100] }, .string { data := #[120, 111, 114] }, .string { data := #[] }] 9)) gz hRs
        have n1 := oT1.ne hRB1
        have n2 := oT2.ne hRB2
        have oZ1 := (oT1.grow (.cells #[.string { data := #[120, 111, 114] }, .string { data := #[111, 114] }, .string { data := #[97, 110, 100] }, .string { data := #[120, 111, 114] }, .string { data := #[] }] 9)).kept gz n1
        have oZ2 := (oT2.grow (.cells #[.string { data := #[120, 111, 114] }, .string { data := #[111, 114] }, .string { data := #[97, 110, 100] }, .string { data := #[120, 111, 114] }, .string { data := #[] }] 9)).kept gz n2
        go_wp2
        go_ret3
        exact ⟨_, _, _, _, _, rfl, oZ1.mono hB1, oZ2.mono hB2, hlT1, hlT2, hwT1, hwT2, bz⟩
    · have e2 : ((xs.length : Int) == (m : Int)) = false := by rw [beq_eq_false_iff_ne]; omega
      have oT1 := o1
      have oT2 := o2
      have hRT := hR5
      have bT := b5
      have hlT1 := hl1
      have hlT2 := hl2
      have hwT1 := hw1
      have hwT2 := hw2
      clear o1 o2 ap hR5 b5 hl1 hl2 hw1 hw2
      go_wp2_with fail
      have hltT := hRT.lt
      refine (of_any R (p4 + 1) w5.heap.size 5 texts _ (hRT.kept (World.grownBy_alloc w5 (.cells #[.string { data := #[120, 111, 114] }, .string { data := #[111, 114] }, .string { data := #[97, 110, 100] }, .string { data := #[120, 111, 114] }, .string { data := #[] }] 9) none) (by simp)) (by omega) (texts_at w5) (by omega) (by omega) (by omega)).mono ?_
      rintro e wz ⟨kz, hkz, rfl, hRz, gz⟩
      have bz := bel_reader (bT.alloc bT.size (.cells #[.string { data := #[120, 111, 114] }, .string { data := #[111, 114] }, .string { data := #[97, 110, 100] }, .string { data := #[120, 111, 114] }, .string { data := #[] }] 9)) gz hRs
      have n1 := oT1.ne hRB1
      have n2 := oT2.ne hRB2
      have oZ1 := (oT1.grow (.cells #[.string { data := #[120, 111, 114] }, .string { data := #[111, 114] }, .string { data := #[97, 110, 100] }, .string { data := #[120, 111, 114] }, .string { data := #[] }] 9)).kept gz n1
      have oZ2 := (oT2.grow (.cells #[.string { data := #[120, 111, 114] }, .string { data := #[111, 114] }, .string { data := #[97, 110, 100] }, .string { data := #[120, 111, 114] }, .string { data := #[] }] 9)).kept gz n2
      go_wp2
      go_ret3
      exact ⟨_, _, _, _, _, rfl, oZ1.mono hB1, oZ2.mono hB2, hlT1, hlT2, hwT1, hwT2, bz⟩
  · have e2 : ((x : Int) == 0) = false := by rw [beq_eq_false_iff_ne]; omega
    have oT1 := o1
    have oT2 := o2
    have hRT := hR5
    have bT := b5
    have hlT1 := hl1
    have hlT2 := hl2
    have hwT1 := hw1
    have hwT2 := hw2
    clear o1 o2 ap hR5 b5 hl1 hl2 hw1 hw2
    go_wp2_with fail
    have hltT := hRT.lt
    refine (of_any R (p4 + 1) w5.heap.size 5 texts _ (hRT.kept (World.grownBy_alloc w5 (.cells #[.string { data := #[120, 111, 114] }, .string { data := #[111, 114] }, .string { data := #[97, 110, 100] }, .string { data := #[120, 111, 114] }, .string { data := #[] }] 9) none) (by simp)) (by omega) (texts_at w5) (by omega) (by omega) (by omega)).mono ?_
    rintro e wz ⟨kz, hkz, rfl, hRz, gz⟩
    have bz := bel_reader (bT.alloc bT.size (.cells #[.string { data := #[120, 111, 114] }, .string { data := #[111, 114] }, .string { data := #[97, 110, 100] }, .string { data := #[120, 111, 114] }, .string { data := #[] }] 9)) gz hRs
    have n1 := oT1.ne hRB1
    have n2 := oT2.ne hRB2
    have oZ1 := (oT1.grow (.cells #[.string { data := #[120, 111, 114] }, .string { data := #[111, 114] }, .string { data := #[97, 110, 100] }, .string { data := #[120, 111, 114] }, .string { data := #[] }] 9)).kept gz n1
    have oZ2 := (oT2.grow (.cells #[.string { data := #[120, 111, 114] }, .string { data := #[111, 114] }, .string { data := #[97, 110, 100] }, .string { data := #[120, 111, 114] }, .string { data := #[] }] 9)).kept gz n2
    go_wp2
    go_ret3
    exact ⟨_, _, _, _, _, rfl, oZ1.mono hB1, oZ2.mono hB2, hlT1, hlT2, hwT1, hwT2, bz⟩

end Go.Proofs.Ytpalmbcknjmmcaa
