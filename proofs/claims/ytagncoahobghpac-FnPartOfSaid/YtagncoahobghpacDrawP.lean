/-
  DrawPartOf: the rows that it draws; the second one holds small numbers.
-/
import Derived.Test.YtagncoahobghpacDrawW
import Derived.Test.YtagncoahobghpacApp
namespace Go.Proofs.Ytagncoahobghpac
open Go.RowKit
set_option linter.unusedVariables false

/-- Two rows, the second one of small numbers. -/
def DrewPart (E : Nat) (w : World) (e : Ending) (w' : World) : Prop := ∃ u v xs ys, e = .returned (.tuple #[u, v]) ∧ Own E w.heap.size w' u xs ∧ Own E w.heap.size w' v ys ∧ xs.length ≤ 64 ∧ ys.length ≤ 65 ∧ (∀ n ∈ xs, (Lit.int .i64 n).wf = true) ∧ (∀ n ∈ ys, (Lit.int .i64 n).wf = true) ∧ (∀ j, j < ys.length → -3 ≤ ix ys j ∧ ix ys j ≤ 3) ∧ Below w.heap.size w w'
theorem tmod4_bd (z : Int) : -3 ≤ z.tmod 4 ∧ z.tmod 4 ≤ 3 := by
  have h := Int.natAbs_tmod z 4
  have h2 : (4 : Int).natAbs = 4 := rfl
  rw [h2] at h
  omega
theorem mem_setP {xs : List Int} {j : Nat} {u : Int} (h : ∀ n ∈ xs, (Lit.int .i64 n).wf = true) (hu : (Lit.int .i64 u).wf = true) : ∀ n ∈ xs.set j u, (Lit.int .i64 n).wf = true := by
  intro x hx
  rcases List.mem_or_eq_of_mem_set hx with h' | h'
  · exact h x h'
  · rw [h']; exact hu
theorem ix_setP (xs : List Int) (j i : Nat) (u : Int) (hj : j < xs.length) : ix (xs.set j u) i = if i = j then u else ix xs i := by
  by_cases e : i = j
  · subst e
    rw [if_pos rfl]
    simp [ix, List.getD_eq_getElem?_getD, hj]
  · rw [if_neg e]
    simp [ix, List.getD_eq_getElem?_getD, List.getElem?_set_ne (fun q => e q.symm)]
/-- On the way of making j numbers small. -/
def PtW (E T : Nat) (w wr : World) (B R : Nat) (v : Value) (k p j : Nat) : Prop :=
  ∃ ys, Own E B wr v ys ∧ ys.length = k ∧ (∀ x ∈ ys, (Lit.int .i64 x).wf = true) ∧ (∀ i, i < j → -3 ≤ ix ys i ∧ ix ys i ≤ 3) ∧ Rdr T wr R p ∧ Below w.heap.size w wr ∧ B ≤ wr.heap.size
theorem PtW.step {E T B R k p j cap : Nat} {w wr : World} {a : Option Addr} (h : PtW E T w wr B R (.slice a k cap) k p j) (hj : j < k) (hR : R < B) (hB : w.heap.size ≤ B) :
    ∃ g z, a = some ⟨g, 0, none⟩ ∧ wr.cell? ⟨g, j, none⟩ = some (.int .i64 z) ∧ wr.frozen? ⟨g, j, none⟩ = false ∧ PtW E T w (wr.setCell ⟨g, j, none⟩ (.int .i64 (z.tmod 4))) B R (.slice (some ⟨g, 0, none⟩) k cap) k p (j + 1) := by
  obtain ⟨ys, o, hl, hw, hs, hR2, b, hsz⟩ := h
  obtain ⟨g, c, e, hg, -⟩ := o.form (by intro e; rw [e] at hl; simp at hl; omega)
  simp only [Value.slice.injEq] at e
  obtain ⟨rfl, -, rfl⟩ := e
  have hz := tmod4_bd (ix ys j)
  refine ⟨g, ix ys j, rfl, o.cell j (by omega), o.frozen j, _, o.set j _, by rw [List.length_set]; exact hl, mem_setP hw (wf_small (by omega)), fun i hi => ?_, ?_, b.setCell (p := ⟨g, j, none⟩) (by show w.heap.size ≤ g; omega) _, by simpa [World.setCell] using hsz⟩
  · rw [ix_setP _ _ _ _ (by omega)]
    by_cases q : i = j
    · rw [if_pos q]; exact hz
    · rw [if_neg q]; exact hs i (by omega)
  · exact hR2.kept (grown_set (World.grownBy.refl wr (some g)) j (.int .i64 _)) (fun q hq => by injection hq with hq; omega)

set_option maxHeartbeats 4000000 in
theorem drawPartOf_any (v : Value) (n : Nat) (w : World) (h : RdB w v n) :
    Calls Try.prog 6 #[v] w (DrewPart 3 w) := by
  go_enter Try.func6, Try.ntmps6
  go_wp2_with fail
  refine (newReader_any v n _ h).mono ?_
  rintro e w1 ⟨R, rfl, hR, b1, hRs⟩
  clear h
  go_wp2_with fail
  have hlt := hR.lt
  have hlit := own_lit 3 0 w1.heap.size w1 #[.int .i64 1, .int .i64 2, .int .i64 0, .int .i64 3] [1, 2, 0, 3] 4 rfl (Nat.zero_le _) rfl rfl (by unfold maxLen; omega)
  have h1 := hR.kept (World.grownBy_alloc w1 (.cells #[.int .i64 1, .int .i64 2, .int .i64 0, .int .i64 3] 3) none) (by simp)
  have b2 := b1.alloc b1.size (.cells #[.int .i64 1, .int .i64 2, .int .i64 0, .int .i64 3] 3)
  refine (one_any R 0 _ [1, 2, 0, 3] _ h1 (by omega) hlit.rd (by simp) (by simp) (by simp [Value.ownBlock]; omega)).mono ?_
  rintro e w2 ⟨k, hk, rfl, hR2, g2⟩
  have hZ := ix_range (lo := 0) (hi := 3) (by decide : ∀ x ∈ ([1, 2, 0, 3] : List Int), (0 : Int) ≤ x ∧ x ≤ 3) hk
  obtain ⟨m, hm⟩ : ∃ m : Nat, ix [1, 2, 0, 3] k = (m : Int) := ⟨(ix [1, 2, 0, 3] k).toNat, by omega⟩
  rw [hm] at hZ ⊢
  have b2 := bel_rdr b2 g2 hRs
  clear hm hlit h1 hk g2 hR b1 hlt
  go_wp2_with fail
  have hRB := hR2.lt
  have hB := b2.size
  refine (rowOf_any R 1 m _ hR2 (by omega) (by omega)).mono ?_
  rintro e w3 ⟨u, xs, p3, rfl, o1, hl1, hw1, hR3, hp3, g3⟩
  have b3 := bel_rdr b2 g3 hRs
  obtain ⟨a, c, rfl⟩ := own_slD o1
  obtain ⟨l, hl⟩ : ∃ l, l = xs.length := ⟨_, rfl⟩
  have HI := Lib.hid (show PtW 3 56 w w3 w2.heap.size R (.slice a l c) l p3 0 from ⟨xs, by rw [hl]; exact o1, hl.symm, hw1, fun i hi => by omega, hR3, b3, g3.size⟩)
  rw [← hl]
  rw [← hl] at hl1
  clear o1 hw1 hR3 g3 b3 b2 hl hR2 hZ
  go_wp2
  go_loopw [6] (fun i wr => ∃ j : Nat, j ≤ l ∧ i = .int .i64 j ∧ PtW 3 56 w wr w2.heap.size R (.slice a l c) l p3 j) (fun i _ => l - (intOf i).toNat)
  case atStart => exact ⟨0, Nat.zero_le _, rfl, HI.out⟩
  case round =>
    obtain ⟨j, hj, rfl, hIr⟩ := hrel
    clear HI
    by_cases hjl : j < l
    · obtain ⟨g, z, rfl, q1, q2, q3⟩ := hIr.step hjl hRB hB
      have HY := Lib.hid q3
      have k0 : (j : Int) < (l : Int) := by omega
      clear q3 hIr
      go_wp2
      go_roundw
      case rel => exact ⟨j + 1, by omega, by go_num, HY.out⟩
      case measure => simp [intOf]; omega
    · obtain rfl : j = l := by omega
      obtain ⟨ys, o, hl, hw, hs, hR3, b3, hsz0⟩ := hIr
      have HS := Lib.hid hs
      have HW := Lib.hid hw
      have HL := Lib.hid hl
      clear hs hw hl
      go_wp2_with fail
      have hlit := own_lit 3 0 wr.heap.size wr #[.int .i64 1, .int .i64 1, .int .i64 1, .int .i64 1, .int .i64 1, .int .i64 2, .int .i64 (-1)] [1, 1, 1, 1, 1, 2, -1] 7 rfl (Nat.zero_le _) rfl rfl (by unfold maxLen; omega)
      have h1 := hR3.kept (World.grownBy_alloc wr (.cells #[.int .i64 1, .int .i64 1, .int .i64 1, .int .i64 1, .int .i64 1, .int .i64 2, .int .i64 (-1)] 3) none) (by simp)
      have b4 := b3.alloc b3.size (.cells #[.int .i64 1, .int .i64 1, .int .i64 1, .int .i64 1, .int .i64 1, .int .i64 2, .int .i64 (-1)] 3)
      have o := o.grow (.cells #[.int .i64 1, .int .i64 1, .int .i64 1, .int .i64 1, .int .i64 1, .int .i64 2, .int .i64 (-1)] 3)
      have hlt := hR3.lt
      refine (one_any R p3 _ [1, 1, 1, 1, 1, 2, -1] _ h1 (by omega) hlit.rd (by simp) (by simp) (by simp [Value.ownBlock]; omega)).mono ?_
      rintro e w5 ⟨k, hk, rfl, hR5, g5⟩
      have hZ := ix_range (lo := -1) (hi := 2) (by decide : ∀ x ∈ ([1, 1, 1, 1, 1, 2, -1] : List Int), (-1 : Int) ≤ x ∧ x ≤ 2) hk
      obtain ⟨z, hz⟩ : ∃ z, z = ix [1, 1, 1, 1, 1, 2, -1] k := ⟨_, rfl⟩
      rw [← hz] at hZ ⊢
      have b5 := bel_rdr b4 g5 hRs
      have o := o.kept g5 (o.ne hRB)
      have HZ := Lib.hid hZ
      have hB5 : w2.heap.size ≤ w5.heap.size := by have := g5.size; simp at this; omega
      clear hlit h1 b4 b3 g5 hk hz hR3 hlt hZ hsz0
      go_wp2_with (at_builtin; refine app_int rfl _ _ 23 rfl w2.heap.size 3 Try.underlying23 infoInt _ ys rfl (o.grow _) ⟨w5.heap.size, 0, none⟩ rfl z ?q1 ?q2 ?q3 ?_)
      case q1 => exact cell_new1 _ _ _
      case q2 => have := HL.out; omega
      case q3 => simp; omega
      intro v' w6 o' g'
      have gn := grown_thru (World.grownBy_alloc w5 _ none) g'
      have hR6 := hR5.kept gn (fun q hq => by have := (World.ownsRow.lt o q hq).1; omega)
      have b6 := app_below b5 (o.mono hB) g'
      have B6 := Lib.hid b6
      clear g' gn hR5 b5 o b6
      obtain ⟨zs, hzs⟩ : ∃ zs, zs = ys ++ [z] := ⟨_, rfl⟩
      rw [← hzs] at o'
      have HZS := Lib.hid hzs
      clear hzs
      obtain ⟨a', c', rfl⟩ := own_slD o'
      go_wp2_with fail
      refine (someRow_any R (p3 + 1) _ hR6 (by omega)).mono ?_
      rintro e w7 ⟨u', xs', p'', rfl, o2, hl2, hw2, hR7, hp7, g7⟩
      have b7 := bel_rdr B6.out g7 hRs
      have o' := o'.kept g7 (o'.ne hRB)
      have o' := o'.mono hB
      have o2 := o2.mono B6.out.size
      obtain ⟨a2, c2, rfl⟩ := own_slD o2
      have B7 := Lib.hid b7
      clear g7 b7 hR7 B6 hR6
      go_wp2
      go_ret2
      refine ⟨_, _, xs', zs, rfl, o2, o', hl2, ?_, hw2, ?_, ?_, B7.out⟩
      · have := HL.out; rw [HZS.out]; simp; omega
      · rw [HZS.out]
        intro q hq
        rcases List.mem_append.1 hq with hq | hq
        · exact HW.out q hq
        · simp at hq; subst hq; have := HZ.out; exact wf_small (by omega)
      · rw [HZS.out]
        intro q hq
        have hll := HL.out
        rcases Nat.lt_or_ge q ys.length with h | h
        · have e : ix (ys ++ [z]) q = ix ys q := by simp [ix, List.getD_eq_getElem?_getD, List.getElem?_append_left h]
          rw [e]; exact HS.out q (by omega)
        · have e : ix (ys ++ [z]) q = z := by
            have : q = ys.length := by simp at hq; omega
            subst this
            simp [ix, List.getD_eq_getElem?_getD]
          rw [e]; have := HZ.out; omega
end Go.Proofs.Ytagncoahobghpac
