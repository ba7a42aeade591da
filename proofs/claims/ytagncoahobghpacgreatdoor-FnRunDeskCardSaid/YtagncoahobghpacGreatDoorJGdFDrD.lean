/-
  DrawRunDesk: at most five lines, each of them short (written by ch6dd.py).
-/
import Derived.Test.YtagncoahobghpacGreatDoorJGdFMuZ
import Derived.Test.YtagncoahobghpacGreatDoorJGdE12
import Derived.Test.YtagncoahobghpacGreatDoorJGdE42
namespace Go.Proofs.YtagncoahobghpacGreatDoor
open Go Go.RowKit
set_option linter.unusedVariables false
set_option linter.unusedSimpArgs false
set_option maxRecDepth 100000

def L5 : List ByteArray := [⟨#[101, 100, 103, 101]⟩, ⟨#[115, 105, 103, 110, 115]⟩, ⟨#[104, 97, 108, 118, 101]⟩, ⟨#[108, 101, 97, 112]⟩, ⟨#[115, 101, 108, 102]⟩]
def L12 : List ByteArray := [⟨#[]⟩, ⟨#[104, 101, 108, 112]⟩, ⟨#[101, 100, 103, 101]⟩, ⟨#[101, 100, 103, 101, 32]⟩, ⟨#[115, 105, 103, 110, 115, 32, 49, 44, 50, 44, 51]⟩, ⟨#[119, 97, 118, 101, 32, 57, 55]⟩, ⟨#[104, 97, 108, 118, 101, 32, 49]⟩, ⟨#[119, 97, 108, 107, 32, 49]⟩, ⟨#[115, 101, 108, 102, 32, 45, 45, 49]⟩, ⟨#[108, 101, 97, 112, 32, 49, 44, 45, 48]⟩, ⟨#[101, 100, 103, 101, 32, 49, 48, 48, 49]⟩, ⟨#[115, 101, 108, 102, 32, 49, 44, 32, 50]⟩]
theorem L5_size : ∀ j, j < 5 → (L5.getD j .empty).size ≤ 20 := by decide +kernel
theorem L12_size : ∀ j, j < 12 → (L12.getD j .empty).size ≤ 20 := by decide +kernel
theorem OwnT.rdT {B : Nat} {w : World} {v : Value} {ls : List ByteArray} (h : OwnT B w v ls) : ∃ a cap, v = .slice a ls.length cap ∧ ls.length ≤ cap ∧ RdT w v ls := by
  rcases id h.2 with ⟨rfl, e0⟩ | ⟨g, cap, cur, rfl, hb, hg, hn, -⟩
  · have e0' : ls.length = 0 := e0
    exact ⟨none, 0, by rw [e0'], by omega, none, 0, by rw [e0'], .inl e0'⟩
  · refine ⟨_, cap, rfl, hn, _, cap, rfl, ?_⟩
    by_cases h0 : ls.length = 0
    · exact .inl h0
    · refine .inr ⟨g, 0, rfl, (Array.getElem?_eq_some_iff.1 hg).1, fun j hj => ?_⟩
      obtain ⟨g', cap', e', -, -, hc⟩ := h.get (j := j) (s := ls[j]) (by simp [hj])
      simp only [Value.slice.injEq, Option.some.injEq, Addr.mk.injEq, and_true, true_and] at e'
      obtain ⟨rfl, -⟩ := e'
      rw [Nat.zero_add, hc]
      simp [lineAt, List.getD, List.getElem?_eq_getElem hj]
theorem OwnT.kept {B : Nat} {w w' : World} {v : Value} {ls : List ByteArray} {r : Option Nat} (h : OwnT B w v ls) (hg : w.grownBy w' r) (hne : v.ownBlock = none ∨ v.ownBlock ≠ r) : OwnT B w' v ls :=
  World.ownsRow.kept h hg hne
theorem OwnT.ne {B R : Nat} {w : World} {v : Value} {ls : List ByteArray} (h : OwnT B w v ls) (hR : R < B) : v.ownBlock = none ∨ v.ownBlock ≠ some R := by
  cases hv : v.ownBlock with
  | none => exact .inl rfl
  | some k => right; intro e; injection e with e; have := (World.ownsRow.lt h k hv).1; omega
/-- Lines on the way of being drawn. -/
def LnI (w wr : World) (R : Nat) (v : Value) (k : Nat) : Prop :=
  ∃ ls p, OwnT w.heap.size wr v ls ∧ ls.length + k ≤ 5 ∧ (∀ s ∈ ls, s.size ≤ 10000) ∧ Rdr 51 wr R p ∧ p ≤ 1 + 300 * ls.length ∧ w.grownBy wr (some R)
/-- What DrawRunDesk leaves. -/
def DrewL (w : World) (e : Ending) (w' : World) : Prop := ∃ a ls cap, e = .returned (.slice a ls.length cap) ∧ ls.length ≤ cap ∧ RdT w' (.slice a ls.length cap) ls ∧ ls.length ≤ 5 ∧ (∀ k, (lineAt ls k).size ≤ 1048576) ∧ Below w.heap.size w w'
theorem line_le {ls : List ByteArray} (h : ∀ s ∈ ls, s.size ≤ 10000) (k : Nat) : (lineAt ls k).size ≤ 1048576 := by
  by_cases hk : k < ls.length
  · have := h (lineAt ls k) (by simp [lineAt, List.getD, List.getElem?_eq_getElem hk])
    omega
  · rw [show lineAt ls k = .empty by simp [lineAt, List.getD, List.getElem?_eq_none (Nat.le_of_not_lt hk)]]
    exact Nat.zero_le _
theorem listT_size {xs : List Int} (h : xs.length ≤ 64) (hx : ∀ x ∈ xs, Z.Sml x) : (listT xs).size ≤ 2000 := by
  have := join_len 44 (xs.map Lib.itoa) 21 (fun x hx' => by
    obtain ⟨n, hn, rfl⟩ := List.mem_map.1 hx'
    have := hx n hn
    exact Lib.itoa_length_le n (by have := this.1; omega) (by have := this.2; omega))
  rw [List.length_map] at this
  show (Lib.join (xs.map Lib.itoa) [44]).toArray.size ≤ 2000
  rw [List.size_toArray]
  omega
theorem sml_ix {xs : List Int} (hx : ∀ x ∈ xs, Z.Sml x) (j : Nat) (hj : j < xs.length) : -9223372036854775808 < ix xs j ∧ ix xs j ≤ 9223372036854775807 := by
  have := hx (ix xs j) (by simp [ix, List.getD, List.getElem?_eq_getElem hj])
  have h1 := this.1
  have h2 := this.2
  omega

set_option maxHeartbeats 16000000 in
theorem drawRunDesk_any (v : Value) (n : Nat) (w : World) (h : RdB w v n) :
    Calls Tryz.prog 5 #[v] w (DrewL w) := by
  go_enter Tryz.func5, Tryz.ntmps5
  go_wp2_with fail
  refine (newReader_any v n _ h).mono ?_
  rintro e w0 ⟨R, rfl, hR, b1, hRs⟩
  clear h
  have hRlt := hR.lt
  have o0 : OwnT w0.heap.size (w0.alloc (.cells #[] 9)) (.slice (some ⟨w0.heap.size, 0, none⟩) 0 0) [] := ownT_empty w0.heap.size w0 (Nat.le_refl _)
  have hG0 := World.grownBy_alloc w0 (.cells #[] 9) (some R)
  have hR1 := hR.kept (World.grownBy_alloc w0 (.cells #[] 9) none) (by simp)
  obtain ⟨wa, hwa⟩ : ∃ wa, wa = w0.alloc (.cells #[] 9) := ⟨_, rfl⟩
  have HA := Lib.hid hwa
  rw [← hwa] at o0 hG0 hR1
  have hG := World.grownBy.refl wa (some R)
  clear hR hwa
  go_wp2_with fail
  rw [← HA.out, show w0.heap.size + 1 = wa.heap.size by rw [HA.out]; simp]
  have hlit := own_lit 3 0 wa.heap.size wa #[.int .i64 4, .int .i64 5, .int .i64 2, .int .i64 0] [4, 5, 2, 0] 4 rfl (Nat.zero_le _) rfl rfl (by unfold maxLen; omega)
  have hlt := hR1.lt
  have h1 := hR1.kept (World.grownBy_alloc wa (.cells #[.int .i64 4, .int .i64 5, .int .i64 2, .int .i64 0] 3) none) (by simp)
  refine (one_any R (0) _ [4, 5, 2, 0] _ h1 (by omega) hlit.rd (by simp) (by simp) (by simp [Value.ownBlock]; omega)).mono ?_
  rintro e w1 ⟨kq, hkq, rfl, hR2, g4⟩
  have hZ := ix_range (lo := 0) (hi := 5) (xs := [4, 5, 2, 0]) (by intro z hz; simp only [List.mem_cons, List.not_mem_nil, or_false] at hz; omega) hkq
  have hG := grown_two hG (grown_thru (World.grownBy_alloc wa (.cells #[.int .i64 4, .int .i64 5, .int .i64 2, .int .i64 0] 3) none) g4)
  obtain ⟨m, hm⟩ : ∃ m : Nat, ix [4, 5, 2, 0] kq = (m : Int) := ⟨(ix [4, 5, 2, 0] kq).toNat, by omega⟩
  rw [hm] at hZ ⊢
  clear hm hlit h1 hkq hlt g4 hR1
  have hIn : LnI w0 w1 R (.slice (some ⟨w0.heap.size, 0, none⟩) 0 0) m := ⟨[], 1, o0.kept hG (o0.ne hRlt), by simp; omega, by simp, hR2, by omega, grown_two hG0 hG⟩
  clear o0 hG hG0 hR2 HA
  go_wp2
  go_loopw [4, 5] (fun u i wr => ∃ (o : Value) (k : Nat), o = u ∧ k ≤ 5 ∧ i = .int .i64 k ∧ LnI w0 wr R o k) (fun _ i _ => (intOf i).toNat)
  case atStart => exact ⟨_, m, rfl, by omega, rfl, hIn⟩
  case round =>
    obtain ⟨o, k, rfl, hk5, rfl, hI⟩ := hrel
    clear hIn hZ
    obtain ⟨ls, p, hO, hl, hS, hRr, hp, hgr⟩ := hI
    cases k with
    | zero =>
      have hY := Lib.hid (line_le hS)
      have hb := bel_rdr b1 hgr hRs
      obtain ⟨a9, c9, rfl, hlc, hT⟩ := hO.rdT
      clear hS hO hgr hRr
      go_wp2
      go_ret
      exact ⟨_, ls, _, rfl, hlc, hT, by omega, hY.out, hb⟩
    | succ k =>
      have i0 : (0 : Int) < ((k + 1 : Nat) : Int) := by omega
      replace hO := Lib.hid hO
      replace hS := Lib.hid hS
      replace hgr := Lib.hid hgr
      have hG := World.grownBy.refl wr (some R)
      have HO := Lib.hid (of_at R (p) wr.heap.size 5 (fun j => L5.getD j .empty) _ (hRr.kept (World.grownBy_alloc wr (.cells (L5.map Value.string).toArray 9) none) (by simp)) (by omega) (cells_of wr L5) (Nat.ne_of_gt hRr.lt) (by omega) (by omega))
      go_wp2_with fail
      refine HO.out.mono ?_
      rintro e w2 ⟨q, hq, rfl, hR2, g4⟩
      have hG := grown_two hG (grown_thru (World.grownBy_alloc wr (.cells (L5.map Value.string).toArray 9) none) g4)
      have hr := L5_size q hq
      obtain ⟨r, hqe⟩ : ∃ r, r = L5.getD q .empty := ⟨_, rfl⟩
      rw [← hqe] at hr ⊢
      clear HO hqe hq g4 hRr
      have j1 : ¬ (9223372036854775807 < r.size + 1) := by omega
      go_wp2_with fail
      have hlit := own_lit 3 0 w2.heap.size w2 #[.int .i64 4, .int .i64 2, .int .i64 8, .int .i64 3, .int .i64 1] [4, 2, 8, 3, 1] 5 rfl (Nat.zero_le _) rfl rfl (by unfold maxLen; omega)
      have hlt := hR2.lt
      have h1 := hR2.kept (World.grownBy_alloc w2 (.cells #[.int .i64 4, .int .i64 2, .int .i64 8, .int .i64 3, .int .i64 1] 3) none) (by simp)
      refine (one_any R (p + 1) _ [4, 2, 8, 3, 1] _ h1 (by omega) hlit.rd (by simp) (by simp) (by simp [Value.ownBlock]; omega)).mono ?_
      rintro e w3 ⟨kq, hkq, rfl, hR3, g4⟩
      have hZ := ix_range (lo := 1) (hi := 8) (xs := [4, 2, 8, 3, 1]) (by intro z hz; simp only [List.mem_cons, List.not_mem_nil, or_false] at hz; omega) hkq
      have hG := grown_two hG (grown_thru (World.grownBy_alloc w2 (.cells #[.int .i64 4, .int .i64 2, .int .i64 8, .int .i64 3, .int .i64 1] 3) none) g4)
      obtain ⟨m, hm⟩ : ∃ m : Nat, ix [4, 2, 8, 3, 1] kq = (m : Int) := ⟨(ix [4, 2, 8, 3, 1] kq).toNat, by omega⟩
      rw [hm] at hZ ⊢
      clear hm hlit h1 hkq hlt g4 hR2
      go_wp2_with fail
      refine (Z.rowOf_any R (p + 1 + 1) m _ hR3 (by omega) (by omega)).mono ?_
      rintro e w4 ⟨u, xs, p4, rfl, o1, hl1, hw1, hR4, hp1, g4⟩
      have hG := grown_two hG g4
      have HL := Lib.hid (listText_any u xs w4 o1.rd (by omega) (sml_ix hw1))
      have ht := listT_size hl1 hw1
      clear o1 hl1 hw1 g4 hZ hR3
      go_wp2_with fail
      refine HL.out.mono ?_
      rintro e wx ⟨rfl, hwx⟩
      rw [hwx]
      clear hwx
      obtain ⟨t, hqe⟩ : ∃ r, r = listT xs := ⟨_, rfl⟩
      rw [← hqe] at ht ⊢
      clear HL hqe
      have j2 : ¬ (9223372036854775807 < (r ++ ⟨#[32]⟩ : ByteArray).size + t.size) := by rw [ByteArray.size_append]; show ¬ (9223372036854775807 < r.size + 1 + t.size); omega
      have hs : (r ++ ⟨#[32]⟩ ++ t : ByteArray).size ≤ 2100 := by rw [ByteArray.size_append, ByteArray.size_append]; show r.size + 1 + t.size ≤ 2100; omega
      obtain ⟨s, hse⟩ : ∃ s, s = (r ++ ⟨#[32]⟩ ++ t : ByteArray) := ⟨_, rfl⟩
      have HSE := Lib.hid hse
      rw [← hse] at hs
      clear hse
      go_wp2_with fail
      rw [← HSE.out]
      clear HSE j1 j2 hr ht
      go_wp2_with fail
      refine (pick_any R (p4) 4 _ hR4 (by omega) (by omega) (by omega)).mono ?_
      rintro e w5 ⟨x, rfl, hx, hR5, g4⟩
      have hG := grown_two hG g4
      clear g4 hR4
      by_cases hx0 : x = 0
      · subst hx0
        go_wp2_with fail
        have hlit := own_lit 3 0 w5.heap.size w5 #[.int .i64 4, .int .i64 2, .int .i64 3, .int .i64 8, .int .i64 5] [4, 2, 3, 8, 5] 5 rfl (Nat.zero_le _) rfl rfl (by unfold maxLen; omega)
        have hlt := hR5.lt
        have h1 := hR5.kept (World.grownBy_alloc w5 (.cells #[.int .i64 4, .int .i64 2, .int .i64 3, .int .i64 8, .int .i64 5] 3) none) (by simp)
        refine (one_any R (p4 + 1) _ [4, 2, 3, 8, 5] _ h1 (by omega) hlit.rd (by simp) (by simp) (by simp [Value.ownBlock]; omega)).mono ?_
        rintro e w6 ⟨kq, hkq, rfl, hR6, g4⟩
        have hZ := ix_range (lo := 2) (hi := 8) (xs := [4, 2, 3, 8, 5]) (by intro z hz; simp only [List.mem_cons, List.not_mem_nil, or_false] at hz; omega) hkq
        have hG := grown_two hG (grown_thru (World.grownBy_alloc w5 (.cells #[.int .i64 4, .int .i64 2, .int .i64 3, .int .i64 8, .int .i64 5] 3) none) g4)
        obtain ⟨m2, hm⟩ : ∃ m2 : Nat, ix [4, 2, 3, 8, 5] kq = (m2 : Int) := ⟨(ix [4, 2, 3, 8, 5] kq).toNat, by omega⟩
        rw [hm] at hZ ⊢
        clear hm hlit h1 hkq hlt g4 hR5
        go_wp2_with fail
        refine (Z.someRests_any R (p4 + 1 + 1) m2 _ hR6 (by omega) (by omega)).mono ?_
        rintro e w7 ⟨u, xs, p7, rfl, o1, hl1, hw1, hR7, hp2, g4⟩
        have hG := grown_two hG g4
        have HL := Lib.hid (listText_any u xs w7 o1.rd (by omega) (sml_ix hw1))
        have ht2 := listT_size hl1 hw1
        clear o1 hl1 hw1 g4 hZ hR6
        go_wp2_with fail
        refine HL.out.mono ?_
        rintro e wx ⟨rfl, hwx⟩
        rw [hwx]
        clear hwx
        obtain ⟨t2, hqe⟩ : ∃ r, r = listT xs := ⟨_, rfl⟩
        rw [← hqe] at ht2 ⊢
        clear HL hqe
        have j2 : ¬ (9223372036854775807 < 5 + t2.size) := by omega
        have hs2 : ((⟨#[119, 97, 118, 101, 32]⟩ : ByteArray) ++ t2).size ≤ 2100 := by rw [ByteArray.size_append]; show 5 + t2.size ≤ 2100; omega
        obtain ⟨s2, hse⟩ : ∃ s, s = (⟨#[119, 97, 118, 101, 32]⟩ : ByteArray) ++ t2 := ⟨_, rfl⟩
        have HSE := Lib.hid hse
        rw [← hse] at hs2
        clear hse
        go_wp2_with fail
        rw [← HSE.out]
        clear HSE j2 ht2 hs
        go_wp2_with fail
        refine (pick_any R (p7) 8 _ hR7 (by omega) (by omega) (by omega)).mono ?_
        rintro e w9 ⟨y, rfl, hy, hR9, g4⟩
        have hG := grown_two hG g4
        clear g4 hR7
        have hy3 : y = 0 ∨ y = 1 ∨ (y ≠ 0 ∧ y ≠ 1) := by omega
        rcases hy3 with rfl | rfl | ⟨hy0, hy1⟩
        · have HO := Lib.hid (of_at R (p7 + 1) w9.heap.size 12 (fun j => L12.getD j .empty) _ (hR9.kept (World.grownBy_alloc w9 (.cells (L12.map Value.string).toArray 9) none) (by simp)) (by omega) (cells_of w9 L12) (Nat.ne_of_gt hR9.lt) (by omega) (by omega))
          go_wp2_with fail
          refine HO.out.mono ?_
          rintro e w10 ⟨q, hq, rfl, hR10, g4⟩
          have hG := grown_two hG (grown_thru (World.grownBy_alloc w9 (.cells (L12.map Value.string).toArray 9) none) g4)
          have hz := L12_size q hq
          obtain ⟨z, hqe⟩ : ∃ r, r = L12.getD q .empty := ⟨_, rfl⟩
          rw [← hqe] at hz ⊢
          clear HO hqe hq g4 hR9
          have hsz : z.size ≤ 10000 := by omega
          have HI := Lib.hid (show OwnT w0.heap.size w10 o ls from hO.out.kept hG (hO.out.ne hRlt))
          have hgg := grown_two hgr.out hG
          clear hG
          go_wp2_with (at_builtin; refine app_str rfl _ _ 23 rfl w0.heap.size Tryz.underlying23 infoStr9 _ ls rfl (HI.out.kept (World.grownBy_alloc w10 _ none) (by cases o.ownBlock <;> simp)) ⟨w10.heap.size, 0, none⟩ rfl z ?q1 ?q2 ?q3 ?_)
          case q1 => rw [World.cell?_alloc_at _ _ _ _ rfl]; rfl
          case q2 => omega
          case q3 => have := hgg.size; simp; omega
          intro v' w6 o' g'
          have gn := grown_thru (World.grownBy_alloc w10 _ none) g'
          have hb : ∀ j, o.ownBlock = some j → w0.heap.size ≤ j := fun j hj => (World.ownsRow.lt HI.out j hj).1
          have hR6 := hR10.kept gn (fun j hj => by have := hb j hj; omega)
          have hg6 := World.grownBy.andThen hgg gn (fun j hj => .inl (hb j hj))
          have HE : Hid (LnI w0 w6 R v' k) := Lib.hid ⟨ls ++ [z], p7 + 1 + 1, o', by simp; omega, by
            intro x hx
            rcases List.mem_append.1 hx with hx | hx
            · exact hS.out x hx
            · rw [List.mem_singleton.1 hx]; exact hsz, hR6, by simp; omega, hg6⟩
          have e3 : IntKind.i64.wrap (k : Int) = (k : Int) := IntWalk.i64_in _ (by omega)
          have e4 : IntKind.i64.wrap ((k : Int) + 1 - 1) = (k : Int) := by rw [IntWalk.i64_in _ (by omega)]; omega
          clear o' g' gn hb hR6 hg6 hgg HI hsz hR10
          go_wp2
          go_roundw
          case rel => exact ⟨_, k, rfl, by omega, rfl, HE.out⟩
          case measure => simp [intOf]
        · have HMU := Lib.hid (mutate_any R (p7 + 1) s2 _ hR9 (by omega) (by omega))
          go_wp2_with fail
          refine HMU.out.mono ?_
          rintro e w10 ⟨z, p9, rfl, hz, hR10, hp9, g4⟩
          have hG := grown_two hG g4
          clear HMU g4 hR9
          have hsz : z.size ≤ 10000 := by omega
          have HI := Lib.hid (show OwnT w0.heap.size w10 o ls from hO.out.kept hG (hO.out.ne hRlt))
          have hgg := grown_two hgr.out hG
          clear hG
          go_wp2_with (at_builtin; refine app_str rfl _ _ 23 rfl w0.heap.size Tryz.underlying23 infoStr9 _ ls rfl (HI.out.kept (World.grownBy_alloc w10 _ none) (by cases o.ownBlock <;> simp)) ⟨w10.heap.size, 0, none⟩ rfl z ?q1 ?q2 ?q3 ?_)
          case q1 => rw [World.cell?_alloc_at _ _ _ _ rfl]; rfl
          case q2 => omega
          case q3 => have := hgg.size; simp; omega
          intro v' w6 o' g'
          have gn := grown_thru (World.grownBy_alloc w10 _ none) g'
          have hb : ∀ j, o.ownBlock = some j → w0.heap.size ≤ j := fun j hj => (World.ownsRow.lt HI.out j hj).1
          have hR6 := hR10.kept gn (fun j hj => by have := hb j hj; omega)
          have hg6 := World.grownBy.andThen hgg gn (fun j hj => .inl (hb j hj))
          have HE : Hid (LnI w0 w6 R v' k) := Lib.hid ⟨ls ++ [z], p9, o', by simp; omega, by
            intro x hx
            rcases List.mem_append.1 hx with hx | hx
            · exact hS.out x hx
            · rw [List.mem_singleton.1 hx]; exact hsz, hR6, by simp; omega, hg6⟩
          have e3 : IntKind.i64.wrap (k : Int) = (k : Int) := IntWalk.i64_in _ (by omega)
          have e4 : IntKind.i64.wrap ((k : Int) + 1 - 1) = (k : Int) := by rw [IntWalk.i64_in _ (by omega)]; omega
          clear o' g' gn hb hR6 hg6 hgg HI hsz hR10
          go_wp2
          go_roundw
          case rel => exact ⟨_, k, rfl, by omega, rfl, HE.out⟩
          case measure => simp [intOf]
        · have j1 : ((y : Int) == 0) = false := by simp; omega
          have j2 : ((y : Int) == 1) = false := by simp; omega
          have hsz : s2.size ≤ 10000 := by omega
          have HI := Lib.hid (show OwnT w0.heap.size w9 o ls from hO.out.kept hG (hO.out.ne hRlt))
          have hgg := grown_two hgr.out hG
          clear hG
          go_wp2_with (at_builtin; refine app_str rfl _ _ 23 rfl w0.heap.size Tryz.underlying23 infoStr9 _ ls rfl (HI.out.kept (World.grownBy_alloc w9 _ none) (by cases o.ownBlock <;> simp)) ⟨w9.heap.size, 0, none⟩ rfl s2 ?q1 ?q2 ?q3 ?_)
          case q1 => rw [World.cell?_alloc_at _ _ _ _ rfl]; rfl
          case q2 => omega
          case q3 => have := hgg.size; simp; omega
          intro v' w6 o' g'
          have gn := grown_thru (World.grownBy_alloc w9 _ none) g'
          have hb : ∀ j, o.ownBlock = some j → w0.heap.size ≤ j := fun j hj => (World.ownsRow.lt HI.out j hj).1
          have hR6 := hR9.kept gn (fun j hj => by have := hb j hj; omega)
          have hg6 := World.grownBy.andThen hgg gn (fun j hj => .inl (hb j hj))
          have HE : Hid (LnI w0 w6 R v' k) := Lib.hid ⟨ls ++ [s2], p7 + 1, o', by simp; omega, by
            intro x hx
            rcases List.mem_append.1 hx with hx | hx
            · exact hS.out x hx
            · rw [List.mem_singleton.1 hx]; exact hsz, hR6, by simp; omega, hg6⟩
          have e3 : IntKind.i64.wrap (k : Int) = (k : Int) := IntWalk.i64_in _ (by omega)
          have e4 : IntKind.i64.wrap ((k : Int) + 1 - 1) = (k : Int) := by rw [IntWalk.i64_in _ (by omega)]; omega
          clear o' g' gn hb hR6 hg6 hgg HI hsz hR9
          go_wp2
          go_roundw
          case rel => exact ⟨_, k, rfl, by omega, rfl, HE.out⟩
          case measure => simp [intOf]
      · have e1 : ((x : Int) == 0) = false := by simp; omega
        go_wp2_with fail
        refine (pick_any R (p4 + 1) 8 _ hR5 (by omega) (by omega) (by omega)).mono ?_
        rintro e w9 ⟨y, rfl, hy, hR9, g4⟩
        have hG := grown_two hG g4
        clear g4 hR5
        have hy3 : y = 0 ∨ y = 1 ∨ (y ≠ 0 ∧ y ≠ 1) := by omega
        rcases hy3 with rfl | rfl | ⟨hy0, hy1⟩
        · have HO := Lib.hid (of_at R (p4 + 1 + 1) w9.heap.size 12 (fun j => L12.getD j .empty) _ (hR9.kept (World.grownBy_alloc w9 (.cells (L12.map Value.string).toArray 9) none) (by simp)) (by omega) (cells_of w9 L12) (Nat.ne_of_gt hR9.lt) (by omega) (by omega))
          go_wp2_with fail
          refine HO.out.mono ?_
          rintro e w10 ⟨q, hq, rfl, hR10, g4⟩
          have hG := grown_two hG (grown_thru (World.grownBy_alloc w9 (.cells (L12.map Value.string).toArray 9) none) g4)
          have hz := L12_size q hq
          obtain ⟨z, hqe⟩ : ∃ r, r = L12.getD q .empty := ⟨_, rfl⟩
          rw [← hqe] at hz ⊢
          clear HO hqe hq g4 hR9
          have hsz : z.size ≤ 10000 := by omega
          have HI := Lib.hid (show OwnT w0.heap.size w10 o ls from hO.out.kept hG (hO.out.ne hRlt))
          have hgg := grown_two hgr.out hG
          clear hG
          go_wp2_with (at_builtin; refine app_str rfl _ _ 23 rfl w0.heap.size Tryz.underlying23 infoStr9 _ ls rfl (HI.out.kept (World.grownBy_alloc w10 _ none) (by cases o.ownBlock <;> simp)) ⟨w10.heap.size, 0, none⟩ rfl z ?q1 ?q2 ?q3 ?_)
          case q1 => rw [World.cell?_alloc_at _ _ _ _ rfl]; rfl
          case q2 => omega
          case q3 => have := hgg.size; simp; omega
          intro v' w6 o' g'
          have gn := grown_thru (World.grownBy_alloc w10 _ none) g'
          have hb : ∀ j, o.ownBlock = some j → w0.heap.size ≤ j := fun j hj => (World.ownsRow.lt HI.out j hj).1
          have hR6 := hR10.kept gn (fun j hj => by have := hb j hj; omega)
          have hg6 := World.grownBy.andThen hgg gn (fun j hj => .inl (hb j hj))
          have HE : Hid (LnI w0 w6 R v' k) := Lib.hid ⟨ls ++ [z], p4 + 1 + 1 + 1, o', by simp; omega, by
            intro x hx
            rcases List.mem_append.1 hx with hx | hx
            · exact hS.out x hx
            · rw [List.mem_singleton.1 hx]; exact hsz, hR6, by simp; omega, hg6⟩
          have e3 : IntKind.i64.wrap (k : Int) = (k : Int) := IntWalk.i64_in _ (by omega)
          have e4 : IntKind.i64.wrap ((k : Int) + 1 - 1) = (k : Int) := by rw [IntWalk.i64_in _ (by omega)]; omega
          clear o' g' gn hb hR6 hg6 hgg HI hsz hR10
          go_wp2
          go_roundw
          case rel => exact ⟨_, k, rfl, by omega, rfl, HE.out⟩
          case measure => simp [intOf]
        · have HMU := Lib.hid (mutate_any R (p4 + 1 + 1) s _ hR9 (by omega) (by omega))
          go_wp2_with fail
          refine HMU.out.mono ?_
          rintro e w10 ⟨z, p9, rfl, hz, hR10, hp9, g4⟩
          have hG := grown_two hG g4
          clear HMU g4 hR9
          have hsz : z.size ≤ 10000 := by omega
          have HI := Lib.hid (show OwnT w0.heap.size w10 o ls from hO.out.kept hG (hO.out.ne hRlt))
          have hgg := grown_two hgr.out hG
          clear hG
          go_wp2_with (at_builtin; refine app_str rfl _ _ 23 rfl w0.heap.size Tryz.underlying23 infoStr9 _ ls rfl (HI.out.kept (World.grownBy_alloc w10 _ none) (by cases o.ownBlock <;> simp)) ⟨w10.heap.size, 0, none⟩ rfl z ?q1 ?q2 ?q3 ?_)
          case q1 => rw [World.cell?_alloc_at _ _ _ _ rfl]; rfl
          case q2 => omega
          case q3 => have := hgg.size; simp; omega
          intro v' w6 o' g'
          have gn := grown_thru (World.grownBy_alloc w10 _ none) g'
          have hb : ∀ j, o.ownBlock = some j → w0.heap.size ≤ j := fun j hj => (World.ownsRow.lt HI.out j hj).1
          have hR6 := hR10.kept gn (fun j hj => by have := hb j hj; omega)
          have hg6 := World.grownBy.andThen hgg gn (fun j hj => .inl (hb j hj))
          have HE : Hid (LnI w0 w6 R v' k) := Lib.hid ⟨ls ++ [z], p9, o', by simp; omega, by
            intro x hx
            rcases List.mem_append.1 hx with hx | hx
            · exact hS.out x hx
            · rw [List.mem_singleton.1 hx]; exact hsz, hR6, by simp; omega, hg6⟩
          have e3 : IntKind.i64.wrap (k : Int) = (k : Int) := IntWalk.i64_in _ (by omega)
          have e4 : IntKind.i64.wrap ((k : Int) + 1 - 1) = (k : Int) := by rw [IntWalk.i64_in _ (by omega)]; omega
          clear o' g' gn hb hR6 hg6 hgg HI hsz hR10
          go_wp2
          go_roundw
          case rel => exact ⟨_, k, rfl, by omega, rfl, HE.out⟩
          case measure => simp [intOf]
        · have j1 : ((y : Int) == 0) = false := by simp; omega
          have j2 : ((y : Int) == 1) = false := by simp; omega
          have hsz : s.size ≤ 10000 := by omega
          have HI := Lib.hid (show OwnT w0.heap.size w9 o ls from hO.out.kept hG (hO.out.ne hRlt))
          have hgg := grown_two hgr.out hG
          clear hG
          go_wp2_with (at_builtin; refine app_str rfl _ _ 23 rfl w0.heap.size Tryz.underlying23 infoStr9 _ ls rfl (HI.out.kept (World.grownBy_alloc w9 _ none) (by cases o.ownBlock <;> simp)) ⟨w9.heap.size, 0, none⟩ rfl s ?q1 ?q2 ?q3 ?_)
          case q1 => rw [World.cell?_alloc_at _ _ _ _ rfl]; rfl
          case q2 => omega
          case q3 => have := hgg.size; simp; omega
          intro v' w6 o' g'
          have gn := grown_thru (World.grownBy_alloc w9 _ none) g'
          have hb : ∀ j, o.ownBlock = some j → w0.heap.size ≤ j := fun j hj => (World.ownsRow.lt HI.out j hj).1
          have hR6 := hR9.kept gn (fun j hj => by have := hb j hj; omega)
          have hg6 := World.grownBy.andThen hgg gn (fun j hj => .inl (hb j hj))
          have HE : Hid (LnI w0 w6 R v' k) := Lib.hid ⟨ls ++ [s], p4 + 1 + 1, o', by simp; omega, by
            intro x hx
            rcases List.mem_append.1 hx with hx | hx
            · exact hS.out x hx
            · rw [List.mem_singleton.1 hx]; exact hsz, hR6, by simp; omega, hg6⟩
          have e3 : IntKind.i64.wrap (k : Int) = (k : Int) := IntWalk.i64_in _ (by omega)
          have e4 : IntKind.i64.wrap ((k : Int) + 1 - 1) = (k : Int) := by rw [IntWalk.i64_in _ (by omega)]; omega
          clear o' g' gn hb hR6 hg6 hgg HI hsz hR9
          go_wp2
          go_roundw
          case rel => exact ⟨_, k, rfl, by omega, rfl, HE.out⟩
          case measure => simp [intOf]
end Go.Proofs.YtagncoahobghpacGreatDoor
