/-
  The Draw functions of texts and patterns: both are short.
-/
import Derived.Test.YtagncoahobghpaaDoorRowOf
import Derived.Test.YtagncoahobghpaaDoorDrawRow
import Derived.Test.YtagncoahobghpaaDoorMsT
namespace Go.Proofs.YtagncoahobghpaaDoor
open Go.RowKit
set_option linter.unusedVariables false

/-- Texts of one letter, by their letters. -/
def txt (cs : List UInt8) (j : Nat) : ByteArray := ⟨#[cs.getD j 0]⟩
theorem txt_size (cs : List UInt8) (j : Nat) (h : j < cs.length) : (txt cs j).size = 1 := rfl
theorem txt_at (w : World) (cells : Array Value) (T : TypeId) (cs : List UInt8) (h : cells = (cs.map fun c => Value.string ⟨#[c]⟩).toArray) : ∀ j, j < cs.length → (w.alloc (.cells cells T)).cell? ⟨w.heap.size, j, none⟩ = some (.string (txt cs j)) := by
  intro j hj
  rw [World.cell?_alloc_at _ _ _ _ rfl, h]
  simp [txt, List.getD, List.getElem?_eq_getElem hj]
theorem grown_two {a b c : World} {R : Nat} (h : a.grownBy b (some R)) (k : b.grownBy c (some R)) : a.grownBy c (some R) :=
  ⟨k.os.trans h.os, k.tape.trans h.tape, k.output.trans h.output, Nat.le_trans h.size k.size, fun i hi hne => (k.block i (Nat.lt_of_lt_of_le hi h.size) hne).trans (h.block i hi hne)⟩
/-- A text and a pattern, both short. -/
def SomeM (w : World) (R : Nat) (e : Ending) (w' : World) : Prop := ∃ s p : ByteArray, e = .returned (.tuple #[.string s, .string p]) ∧ s.size ≤ 100 ∧ p.size ≤ 100 ∧ w.grownBy w' (some R)
def DrewM (w : World) (e : Ending) (w' : World) : Prop := ∃ s p : ByteArray, e = .returned (.tuple #[.string s, .string p]) ∧ s.size ≤ 100 ∧ p.size ≤ 100 ∧ Below w.heap.size w w'

theorem of_at (R p g n : Nat) (S : Nat → ByteArray) (w : World) (h : Rdr 42 w R p) (hp : p ≤ 1000) (hc : ∀ j, j < n → w.cell? ⟨g, j, none⟩ = some (.string (S j))) (hg : g ≠ R) (h1 : 1 ≤ n) (h2 : n ≤ 100000) :
    Calls Tryd.prog 21 #[.pointer (some ⟨R, 0, none⟩), .slice (some ⟨g, 0, none⟩) n n] w fun e w' => ∃ k, k < n ∧ e = .returned (.string (S k)) ∧ Rdr 42 w' R (p + 1) ∧ w.grownBy w' (some R) := by
  have HC := Lib.hid hc
  clear hc
  go_enter Tryd.func21, Tryd.ntmps21
  go_wp2_with fail
  refine (pick_any R p n _ h hp h1 h2).mono ?_
  rintro e w1 ⟨k, rfl, hk, hR, hgr⟩
  have hcx := hgr.cell (HC.out k hk) (by simpa using hg)
  have i1 : (k : Int) < (n : Int) := by omega
  clear HC
  go_wp2
  go_ret
  exact ⟨k, hk, rfl, hR, hgr⟩

set_option maxHeartbeats 8000000 in
set_option maxRecDepth 100000 in
theorem someMatch_any (R : Nat) (w : World) (hR : Rdr 42 w R 0) :
    Calls Tryd.prog 14 #[.pointer (some ⟨R, 0, none⟩)] w (SomeM w R) := by
  go_enter Tryd.func14, Tryd.ntmps14
  go_wp2_with fail
  have hlit := own_lit 3 0 w.heap.size w #[.int .i64 (8), .int .i64 (12), .int .i64 (5), .int .i64 (20), .int .i64 (3), .int .i64 (1), .int .i64 (0)] [8, 12, 5, 20, 3, 1, 0] 7 rfl (Nat.zero_le _) rfl rfl (by unfold maxLen; omega)
  have hlt := hR.lt
  have h1 := hR.kept (World.grownBy_alloc w (.cells #[.int .i64 (8), .int .i64 (12), .int .i64 (5), .int .i64 (20), .int .i64 (3), .int .i64 (1), .int .i64 (0)] 3) none) (by simp)
  refine (one_any R 0 _ [8, 12, 5, 20, 3, 1, 0] _ h1 (by omega) hlit.rd (by simp) (by simp) (by simp [Value.ownBlock]; omega)).mono ?_
  rintro e w1 ⟨k, hk, rfl, hR1, g4⟩
  have hZ := ix_range (lo := 0) (hi := 20) (xs := [8, 12, 5, 20, 3, 1, 0]) (by intro z hz; simp only [List.mem_cons, List.not_mem_nil, or_false] at hz; omega) hk
  have g4 := grown_thru (World.grownBy_alloc w (.cells #[.int .i64 (8), .int .i64 (12), .int .i64 (5), .int .i64 (20), .int .i64 (3), .int .i64 (1), .int .i64 (0)] 3) none) g4
  generalize ix [8, 12, 5, 20, 3, 1, 0] k = z at hZ ⊢
  clear hlit h1 hk hlt
  clear hR
  have hR := hR1
  clear hR1
  obtain ⟨nz, rfl⟩ : ∃ n : Nat, z = (n : Int) := ⟨z.toNat, by omega⟩
  have hnz : nz ≤ 20 := by omega
  clear hZ
  go_wp2
  go_loopw [4] (fun v wr => ∃ (s : ByteArray) (q : Nat), v = .string s ∧ s.size ≤ nz ∧ q ≤ 1 + s.size ∧ Rdr 42 wr R q ∧ w.grownBy wr (some R)) (fun v _ => 41 - (match v with | .string s => s.size | _ => 0))
  case atStart => exact ⟨⟨#[]⟩, 1, rfl, Nat.zero_le _, Nat.le_refl _, hR, g4⟩
  case round =>
    obtain ⟨s, q, rfl, hs, hq, hRr, hg⟩ := hrel
    clear hR g4
    by_cases hlt : s.size < nz
    · have i1 : (s.size : Int) < (nz : Int) := by omega
      go_wp2_with fail
      have hRl := hRr.lt
      refine (of_at R q wr.heap.size 6 (fun j => txt [97, 98, 97, 98, 99, 100] j) _ (hRr.kept (World.grownBy_alloc wr (.cells #[.string { data := #[97] }, .string { data := #[98] }, .string { data := #[97] }, .string { data := #[98] }, .string { data := #[99] }, .string { data := #[100] }] 9) none) (by simp)) (by omega) (txt_at wr _ 9 [97, 98, 97, 98, 99, 100] rfl) (by omega) (by omega) (by omega)).mono ?_
      rintro e w9 ⟨kz, hkz, rfl, hR9, g9⟩
      have g9 := grown_two hg (grown_thru (World.grownBy_alloc wr (.cells #[.string { data := #[97] }, .string { data := #[98] }, .string { data := #[97] }, .string { data := #[98] }, .string { data := #[99] }, .string { data := #[100] }] 9) none) g9)
      have ht := txt_size [97, 98, 97, 98, 99, 100] kz (by simpa using hkz)
      obtain ⟨t, hte⟩ : ∃ t, t = txt [97, 98, 97, 98, 99, 100] kz := ⟨_, rfl⟩
      rw [← hte] at ht ⊢
      have hsz : (s ++ t).size = s.size + 1 := by rw [ByteArray.size_append, ht]
      have HP := Lib.hid (show (s ++ t).size ≤ nz by omega)
      have HQ := Lib.hid (show q + 1 ≤ 1 + (s ++ t).size by omega)
      have HSZ := Lib.hid hsz
      have HM := Lib.hid (show s.size ≤ 20 by omega)
      clear hte hRr hg hkz hsz
      go_wp2
      go_roundw
      case rel => exact ⟨s ++ t, q + 1, rfl, HP.out, HQ.out, hR9, g9⟩
      case measure => have := HSZ.out; have := HM.out; simp; omega
    · have i1 : ¬ (s.size : Int) < (nz : Int) := by omega
      clear i1
      go_wp2_with fail
      have hlit := own_lit 3 0 wr.heap.size wr #[.int .i64 (2), .int .i64 (3), .int .i64 (1), .int .i64 (4), .int .i64 (0), .int .i64 (5)] [2, 3, 1, 4, 0, 5] 6 rfl (Nat.zero_le _) rfl rfl (by unfold maxLen; omega)
      have hlt := hRr.lt
      have h1 := hRr.kept (World.grownBy_alloc wr (.cells #[.int .i64 (2), .int .i64 (3), .int .i64 (1), .int .i64 (4), .int .i64 (0), .int .i64 (5)] 3) none) (by simp)
      refine (one_any R q _ [2, 3, 1, 4, 0, 5] _ h1 (by omega) hlit.rd (by simp) (by simp) (by simp [Value.ownBlock]; omega)).mono ?_
      rintro e w2 ⟨k, hk, rfl, hR2, g4⟩
      have hZ := ix_range (lo := 0) (hi := 20) (xs := [2, 3, 1, 4, 0, 5]) (by intro z hz; simp only [List.mem_cons, List.not_mem_nil, or_false] at hz; omega) hk
      have g4 := grown_thru (World.grownBy_alloc wr (.cells #[.int .i64 (2), .int .i64 (3), .int .i64 (1), .int .i64 (4), .int .i64 (0), .int .i64 (5)] 3) none) g4
      generalize ix [2, 3, 1, 4, 0, 5] k = y at hZ ⊢
      clear hlit h1 hk hlt
      have g5 := grown_two hg g4
      clear hRr hg g4
      have hR := hR2
      clear hR2
      obtain ⟨s0, hs0⟩ : ∃ s0, s0 = s := ⟨_, rfl⟩
      rw [← hs0] at hs hq ⊢
      clear hs0
      obtain ⟨q0, hq0⟩ : ∃ q0, q0 = q + 1 := ⟨_, rfl⟩
      rw [← hq0] at hR
      have hq2 : q0 ≤ 22 := by omega
      clear hq0 hq
      obtain ⟨ny, rfl⟩ : ∃ n : Nat, y = (n : Int) := ⟨y.toNat, by omega⟩
      have hny : ny ≤ 20 := by omega
      clear hZ
      go_wp2
      go_loopw [6] (fun v wr => ∃ (s : ByteArray) (q : Nat), v = .string s ∧ s.size ≤ ny ∧ q ≤ q0 + s.size ∧ Rdr 42 wr R q ∧ w.grownBy wr (some R)) (fun v _ => 41 - (match v with | .string s => s.size | _ => 0))
      case atStart => exact ⟨⟨#[]⟩, q0, rfl, Nat.zero_le _, Nat.le_refl _, hR, g5⟩
      case round =>
        obtain ⟨s, q, rfl, hs2, hq, hRr, hg⟩ := hrel
        clear hR g5
        by_cases hlt : s.size < ny
        · have i1 : (s.size : Int) < (ny : Int) := by omega
          go_wp2_with fail
          have hRl := hRr.lt
          refine (of_at R q wr.heap.size 6 (fun j => txt [97, 98, 63, 97, 98, 99] j) _ (hRr.kept (World.grownBy_alloc wr (.cells #[.string { data := #[97] }, .string { data := #[98] }, .string { data := #[63] }, .string { data := #[97] }, .string { data := #[98] }, .string { data := #[99] }] 9) none) (by simp)) (by omega) (txt_at wr _ 9 [97, 98, 63, 97, 98, 99] rfl) (by omega) (by omega) (by omega)).mono ?_
          rintro e w9 ⟨kz, hkz, rfl, hR9, g9⟩
          have g9 := grown_two hg (grown_thru (World.grownBy_alloc wr (.cells #[.string { data := #[97] }, .string { data := #[98] }, .string { data := #[63] }, .string { data := #[97] }, .string { data := #[98] }, .string { data := #[99] }] 9) none) g9)
          have ht := txt_size [97, 98, 63, 97, 98, 99] kz (by simpa using hkz)
          obtain ⟨t, hte⟩ : ∃ t, t = txt [97, 98, 63, 97, 98, 99] kz := ⟨_, rfl⟩
          rw [← hte] at ht ⊢
          have hsz : (s ++ t).size = s.size + 1 := by rw [ByteArray.size_append, ht]
          have HP := Lib.hid (show (s ++ t).size ≤ ny by omega)
          have HQ := Lib.hid (show q + 1 ≤ q0 + (s ++ t).size by omega)
          have HSZ := Lib.hid hsz
          have HM := Lib.hid (show s.size ≤ 20 by omega)
          clear hte hRr hg hkz hsz
          go_wp2
          go_roundw
          case rel => exact ⟨s ++ t, q + 1, rfl, HP.out, HQ.out, hR9, g9⟩
          case measure => have := HSZ.out; have := HM.out; simp; omega
        · have i1 : ¬ (s.size : Int) < (ny : Int) := by omega
          go_wp2_with fail
          refine (pick_any R q 24 _ hRr (by omega) (by omega) (by omega)).mono ?_
          rintro e w3 ⟨x, rfl, hx, hR3, g3⟩
          have g3 := grown_two hg g3
          clear hRr hg
          by_cases hx0 : x = 0
          · have e1 : ((x : Int) == 0) = true := by simp [hx0]
            clear hx0 hx
            go_wp2_with fail
            have hRl := hR3.lt
            refine (of_at R (q + 1) w3.heap.size 2 (fun j => txt [63, 101] j) _ (hR3.kept (World.grownBy_alloc w3 (.cells #[.string { data := #[63] }, .string { data := #[101] }] 9) none) (by simp)) (by omega) (txt_at w3 _ 9 [63, 101] rfl) (by omega) (by omega) (by omega)).mono ?_
            rintro e w9 ⟨kz, hkz, rfl, hR9, g9⟩
            have g9 := grown_two g3 (grown_thru (World.grownBy_alloc w3 (.cells #[.string { data := #[63] }, .string { data := #[101] }] 9) none) g9)
            have ht := txt_size [63, 101] kz (by simpa using hkz)
            obtain ⟨t, hte⟩ : ∃ t, t = txt [63, 101] kz := ⟨_, rfl⟩
            rw [← hte] at ht ⊢
            have HS := Lib.hid (show (s0 ++ t).size ≤ 100 by rw [ByteArray.size_append, ht]; omega)
            have HP := Lib.hid (show s.size ≤ 100 by omega)
            have hm1 : s0.size ≤ 20 := by omega
            clear hte hkz hR9 hR3 g3
            go_wp2
            go_ret2
            exact ⟨s0 ++ t, s, rfl, HS.out, HP.out, g9⟩
          · have e1 : ((x : Int) == 0) = false := by simp; omega
            have HS := Lib.hid (show s0.size ≤ 100 by omega)
            have HP := Lib.hid (show s.size ≤ 100 by omega)
            clear hx0 hx hR3
            go_wp2
            go_ret2
            exact ⟨s0, s, rfl, HS.out, HP.out, g3⟩

theorem drawMatchesOf_any (v : Value) (n : Nat) (w : World) (h : RdB w v n) :
    Calls Tryd.prog 5 #[v] w (DrewM w) := by
  go_enter Tryd.func5, Tryd.ntmps5
  go_wp2_with fail
  refine (newReader_any v n _ h).mono ?_
  rintro e w1 ⟨R, rfl, hR, b1, hRs⟩
  go_wp2_with fail
  refine (someMatch_any R _ hR).mono ?_
  rintro e w2 ⟨s, p, rfl, hs, hp, g2⟩
  have b2 := b1.grown g2 b1.size (fun k hk => by injection hk with hk; omega)
  go_wp2
  go_ret2
  exact ⟨s, p, rfl, hs, hp, b2⟩

theorem drawMissesOf_any (v : Value) (n : Nat) (w : World) (h : RdB w v n) :
    Calls Tryd.prog 12 #[v] w (DrewM w) := by
  go_enter Tryd.func12, Tryd.ntmps12
  go_wp2_with fail
  refine (newReader_any v n _ h).mono ?_
  rintro e w1 ⟨R, rfl, hR, b1, hRs⟩
  go_wp2_with fail
  refine (someMatch_any R _ hR).mono ?_
  rintro e w2 ⟨s, p, rfl, hs, hp, g2⟩
  have b2 := b1.grown g2 b1.size (fun k hk => by injection hk with hk; omega)
  go_wp2
  go_ret2
  exact ⟨s, p, rfl, hs, hp, b2⟩

end Go.Proofs.YtagncoahobghpaaDoor
