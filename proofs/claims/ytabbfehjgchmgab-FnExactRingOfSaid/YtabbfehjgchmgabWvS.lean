/-
  SpreadOf and SquareSum of the program, by their contracts.
-/
import Derived.Test.YtabbfehjgchmgabWvO
import Derived.Deep.RegionWith
namespace Go.Proofs.Ytabbfehjgchmgab
open Go.RowKit
set_option linter.unusedVariables false

def sprA (xs : List Int) : Int := if vsB xs = true then someN xs else -1
def sprB (xs : List Int) : Int := if vsB xs = true then someN (waveR xs) else -1
/-- What a call leaves that hands back two ints and turns nothing that was there. -/
def Twos (y z : Int) (w : World) (e : Ending) (w' : World) : Prop := e = .returned (.tuple #[.int .i64 y, .int .i64 z]) ∧ Below w.heap.size w w'
theorem ret_two {a b c d : Int} (h : a = c) (h' : b = d) : Ending.returned (.tuple #[.int .i64 a, .int .i64 b]) = .returned (.tuple #[.int .i64 c, .int .i64 d]) := by rw [h, h']

set_option maxHeartbeats 2000000 in
theorem implSpreadOf_any (v : Value) (xs : List Int) (w : World) (h : Rd w v xs) (hl : xs.length ≤ maxLen) :
    Calls Try.prog 31 #[v] w (Twos (sprA xs) (sprB xs) w) := by
  have hv := implValidRests_any v xs w h hl
  cases hb : vsB xs with
  | true =>
    rw [hb] at hv
    have hV := (vsB_iff xs).1 hb
    obtain ⟨hn0, hn1⟩ : 0 < xs.length ∧ xs.length ≤ 96 := ⟨hV.some, hV.few⟩
    have HA := Lib.hid (show sprA xs = someN xs by unfold sprA; exact if_pos hb)
    have HB := Lib.hid (show sprB xs = someN (waveR xs) by unfold sprB; exact if_pos hb)
    have HW := implWaveOf_any v xs w h hl
    rw [waveF_yes hb] at HW
    have HC1 := Lib.hid (countNonzero_any v xs w h hn0 hn1 hV.rest)
    have HC2 := Lib.hid fun w (v : Value) (h : Rd w v (waveR xs)) => countNonzero_any v (waveR xs) w h (by rw [len_waveR]; exact hn0) (by rw [len_waveR]; exact hn1) (fun j hj => (vs_wave hV).rest j hj)
    have HW := Lib.hid HW
    clear hb hV h
    go_enter Try.func31, Try.ntmps31
    go_wp2_with fail
    refine hv.mono ?_
    rintro e w1 ⟨rfl, rfl⟩
    go_wp2_with fail
    refine HC1.out.mono ?_
    rintro e w1 ⟨rfl, rfl⟩
    go_wp2_with fail
    refine HW.out.mono ?_
    rintro e w2 ⟨v2, rfl, p2, b2⟩
    go_wp2_with fail
    refine (HC2.out _ _ p2.rd).mono ?_
    rintro e w3 ⟨rfl, rfl⟩
    go_wp2
    go_ret2
    exact ⟨ret_two HA.out.symm HB.out.symm, b2⟩
  | false =>
    rw [hb] at hv
    have HA := Lib.hid (show sprA xs = -1 by unfold sprA; exact if_neg (by simp [hb]))
    have HB := Lib.hid (show sprB xs = -1 by unfold sprB; exact if_neg (by simp [hb]))
    clear hb
    go_enter Try.func31, Try.ntmps31
    go_wp2_with fail
    refine hv.mono ?_
    rintro e w1 ⟨rfl, rfl⟩
    go_wp2
    go_ret2
    exact ⟨ret_two HA.out.symm HB.out.symm, Below.refl _ _⟩

/-- The sum behind m of the powers. -/
def sqW (k m : Nat) : Nat := (List.range m).foldl (fun s i => (s + pm (pm (pm (rtN 16) i) i) k) % 97) 0
theorem sqW_next (k m : Nat) : ((sqW k (m + 1) : Nat) : Int) = ((sqW k m : Nat) + (pm (pm (pm (rtN 16) m) m) k : Nat) : Int) % 97 := by
  have e : sqW k (m + 1) = (sqW k m + pm (pm (pm (rtN 16) m) m) k) % 97 := by unfold sqW; rw [List.range_succ, List.foldl_append]; rfl
  rw [e, Int.natCast_emod, Int.natCast_add]; rfl
theorem sqW_lt (k m : Nat) : sqW k m < 97 := by
  cases m with
  | zero => exact (by decide : 0 < 97)
  | succ m => unfold sqW; rw [List.range_succ, List.foldl_append]; exact Nat.mod_lt _ (by decide)
set_option maxRecDepth 8000 in
theorem sqW_all : ∀ k, k < 16 → sqW k 16 = sqsN k := by decide +kernel
def sqF (k : Int) : Int := if 0 ≤ k ∧ k ≤ 15 then (sqsN k.toNat : Nat) else -1
theorem sqF_yes {k : Nat} (h : k ≤ 15) : sqF k = (sqsN k : Nat) := by unfold sqF; rw [if_pos (by omega), Int.toNat_natCast]
theorem sqF_no {k : Int} (h : ¬ (0 ≤ k ∧ k ≤ 15)) : sqF k = -1 := by unfold sqF; exact if_neg h
theorem rd_lit3 (w : World) (x y z : Int) (E k : Nat) (hk : w.heap.size = k) : Rd (w.alloc (.cells #[.int .i64 x, .int .i64 y, .int .i64 z] E)) (.slice (some ⟨k, 0, none⟩) 3 3) [x, y, z] := by
  subst hk
  refine ⟨_, 3, rfl, .inr ⟨_, _, rfl, by simp, fun j hj => ?_⟩⟩
  rw [World.cell?_alloc_at _ _ _ _ rfl]
  match j, hj with
  | 0, _ => rfl
  | 1, _ => rfl
  | 2, _ => rfl
theorem power_three (x i j k : Nat) (v : Value) (w : World) (h : Rd w v [(i : Int), (j : Int), (k : Int)]) (hx : x < 97) (hi : i ≤ 96) (hj : j ≤ 96) (hk : k ≤ 96) :
    Calls Try.prog 52 #[.agg #[.int .i64 x], v] w (Rests (pm (pm (pm x i) j) k : Nat) w) := by
  refine power_any x _ v w h hx (by simp) ?_
  intro m hm
  match m, hm with
  | 0, _ => exact ⟨by show 0 ≤ (i : Int); omega, by show (i : Int) ≤ 96; omega⟩
  | 1, _ => exact ⟨by show 0 ≤ (j : Int); omega, by show (j : Int) ≤ 96; omega⟩
  | 2, _ => exact ⟨by show 0 ≤ (k : Int); omega, by show (k : Int) ≤ 96; omega⟩

set_option maxHeartbeats 8000000 in
theorem implSquareSum_any (k : Int) (w : World) :
    Calls Try.prog 33 #[.int .i64 k] w (Tells (sqF k) w) := by
  by_cases hk : 0 ≤ k ∧ k ≤ 15
  · obtain ⟨n, rfl⟩ : ∃ n : Nat, k = (n : Int) := ⟨k.toNat, by omega⟩
    have hn1 : n ≤ 15 := by omega
    have hx0 : ¬ (n : Int) < 0 := by omega
    have hx1 : (n : Int) < 16 := by omega
    have HF := Lib.hid ((sqF_yes hn1).trans (congrArg (fun x : Nat => (x : Int)) (sqW_all n (by omega)).symm))
    have HR := Lib.hid (rootF_yes (n := 16) (by decide) (by decide) (by decide))
    have hr1 : rtN 16 < 97 := by decide
    have HN := Lib.hid fun m => sqW_next n m
    have HM := Lib.hid (rest_mod hr1)
    obtain ⟨r, hr⟩ : ∃ r, r = rtN 16 := ⟨_, rfl⟩
    rw [← hr] at HR hr1 HN HM
    clear hk hr
    go_enter Try.func33, Try.ntmps33
    go_wp2_with fail
    refine (implRootOf_any _ _).mono ?_
    rintro e w1 ⟨rfl, b1⟩
    rw [show rootF 16 = (r : Int) from HR.out]
    go_wp2_with fail
    refine (restOf_any _ _ (by omega) (by omega)).mono ?_
    rintro e w2 ⟨rfl, b2⟩
    rw [HM.out]
    have bb := bel_nxt b1 b2
    have bA := bb.alloc bb.size (.cells #[.int .i64 r] 36)
    have hc := cell_new1 w2 (.int .i64 r) 36
    have hs : w2.heap.size < (w2.alloc (.cells #[.int .i64 r] 36)).heap.size := by simp
    have hlo := bb.size
    clear b1 b2 bb
    go_wp2_with fail
    refine (restOf_none _).mono ?_
    rintro e w3 ⟨rfl, b3⟩
    have hc3 := (b3.cell (p := ⟨w2.heap.size, 0, none⟩) hs).trans hc
    have hs3 := Nat.lt_of_lt_of_le hs b3.size
    have bB := bel_nxt bA b3
    have hI : ObI w (w3.alloc (.cells #[.int .i64 0] 36)) w2.heap.size w3.heap.size r (sqW n 0 : Nat) := by
      have b4 := (Below.refl w3.heap.size w3).alloc (Nat.le_refl _) (.cells #[.int .i64 0] 36)
      obtain ⟨h3, h4, h5⟩ := held_new (Below.refl _ (w3.alloc (.cells #[.int .i64 0] 36))) (k := w3.heap.size) rfl
      exact ⟨(b4.cell (p := ⟨w2.heap.size, 0, none⟩) hs3).trans hc3, h3, h4, hlo, hs3, h5, bB.alloc bB.size _⟩
    obtain ⟨gb, hgb⟩ : ∃ gb, gb = w2.heap.size := ⟨_, rfl⟩
    obtain ⟨g, hg⟩ : ∃ g, g = w3.heap.size := ⟨_, rfl⟩
    rw [← hgb, ← hg] at hI
    have HG1 := Lib.hid hgb
    have HG2 := Lib.hid hg
    clear hc hc3 hs hs3 bA bB b3 hlo hgb hg
    go_wp2
    rw [← HG1.out, ← HG2.out]
    go_loopw [15] (fun i wr => ∃ m : Nat, m ≤ 16 ∧ i = .int .i64 m ∧ ObI w wr gb g r (sqW n m : Nat)) (fun i _ => 16 - (intOf i).toNat)
    case atStart => exact ⟨0, Nat.zero_le _, rfl, hI⟩
    case round =>
      obtain ⟨m, hm, rfl, hJ⟩ := hrel
      by_cases hlt : m < 16
      · have hmi : (m : Int) < 16 := by omega
        have hcb := hJ.base
        have hcc := hJ.cur
        have hff := hJ.curf
        have hgs := hJ.size
        have hbs : gb < wr.heap.size := Nat.lt_trans hJ.next hgs
        have hS := sqW_lt n m
        have HNm := Lib.hid (HN.out m)
        have HJ := Lib.hid (hJ.call ((Below.refl _ _).alloc (Nat.le_refl _) (.cells #[.int .i64 m, .int .i64 m, .int .i64 n] 3))).drew
        have hp := pm_lt (pm (pm r m) m) n
        have HP := Lib.hid fun w (v : Value) (h : Rd w v [(m : Int), (m : Int), (n : Int)]) => power_three r m m n v w h hr1 (by omega) (by omega) (by omega)
        obtain ⟨s, hs⟩ : ∃ s, s = sqW n m := ⟨_, rfl⟩
        rw [← hs] at hcc hS HNm HJ
        obtain ⟨p, hpp⟩ : ∃ p, p = pm (pm (pm r m) m) n := ⟨_, rfl⟩
        rw [← hpp] at hp HP HNm
        clear hI hJ hs hpp
        go_wp2
        go_region_with
          (first
            | (go_at_call 52; refine (HP.out _ _ (rd_lit3 _ _ _ _ _ _ rfl).drew).mono ?_; rintro e w4 ⟨rfl, b4⟩; have hK := HJ.out.call b4; have hcb := hK.base; have hcc := hK.cur; have hff := hK.curf; have hgs := hK.size; have hbs := Nat.lt_trans hK.next hgs)
            | (go_at_call 48; refine (plus_any s p _ (by omega) (by omega)).mono ?_; rintro e w5 ⟨rfl, b5⟩; have hK := hK.call b5; have hcc := hK.cur; have hff := hK.curf))
        all_goals
          have HQ := hK.set (((s : Nat) + (p : Nat) : Int) % 97)
          rw [← HNm.out] at HQ
          have HQ := Lib.hid HQ
          clear hK hcb hcc hff
          go_wp2
          go_roundw
          case rel => exact ⟨m + 1, by omega, by go_num, by have := HQ.out; rw [HNm.out] at this ⊢; exact this⟩
          case measure => simp [intOf]; omega
      · obtain rfl : m = 16 := by omega
        have hcc := hJ.cur
        have hB := hJ.bel
        obtain ⟨s, hs⟩ : ∃ s, s = sqW n 16 := ⟨_, rfl⟩
        rw [← hs] at hcc
        have HS := Lib.hid hs
        clear hI hJ hs
        go_wp2
        go_ret
        exact ⟨ret_int (by rw [HF.out, HS.out]), hB⟩
  · have HF := Lib.hid (sqF_no hk)
    by_cases h1 : k < 0
    · clear hk
      go_enter Try.func33, Try.ntmps33
      go_wp2
      go_ret
      exact ⟨ret_int HF.out.symm, Below.refl _ _⟩
    · have h2 : 16 ≤ k := by omega
      clear hk
      go_enter Try.func33, Try.ntmps33
      go_wp2
      go_ret
      exact ⟨ret_int HF.out.symm, Below.refl _ _⟩

end Go.Proofs.Ytabbfehjgchmgab
