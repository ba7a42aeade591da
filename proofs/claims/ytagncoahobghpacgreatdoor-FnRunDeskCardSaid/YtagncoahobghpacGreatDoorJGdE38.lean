/-
  Joined texts: WvP, WvU, WvS, WvQ, WvY.
-/
import Derived.Test.YtagncoahobghpacGreatDoorJGdE23
import Derived.Test.YtagncoahobghpacGreatDoorJGdE08
import Derived.Test.YtagncoahobghpacGreatDoorJGdE24
import Derived.Deep.RegionWith
import Derived.Test.YtagncoahobghpacGreatDoorJGdE19
import Derived.IntWalk
namespace Go.Proofs.YtagncoahobghpacGreatDoor
open Go.RowKit
set_option linter.unusedVariables false

theorem mod_any (x : Int) (w : World) (h0 : 0 ≤ x) (h1 : x ≤ 1000000) :
    Calls Tryz.prog 80 #[.int .i64 x] w fun e w' => e = .returned (.int .i64 (x % 97)) ∧ w = w' := by
  have HM := Lib.hid (show (x % 97 + 97) % 97 = x % 97 by omega)
  have h2 : 0 ≤ x % 97 := by omega
  have h3 : x % 97 ≤ 96 := by omega
  go_enter Tryz.func80, Tryz.ntmps80
  go_wp2
  go_ret
  first | exact ⟨rfl, rfl⟩ | exact ⟨ret_int HM.out, rfl⟩

theorem pm_nextL (x m : Nat) : ((pm x m : Nat) : Int) * (x : Int) % 97 = ((pm x (m + 1) : Nat) : Int) := pm_next x m

set_option maxHeartbeats 2000000 in
theorem raise_any (x n : Nat) (w : World) (hx : x < 97) (hn : n ≤ 1000) :
    Calls Tryz.prog 81 #[.int .i64 x, .int .i64 n] w fun e w' => e = .returned (.int .i64 (pm x n : Nat)) ∧ w = w' := by
  go_enter Tryz.func81, Tryz.ntmps81
  go_wp2
  go_loop [1, 5] (fun i o => ∃ p m : Nat, p + m = n ∧ i = .int .i64 p ∧ o = .int .i64 (pm x m : Nat)) (fun i _ => (intOf i).toNat)
  case atStart => exact ⟨n, 0, rfl, rfl, rfl⟩
  case round =>
    obtain ⟨p, m, hpm, rfl, rfl⟩ := hrel
    have hml : p ≤ n := by omega
    by_cases hp : 0 < p
    · obtain ⟨q, rfl⟩ : ∃ q, p = q + 1 := ⟨p - 1, by omega⟩
      have hb := pm_lt x m
      have h0 : 0 ≤ ((pm x m : Nat) : Int) * (x : Int) := Int.mul_nonneg (by omega) (by omega)
      have h1 : ((pm x m : Nat) : Int) * (x : Int) ≤ 96 * 96 := Int.mul_le_mul (by omega) (by omega) (by omega) (by omega)
      have HP := Lib.hid hpm
      clear hpm
      go_wp2_with fail
      refine (mod_any _ _ h0 (by omega)).mono ?_
      rintro e w' ⟨rfl, rfl⟩
      rw [pm_next]
      go_wp2
      go_round
      case rel => exact ⟨q, m + 1, by have := HP.out; omega, by go_num, rfl⟩
      case measure => simp [intOf]
    · obtain rfl : p = 0 := by omega
      obtain rfl : m = n := by omega
      go_wp2
      go_ret
      exact ⟨rfl, rfl⟩

set_option maxHeartbeats 2000000 in
theorem order_any (x : Nat) (w : World) (h0 : 1 ≤ x) (h1 : x < 97) :
    Calls Tryz.prog 82 #[.int .i64 x] w fun e w' => e = .returned (.int .i64 (ordN x : Nat)) ∧ w = w' := by
  obtain ⟨ho1, ho2, -, ho4⟩ := ord_facts x h1 (by omega)
  have HO := Lib.hid ho4
  clear ho4
  go_enter Tryz.func82, Tryz.ntmps82
  go_wp2
  go_loop [3] (fun i => ∃ k : Nat, 1 ≤ k ∧ k ≤ ordN x ∧ i = .int .i64 k) (fun i => ordN x - (intOf i).toNat)
  case atStart => exact ⟨1, by omega, by omega, rfl⟩
  case round =>
    obtain ⟨k, hk0, hk1, rfl⟩ := hrel
    by_cases hp : pm x k = 1
    · have hkN : k = ordN x := by
        apply Classical.byContradiction
        intro hk
        exact ord_least x h1 h0 k (by omega) hk0 hp
      have HK := Lib.hid hkN
      have HP := Lib.hid hp
      clear hkN hp
      go_wp2_with fail
      refine (raise_any x k _ h1 (by omega)).mono ?_
      rintro e w' ⟨rfl, rfl⟩
      rw [HP.out]
      go_wp2
      go_ret
      exact ⟨ret_int (by rw [HK.out]), rfl⟩
    · have hkl : k < ordN x := by
        apply Classical.byContradiction
        intro hk
        exact hp ((show k = ordN x by omega) ▸ HO.out)
      have hne : ((pm x k : Nat) : Int) ≠ 1 := by omega
      have e1 : (((pm x k : Nat) : Int) == 1) = false := by simpa using hne
      have e2 : (((pm x k : Nat) : Int) != 1) = true := by simpa using hne
      clear hp hne
      go_wp2_with fail
      refine (raise_any x k _ h1 (by omega)).mono ?_
      rintro e w' ⟨rfl, rfl⟩
      go_wp2
      go_round
      case rel => exact ⟨k + 1, by omega, by omega, by go_num⟩
      case measure => simp [intOf]; omega

set_option maxHeartbeats 2000000 in
theorem root_any (n : Nat) (w : World) (h0 : 0 < n) (h1 : n < 97) (hd : 96 % n = 0) :
    Calls Tryz.prog 58 #[.int .i64 n] w fun e w' => e = .returned (.int .i64 (rtN n : Nat)) ∧ w = w' := by
  obtain ⟨ha, hb, hc⟩ := rt_facts n h1 h0 hd
  have HL := Lib.hid (rt_least n h1 h0 hd)
  have HC := Lib.hid hc
  clear hc hd
  go_enter Tryz.func58, Tryz.ntmps58
  go_wp2
  go_loop [3] (fun i => ∃ x : Nat, 1 ≤ x ∧ x ≤ rtN n ∧ i = .int .i64 x) (fun i => rtN n - (intOf i).toNat)
  case atStart => exact ⟨1, by omega, by omega, rfl⟩
  case round =>
    obtain ⟨x, hx0, hx1, rfl⟩ := hrel
    by_cases he : x = rtN n
    · have HX : Hid (ordN x = n) := by show ordN x = n; rw [he]; exact HC.out
      have HE := Lib.hid he
      have e1 : ((n : Int) == (n : Int)) = true := by simp
      have e2 : ((n : Int) != (n : Int)) = false := by simp
      clear he
      go_wp2_with fail
      refine (order_any x _ hx0 (by omega)).mono ?_
      rintro e w' ⟨rfl, rfl⟩
      rw [HX.out]
      go_wp2
      go_ret
      exact ⟨ret_int (by rw [HE.out]), rfl⟩
    · have hlt : x < rtN n := by omega
      have hne := HL.out x hlt hx0
      obtain ⟨o, ho⟩ : ∃ o, ordN x = o := ⟨_, rfl⟩
      have HO := Lib.hid ho
      rw [ho] at hne
      have e1 : ((o : Int) == (n : Int)) = false := by rw [beq_eq_false_iff_ne]; omega
      have e2 : ((o : Int) != (n : Int)) = true := by rw [bne_iff_ne]; omega
      clear he hne ho
      go_wp2_with fail
      refine (order_any x _ hx0 (by omega)).mono ?_
      rintro e w' ⟨rfl, rfl⟩
      rw [HO.out]
      go_wp2
      go_round
      case rel => exact ⟨x + 1, by omega, by omega, by go_num⟩
      case measure => simp [intOf]; omega

end Go.Proofs.YtagncoahobghpacGreatDoor

namespace Go.Proofs.YtagncoahobghpacGreatDoor
open Go.RowKit
set_option linter.unusedVariables false

/-- The wave by the inverse root on the way to the rests: k numbers are taken times z. -/
def tmW (G : Nat → Int) (z : Int) (k j : Nat) : Int := upto k (fun j => G j * z % 97) G j
theorem tmW_set (n k : Nat) (G : Nat → Int) (z : Int) : (tab n (tmW G z k)).set k (G k * z % 97) = tab n (tmW G z (k + 1)) := upto_set n k (fun j => G j * z % 97) G
theorem tmW_at (k : Nat) (G : Nat → Int) (z : Int) : tmW G z k k = G k := upto_at k _ G
structure UwI (E : Nat) (w wr : World) (g c gi n k : Nat) (G : Nat → Int) (z : Int) : Prop where
  own : Own E w.heap.size wr (.slice (some ⟨g, 0, none⟩) n c) (tab n (tmW G z k))
  inv : wr.cell? ⟨gi, 0, none⟩ = some (.int .i64 z)
  size : gi < wr.heap.size
  bel : Below w.heap.size w wr
theorem UwI.call {E : Nat} {w wr w1 : World} {g c gi n k : Nat} {G : Nat → Int} {z : Int} (h : UwI E w wr g c gi n k G z) (b : Below wr.heap.size wr w1) : UwI E w w1 g c gi n k G z :=
  ⟨h.own.below b (Nat.le_refl _), by rw [b.cell (p := ⟨gi, 0, none⟩) h.size]; exact h.inv, Nat.lt_of_lt_of_le h.size b.size, bel_nxt h.bel b⟩
theorem UwI.drew {E : Nat} {w wr : World} {g c gi n k : Nat} {G : Nat → Int} {z : Int} (h : UwI E w wr g c gi n k G z) : UwI E w wr.drew g c gi n k G z := ⟨h.own.drew, h.inv, h.size, below_drewN h.bel 1⟩
theorem UwI.cell {E : Nat} {w wr : World} {g c gi n k : Nat} {G : Nat → Int} {z : Int} (h : UwI E w wr g c gi n k G z) (hk : k < n) : wr.cell? ⟨g, k, none⟩ = some (.int .i64 (G k)) := by
  have := h.own.cell k (by simpa using hk)
  rw [ix_tab _ _ _ hk, tmW_at] at this
  exact this
theorem UwI.set {E : Nat} {w wr : World} {g c gi n k : Nat} {G : Nat → Int} {z : Int} (h : UwI E w wr g c gi n k G z) (hg : g ≠ gi) (hw : w.heap.size ≤ g) : UwI E w (wr.setCell ⟨g, k, none⟩ (.int .i64 (G k * z % 97))) g c gi n (k + 1) G z := by
  have ho := h.own.set k (G k * z % 97)
  rw [tmW_set] at ho
  exact ⟨ho, by rw [cell_else wr _ (k := gi) (fun e => hg e.symm)]; exact h.inv, by simpa [World.setCell] using h.size, h.bel.setCell hw _⟩

def unwF (xs : List Int) : List Int := if vsB xs = true then unwaveR xs else []
theorem unwF_yes {xs : List Int} (h : vsB xs = true) : unwF xs = unwaveR xs := by unfold unwF; exact if_pos h
theorem unwF_no {xs : List Int} (h : vsB xs = false) : unwF xs = [] := by unfold unwF; exact if_neg (by simp [h])

end Go.Proofs.YtagncoahobghpacGreatDoor

namespace Go.Proofs.YtagncoahobghpacGreatDoor
open Go.RowKit
set_option linter.unusedVariables false

def sprA (xs : List Int) : Int := if vsB xs = true then someN xs else -1
def sprB (xs : List Int) : Int := if vsB xs = true then someN (waveR xs) else -1
/-- What a call leaves that hands back two ints and turns nothing that was there. -/
def Twos (y z : Int) (w : World) (e : Ending) (w' : World) : Prop := e = .returned (.tuple #[.int .i64 y, .int .i64 z]) ∧ Below w.heap.size w w'
theorem ret_two {a b c d : Int} (h : a = c) (h' : b = d) : Ending.returned (.tuple #[.int .i64 a, .int .i64 b]) = .returned (.tuple #[.int .i64 c, .int .i64 d]) := by rw [h, h']

/-- The sum behind m of the powers. -/
def sqW (k m : Nat) : Nat := (List.range m).foldl (fun s i => (s + pm (pm (pm (rtN 16) i) i) k) % 97) 0
theorem sqW_next (k m : Nat) : ((sqW k (m + 1) : Nat) : Int) = ((sqW k m : Nat) + (pm (pm (pm (rtN 16) m) m) k : Nat) : Int) % 97 := by
  have e : sqW k (m + 1) = (sqW k m + pm (pm (pm (rtN 16) m) m) k) % 97 := by unfold sqW; rw [List.range_succ, List.foldl_append]; rfl
  rw [e, Int.natCast_emod, Int.natCast_add]; rfl
theorem sqW_lt (k m : Nat) : sqW k m < 97 := by
  cases m with
  | zero => exact (by decide : 0 < 97)
  | succ m => unfold sqW; rw [List.range_succ, List.foldl_append]; exact Nat.mod_lt _ (by decide)
set_option maxRecDepth 8000 in
theorem sqW_all : ∀ k, k < 16 → sqW k 16 = sqsN k := by decide +kernel
def sqF (k : Int) : Int := if 0 ≤ k ∧ k ≤ 15 then (sqsN k.toNat : Nat) else -1
theorem sqF_yes {k : Nat} (h : k ≤ 15) : sqF k = (sqsN k : Nat) := by unfold sqF; rw [if_pos (by omega), Int.toNat_natCast]
theorem sqF_no {k : Int} (h : ¬ (0 ≤ k ∧ k ≤ 15)) : sqF k = -1 := by unfold sqF; exact if_neg h
theorem rd_lit3 (w : World) (x y z : Int) (E k : Nat) (hk : w.heap.size = k) : Rd (w.alloc (.cells #[.int .i64 x, .int .i64 y, .int .i64 z] E)) (.slice (some ⟨k, 0, none⟩) 3 3) [x, y, z] := by
  subst hk
  refine ⟨_, 3, rfl, .inr ⟨_, _, rfl, by simp, fun j hj => ?_⟩⟩
  rw [World.cell?_alloc_at _ _ _ _ rfl]
  match j, hj with
  | 0, _ => rfl
  | 1, _ => rfl
  | 2, _ => rfl
theorem power_three (x i j k : Nat) (v : Value) (w : World) (h : Rd w v [(i : Int), (j : Int), (k : Int)]) (hx : x < 97) (hi : i ≤ 96) (hj : j ≤ 96) (hk : k ≤ 96) :
    Calls Tryz.prog 112 #[.agg #[.int .i64 x], v] w (Rests (pm (pm (pm x i) j) k : Nat) w) := by
  refine restPow_any x _ v w h hx (by simp) ?_
  intro m hm
  match m, hm with
  | 0, _ => exact ⟨by show 0 ≤ (i : Int); omega, by show (i : Int) ≤ 96; omega⟩
  | 1, _ => exact ⟨by show 0 ≤ (j : Int); omega, by show (j : Int) ≤ 96; omega⟩
  | 2, _ => exact ⟨by show 0 ≤ (k : Int); omega, by show (k : Int) ≤ 96; omega⟩

end Go.Proofs.YtagncoahobghpacGreatDoor

namespace Go.Proofs.YtagncoahobghpacGreatDoor
open Go.RowKit
set_option linter.unusedVariables false

set_option maxHeartbeats 2000000 in
theorem specvalidRests_any (v : Value) (xs : List Int) (w : World) (h : Rd w v xs) (hl : xs.length ≤ maxLen) :
    Calls Tryz.prog 35 #[v] w fun e w' => e = .returned (.bool (vsB xs)) ∧ w = w' := by
  unfold maxLen at hl
  obtain ⟨a, cap, rfl, h⟩ := h
  rcases h with rfl | ⟨b, off, rfl, hb, hc⟩
  · have hin := inR_no (n := 0) (lo := 1) (hi := 96) (by omega)
    have hno := Lib.hid (vsB_no_div (xs := ([] : List Int)) (fun q => absurd q.1 (by simp)))
    go_enter Tryz.func35, Tryz.ntmps35
    go_wp2
    refine wp_loop_rounds 1 ?_
    rw [rounds_succ]
    go_wp2_with fail
    refine (inRange_any _ _ _ _).mono ?_
    rintro e w' ⟨rfl, rfl⟩
    rw [hin]
    clear hin
    go_wp2
    go_ret
    exact ⟨ret_bool hno.out.symm, rfl⟩
  · go_enter Tryz.func35, Tryz.ntmps35
    go_wp2
    go_loop [3] (fun i => ∃ k : Nat, k ≤ xs.length ∧ i = .int .i64 k ∧ Hid (∀ j, j < k → 0 ≤ ix xs j ∧ ix xs j ≤ 96)) (fun i => xs.length - (intOf i).toNat)
    case atStart => exact ⟨0, Nat.zero_le _, rfl, fun j hj => absurd hj (Nat.not_lt_zero j)⟩
    case round =>
      obtain ⟨k, hk, rfl, hok⟩ := hrel
      by_cases hlt : k < xs.length
      · have hck := hc k hlt
        have hki : (0 : Int) ≤ (k : Int) := by omega
        have hkj : (k : Int) < (xs.length : Int) := by omega
        clear hc
        by_cases h1 : 0 ≤ ix xs k ∧ ix xs k ≤ 96
        · have hin := inR_yes h1
          go_wp2_with fail
          refine (inRange_any _ _ _ _).mono ?_
          rintro e w' ⟨rfl, rfl⟩
          rw [hin]
          clear hin
          go_wp2
          go_round
          case rel =>
            refine ⟨k + 1, by omega, by go_num, fun j hj => ?_⟩
            by_cases e : j = k
            · subst e; exact h1
            · exact hok.out j (by omega)
          case measure => simp [intOf]; omega
        · have hin := inR_no h1
          have hno := Lib.hid (vsB_no_at k hlt h1)
          clear h1
          go_wp2_with fail
          refine (inRange_any _ _ _ _).mono ?_
          rintro e w' ⟨rfl, rfl⟩
          rw [hin]
          clear hin
          go_wp2
          go_ret
          exact ⟨ret_bool hno.out.symm, rfl⟩
      · have hkl : k = xs.length := by omega
        subst hkl
        by_cases hr : 1 ≤ xs.length ∧ xs.length ≤ 96
        · have hin := inR_yes (n := (xs.length : Int)) (lo := 1) (hi := 96) (by omega)
          have e0 : ((xs.length : Int) == 0) = false := by rw [beq_eq_false_iff_ne]; omega
          have hpos : 0 < xs.length := by omega
          have hposi : (0 : Int) < (xs.length : Int) := by omega
          by_cases hd : 96 % xs.length = 0
          · have hyes := Lib.hid (vsB_yes hok.out hpos hd)
            have e1 : ((96 : Int) % (xs.length : Int) == 0) = true := by rw [mod96, hd]; rfl
            have e2 : ((96 : Int) % (xs.length : Int) != 0) = false := by rw [mod96, hd]; rfl
            clear hd hr hc
            go_wp2_with fail
            refine (inRange_any _ _ _ _).mono ?_
            rintro e w' ⟨rfl, rfl⟩
            rw [hin]
            clear hin
            go_wp2
            go_ret
            exact ⟨ret_bool hyes.out.symm, rfl⟩
          · have hno := Lib.hid (vsB_no_div (xs := xs) (fun q => hd q.2))
            have e1 : ((96 : Int) % (xs.length : Int) == 0) = false := by rw [mod96, beq_eq_false_iff_ne]; omega
            have e2 : ((96 : Int) % (xs.length : Int) != 0) = true := by rw [mod96, bne_iff_ne]; omega
            clear hd hr hc
            go_wp2_with fail
            refine (inRange_any _ _ _ _).mono ?_
            rintro e w' ⟨rfl, rfl⟩
            rw [hin]
            clear hin
            go_wp2
            go_ret
            exact ⟨ret_bool hno.out.symm, rfl⟩
        · have hin := inR_no (n := (xs.length : Int)) (lo := 1) (hi := 96) (by omega)
          have hno : Hid (vsB xs = false) := by
            show vsB xs = false
            cases hb : vsB xs with
            | false => rfl
            | true => have q := (vsB_iff xs).1 hb; have := q.some; have := q.few; exact absurd (by omega) hr
          clear hr hc
          go_wp2_with fail
          refine (inRange_any _ _ _ _).mono ?_
          rintro e w' ⟨rfl, rfl⟩
          rw [hin]
          clear hin
          go_wp2
          go_ret
          exact ⟨ret_bool hno.out.symm, rfl⟩

/-- The sum over the first i, a rest. -/
def wsN (F : Nat → Int) (r n k i : Nat) : Int := sumN (fun i => F i * pw (r : Int) (i * k)) i % 97
theorem wsN_bd (F : Nat → Int) (r n k i : Nat) : 0 ≤ wsN F r n k i ∧ wsN F r n k i ≤ 96 := by unfold wsN; omega
theorem wsN_step (F : Nat → Int) {r n : Nat} (h : IsRt (r : Int) n) (k i : Nat) : wsN F r n k (i + 1) = (wsN F r n k i + F i * (pm r (i * k % n) : Nat)) % 97 := by
  unfold wsN
  have e : (F i * ((pm r (i * k % n) : Nat) : Int)) % 97 = (F i * pw (r : Int) (i * k)) % 97 := c_mulC rfl (by rw [pm_pw, Int.emod_emod_of_dvd _ (Int.dvd_refl 97)]; exact h.mod (i * k))
  rw [sumN]
  omega

set_option maxHeartbeats 8000000 in
theorem specwave_any (v : Value) (xs : List Int) (r : Nat) (w : World) (h : Rd w v xs) (hr97 : r < 97) (hrt : IsRt (r : Int) xs.length) (hl : xs.length ≤ 96) (hr : ∀ j, j < xs.length → 0 ≤ ix xs j ∧ ix xs j ≤ 96) :
    Calls Tryz.prog 57 #[v, .int .i64 r] w (Made 3 w (waveL xs r)) := by
  have hn := hrt.1
  obtain ⟨a, cap, rfl, h⟩ := h
  rcases h with rfl | ⟨b, off, rfl, hb, hc⟩
  · simp at hn
  obtain ⟨n, hnn⟩ : ∃ n, n = xs.length := ⟨_, rfl⟩
  obtain ⟨F, hF⟩ : ∃ F, F = ix xs := ⟨_, rfl⟩
  have HW := Lib.hid (show waveL xs r = tab n (fun j => wvE F r n j % 97) by rw [hnn, hF]; rfl)
  rw [← hF, ← hnn] at hc hr
  rw [← hnn] at hn hl hrt ⊢
  have HRT := Lib.hid hrt
  clear hF hnn hrt
  have e0 : ((n : Int) == 0) = false := by rw [beq_eq_false_iff_ne]; omega
  go_enter Tryz.func57, Tryz.ntmps57
  go_wp2
  go_loopw [5, 6] (fun v i wr => ∃ (k : Nat) (ga : Option Addr) (ca : Nat), k ≤ n ∧ v = .slice ga k ca ∧ i = .int .i64 k ∧ Own 3 w.heap.size wr (.slice ga k ca) (tab k fun j => wvE F r n j % 97) ∧ Below w.heap.size w wr) (fun _ i _ => n - (intOf i).toNat)
  case atStart => exact ⟨0, _, _, Nat.zero_le _, rfl, rfl, own_empty _ _ _ (Nat.le_refl _), (Below.refl _ _).alloc (Nat.le_refl _) _⟩
  case round =>
    obtain ⟨k, ga, ca, hk, rfl, rfl, hO, hB⟩ := hrel
    by_cases hlt : k < n
    · go_wp2
      go_loopw [7, 8] (fun s i wr => ∃ q : Nat, q ≤ n ∧ i = .int .i64 q ∧ s = .int .i64 (wsN F r n k q) ∧ Own 3 w.heap.size wr (.slice ga k ca) (tab k fun j => wvE F r n j % 97) ∧ Below w.heap.size w wr) (fun _ i _ => n - (intOf i).toNat)
      case atStart => exact ⟨0, Nat.zero_le _, rfl, rfl, hO, hB⟩
      case round =>
        obtain ⟨q, hq, rfl, rfl, hOq, hBq⟩ := hrel
        clear hO hB
        by_cases hql : q < n
        · have hcx : wr.cell? ⟨b, off + q, none⟩ = some (.int .i64 (F q)) := (hBq.cell (by exact hb)).trans (hc q hql)
          obtain ⟨hf0, hf1⟩ := hr q hql
          obtain ⟨hs0, hs1⟩ := wsN_bd F r n k q
          have HST := Lib.hid (wsN_step F HRT.out k q)
          have hi1 : (0 : Int) ≤ (q : Int) := by omega
          have hi2 : (q : Int) < (n : Int) := by omega
          obtain ⟨d, hd⟩ : ∃ d, d = q * k := ⟨_, rfl⟩
          have hd1 : d ≤ 96 * 96 := by rw [hd]; exact Nat.mul_le_mul (by omega) (by omega)
          obtain ⟨e, he⟩ : ∃ e, e = d % n := ⟨_, rfl⟩
          have he1 : e ≤ 96 := by have := Nat.mod_lt d hn; omega
          have hpl := pm_lt r e
          obtain ⟨p, hp⟩ : ∃ p, p = pm r e := ⟨_, rfl⟩
          rw [← hp] at hpl
          obtain ⟨f, hf⟩ : ∃ f, f = F q := ⟨_, rfl⟩
          rw [← hf] at hcx hf0 hf1
          obtain ⟨s, hs⟩ : ∃ s, s = wsN F r n k q := ⟨_, rfl⟩
          rw [← hs] at hs0 hs1
          have hfp0 : 0 ≤ f * (p : Int) := Int.mul_nonneg hf0 (by omega)
          have hfp1 : f * (p : Int) ≤ 96 * 96 := Int.mul_le_mul hf1 (by omega) (by omega) (by omega)
          obtain ⟨t, ht⟩ : ∃ t, t = s + f * (p : Int) := ⟨_, rfl⟩
          have HR := Lib.hid fun w => raise_any r e w hr97 (by omega)
          have HM := Lib.hid fun w => mod_any t w (by omega) (by omega)
          rw [← hp] at HR
          have HE : Hid (t % 97 = wsN F r n k (q + 1)) := by show _ = _; rw [HST.out, ht, hs, hp, hf, he, hd]
          have j1 : IntKind.i64.wrap ((q : Int) * (k : Int)) = (d : Int) := by rw [← Int.natCast_mul, ← hd]; exact IntWalk.i64_in _ (by omega)
          have j2 : Int.tmod (d : Int) (n : Int) = (e : Int) := by rw [Int.tmod_eq_emod_of_nonneg (by omega), ← Int.natCast_emod, ← he]
          have j3 : IntKind.i64.wrap (f * (p : Int)) = f * (p : Int) := IntWalk.i64_in _ (by omega)
          have j4 : IntKind.i64.wrap (s + f * (p : Int)) = t := by rw [← ht]; exact IntWalk.i64_in _ (by omega)
          have HS := Lib.hid hs
          rw [← hs]
          clear HST hd he hp hf hs ht hc hr hfp0 hfp1
          go_wp2
          go_quiet ((first | (go_at_call 81; exact Calls.quiet_of_same ((HR.out _).mono fun _ _ ⟨h1, h2⟩ => ⟨h1, h2.symm⟩)) | (go_at_call 80; exact Calls.quiet_of_same ((HM.out _).mono fun _ _ ⟨h1, h2⟩ => ⟨h1, h2.symm⟩))))
          rw [HE.out]
          clear j1 j2 j3 j4
          go_wp2
          go_roundw
          case rel => exact ⟨q + 1, by omega, by go_num, rfl, hOq, below_drewN hBq _⟩
          case measure => simp [intOf]; omega
        · obtain rfl : q = n := by omega
          have hbd := wsN_bd F r q k q
          go_wp2_with (at_builtin; refine app_int rfl _ _ 35 rfl w.heap.size 3 Tryz.underlying35 infoInt _ _ rfl (hOq.grow _) ⟨wr.heap.size, 0, none⟩ rfl (wsN F r q k q) ?c1 ?c2 ?c3 ?_)
          case c1 => exact cell_new1 _ _ _
          case c2 => simp; omega
          case c3 => have := hBq.size; simp; omega
          intro v' w1 hO' hg'
          have hB' := app_below hBq hOq hg'
          have hO2 : Own 3 w.heap.size w1 v' (tab (k + 1) fun j => wvE F r q j % 97) := by rw [← tab_snoc k _ _ rfl]; exact hO'
          obtain ⟨ga', ca', rfl⟩ := own_sl hO2
          rw [len_tab] at hO2 ⊢
          clear hOq hBq hO' hg' hc hr
          go_wp2
          go_roundw
          case rel => exact ⟨k + 1, ga', ca', by omega, rfl, by go_num, hO2, hB'⟩
          case measure => simp [intOf]; omega
    · obtain rfl : k = n := by omega
      rw [← HW.out] at hO
      have HO := Lib.hid hO
      clear hO hc hr
      go_wp2
      go_ret
      exact ⟨_, rfl, HO.out, hB⟩

end Go.Proofs.YtagncoahobghpacGreatDoor

namespace Go.Proofs.YtagncoahobghpacGreatDoor
open Go.RowKit
set_option linter.unusedVariables false

set_option maxHeartbeats 2000000 in
theorem specWaveOf_any (v : Value) (xs : List Int) (w : World) (h : Rd w v xs) (hl : xs.length ≤ maxLen) :
    Calls Tryz.prog 36 #[v] w (Made 3 w (waveF xs)) := by
  have hv := specvalidRests_any v xs w h hl
  cases hb : vsB xs with
  | true =>
    rw [hb] at hv
    have hV := (vsB_iff xs).1 hb
    obtain ⟨hn0, hn1, hdv⟩ : 0 < xs.length ∧ xs.length ≤ 96 ∧ 96 % xs.length = 0 := ⟨hV.some, hV.few, hV.div⟩
    have HF := Lib.hid (show waveF xs = waveL xs (rtN xs.length) from waveF_yes hb)
    have HR := Lib.hid fun w => root_any xs.length w hn0 (by omega) hdv
    have HW := Lib.hid (specwave_any v xs (rtN xs.length) w h (rt_bd hn0 hn1 hdv).2 hV.rt hn1 hV.rest)
    obtain ⟨a, cap, rfl, -⟩ := h
    clear hb hV hdv
    go_enter Tryz.func36, Tryz.ntmps36
    go_wp2_with fail
    refine hv.mono ?_
    rintro e w1 ⟨rfl, rfl⟩
    go_wp2_with fail
    refine (HR.out _).mono ?_
    rintro e w1 ⟨rfl, rfl⟩
    go_wp2_with fail
    refine HW.out.mono ?_
    rintro e w2 ⟨g, rfl, o2, b2⟩
    go_wp2
    go_ret
    exact ⟨_, rfl, by rw [HF.out]; exact o2, b2⟩
  | false =>
    rw [hb] at hv
    have HF := Lib.hid (waveF_no hb)
    clear hb
    go_enter Tryz.func36, Tryz.ntmps36
    go_wp2_with fail
    refine hv.mono ?_
    rintro e w1 ⟨rfl, rfl⟩
    go_wp2
    go_ret
    exact ⟨_, rfl, by rw [HF.out]; exact Own.nil _ _ _, Below.refl _ _⟩

/-- The model's sum behind m of the powers. -/
def sqV (k m : Nat) : Nat := (List.range m).foldl (fun s i => (s + pm (rtN 16) (i * i * k % 16)) % 97) 0
theorem sqV_next (k m : Nat) : ((sqV k (m + 1) : Nat) : Int) = ((sqV k m : Nat) + (pm (rtN 16) (m * m * k % 16) : Nat) : Int) % 97 := by
  have e : sqV k (m + 1) = (sqV k m + pm (rtN 16) (m * m * k % 16)) % 97 := by unfold sqV; rw [List.range_succ, List.foldl_append]; rfl
  rw [e, Int.natCast_emod, Int.natCast_add]; rfl
theorem sqV_lt (k m : Nat) : sqV k m < 97 := by
  cases m with
  | zero => exact (by decide : 0 < 97)
  | succ m => unfold sqV; rw [List.range_succ, List.foldl_append]; exact Nat.mod_lt _ (by decide)

end Go.Proofs.YtagncoahobghpacGreatDoor
