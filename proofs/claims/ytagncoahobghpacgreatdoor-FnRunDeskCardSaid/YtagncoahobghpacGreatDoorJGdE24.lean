/-
  Joined texts: WvB, WvO, HvM.
-/
import Derived.Test.YtagncoahobghpacGreatDoorJGdE23
import Derived.Deep.RegionHeld3
import Derived.Deep.RegionWith
import Derived.Test.YtagncoahobghpacGreatDoorMa1
namespace Go.Proofs.YtagncoahobghpacGreatDoor
open Go.RowKit
set_option linter.unusedVariables false

/-- What waveBy carries round: the wave so far, the root's block. -/
structure WbI (E : Nat) (w wr : World) (n k p : Nat) (F : Nat → Int) (r : Nat) : Prop where
  own : Own E (w.heap.size + 1) wr (.slice (some ⟨w.heap.size + 1, 0, none⟩) n n) (tab n (wvW F r n k p))
  root : wr.cell? ⟨w.heap.size, 0, none⟩ = some (.int .i64 r)
  size : w.heap.size + 1 < wr.heap.size
  bel : Below w.heap.size w wr
theorem WbI.call {E : Nat} {w wr w1 : World} {n k p : Nat} {F : Nat → Int} {r : Nat} (h : WbI E w wr n k p F r) (b : Below wr.heap.size wr w1) : WbI E w w1 n k p F r := by
  have hs := h.size
  refine ⟨h.own.below b (Nat.le_refl _), ?_, Nat.lt_of_lt_of_le hs b.size, bel_nxt h.bel b⟩
  rw [b.cell (p := ⟨w.heap.size, 0, none⟩) (by show w.heap.size < _; omega)]; exact h.root
theorem WbI.alloc {E : Nat} {w wr : World} {n k p : Nat} {F : Nat → Int} {r : Nat} (h : WbI E w wr n k p F r) (o : Obj) : WbI E w (wr.alloc o) n k p F r := h.call ((Below.refl _ _).alloc (Nat.le_refl _) _)
theorem WbI.drew {E : Nat} {w wr : World} {n k p : Nat} {F : Nat → Int} {r : Nat} (h : WbI E w wr n k p F r) : WbI E w wr.drew n k p F r := ⟨h.own.drew, h.root, h.size, below_drewN h.bel 1⟩
theorem WbI.cell {E : Nat} {w wr : World} {n k p : Nat} {F : Nat → Int} {r : Nat} (h : WbI E w wr n k p F r) (hk : k < n) : wr.cell? ⟨w.heap.size + 1, k, none⟩ = some (.int .i64 (hrn F (pm r k : Nat) n p)) := by
  have := h.own.cell k (by simpa using hk)
  rw [ix_tab _ _ _ hk, wvW_at] at this
  exact this
theorem WbI.set {E : Nat} {w wr : World} {n k p : Nat} {F : Nat → Int} {r : Nat} (h : WbI E w wr n k p F r) (q : Nat) : WbI E w (wr.setCell ⟨w.heap.size + 1, k, none⟩ (.int .i64 (hrn F (pm r k : Nat) n q))) n k q F r := by
  have hs := h.size
  have ho := h.own.set k (hrn F (pm r k : Nat) n q)
  rw [wvW_set] at ho
  refine ⟨ho, ?_, by simpa [World.setCell] using hs, h.bel.setCell (by show w.heap.size ≤ w.heap.size + 1; omega) _⟩
  rw [cell_else wr _ (k := w.heap.size) (by show w.heap.size ≠ w.heap.size + 1; omega)]; exact h.root
theorem WbI.next {E : Nat} {w wr : World} {n k : Nat} {F : Nat → Int} {r : Nat} (h : WbI E w wr n k 0 F r) : WbI E w wr n (k + 1) n F r := by
  have ho := h.own
  rw [wvW_next] at ho
  exact ⟨ho, h.root, h.size, h.bel⟩

set_option maxHeartbeats 8000000 in
theorem waveBy_any (r : Nat) (v : Value) (xs : List Int) (w : World) (h : Rd w v xs) (hr97 : r < 97) (hn : 0 < xs.length) (hl : xs.length ≤ 96) (hr : ∀ j, j < xs.length → 0 ≤ ix xs j ∧ ix xs j ≤ 96) :
    Calls Tryz.prog 93 #[.agg #[.int .i64 r], v] w (Made 115 w (waveL xs r)) := by
  obtain ⟨a, cap, rfl, h⟩ := h
  obtain ⟨i0, hi, hz0, hz1, hz2⟩ := info_parts infoRest
  rcases h with rfl | ⟨b, off, rfl, hb, hc⟩
  · simp at hn
  obtain ⟨n, hnn⟩ : ∃ n, n = xs.length := ⟨_, rfl⟩
  obtain ⟨F, hF⟩ : ∃ F, F = ix xs := ⟨_, rfl⟩
  have HW := Lib.hid (show waveL xs r = tab n (fun j => wvE F r n j % 97) by rw [hnn, hF]; rfl)
  rw [← hF, ← hnn] at hc hr
  rw [← hnn] at hn hl ⊢
  clear hF hnn
  go_enter Tryz.func93, Tryz.ntmps93
  go_wp2_with (at_make; refine wpList_make_full _ rfl _ _ 118 rfl (w.heap.size + 1) 115 i0 (.agg #[.int .i64 0]) 1 Tryz.underlying118 hi hz0 hz1 _ _ _ _ n rfl rfl rfl rfl ?c1 ?c2 ?c3 ?_)
  case c1 => rw [hz2]; omega
  case c2 => unfold maxLen; omega
  case c3 => simp
  intro w1 hown hgrow
  have hO := own_made hown
  have hB := ((Below.refl w.heap.size w).alloc (Nat.le_refl _) (.cells #[.int .i64 r] 115)).grown hgrow (by simp) (by simp)
  have hI : WbI 115 w w1 n 0 n F r := by
    refine ⟨?_, ?_, ?_, hB⟩
    · rw [tab_congr (g := fun _ => 0) (fun j _ => wvW_start F r n j)]
      exact hO
    · have e := (hgrow.cell (a := ⟨w.heap.size, 0, none⟩) (cell_new1 w _ _) (by simp))
      exact e
    · have := World.ownsRow.lt hO (w.heap.size + 1) (by simp [Value.ownBlock])
      exact this.2
  clear hown hgrow hi hz0 hz1 hz2 hO hB
  go_wp2
  go_loopw [14] (fun i wr => ∃ k : Nat, k ≤ n ∧ i = .int .i64 k ∧ WbI 115 w wr n k n F r) (fun i _ => n - (intOf i).toNat)
  case atStart => exact ⟨0, Nat.zero_le _, rfl, hI⟩
  case round =>
    obtain ⟨k, hk, rfl, hJ⟩ := hrel
    by_cases hlt : k < n
    · have HJ := Lib.hid hJ
      have hroot := hJ.root
      have hJs := hJ.size
      clear hI hJ
      go_wp2_with fail
      refine (power_one r k _ _ (rd_lit1 _ _ _ _ rfl) hr97 (by omega)).mono ?_
      rintro e w2 ⟨rfl, b2⟩
      have hK := (HJ.out.alloc (.cells #[.int .i64 k] 3)).call b2
      have hs2 := hK.size
      obtain ⟨gs, hgs⟩ : ∃ gs, gs = w2.heap.size := ⟨_, rfl⟩
      have hgl : w.heap.size + 1 < gs := by omega
      have HGS := Lib.hid hgs
      have hst := cell_new1 w2 (.int .i64 (pm r k : Nat)) 115
      have hsz : gs < (w2.alloc (.cells #[.int .i64 (pm r k : Nat)] 115)).heap.size := by rw [hgs]; simp
      rw [← hgs] at hst
      have hL := hK.alloc (.cells #[.int .i64 (pm r k : Nat)] 115)
      have hpl := pm_lt r k
      have hpl1 : 0 ≤ ((pm r k : Nat) : Int) ∧ ((pm r k : Nat) : Int) ≤ 96 := by omega
      obtain ⟨s, hs⟩ : ∃ s, pm r k = s := ⟨_, rfl⟩
      have HS := Lib.hid hs
      clear hgs hK hroot hJs hs2 b2 hs
      go_wp2
      rw [← HGS.out]
      go_loopw [8] (fun i wr => ∃ p : Nat, p ≤ n ∧ i = .int .i64 ((p : Int) - 1) ∧ WbI 115 w wr n k p F r ∧ wr.cell? ⟨gs, 0, none⟩ = some (.int .i64 (pm r k : Nat)) ∧ gs < wr.heap.size) (fun i _ => (intOf i + 1).toNat)
      case atStart => exact ⟨n, by omega, rfl, hL, hst, hsz⟩
      case round =>
        obtain ⟨p, hp, rfl, hM, hsc, hss⟩ := hrel
        clear hL hst hsz
        by_cases hp0 : 0 < p
        · obtain ⟨q, rfl⟩ : ∃ q, p = q + 1 := ⟨p - 1, by omega⟩
          have hqn : q < n := by omega
          have hcx : wr.cell? ⟨b, off + q, none⟩ = some (.int .i64 (F q)) := (hM.bel.cell (by exact hb)).trans (hc q hqn)
          have hcw := hM.cell hlt
          have hfw := hM.own.frozen k
          have hrq := hr q hqn
          have hbd := hrn_bd F (pm r k : Nat) n (q + 1)
          have HST := Lib.hid ((hrn_step F (pm r k : Nat) hqn).trans (c_addL _ _))
          have HT := Lib.hid (hM.set q)
          have hMD := hM.drew
          obtain ⟨h0, hh0⟩ : ∃ h, h = hrn F (pm r k : Nat) n (q + 1) := ⟨_, rfl⟩
          rw [← hh0] at hcw hbd HST
          have hbs : b < wr.heap.size := by have := hM.bel.size; omega
          have i1 : ((q + 1 : Nat) : Int) - 1 = (q : Int) := by omega
          have i2 : (0 : Int) ≤ (q : Int) := by omega
          have i3 : (q : Int) < (n : Int) := by omega
          clear hh0 hc hr hp0
          rw [i1]
          clear i1
          obtain ⟨z, hz⟩ : ∃ z : Nat, z = pm r k := ⟨_, rfl⟩
          obtain ⟨y, hy⟩ : ∃ y, y = F q := ⟨_, rfl⟩
          have HZ := Lib.hid hz
          rw [← hz] at hsc
          rw [← hy] at hcx hrq HST
          have hz0 : 0 ≤ (z : Int) ∧ (z : Int) ≤ 96 := by rw [hz]; exact hpl1
          have hm0 : 0 ≤ h0 * (z : Int) % 97 ∧ h0 * (z : Int) % 97 ≤ 96 := by omega
          clear hz hy
          go_wp2
          have HMD := Lib.hid hMD
          clear hM HT hMD i2
          go_region_with
            (first
              | (go_at_call 113; refine (times_any h0 z _ hbd hz0).mono ?_; rintro e w3 ⟨rfl, b3⟩; have hsc := (b3.cell (p := ⟨gs, 0, none⟩) hss).trans hsc; have hcx := (b3.cell (p := ⟨b, off + q, none⟩) hbs).trans hcx; have hss := Nat.lt_of_lt_of_le hss b3.size; have hbs := Nat.lt_of_lt_of_le hbs b3.size; have HMD := Lib.hid (HMD.out.call b3))
              | (go_at_call 114; refine (plus_any _ y _ hm0 hrq).mono ?_; rintro e w4 ⟨rfl, b4⟩; have hsc := (b4.cell (p := ⟨gs, 0, none⟩) hss).trans hsc; have hcx := (b4.cell (p := ⟨b, off + q, none⟩) hbs).trans hcx; have hss := Nat.lt_of_lt_of_le hss b4.size; have hbs := Nat.lt_of_lt_of_le hbs b4.size; have hMD := HMD.out.call b4; have hcw := hMD.cell hlt; have hfw := hMD.own.frozen k))
          all_goals
            have HN := hMD.set q
            rw [HST.out, ← HZ.out] at HN
            have HN := Lib.hid HN
            have HC := Lib.hid ((cell_else w4 (a := ⟨w.heap.size + 1, k, none⟩) (.int .i64 ((h0 * (z : Int) + y) % 97)) (k := gs) (o := 0) (by show gs ≠ w.heap.size + 1; omega)).trans hsc)
            have hse : gs < (w4.setCell ⟨w.heap.size + 1, k, none⟩ (.int .i64 ((h0 * (z : Int) + y) % 97))).heap.size := by simpa [World.setCell] using hss
            clear hsc hcx hss hbs hMD hcw hfw
            go_wp2
            go_roundw
            case rel => exact ⟨q, by omega, rfl, HN.out, by rw [← HZ.out]; exact HC.out, hse⟩
            case measure => simp [intOf]
        · obtain rfl : p = 0 := by omega
          have HN := Lib.hid hM.next
          clear hM hsc hss
          go_wp2
          go_roundw
          case rel => exact ⟨k + 1, by omega, by go_num, HN.out⟩
          case measure => simp [intOf]; omega
    · obtain rfl : k = n := by omega
      have hO := hJ.own
      rw [wvW_all, ← HW.out] at hO
      have HO := Lib.hid (hO.mono (Nat.le_succ _))
      have hB := hJ.bel
      clear hJ hI hO
      go_wp2
      go_ret
      exact ⟨_, rfl, HO.out, hB⟩

end Go.Proofs.YtagncoahobghpacGreatDoor

namespace Go.Proofs.YtagncoahobghpacGreatDoor
open Go.RowKit
set_option linter.unusedVariables false

def waveF (xs : List Int) : List Int := if vsB xs = true then waveR xs else []
theorem waveF_yes {xs : List Int} (h : vsB xs = true) : waveF xs = waveR xs := by unfold waveF; exact if_pos h
theorem waveF_no {xs : List Int} (h : vsB xs = false) : waveF xs = [] := by unfold waveF; exact if_neg (by simp [h])
theorem vs_len96 {xs : List Int} (h : vsB xs = true) : xs.length ≤ 96 := ((vsB_iff xs).1 h).few
theorem rt_bd {n : Nat} (h0 : 0 < n) (h1 : n ≤ 96) (h2 : 96 % n = 0) : 0 < rtN n ∧ rtN n < 97 := ⟨(rt_facts n (by omega) h0 h2).1, (rt_facts n (by omega) h0 h2).2.1⟩
theorem rest_mod {x : Nat} (h : x < 97) : (x : Int) % 97 = (x : Int) := by omega
theorem waveL_rest (xs : List Int) (r : Nat) : ∀ j, j < (waveL xs r).length → 0 ≤ ix (waveL xs r) j ∧ ix (waveL xs r) j ≤ 96 := by
  intro j hj
  rw [len_waveL] at hj
  rw [ix_waveL _ _ hj]
  omega

set_option maxHeartbeats 4000000 in
theorem implWaveOf_any (v : Value) (xs : List Int) (w : World) (h : Rd w v xs) (hl : xs.length ≤ maxLen) :
    Calls Tryz.prog 64 #[v] w (Made 3 w (waveF xs)) := by
  have hv := implValidRests_any v xs w h hl
  cases hb : vsB xs with
  | true =>
    rw [hb] at hv
    have hV := (vsB_iff xs).1 hb
    obtain ⟨hn0, hn1, hdv⟩ : 0 < xs.length ∧ xs.length ≤ 96 ∧ 96 % xs.length = 0 := ⟨hV.some, hV.few, hV.div⟩
    have HR := Lib.hid (rootF_yes hn0 hn1 hdv)
    obtain ⟨hr0, hr1⟩ := rt_bd hn0 hn1 hdv
    have HM := Lib.hid (rest_mod hr1)
    have HF := Lib.hid (show waveF xs = waveL xs (rtN xs.length) from waveF_yes hb)
    have HA := Lib.hid fun w (v : Value) (h : Rd w v xs) => restsOf_any v xs w h hn0 hn1 hV.rest
    have HB := Lib.hid fun w (v : Value) (h : Rd w v xs) => waveBy_any (rtN xs.length) v xs w h hr1 hn0 hn1 hV.rest
    have HC := Lib.hid fun w (v : Value) (h : Rd w v (waveL xs (rtN xs.length))) => numbersOf_any v _ w h (by rw [len_waveL]; exact hn0) (by rw [len_waveL]; exact hn1)
    obtain ⟨r, hr⟩ : ∃ r, r = rtN xs.length := ⟨_, rfl⟩
    rw [← hr] at HR HM HF HB HC hr0 hr1
    have HH := Lib.hid h
    obtain ⟨a, cap, rfl, -⟩ := h
    clear hb hV hdv hr
    go_enter Tryz.func64, Tryz.ntmps64
    go_wp2_with fail
    refine hv.mono ?_
    rintro e w1 ⟨rfl, rfl⟩
    go_wp2_with fail
    refine (implRootOf_any _ _).mono ?_
    rintro e w1 ⟨rfl, b1⟩
    rw [HR.out]
    go_wp2_with fail
    refine (restOf_any _ _ (by omega) (by omega)).mono ?_
    rintro e w2 ⟨rfl, b2⟩
    rw [HM.out]
    have bb := bel_nxt b1 b2
    have bA := bb.alloc bb.size (.cells #[.int .i64 r] 115)
    have hc := cell_new1 w2 (.int .i64 r) 115
    have hs : w2.heap.size < (w2.alloc (.cells #[.int .i64 r] 115)).heap.size := by simp
    have o := HH.out.below bA (Nat.le_refl _)
    have oD := o.drew
    have hsD : w2.heap.size < (w2.alloc (.cells #[.int .i64 r] 115)).drew.heap.size := hs
    have bD := below_drewN bA 1
    clear hv b1 b2 bb bA hs o HH
    go_wp2
    go_region_held3 (fun w' => w'.cell? ⟨w2.heap.size, 0, none⟩ = some (.int .i64 r)) (first | exact hc | go_keep)
      (first
        | (go_at_call 94; refine (HA.out _ _ oD).mono ?_; rintro e w3 ⟨g3, rfl, hg3, p3, b3⟩; have hc := (b3.cell (p := ⟨w2.heap.size, 0, none⟩) hsD).trans hc; have hsD := Nat.lt_of_lt_of_le hsD b3.size; have bD := bel_nxt bD b3)
        | (go_at_call 93; refine (HB.out _ _ p3.rd).mono ?_; rintro e w4 ⟨v4, rfl, p4, b4⟩; have hc := (b4.cell (p := ⟨w2.heap.size, 0, none⟩) hsD).trans hc; have hsD := Nat.lt_of_lt_of_le hsD b4.size; have bD := bel_nxt bD b4)
        | (go_at_call 92; refine (HC.out _ _ p4.rd).mono ?_; rintro e w5 ⟨g5, rfl, hg5, p5, b5⟩; have hc := (b5.cell (p := ⟨w2.heap.size, 0, none⟩) hsD).trans hc; have hsD := Nat.lt_of_lt_of_le hsD b5.size; have hs4 := bD.size; have bD := bel_nxt bD b5))
    all_goals
      have HP := p5.mono hs4
      simp only [len_waveL] at HP
      have HP := Lib.hid HP
      clear hc p3 p4 p5
      go_wp2
      go_ret
      exact ⟨_, rfl, by rw [HF.out]; exact HP.out, bD⟩
  | false =>
    rw [hb] at hv
    have HF := Lib.hid (waveF_no hb)
    clear hb
    go_enter Tryz.func64, Tryz.ntmps64
    go_wp2_with fail
    refine hv.mono ?_
    rintro e w1 ⟨rfl, rfl⟩
    go_wp2
    go_ret
    exact ⟨_, rfl, by rw [HF.out]; exact Own.nil _ _ _, Below.refl _ _⟩

end Go.Proofs.YtagncoahobghpacGreatDoor

namespace Go.Proofs.YtagncoahobghpacGreatDoor
open Go.RowKit
set_option linter.unusedVariables false

/-- Halves of the first 2 m numbers: means, then differences. -/
def hS (m : Nat) (F : Nat → Int) (j : Nat) : Int :=
  if j < m then F (2 * j) + (F (2 * j + 1) - F (2 * j)) / 2 else if j < 2 * m then F (2 * (j - m) + 1) - F (2 * (j - m)) else F j
/-- The first 2 m numbers put together. -/
def uS (m : Nat) (F : Nat → Int) (j : Nat) : Int :=
  if j < 2 * m then (if j % 2 = 0 then F (j / 2) - F (m + j / 2) / 2 else F (j / 2) - F (m + j / 2) / 2 + F (m + j / 2)) else F j
theorem hS_low {m : Nat} {F : Nat → Int} {j : Nat} (h : j < m) : hS m F j = F (2 * j) + (F (2 * j + 1) - F (2 * j)) / 2 := if_pos h
theorem hS_mid {m : Nat} {F : Nat → Int} {i : Nat} (h : i < m) : hS m F (m + i) = F (2 * i + 1) - F (2 * i) := by
  unfold hS; rw [if_neg (by omega), if_pos (by omega), Nat.add_sub_cancel_left]
theorem hS_high {m : Nat} {F : Nat → Int} {j : Nat} (h : 2 * m ≤ j) : hS m F j = F j := by unfold hS; rw [if_neg (by omega), if_neg (by omega)]
theorem uS_even {m : Nat} {F : Nat → Int} {i : Nat} (h : i < m) : uS m F (2 * i) = F i - F (m + i) / 2 := by
  unfold uS; rw [if_pos (by omega), if_pos (by omega), show 2 * i / 2 = i by omega]
theorem uS_odd {m : Nat} {F : Nat → Int} {i : Nat} (h : i < m) : uS m F (2 * i + 1) = F i - F (m + i) / 2 + F (m + i) := by
  unfold uS; rw [if_pos (by omega), if_neg (by omega), show (2 * i + 1) / 2 = i by omega]
theorem uS_high {m : Nat} {F : Nat → Int} {j : Nat} (h : 2 * m ≤ j) : uS m F j = F j := by unfold uS; rw [if_neg (by omega)]
theorem two_cases (m j : Nat) : (∃ i, i < m ∧ j = 2 * i) ∨ (∃ i, i < m ∧ j = 2 * i + 1) ∨ 2 * m ≤ j := by
  rcases Nat.lt_or_ge j (2 * m) with h | h
  · rcases Nat.mod_two_eq_zero_or_one j with e | e
    · exact .inl ⟨j / 2, by omega, by omega⟩
    · exact .inr (.inl ⟨j / 2, by omega, by omega⟩)
  · exact .inr (.inr h)
theorem mid_cases (m j : Nat) : j < m ∨ (∃ i, i < m ∧ j = m + i) ∨ 2 * m ≤ j := by
  rcases Nat.lt_or_ge j m with h | h
  · exact .inl h
  · rcases Nat.lt_or_ge j (2 * m) with h2 | h2
    · exact .inr (.inl ⟨j - m, by omega, by omega⟩)
    · exact .inr (.inr h2)
theorem uS_hS (m : Nat) (F : Nat → Int) : uS m (hS m F) = F := by
  funext j
  rcases two_cases m j with ⟨i, h, rfl⟩ | ⟨i, h, rfl⟩ | h
  · rw [uS_even h, hS_low h, hS_mid h]; omega
  · rw [uS_odd h, hS_low h, hS_mid h]; omega
  · rw [uS_high h, hS_high h]
theorem hS_uS (m : Nat) (F : Nat → Int) : hS m (uS m F) = F := by
  funext j
  rcases mid_cases m j with h | ⟨i, h, rfl⟩ | h
  · rw [hS_low h, uS_even h, uS_odd h]; omega
  · rw [hS_mid h, uS_even h, uS_odd h]; omega
  · rw [hS_high h, uS_high h]

/-- All halves: of the first 2 to the k numbers. -/
def hAll : Nat → (Nat → Int) → Nat → Int
  | 0, F => F
  | k + 1, F => hAll k (hS (2 ^ k) F)
def uAll : Nat → (Nat → Int) → Nat → Int
  | 0, F => F
  | k + 1, F => uS (2 ^ k) (uAll k F)
theorem uAll_hAll (k : Nat) : ∀ F, uAll k (hAll k F) = F := by
  induction k with
  | zero => intro F; rfl
  | succ k ih => intro F; show uS (2 ^ k) (uAll k (hAll k (hS (2 ^ k) F))) = F; rw [ih, uS_hS]
theorem hAll_uAll (k : Nat) : ∀ F, hAll k (uAll k F) = F := by
  induction k with
  | zero => intro F; rfl
  | succ k ih => intro F; show hAll k (hS (2 ^ k) (uS (2 ^ k) (uAll k F))) = F; rw [hS_uS, ih]
/-- Equal numbers within the first n have equal halves there. -/
theorem hS_congr {m n : Nat} {F G : Nat → Int} (hm : 2 * m ≤ n) (h : ∀ j, j < n → F j = G j) : ∀ j, j < n → hS m F j = hS m G j := by
  intro j hj
  rcases mid_cases m j with q | ⟨i, q, rfl⟩ | q
  · rw [hS_low q, hS_low q, h _ (by omega), h _ (by omega)]
  · rw [hS_mid q, hS_mid q, h _ (by omega), h _ (by omega)]
  · rw [hS_high q, hS_high q, h _ hj]
theorem uS_congr {m n : Nat} {F G : Nat → Int} (hm : 2 * m ≤ n) (h : ∀ j, j < n → F j = G j) : ∀ j, j < n → uS m F j = uS m G j := by
  intro j hj
  rcases two_cases m j with ⟨i, q, rfl⟩ | ⟨i, q, rfl⟩ | q
  · rw [uS_even q, uS_even q, h _ (by omega), h _ (by omega)]
  · rw [uS_odd q, uS_odd q, h _ (by omega), h _ (by omega)]
  · rw [uS_high q, uS_high q, h _ hj]
theorem hAll_congr (k : Nat) : ∀ (F G : Nat → Int), (∀ j, j < 2 ^ k → F j = G j) → ∀ j, j < 2 ^ k → hAll k F j = hAll k G j := by
  induction k with
  | zero => intro F G h; exact h
  | succ k ih =>
    intro F G h j hj
    have e : 2 * 2 ^ k = 2 ^ (k + 1) := by rw [Nat.pow_succ]; omega
    have hc := hS_congr (n := 2 ^ (k + 1)) (Nat.le_of_eq e) h
    show hAll k (hS (2 ^ k) F) j = hAll k (hS (2 ^ k) G) j
    have key : ∀ (k n : Nat) (F G : Nat → Int), 2 ^ k ≤ n → (∀ j, j < n → F j = G j) → ∀ j, j < n → hAll k F j = hAll k G j := by
      intro k n
      induction k with
      | zero => intro F G _ h; exact h
      | succ k ih2 =>
        intro F G hk h
        have e : 2 * 2 ^ k = 2 ^ (k + 1) := by rw [Nat.pow_succ]; omega
        exact ih2 _ _ (by omega) (hS_congr (by omega) h)
    exact key k (2 ^ (k + 1)) _ _ (by omega) hc j hj
theorem uAll_congr (k n : Nat) (hk : 2 ^ k ≤ n) {F G : Nat → Int} (h : ∀ j, j < n → F j = G j) : ∀ j, j < n → uAll k F j = uAll k G j := by
  induction k with
  | zero => exact h
  | succ k ih =>
    have e : 2 * 2 ^ k = 2 ^ (k + 1) := by rw [Nat.pow_succ]; omega
    exact uS_congr (by omega) (ih (by omega))
theorem uAll_high (k : Nat) (F : Nat → Int) {j : Nat} (h : 2 ^ k ≤ j) : uAll k F j = F j := by
  induction k with
  | zero => rfl
  | succ k ih =>
    have e : 2 * 2 ^ k = 2 ^ (k + 1) := by rw [Nat.pow_succ]; omega
    show uS (2 ^ k) (uAll k F) j = F j
    rw [uS_high (by omega), ih (by omega)]
/-- A mean lies between the least and the greatest one. -/
theorem hS_mean {m : Nat} {F : Nat → Int} {a b : Int} (h : ∀ j, j < 2 * m → a ≤ F j ∧ F j ≤ b) : ∀ j, j < m → a ≤ hS m F j ∧ hS m F j ≤ b := by
  intro j hj
  have h1 := h (2 * j) (by omega)
  have h2 := h (2 * j + 1) (by omega)
  rw [hS_low hj]; omega
theorem hAll_mean (k : Nat) : ∀ (F : Nat → Int) (a b : Int), (∀ j, j < 2 ^ k → a ≤ F j ∧ F j ≤ b) → a ≤ hAll k F 0 ∧ hAll k F 0 ≤ b := by
  induction k with
  | zero => intro F a b h; exact h 0 (by decide)
  | succ k ih =>
    intro F a b h
    have e : 2 * 2 ^ k = 2 ^ (k + 1) := by rw [Nat.pow_succ]; omega
    exact ih _ a b (hS_mean (by rw [e]; exact h))
/-- How far halves reach. -/
theorem hS_bound {m n : Nat} {F : Nat → Int} {c : Int} (hm : 2 * m ≤ n) (h1 : ∀ j, j < 2 * m → -c ≤ F j ∧ F j ≤ c) (h2 : ∀ j, j < n → -(2 * c) ≤ F j ∧ F j ≤ 2 * c) :
    (∀ j, j < m → -c ≤ hS m F j ∧ hS m F j ≤ c) ∧ ∀ j, j < n → -(2 * c) ≤ hS m F j ∧ hS m F j ≤ 2 * c := by
  refine ⟨hS_mean h1, fun j hj => ?_⟩
  rcases mid_cases m j with q | ⟨i, q, rfl⟩ | q
  · have a := h1 0 (by omega)
    have := hS_mean h1 j q
    omega
  · have a := h1 (2 * i) (by omega)
    have b := h1 (2 * i + 1) (by omega)
    rw [hS_mid q]; omega
  · rw [hS_high q]; exact h2 j hj
theorem uS_bound {m n : Nat} {F : Nat → Int} {c b : Int} (hm : 2 * m ≤ n) (hc : 0 ≤ c) (hb : c ≤ b) (h1 : ∀ j, j < n → -b ≤ F j ∧ F j ≤ b) (h2 : ∀ j, m ≤ j → j < n → -c ≤ F j ∧ F j ≤ c) :
    ∀ j, j < n → -(b + c + 1) ≤ uS m F j ∧ uS m F j ≤ b + c + 1 := by
  intro j hj
  rcases two_cases m j with ⟨i, q, rfl⟩ | ⟨i, q, rfl⟩ | q
  · have a := h1 i (by omega)
    have d := h2 (m + i) (by omega) (by omega)
    rw [uS_even q]; omega
  · have a := h1 i (by omega)
    have d := h2 (m + i) (by omega) (by omega)
    rw [uS_odd q]; omega
  · have a := h1 j hj
    rw [uS_high q]; omega

/-- Half of the sum of the even numbers beside the odd one, rounded down. -/
def lM (n : Nat) (E : Nat → Int) (i : Nat) : Int := (E i + (if i + 1 < n then E (i + 1) else E i)) / 2
/-- A quarter of the sum of the details beside the even one, and 2, rounded down. -/
def lQ (D : Nat → Int) (i : Nat) : Int := ((if 0 < i then D (i - 1) else D i) + D i + 2) / 4
theorem lM_congr {n : Nat} {E G : Nat → Int} (h : ∀ i, i < n → E i = G i) {i : Nat} (hi : i < n) : lM n E i = lM n G i := by
  unfold lM
  rw [h i hi]
  by_cases q : i + 1 < n
  · rw [if_pos q, if_pos q, h _ q]
  · rw [if_neg q, if_neg q]
theorem lQ_congr {n : Nat} {D G : Nat → Int} (h : ∀ i, i < n → D i = G i) {i : Nat} (hi : i < n) : lQ D i = lQ G i := by
  unfold lQ
  rw [h i hi, h (i - 1) (by omega)]
/-- The details. -/
def lD (n : Nat) (F : Nat → Int) (i : Nat) : Int := F (2 * i + 1) - lM n (fun i => F (2 * i)) i
/-- Smoothed numbers and details of the first 2 n. -/
def lpF (n : Nat) (F : Nat → Int) (j : Nat) : Int := if j < n then F (2 * j) + lQ (lD n F) j else lD n F (j - n)
/-- The even numbers. -/
def eV (n : Nat) (F : Nat → Int) (i : Nat) : Int := F i - lQ (fun i => F (n + i)) i
def ulF (n : Nat) (F : Nat → Int) (j : Nat) : Int := if j % 2 = 0 then eV n F (j / 2) else F (n + j / 2) + lM n (eV n F) (j / 2)
theorem lp_low {n : Nat} {F : Nat → Int} {i : Nat} (h : i < n) : lpF n F i = F (2 * i) + lQ (lD n F) i := if_pos h
theorem lp_mid (n : Nat) (F : Nat → Int) (i : Nat) : lpF n F (n + i) = lD n F i := by unfold lpF; rw [if_neg (by omega), Nat.add_sub_cancel_left]
theorem ul_even (n : Nat) (F : Nat → Int) (i : Nat) : ulF n F (2 * i) = eV n F i := by unfold ulF; rw [if_pos (by omega), show 2 * i / 2 = i by omega]
theorem ul_odd (n : Nat) (F : Nat → Int) (i : Nat) : ulF n F (2 * i + 1) = F (n + i) + lM n (eV n F) i := by unfold ulF; rw [if_neg (by omega), show (2 * i + 1) / 2 = i by omega]
theorem eV_lp {n : Nat} (F : Nat → Int) {i : Nat} (h : i < n) : eV n (lpF n F) i = F (2 * i) := by
  unfold eV
  rw [lp_low h, lQ_congr (G := lD n F) (n := n) (fun i _ => lp_mid n F i) h]; omega
theorem ul_lp {n : Nat} (F : Nat → Int) {j : Nat} (hj : j < 2 * n) : ulF n (lpF n F) j = F j := by
  rcases two_cases n j with ⟨i, h, rfl⟩ | ⟨i, h, rfl⟩ | h
  · rw [ul_even, eV_lp F h]
  · rw [ul_odd, lp_mid, lM_congr (G := fun i => F (2 * i)) (fun i hi => eV_lp F hi) h]; unfold lD; omega
  · omega
theorem lD_ul {n : Nat} (F : Nat → Int) {i : Nat} (h : i < n) : lD n (ulF n F) i = F (n + i) := by
  unfold lD
  rw [ul_odd, lM_congr (G := eV n F) (fun i _ => ul_even n F i) h]; omega
theorem lp_ul {n : Nat} (F : Nat → Int) {j : Nat} (hj : j < 2 * n) : lpF n (ulF n F) j = F j := by
  rcases mid_cases n j with h | ⟨i, h, rfl⟩ | h
  · rw [lp_low h, ul_even, lQ_congr (G := fun i => F (n + i)) (fun i hi => lD_ul F hi) h]; unfold eV; omega
  · rw [lp_mid, lD_ul F h]
  · omega
theorem lp_congr {n : Nat} {F G : Nat → Int} (h : ∀ j, j < 2 * n → F j = G j) : ∀ j, j < 2 * n → lpF n F j = lpF n G j := by
  intro j hj
  have hd : ∀ i, i < n → lD n F i = lD n G i := fun i hi => by
    unfold lD; rw [h _ (by omega), lM_congr (G := fun i => G (2 * i)) (fun i hi => h _ (by omega)) hi]
  rcases mid_cases n j with q | ⟨i, q, rfl⟩ | q
  · rw [lp_low q, lp_low q, h _ (by omega), lQ_congr hd q]
  · rw [lp_mid, lp_mid, hd i q]
  · omega
theorem ul_congr {n : Nat} {F G : Nat → Int} (h : ∀ j, j < 2 * n → F j = G j) : ∀ j, j < 2 * n → ulF n F j = ulF n G j := by
  intro j hj
  have he : ∀ i, i < n → eV n F i = eV n G i := fun i hi => by
    unfold eV; rw [h _ (by omega), lQ_congr (n := n) (G := fun i => G (n + i)) (fun i hi => h _ (by omega)) hi]
  rcases two_cases n j with ⟨i, q, rfl⟩ | ⟨i, q, rfl⟩ | q
  · rw [ul_even, ul_even, he i q]
  · rw [ul_odd, ul_odd, h _ (by omega), lM_congr he q]
  · omega
/-- Equal steps have no details but the last one. -/
theorem lD_even {n : Nat} {F : Nat → Int} {d : Int} (h : ∀ j, j + 1 < 2 * n → F (j + 1) = F j + d) {i : Nat} (hi : i + 1 < n) : lD n F i = 0 := by
  have h1 := h (2 * i) (by omega)
  have h2 := h (2 * i + 1) (by omega)
  unfold lD lM
  rw [if_pos hi]
  show F (2 * i + 1) - (F (2 * i) + F (2 * i + 1 + 1)) / 2 = 0
  rw [h2, h1]; omega
/-- How far leaps reach. -/
theorem lM_bound {n : Nat} {E : Nat → Int} {c : Int} (h : ∀ i, i < n → -c ≤ E i ∧ E i ≤ c) {i : Nat} (hi : i < n) : -c ≤ lM n E i ∧ lM n E i ≤ c := by
  have a := h i hi
  unfold lM
  by_cases q : i + 1 < n
  · have b := h (i + 1) q
    rw [if_pos q]; omega
  · rw [if_neg q]; omega
theorem lQ_bound {n : Nat} {D : Nat → Int} {c : Int} (h : ∀ i, i < n → -c ≤ D i ∧ D i ≤ c) {i : Nat} (hi : i < n) : -(c + 1) ≤ lQ D i ∧ lQ D i ≤ c + 1 := by
  have a := h i hi
  unfold lQ
  by_cases q : 0 < i
  · have b := h (i - 1) (by omega)
    rw [if_pos q]; omega
  · rw [if_neg q]; omega
theorem lD_bound {n : Nat} {F : Nat → Int} {c : Int} (h : ∀ j, j < 2 * n → -c ≤ F j ∧ F j ≤ c) {i : Nat} (hi : i < n) : -(2 * c) ≤ lD n F i ∧ lD n F i ≤ 2 * c := by
  have a := h (2 * i + 1) (by omega)
  have b := lM_bound (E := fun i => F (2 * i)) (c := c) (fun i hi => h _ (by omega)) hi
  unfold lD; omega
theorem lp_bound {n : Nat} {F : Nat → Int} {c : Int} (h : ∀ j, j < 2 * n → -c ≤ F j ∧ F j ≤ c) : ∀ j, j < 2 * n → -(3 * c + 1) ≤ lpF n F j ∧ lpF n F j ≤ 3 * c + 1 := by
  intro j hj
  rcases mid_cases n j with q | ⟨i, q, rfl⟩ | q
  · have a := h (2 * j) (by omega)
    have b := lQ_bound (n := n) (D := lD n F) (fun i hi => lD_bound h hi) q
    rw [lp_low q]; omega
  · have a := lD_bound h q
    have b := h i (by omega)
    rw [lp_mid]; omega
  · omega
theorem eV_bound {n : Nat} {F : Nat → Int} {c : Int} (h : ∀ j, j < 2 * n → -c ≤ F j ∧ F j ≤ c) {i : Nat} (hi : i < n) : -(2 * c + 1) ≤ eV n F i ∧ eV n F i ≤ 2 * c + 1 := by
  have a := h i (by omega)
  have b := lQ_bound (n := n) (D := fun i => F (n + i)) (c := c) (fun i hi => h _ (by omega)) hi
  unfold eV; omega
theorem ul_bound {n : Nat} {F : Nat → Int} {c : Int} (h : ∀ j, j < 2 * n → -c ≤ F j ∧ F j ≤ c) : ∀ j, j < 2 * n → -(3 * c + 1) ≤ ulF n F j ∧ ulF n F j ≤ 3 * c + 1 := by
  intro j hj
  rcases two_cases n j with ⟨i, q, rfl⟩ | ⟨i, q, rfl⟩ | q
  · have a := eV_bound h q
    have b := h i (by omega)
    rw [ul_even]; omega
  · have a := lM_bound (n := n) (E := eV n F) (fun i hi => eV_bound h hi) q
    have b := h (n + i) (by omega)
    rw [ul_odd]; omega
  · omega

/-- The greatest whole number that is not more, as programs divide. -/
theorem flo_div (x : Int) {d : Int} (hd : 0 < d) : (if x < 0 then -(Int.tdiv (-x + d - 1) d) else Int.tdiv x d) = x / d := by
  by_cases h : x < 0
  · rw [if_pos h, Int.tdiv_eq_ediv_of_nonneg (by omega)]
    have e1 := Int.mul_ediv_add_emod x d
    have r1 := Int.emod_nonneg x (show d ≠ 0 by omega)
    have r2 := Int.emod_lt_of_pos x hd
    have e : -x + d - 1 = (d - 1 - x % d) + d * (-(x / d)) := by rw [Int.mul_neg]; omega
    rw [e, Int.add_mul_ediv_left _ _ (by omega), Int.ediv_eq_zero_of_lt (by omega) (by omega)]; omega
  · rw [if_neg h, Int.tdiv_eq_ediv_of_nonneg (by omega)]

/-- The halves, the row put together, the leaps, and the row leapt back: as lists. -/
def halL (xs : List Int) : List Int := tab xs.length (hS (xs.length / 2) (ix xs))
def unhL (xs : List Int) : List Int := tab xs.length (uS (xs.length / 2) (ix xs))
def lepL (xs : List Int) : List Int := tab xs.length (lpF (xs.length / 2) (ix xs))
def unlL (xs : List Int) : List Int := tab xs.length (ulF (xs.length / 2) (ix xs))
def halA (k : Nat) (xs : List Int) : List Int := tab xs.length (hAll k (ix xs))
def unhA (k : Nat) (xs : List Int) : List Int := tab xs.length (uAll k (ix xs))
theorem len_halL (xs : List Int) : (halL xs).length = xs.length := by simp [halL]
theorem len_unhL (xs : List Int) : (unhL xs).length = xs.length := by simp [unhL]
theorem len_lepL (xs : List Int) : (lepL xs).length = xs.length := by simp [lepL]
theorem len_unlL (xs : List Int) : (unlL xs).length = xs.length := by simp [unlL]
theorem len_halA (k : Nat) (xs : List Int) : (halA k xs).length = xs.length := by simp [halA]
theorem len_unhA (k : Nat) (xs : List Int) : (unhA k xs).length = xs.length := by simp [unhA]
theorem tab_back (f g : (Nat → Int) → Nat → Int) (xs : List Int) (hc : ∀ F G : Nat → Int, (∀ j, j < xs.length → F j = G j) → ∀ j, j < xs.length → g F j = g G j)
    (hb : ∀ F j, j < xs.length → g (f F) j = F j) : tab xs.length (g (ix (tab xs.length (f (ix xs))))) = xs := by
  refine ext_ix (by simp) fun j hj => ?_
  have hj' : j < xs.length := by simpa using hj
  rw [ix_tab _ _ _ hj', hc _ (f (ix xs)) (fun i hi => ix_tab _ _ _ hi) j hj', hb _ j hj']
theorem unh_hal {xs : List Int} (h : xs.length % 2 = 0) : unhL (halL xs) = xs := by
  unfold unhL
  rw [len_halL]
  exact tab_back (hS (xs.length / 2)) (uS (xs.length / 2)) xs (fun F G q => uS_congr (by omega) q) (fun F j _ => by rw [uS_hS])
theorem hal_unh {xs : List Int} (h : xs.length % 2 = 0) : halL (unhL xs) = xs := by
  unfold halL
  rw [len_unhL]
  exact tab_back (uS (xs.length / 2)) (hS (xs.length / 2)) xs (fun F G q => hS_congr (by omega) q) (fun F j _ => by rw [hS_uS])
theorem unl_lep {xs : List Int} (h : xs.length % 2 = 0) : unlL (lepL xs) = xs := by
  have e : 2 * (xs.length / 2) = xs.length := by omega
  unfold unlL
  rw [len_lepL]
  exact tab_back (lpF (xs.length / 2)) (ulF (xs.length / 2)) xs (fun F G q j hj => ul_congr (fun j hj => q j (by omega)) j (by omega)) (fun F j hj => ul_lp F (by omega))
theorem lep_unl {xs : List Int} (h : xs.length % 2 = 0) : lepL (unlL xs) = xs := by
  have e : 2 * (xs.length / 2) = xs.length := by omega
  unfold lepL
  rw [len_unlL]
  exact tab_back (ulF (xs.length / 2)) (lpF (xs.length / 2)) xs (fun F G q j hj => lp_congr (fun j hj => q j (by omega)) j (by omega)) (fun F j hj => lp_ul F (by omega))
theorem unhA_halA {xs : List Int} {k : Nat} (h : xs.length = 2 ^ k) : unhA k (halA k xs) = xs := by
  unfold unhA
  rw [len_halA]
  exact tab_back (hAll k) (uAll k) xs (fun F G q => uAll_congr k _ (by omega) q) (fun F j _ => by rw [uAll_hAll])
theorem halA_unhA {xs : List Int} {k : Nat} (h : xs.length = 2 ^ k) : halA k (unhA k xs) = xs := by
  unfold halA
  rw [len_unhA]
  exact tab_back (uAll k) (hAll k) xs (fun F G q j hj => hAll_congr k F G (fun j hj => q j (by omega)) j (by omega)) (fun F j _ => by rw [hAll_uAll])

/-- Small numbers of the second half are dropped. -/
def drpF (n : Nat) (e : Int) (F : Nat → Int) (j : Nat) : Int := if n - n / 2 ≤ j ∧ F j < e ∧ -e < F j then 0 else F j
def drpL (e : Int) (xs : List Int) : List Int := tab xs.length (drpF xs.length e (ix xs))
theorem len_drpL (e : Int) (xs : List Int) : (drpL e xs).length = xs.length := by simp [drpL]
theorem drp_again (n : Nat) (e : Int) (F : Nat → Int) (j : Nat) : drpF n e (drpF n e F) j = drpF n e F j := by
  have e1 : drpF n e (drpF n e F) j = if n - n / 2 ≤ j ∧ drpF n e F j < e ∧ -e < drpF n e F j then 0 else drpF n e F j := rfl
  rw [e1]
  by_cases q : n - n / 2 ≤ j ∧ F j < e ∧ -e < F j
  · have e2 : drpF n e F j = 0 := if_pos q
    rw [e2]; split <;> rfl
  · have e2 : drpF n e F j = F j := if_neg q
    rw [e2, if_neg q]
theorem drp_sq (n : Nat) (e : Int) (F : Nat → Int) (j : Nat) : drpF n e F j * drpF n e F j ≤ F j * F j := by
  unfold drpF; split
  · rw [Int.zero_mul]
    rcases Int.le_total 0 (F j) with q | q
    · exact Int.mul_nonneg q q
    · exact Int.mul_nonneg_of_nonpos_of_nonpos q q
  · exact Int.le_refl _
theorem drp_low {n : Nat} (e : Int) (F : Nat → Int) {j : Nat} (h : j < n - n / 2) : drpF n e F j = F j := if_neg (by omega)
theorem drp_none {n : Nat} {e : Int} (he : e ≤ 1) (F : Nat → Int) (j : Nat) : drpF n e F j = F j := by
  unfold drpF; split
  · omega
  · rfl
theorem drpL_again (e : Int) (xs : List Int) : drpL e (drpL e xs) = drpL e xs := by
  refine ext_ix (by simp [drpL]) fun j hj => ?_
  have hj' : j < xs.length := by simpa [drpL] using hj
  unfold drpL
  rw [len_tab, ix_tab _ _ _ hj', ix_tab _ _ _ hj']
  have e1 : drpF xs.length e (ix (tab xs.length (drpF xs.length e (ix xs)))) j = drpF xs.length e (drpF xs.length e (ix xs)) j := by
    unfold drpF; rw [ix_tab _ _ _ hj']
  rw [e1, drp_again]
theorem drpL_sq (e : Int) (xs : List Int) : sq (ix (drpL e xs)) xs.length ≤ sq (ix xs) xs.length := by
  have key : ∀ n, n ≤ xs.length → sumN (fun i => ix (drpL e xs) i * ix (drpL e xs) i) n ≤ sumN (fun i => ix xs i * ix xs i) n := by
    intro n
    induction n with
    | zero => intro _; exact Int.le_refl _
    | succ n ih =>
      intro h
      have a := ih (by omega)
      have b := drp_sq xs.length e (ix xs) n
      have c : ix (drpL e xs) n = drpF xs.length e (ix xs) n := ix_tab _ _ _ (by omega)
      rw [sumN, sumN, c]; omega
  exact key _ (Nat.le_refl _)
theorem drpL_none {e : Int} (he : e ≤ 1) (xs : List Int) : drpL e xs = xs := by
  refine ext_ix (by simp [drpL]) fun j hj => ?_
  have hj' : j < xs.length := by simpa [drpL] using hj
  unfold drpL
  rw [ix_tab _ _ _ hj', drp_none he]

end Go.Proofs.YtagncoahobghpacGreatDoor
