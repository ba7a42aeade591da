/-
  UnwaveOf of the program, by their contracts.
-/
import Derived.Test.YtabbfehjgchmgaaWvO
import Derived.Deep.RegionWith
namespace Go.Proofs.Ytabbfehjgchmgaa
open Go.RowKit
set_option linter.unusedVariables false

/-- The wave by the inverse root on the way to the rests: k numbers are taken times z. -/
def tmW (G : Nat → Int) (z : Int) (k j : Nat) : Int := upto k (fun j => G j * z % 97) G j
theorem tmW_set (n k : Nat) (G : Nat → Int) (z : Int) : (tab n (tmW G z k)).set k (G k * z % 97) = tab n (tmW G z (k + 1)) := upto_set n k (fun j => G j * z % 97) G
theorem tmW_at (k : Nat) (G : Nat → Int) (z : Int) : tmW G z k k = G k := upto_at k _ G
structure UwI (E : Nat) (w wr : World) (g c gi n k : Nat) (G : Nat → Int) (z : Int) : Prop where
  own : Own E w.heap.size wr (.slice (some ⟨g, 0, none⟩) n c) (tab n (tmW G z k))
  inv : wr.cell? ⟨gi, 0, none⟩ = some (.int .i64 z)
  size : gi < wr.heap.size
  bel : Below w.heap.size w wr
theorem UwI.call {E : Nat} {w wr w1 : World} {g c gi n k : Nat} {G : Nat → Int} {z : Int} (h : UwI E w wr g c gi n k G z) (b : Below wr.heap.size wr w1) : UwI E w w1 g c gi n k G z :=
  ⟨h.own.below b (Nat.le_refl _), by rw [b.cell (p := ⟨gi, 0, none⟩) h.size]; exact h.inv, Nat.lt_of_lt_of_le h.size b.size, bel_nxt h.bel b⟩
theorem UwI.drew {E : Nat} {w wr : World} {g c gi n k : Nat} {G : Nat → Int} {z : Int} (h : UwI E w wr g c gi n k G z) : UwI E w wr.drew g c gi n k G z := ⟨h.own.drew, h.inv, h.size, below_drewN h.bel 1⟩
theorem UwI.cell {E : Nat} {w wr : World} {g c gi n k : Nat} {G : Nat → Int} {z : Int} (h : UwI E w wr g c gi n k G z) (hk : k < n) : wr.cell? ⟨g, k, none⟩ = some (.int .i64 (G k)) := by
  have := h.own.cell k (by simpa using hk)
  rw [ix_tab _ _ _ hk, tmW_at] at this
  exact this
theorem UwI.set {E : Nat} {w wr : World} {g c gi n k : Nat} {G : Nat → Int} {z : Int} (h : UwI E w wr g c gi n k G z) (hg : g ≠ gi) (hw : w.heap.size ≤ g) : UwI E w (wr.setCell ⟨g, k, none⟩ (.int .i64 (G k * z % 97))) g c gi n (k + 1) G z := by
  have ho := h.own.set k (G k * z % 97)
  rw [tmW_set] at ho
  exact ⟨ho, by rw [cell_else wr _ (k := gi) (fun e => hg e.symm)]; exact h.inv, by simpa [World.setCell] using h.size, h.bel.setCell hw _⟩

def unwF (xs : List Int) : List Int := if vsB xs = true then unwaveR xs else []
theorem unwF_yes {xs : List Int} (h : vsB xs = true) : unwF xs = unwaveR xs := by unfold unwF; exact if_pos h
theorem unwF_no {xs : List Int} (h : vsB xs = false) : unwF xs = [] := by unfold unwF; exact if_neg (by simp [h])

set_option maxHeartbeats 8000000 in
theorem implUnwaveOf_any (v : Value) (xs : List Int) (w : World) (h : Rd w v xs) (hl : xs.length ≤ maxLen) :
    Calls Try.prog 27 #[v] w (Made 3 w (unwF xs)) := by
  have hv := implValidRests_any v xs w h hl
  cases hb : vsB xs with
  | true =>
    rw [hb] at hv
    have hV := (vsB_iff xs).1 hb
    obtain ⟨hn0, hn1, hdv⟩ : 0 < xs.length ∧ xs.length ≤ 96 ∧ 96 % xs.length = 0 := ⟨hV.some, hV.few, hV.div⟩
    have HR := Lib.hid (rootF_yes hn0 hn1 hdv)
    obtain ⟨hr0, hr1⟩ := rt_bd hn0 hn1 hdv
    have HM := Lib.hid (rest_mod hr1)
    have HMN := Lib.hid (rest_mod (show xs.length < 97 by omega))
    have hi1 : invN (rtN xs.length) < 97 := pm_lt _ 95
    have hi2 : invN xs.length < 97 := pm_lt _ 95
    have HF := Lib.hid (show unwF xs = tab xs.length (fun j => ix (waveL xs (invN (rtN xs.length))) j * (invN xs.length : Int) % 97) from unwF_yes hb)
    have HA := Lib.hid fun w (v : Value) (h : Rd w v xs) => restsOf_any v xs w h hn0 hn1 hV.rest
    have HB := Lib.hid fun w (v : Value) (h : Rd w v xs) => waveBy_any (invN (rtN xs.length)) v xs w h hi1 hn0 hn1 hV.rest
    have hG := waveL_rest xs (invN (rtN xs.length))
    have HG := Lib.hid (show waveL xs (invN (rtN xs.length)) = tab xs.length (tmW (ix (waveL xs (invN (rtN xs.length)))) (invN xs.length : Nat) 0) by
      unfold tmW; rw [upto_none]
      have := tab_self (waveL xs (invN (rtN xs.length))); rw [len_waveL] at this; exact this.symm)
    have HLW : Hid ((waveL xs (invN (rtN xs.length))).length = xs.length) := len_waveL _ _
    rw [len_waveL] at hG
    have HI := Lib.hid fun w => inverse_any (rtN xs.length) w hr1
    have HI2 := Lib.hid fun w => inverse_any xs.length w (by omega)
    obtain ⟨r, hr⟩ : ∃ r, r = rtN xs.length := ⟨_, rfl⟩
    rw [← hr] at HR HM HF HB HG HI hG hr0 hr1 HLW hi1
    obtain ⟨ri, hri⟩ : ∃ ri, ri = invN r := ⟨_, rfl⟩
    rw [← hri] at HF HB HG HI hG HLW hi1
    obtain ⟨z, hz⟩ : ∃ z, z = invN xs.length := ⟨_, rfl⟩
    rw [← hz] at HF HG HI2 hi2
    obtain ⟨zs, hzs⟩ : ∃ zs, zs = waveL xs ri := ⟨_, rfl⟩
    rw [← hzs] at HF HB HG hG HLW
    obtain ⟨G, hGG⟩ : ∃ G, G = ix zs := ⟨_, rfl⟩
    rw [← hGG] at HF HG hG
    have HH := Lib.hid h
    obtain ⟨a, cap, rfl, -⟩ := h
    obtain ⟨n, hn⟩ : ∃ n, n = xs.length := ⟨_, rfl⟩
    have HH := Lib.hid (show Rd w (.slice a n cap) xs by rw [hn]; exact HH.out)
    have HC := Lib.hid fun w (v : Value) (h : Rd w v (tab n (tmW G z n))) => numbersOf_any v _ w h (by rw [len_tab, hn]; exact hn0) (by rw [len_tab, hn]; exact hn1)
    rw [← hn] at hn0 hn1 HF HG hG HI2 HR HMN HLW hv ⊢
    clear hb hV hdv hr hri hz hzs hGG hn
    go_enter Try.func27, Try.ntmps27
    go_wp2_with fail
    refine hv.mono ?_
    rintro e w1 ⟨rfl, rfl⟩
    go_wp2_with fail
    refine (implRootOf_any _ _).mono ?_
    rintro e w1 ⟨rfl, b1⟩
    rw [HR.out]
    go_wp2_with fail
    refine (restOf_any _ _ (by omega) (by omega)).mono ?_
    rintro e w2 ⟨rfl, b2⟩
    rw [HM.out]
    have bb := bel_nxt b1 b2
    have bA := bb.alloc bb.size (.cells #[.int .i64 r] 44)
    have hc := cell_new1 w2 (.int .i64 r) 44
    clear hv b1 b2 bb
    go_wp2_with fail
    refine (HI.out _).mono ?_
    rintro e w3 ⟨rfl, b3⟩
    have bA := bel_nxt bA b3
    go_wp2_with fail
    refine (HA.out _ _ (HH.out.below bA (Nat.le_refl _))).mono ?_
    rintro e w4 ⟨g4, rfl, hg4, p4, b4⟩
    have bA := bel_nxt bA b4
    go_wp2_with fail
    refine (HB.out _ _ p4.rd).mono ?_
    rintro e w5 ⟨v5, rfl, p5, b5⟩
    have hs5 := bA.size
    have bA := bel_nxt bA b5
    have p5 := p5.mono hs5
    clear hc b3 b4 b5 p4 hs5
    obtain ⟨g, c, rfl, hg, hgs⟩ := p5.form (by intro e; have := HLW.out; rw [e] at this; simp at this; omega)
    rw [HLW.out] at p5 ⊢
    rw [HG.out] at p5
    go_wp2_with fail
    refine (restOf_any _ _ (by omega) (by omega)).mono ?_
    rintro e w6 ⟨rfl, b6⟩
    rw [HMN.out]
    have bA := bel_nxt bA b6
    have p6 := p5.below b6 (Nat.le_refl _)
    have hgs := Nat.lt_of_lt_of_le hgs b6.size
    go_wp2_with fail
    refine (HI2.out _).mono ?_
    rintro e w7 ⟨rfl, b7⟩
    have bA := bel_nxt bA b7
    have p7 := p6.below b7 (Nat.le_refl _)
    have hgs := Nat.lt_of_lt_of_le hgs b7.size
    have hI : UwI 44 w (w7.alloc (.cells #[.int .i64 z] 44)) g c w7.heap.size n 0 G z :=
      ⟨p7.grow _, cell_new1 _ _ _, by simp, bA.alloc bA.size _⟩
    have hgne : g ≠ w7.heap.size := by omega
    clear p5 p6 p7 b6 b7 bA
    have hwg : w.heap.size ≤ g := hg
    go_wp2
    go_loopw [25] (fun i wr => ∃ k : Nat, k ≤ n ∧ i = .int .i64 k ∧ UwI 44 w wr g c w7.heap.size n k G z) (fun i _ => n - (intOf i).toNat)
    case atStart => exact ⟨0, Nat.zero_le _, rfl, hI⟩
    case round =>
      obtain ⟨k, hk, rfl, hJ⟩ := hrel
      by_cases hlt : k < n
      · have hcw := hJ.cell hlt
        have hfw := hJ.own.frozen k
        have hci := hJ.inv
        have hGk := hG k hlt
        have hzb : 0 ≤ (z : Int) ∧ (z : Int) ≤ 96 := by omega
        have HJ := Lib.hid hJ.drew
        obtain ⟨y, hy⟩ : ∃ y, y = G k := ⟨_, rfl⟩
        rw [← hy] at hcw hGk
        have HY := Lib.hid hy
        clear hI hJ hG hy
        go_wp2
        go_region_with
          (first
            | (go_at_call 47; refine (times_any y z _ hGk hzb).mono ?_; rintro e w8 ⟨rfl, b8⟩; have hK := HJ.out.call b8; have hcw := hK.cell hlt; have hfw := hK.own.frozen k))
        all_goals
          have HN := hK.set hgne hwg
          rw [← HY.out] at HN
          have HN := Lib.hid HN
          clear hK hcw hfw hci
          go_wp2
          go_roundw
          case rel => exact ⟨k + 1, by omega, by go_num, HN.out⟩
          case measure => simp [intOf]; omega
      · obtain rfl : k = n := by omega
        have hO := hJ.own
        have hB := hJ.bel
        have hs := hB.size
        clear hI hJ hG
        go_wp2_with fail
        refine (HC.out _ _ hO.rd).mono ?_
        rintro e w8 ⟨g8, rfl, hg8, p8, b8⟩
        have HP := p8.mono hs
        rw [len_tab] at HP ⊢
        have HE : Hid (tab k (tmW G z k) = unwF xs) := by
          show _ = _
          rw [HF.out]; exact upto_all _ _ _
        rw [HE.out] at HP
        have HP := Lib.hid HP
        have bb := bel_nxt hB b8
        clear p8 hO HE
        go_wp2
        go_ret
        exact ⟨_, rfl, HP.out, bb⟩
  | false =>
    rw [hb] at hv
    have HF := Lib.hid (unwF_no hb)
    clear hb
    go_enter Try.func27, Try.ntmps27
    go_wp2_with fail
    refine hv.mono ?_
    rintro e w1 ⟨rfl, rfl⟩
    go_wp2
    go_ret
    exact ⟨_, rfl, by rw [HF.out]; exact Own.nil _ _ _, Below.refl _ _⟩

end Go.Proofs.Ytabbfehjgchmgaa
