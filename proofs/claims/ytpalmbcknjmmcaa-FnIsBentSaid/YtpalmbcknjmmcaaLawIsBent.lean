/-
  The law FnIsBent, as a contract.
-/
import Derived.Test.YtpalmbcknjmmcaaFnM
import Derived.Test.YtpalmbcknjmmcaaHelpF
import Derived.Test.YtpalmbcknjmmcaaDraw2
import Derived.Test.YtpalmbcknjmmcaaSgLaw
import Derived.Test.YtpalmbcknjmmcaaSgP
namespace Go.Proofs.Ytpalmbcknjmmcaa
open Go.RowKit
set_option linter.unusedVariables false

set_option maxHeartbeats 4000000 in
set_option maxRecDepth 100000 in
theorem lawIsBent_any (v : Value) (n : Nat) (w : World) (h : RdB w v n) :
    Calls Try.prog 12 #[v] w (Says true w) := by
  have h0 := h
  obtain ⟨a, cap, rfl, h1, h2, -⟩ := h0
  unfold maxLen at h2
  by_cases hbig : n ≤ 1048576
  · go_enter Try.func12, Try.ntmps12
    go_wp2_with fail
    refine (drawIsBent_any _ n _ h).mono ?_
    rintro e w1 ⟨v, xs, rfl, o, hl, hw, bb⟩
    have hM := Own.max64 hl
    clear h h1 h2 hbig
    have HI := Lib.hid fun w (v : Value) (h : Rd w v xs) => implIsBent_any v xs w h hM hw
    have HS := Lib.hid fun w (v : Value) (h : Rd w v xs) => specIsBent_any v xs w h hM
    obtain ⟨a1, c1, rfl⟩ := own_sl o
    cases hb : bentB xs with
    | false =>
      rw [hb] at HI HS
      clear hb
      go_wp2_with fail
      refine (HI.out _ _ o.rd).mono ?_
      rintro e w2 ⟨rfl, b2⟩
      have o := o.below b2 (Nat.le_refl _)
      have bb := bel_nxt bb b2
      go_wp2_with fail
      refine (HS.out _ _ o.rd).mono ?_
      rintro e w3 ⟨rfl, b3⟩
      have o := o.below b3 (Nat.le_refl _)
      have bb := bel_nxt bb b3
      go_wp2_with fail
      refine (HS.out _ _ o.rd).mono ?_
      rintro e w4 ⟨rfl, b4⟩
      have bb := bel_nxt bb b4
      go_wp2
      go_ret
      exact ⟨rfl, bb⟩
    | true =>
      rw [hb] at HI HS
      obtain ⟨hc, h1, h2⟩ := bent_facts hb
      have hsq := Lib.hid (bent_square hb)
      have hbt := bent_turned hb
      have HSG := Lib.hid fun w (v : Value) (h : Rd w v xs) => implSignsOf_any v xs w h hM hw
      rw [show signsF xs = signsL xs by unfold signsF; exact if_pos hc] at HSG
      have HTU := Lib.hid fun w (v : Value) (h : Rd w v xs) => turned_any v xs w h (by omega)
      have hx16 := (vrB_of (cubeB_of hc).1).1
      have hp := cube_pos hc
      have HBT := Lib.hid fun w (v : Value) (h : Rd w v (turnedL xs)) => implIsBent_any v (turnedL xs) w h (by rw [len_turnedL]; exact hM) (by
        intro n hn
        unfold turnedL tab at hn
        obtain ⟨j, hj, rfl⟩ := List.mem_map.1 hn
        have hjl := List.mem_range.1 hj
        rcases h1 (xs.length - 1 - j) (by omega) with e | e <;> rw [e] <;> decide)
      rw [hbt] at HBT
      have hsl := len_signsL xs
      clear hb hbt h1 h2 hc
      go_wp2_with fail
      refine (HI.out _ _ o.rd).mono ?_
      rintro e w2 ⟨rfl, b2⟩
      have o := o.below b2 (Nat.le_refl _)
      have bb := bel_nxt bb b2
      go_wp2_with fail
      refine (HS.out _ _ o.rd).mono ?_
      rintro e w3 ⟨rfl, b3⟩
      have o := o.below b3 (Nat.le_refl _)
      have bb := bel_nxt bb b3
      go_wp2_with fail
      refine (HSG.out _ _ o.rd).mono ?_
      rintro e w4 ⟨u4, rfl, p, b4⟩
      have o := o.below b4 (Nat.le_refl _)
      have bb := bel_nxt bb b4
      obtain ⟨g, d, rfl, hg, hgs⟩ := p.form (by intro e; rw [e] at hsl; simp at hsl; omega)
      rw [hsl] at p ⊢
      have hcs : Hid (∀ j, j < xs.length → w4.cell? ⟨g, j, none⟩ = some (.int .i64 (ix (signsL xs) j))) := fun j hj => p.cell j (by rw [hsl]; exact hj)
      have hrx := o.rd
      clear HI HS HSG b2 b3 b4 p o hsl hw hl
      obtain ⟨N, hN⟩ : ∃ N, N = xs.length := ⟨_, rfl⟩
      rw [← hN] at hcs hsq hx16 hp hrx ⊢
      clear hN
      have hg4 : g < w4.heap.size := hgs
      go_wp2
      go_loopw [6] (fun i wr => ∃ j : Nat, j ≤ N ∧ i = .int .i64 j ∧ Below w4.heap.size w4 wr) (fun i _ => N - (intOf i).toNat)
      case atStart => exact ⟨0, Nat.zero_le _, rfl, Below.refl _ _⟩
      case round =>
        obtain ⟨j, hj, rfl, hB⟩ := hrel
        by_cases hlt : j < N
        · have hcj : wr.cell? ⟨g, j, none⟩ = some (.int .i64 (ix (signsL xs) j)) := (hB.cell (p := ⟨g, j, none⟩) hg4).trans (hcs.out j hlt)
          have hq := hsq.out j hlt
          obtain ⟨z, hz⟩ : ∃ z, z = ix (signsL xs) j := ⟨_, rfl⟩
          rw [← hz] at hcj hq
          have hwz : IntKind.i64.wrap (z * z) = (N : Int) := by rw [hq]; exact IntWalk.i64_in _ (by omega)
          have e1 : ((N : Int) != (N : Int)) = false := by simp
          have i1 : (0 : Int) ≤ (j : Int) := by omega
          have i2 : (j : Int) < (N : Int) := by omega
          have HBB := Lib.hid hB
          clear hz hq hcs hsq hB
          go_wp2
          go_quiet (fail)
          go_wp2
          go_roundw
          case rel => exact ⟨j + 1, by omega, by go_num, below_drewN HBB.out _⟩
          case measure => simp [intOf]; omega
        · obtain rfl : j = N := by omega
          have hrx := hrx.below hB (Nat.le_refl _)
          have bb := bel_nxt bb hB
          clear hcs hsq
          go_wp2_with fail
          refine (HTU.out _ _ hrx).mono ?_
          rintro e w6 ⟨u6, rfl, p6, b6⟩
          have bb := bel_nxt bb b6
          go_wp2_with fail
          refine (HBT.out _ _ p6.rd).mono ?_
          rintro e w7 ⟨rfl, b7⟩
          have bb := bel_nxt bb b7
          go_wp2
          go_ret
          exact ⟨rfl, bb⟩
  · clear h
    go_enter Try.func12, Try.ntmps12
    go_wp2
    go_ret
    exact ⟨rfl, Below.refl _ _⟩

end Go.Proofs.Ytpalmbcknjmmcaa
