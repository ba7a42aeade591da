/-
  FromEdge of the model, by its contract.
-/
import Derived.Test.YtpalmbcknjmmcaaFrom
namespace Go.Proofs.Ytpalmbcknjmmcaa
open Go.RowKit
set_option linter.unusedVariables false

set_option maxHeartbeats 1000000 in
theorem choose_any (n k : Nat) (w : World) (hn : n < 16) (hk : k ≤ n) :
    Calls Try.prog 58 #[.int .i64 n, .int .i64 k] w fun e w' => e = .returned (.int .i64 (binom n k)) ∧ w = w' := by
  go_enter Try.func58, Try.ntmps58
  go_wp2
  go_loop [5, 6] (fun o i => ∃ j : Nat, j ≤ k ∧ i = .int .i64 j ∧ o = .int .i64 (binom n j)) (fun _ i => k - (intOf i).toNat)
  case atStart => exact ⟨0, Nat.zero_le _, rfl, by rw [binom_zero]; rfl⟩
  case round =>
    obtain ⟨j, hj, rfl, rfl⟩ := hrel
    by_cases hlt : j < k
    · obtain ⟨c, hc⟩ : ∃ c, c = binom n j := ⟨_, rfl⟩
      have hs := choose_stepI (n := n) (i := j) hn (by omega)
      have hb := choose_bound (n := n) (i := j) hn (by omega)
      rw [← hc] at hs hb ⊢
      have HS := Lib.hid hs
      obtain ⟨hb1, hb2⟩ := hb
      have hc2 : (c : Int) ≤ 1000000 := by
        rcases Nat.lt_or_ge 1000000 c with h | h
        · have h1 : (1 : Int) ≤ (n : Int) - (j : Int) := by omega
          have h2 : (c : Int) * 1 ≤ (c : Int) * ((n : Int) - (j : Int)) := Int.mul_le_mul_of_nonneg_left h1 (by omega)
          omega
        · omega
      have i0 : (((j : Int) + 1) == 0) = false := by simp; omega
      have hd0 : 0 ≤ (c : Int) * ((n : Int) - (j : Int)) / ((j : Int) + 1) := Int.ediv_nonneg hb1 (by omega)
      clear hs hc
      go_wp2
      go_round
      case rel => exact ⟨j + 1, by omega, by go_num, by rw [← HS.out]⟩
      case measure => simp [intOf]; omega
    · obtain rfl : j = k := by omega
      go_wp2
      go_ret
      exact ⟨rfl, rfl⟩

theorem newt0 (F : Nat → Int) (m : Nat) : newt F 0 m = sumN (fun k => (binom m k : Int) * F k) (m + 1) := by
  rw [newt_binom]; exact sumN_congr fun k _ => by rw [Nat.zero_add]

set_option maxHeartbeats 4000000 in
theorem specFromEdge_any (v : Value) (xs : List Int) (w : World) (h : Rd w v xs) (hl : xs.length ≤ maxLen) (hw : ∀ n ∈ xs, (Lit.int .i64 n).wf = true) :
    Calls Try.prog 20 #[v] w (Made 3 w (fromF xs)) := by
  have hv := specvalid_any v xs w h hl
  cases hb : vrB xs with
  | true =>
    rw [hb] at hv
    have hF : Hid (fromF xs = fromL xs) := by show fromF xs = _; unfold fromF; exact if_pos hb
    have hM := (vrB_of hb).1
    obtain ⟨F, hFF⟩ : ∃ F, F = ix xs := ⟨_, rfl⟩
    obtain ⟨n, hn⟩ : ∃ n, n = xs.length := ⟨_, rfl⟩
    have h0 := h
    obtain ⟨ad, cap, rfl, hr⟩ := h0
    have hcell : ∃ b off, (0 < n → ad = some ⟨b, off, none⟩ ∧ b < w.heap.size ∧ ∀ j, j < n → w.cell? ⟨b, off + j, none⟩ = some (.int .i64 (F j))) := by
      rcases hr with rfl | ⟨b, off, rfl, hlt, hc⟩
      · exact ⟨0, 0, fun h => by rw [hn] at h; simp at h⟩
      · exact ⟨b, off, fun _ => ⟨rfl, hlt, fun j hj => by rw [hFF]; exact hc j (by omega)⟩⟩
    obtain ⟨b, off, hcell⟩ := hcell
    have HFF := Lib.hid hFF
    have HN := Lib.hid hn
    rw [← hn] at hM hv ⊢
    clear hb h hl hn hFF hr hw
    by_cases hn0 : n = 0
    · have HZ : Hid (fromL xs = []) := by
        show fromL xs = []
        unfold fromL; rw [← HN.out, hn0]; rfl
      subst hn0
      clear hcell
      go_enter Try.func20, Try.ntmps20
      go_wp2_with fail
      refine hv.mono ?_
      rintro e w1 ⟨rfl, b1⟩
      have hs1 := b1.size
      go_wp2
      refine wp_loop_rounds 1 ?_
      rw [rounds_succ]
      go_wp2
      go_ret
      exact ⟨_, rfl, by rw [hF.out, HZ.out]; exact (own_empty _ _ w1 (Nat.le_refl _)).mono hs1, b1.alloc hs1 _⟩
    · obtain ⟨rfl, hb, hc⟩ := hcell (by omega)
      go_enter Try.func20, Try.ntmps20
      go_wp2_with fail
      refine hv.mono ?_
      rintro e w1 ⟨rfl, b1⟩
      have hs1 := b1.size
      clear hcell hv hn0
      go_wp2
      go_loopw [3, 4] (fun v i wr => ∃ m : Nat, m ≤ n ∧ i = .int .i64 m ∧ Own 3 w.heap.size wr v (tab m fun j => wrap64 (newt F 0 j)) ∧ Below w.heap.size w wr) (fun _ i _ => n - (intOf i).toNat)
      case atStart => exact ⟨0, Nat.zero_le _, rfl, (own_empty _ _ w1 (Nat.le_refl _)).mono hs1, b1.alloc hs1 _⟩
      case round =>
        obtain ⟨m, hm, rfl, hO, hB⟩ := hrel
        by_cases hlt : m < n
        · obtain ⟨wo, rfl⟩ : ∃ wo : World, wo = wr := ⟨_, rfl⟩
          have HO := Lib.hid hO
          clear hO
          go_wp2
          go_loopw [5, 6] (fun x i wr => ∃ k : Nat, k ≤ m + 1 ∧ i = .int .i64 k ∧ x = .int .i64 (wrap64 (sumN (fun k => (binom m k : Int) * F k) k)) ∧ Below wo.heap.size wo wr) (fun _ i _ => m + 1 - (intOf i).toNat)
          case atStart => exact ⟨0, Nat.zero_le _, rfl, by simp [sumN, wrap64], Below.refl _ _⟩
          case round =>
            obtain ⟨k, hk, rfl, rfl, hBx⟩ := hrel
            by_cases hkm : k ≤ m
            · have hcx : wr.cell? ⟨b, off + k, none⟩ = some (.int .i64 (F k)) := by
                have h1 := hB.size
                rw [hBx.cell (p := ⟨b, off + k, none⟩) (by show b < _; omega), hB.cell (p := ⟨b, off + k, none⟩) (by exact hb)]
                exact hc k (by omega)
              have HC := Lib.hid fun w => choose_any m k w (by omega) hkm
              obtain ⟨S, hS⟩ : ∃ S, S = sumN (fun k => (binom m k : Int) * F k) k := ⟨_, rfl⟩
              have HS : Hid (wrap64 (wrap64 S + wrap64 ((binom m k : Int) * F k)) = wrap64 (sumN (fun k => (binom m k : Int) * F k) (k + 1))) := by
                show _ = _
                rw [w64_add, hS]; rfl
              rw [← hS]
              have HHS := Lib.hid hS
              have i1 : (0 : Int) ≤ (k : Int) := by omega
              have i2 : (k : Int) < (n : Int) := by omega
              clear hc hS
              go_wp2
              go_quiet ((go_at_call 58; exact Calls.quiet_of_same ((HC.out _).mono fun _ _ ⟨h1, h2⟩ => ⟨h1, h2.symm⟩)))
              go_wp2
              go_roundw
              case rel => exact ⟨k + 1, by omega, by go_num, by rw [HS.out], below_drewN hBx _⟩
              case measure => simp [intOf]; omega
            · obtain rfl : k = m + 1 := by omega
              have HE : Hid (wrap64 (sumN (fun k => (binom m k : Int) * F k) (m + 1)) = wrap64 (newt F 0 m)) := by show _ = _; rw [newt0]
              have hO2 := HO.out.below hBx (Nat.le_refl _)
              have hB2 := bel_nxt hB hBx
              rw [HE.out]
              clear hB hBx HO
              go_wp2_with (at_builtin; refine app_int rfl _ _ 23 rfl w.heap.size 3 Try.underlying23 infoInt _ _ rfl (hO2.grow _) ⟨wr.heap.size, 0, none⟩ rfl (wrap64 (newt F 0 m)) ?c1 ?c2 ?c3 ?_)
              case c1 => exact cell_new1 _ _ _
              case c2 => simp; omega
              case c3 => have := hB2.size; simp; omega
              intro v' w3 hO' hg'
              have hB' := app_below hB2 hO2 hg'
              have hO3 : Own 3 w.heap.size w3 v' (tab (m + 1) fun j => wrap64 (newt F 0 j)) := by rw [← tab_snoc m _ _ rfl]; exact hO'
              clear hO2 hB2 hO' hg'
              go_wp2
              go_roundw
              case rel => exact ⟨m + 1, by omega, by go_num, hO3, hB'⟩
              case measure => simp [intOf]; omega
        · obtain rfl : m = n := by omega
          go_wp2
          go_ret
          exact ⟨_, rfl, by rw [hF.out, fromL, HN.out.symm, HFF.out.symm]; exact hO, hB⟩
  | false =>
    rw [hb] at hv
    have hF : Hid (fromF xs = []) := by show fromF xs = _; unfold fromF; exact if_neg (by simp [hb])
    go_enter Try.func20, Try.ntmps20
    go_wp2_with fail
    refine hv.mono ?_
    rintro e w1 ⟨rfl, b1⟩
    go_wp2
    go_ret
    exact ⟨_, rfl, by rw [hF.out]; exact Own.nil _ _ _, b1⟩

end Go.Proofs.Ytpalmbcknjmmcaa
