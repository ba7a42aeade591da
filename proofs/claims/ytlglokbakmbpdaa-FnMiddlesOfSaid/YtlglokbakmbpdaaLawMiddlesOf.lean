/-
  The law FnMiddlesOf, as a contract.
-/
import Derived.Test.YtlglokbakmbpdaaHelpF
import Derived.Test.YtlglokbakmbpdaaDraw4
import Derived.Test.YtlglokbakmbpdaaMdI
import Derived.Test.YtlglokbakmbpdaaLawM
namespace Go.Proofs.Ytlglokbakmbpdaa
open Go.RowKit
set_option linter.unusedVariables false

set_option maxHeartbeats 4000000 in
theorem isIn_yes (b off n c : Nat) (x : Int) (F : Nat → Int) (w : World) (h : ∀ j, j < n → w.cell? ⟨b, off + j, none⟩ = some (.int .i64 (F j))) (hx : ∃ i, i < n ∧ F i = x) (hl : n ≤ 64) :
    Calls Try.prog 28 #[.slice (some ⟨b, off, none⟩) n c, .int .i64 x] w fun e w' => e = .returned (.bool true) ∧ w' = w := by
  have HC := Lib.hid h
  have HX := Lib.hid hx
  clear h hx
  go_enter Try.func28, Try.ntmps28
  go_wp2
  go_loop [5] (fun i => ∃ k : Nat, k ≤ n ∧ i = .int .i64 k ∧ Hid (∀ i, i < k → F i ≠ x)) (fun i => n - (intOf i).toNat)
  case atStart => exact ⟨0, Nat.zero_le _, rfl, Lib.hid (fun i hi => absurd hi (Nat.not_lt_zero i))⟩
  case round =>
    obtain ⟨k, hk, rfl, hno⟩ := hrel
    by_cases hlt : k < n
    · have d := HC.out k hlt
      have k0 : (k : Int) < (n : Int) := by omega
      by_cases hq : F k = x
      · rw [hq] at d
        clear hq
        go_wp2
        go_ret
        exact ⟨rfl, rfl⟩
      · have g : (F k == x) = false := by rw [beq_eq_false_iff_ne]; exact hq
        have HQ := Lib.hid hq
        clear hq
        generalize hy : F k = y at d g
        have HY := Lib.hid hy
        clear hy
        go_wp2
        go_round
        case rel =>
          refine ⟨k + 1, by omega, by go_num, Lib.hid fun i hi => ?_⟩
          rcases Nat.lt_or_ge i k with h | h
          · exact hno.out i h
          · obtain rfl : i = k := by omega
            exact HQ.out
        case measure => simp [intOf]; omega
    · exfalso
      obtain ⟨i, hi, he⟩ := HX.out
      exact hno.out i (by omega) he

set_option maxHeartbeats 8000000 in
set_option maxRecDepth 100000 in
theorem lawMiddlesOf_any (v : Value) (n : Nat) (w : World) (h : RdB w v n) :
    Calls Try.prog 6 #[v] w (Says true w) := by
  have h0 := h
  obtain ⟨a, cap, rfl, h1, h2, -⟩ := h0
  unfold maxLen at h2
  by_cases hbig : n ≤ 1048576
  · go_enter Try.func6, Try.ntmps6
    go_wp2_with fail
    refine (drawMiddlesOf_any _ n _ h).mono ?_
    rintro e w1 ⟨u, xs, z, rfl, o, hl, hw, hz, bb⟩
    clear h h1 h2 hbig
    have HI := Lib.hid fun w (v : Value) (h : Rd w v xs) (hc : ∀ a n c, v = .slice a n c → n ≤ c) => implMiddlesOf_any v xs z w (by omega) h hc (Own.max64 hl)
    have HS := Lib.hid fun w (v : Value) (h : Rd w v xs) (hc : ∀ a n c, v = .slice a n c → n ≤ c) => specMiddlesOf_any v xs z w h hc (Own.max64 hl)
    have hM := Own.max64 hl
    obtain ⟨ys, hys⟩ : ∃ ys, ys = midF xs z := ⟨_, rfl⟩
    rw [← hys] at HI HS
    have hyl : ys.length ≤ 64 := by rw [hys]; exact midF_len xs z
    have hyM := Own.max64 hyl
    have HE := Lib.hid fun w (a b : Value) (h1 : Rd w a ys) (h2 : Rd w b ys) => equalInts_any a b ys ys w h1 h2 hyM hyM
    have HYS := Lib.hid hys
    clear hys
    go_wp2_with fail
    refine (HI.out _ _ o.rd (own_cap o)).mono ?_
    rintro e w2 ⟨u, rfl, p, b2⟩
    have o := o.below b2 (Nat.le_refl _)
    have bb := bel_nxt bb b2
    go_wp2_with fail
    refine (HS.out _ _ o.rd (own_cap o)).mono ?_
    rintro e w3 ⟨u3, rfl, p3, b3⟩
    have o := o.below b3 (Nat.le_refl _)
    have p := p.below b3 (Nat.le_refl _)
    have bb := bel_nxt bb b3
    go_wp2_with fail
    refine (HE.out _ _ _ p.rd p3.rd).mono ?_
    rintro e w4 ⟨rfl, b4⟩
    rw [eqB_self]
    have o := o.below b4 (Nat.le_refl _)
    have p := p.below b4 (Nat.le_refl _)
    have bb := bel_nxt bb b4
    clear b2 b3 b4 p3
    by_cases hy0 : ys.length = 0
    · obtain ⟨a1, c1, rfl⟩ := own_slD p
      rw [hy0]
      rw [hy0] at p
      go_wp2_with fail
      refine (HS.out _ _ o.rd (own_cap o)).mono ?_
      rintro e w5 ⟨u5, rfl, p5, b5⟩
      have p := p.below b5 (Nat.le_refl _)
      have bb := bel_nxt bb b5
      go_wp2_with fail
      refine (HE.out _ _ _ p.rd p5.rd).mono ?_
      rintro e w6 ⟨rfl, b6⟩
      rw [eqB_self]
      have bb := bel_nxt bb b6
      go_wp2
      go_ret
      exact ⟨rfl, bb⟩
    · have hcb : vrB xs = true ∧ 1 ≤ z ∧ z ≤ xs.length ∧ z % 2 = 1 := by
        by_cases q : vrB xs = true ∧ 1 ≤ z ∧ z ≤ xs.length ∧ z % 2 = 1
        · exact q
        · have q2 := HYS.out; rw [midF_no q] at q2; rw [q2] at hy0; simp at hy0
      obtain ⟨hvb, hz0, hz1, hz2⟩ := hcb
      obtain ⟨K, rfl⟩ : ∃ K : Nat, z = (K : Int) := ⟨z.toNat, by omega⟩
      have hyL : ys = midL xs K := by rw [HYS.out]; exact midF_yes hvb (by omega) (by omega) (by omega)
      have hn16 := (vrB_of hvb).1
      obtain ⟨n, hn⟩ : ∃ n, n = xs.length := ⟨_, rfl⟩
      have hyn : ys.length = n + 1 - K := by rw [hyL, hn]; unfold midL; rw [len_tab]
      obtain ⟨N, hN⟩ : ∃ N, N = n + 1 - K := ⟨_, rfl⟩
      have hK2 : K % 2 = 1 := by omega
      have hK1 : 1 ≤ K := by omega
      obtain ⟨a1, c1, rfl⟩ := own_slD p
      obtain ⟨a2, c2, rfl⟩ := own_slD o
      have hcap : n ≤ c2 := by rw [hn]; exact own_cap o _ _ _ rfl
      rw [hyn, ← hN] at p ⊢
      rw [← hn] at o ⊢
      have hN0 : N ≠ 0 := by omega
      have hs16 : n ≤ 16 := by omega
      have hKn : K ≤ n := by omega
      have i5 : ((N : Int) == 0) = false := by rw [beq_eq_false_iff_ne]; omega
      have HYL := Lib.hid hyL
      have HN := Lib.hid hn
      have HNN := Lib.hid hN
      rcases p.shape with ⟨_, h0⟩ | ⟨g1, c1', h0, _, _⟩
      · rw [h0] at hyn; simp at hyn; omega
      obtain ⟨rfl, -, rfl⟩ : a1 = some ⟨g1, 0, none⟩ ∧ True ∧ c1 = c1' := by simp only [Value.slice.injEq] at h0; exact ⟨h0.1, trivial, h0.2.2⟩
      rcases o.shape with ⟨_, h1⟩ | ⟨g2, c2', h1, _, _⟩
      · rw [h1] at hn; simp at hn; omega
      obtain ⟨rfl, -, rfl⟩ : a2 = some ⟨g2, 0, none⟩ ∧ True ∧ c2 = c2' := by simp only [Value.slice.injEq] at h1; exact ⟨h1.1, trivial, h1.2.2⟩
      clear hy0 HI HS HYS hyL hyn hyl hyM HE hz0 hz1 hz2 hn hN hvb hl hM h0 h1
      have HP := Lib.hid p
      have HO := Lib.hid o
      clear p o
      go_wp2
      go_loopw [6] (fun i wr => ∃ k : Nat, k ≤ N ∧ i = .int .i64 k ∧ Below w4.heap.size w4 wr) (fun i _ => N - (intOf i).toNat)
      case atStart => exact ⟨0, Nat.zero_le _, rfl, Below.refl _ _⟩
      case round =>
        obtain ⟨k, hk, rfl, hB⟩ := hrel
        by_cases hlt : k < N
        · have hNN := HNN.out
          have k6 : (k : Int) < (N : Int) := by omega
          have k1 : IntKind.i64.wrap ((k : Int) + (K : Int)) = (k : Int) + (K : Int) := IntWalk.i64_in _ (by omega)
          have k2 : (k : Int) + (K : Int) ≤ (c2 : Int) := by omega
          have k3 : (k : Int) ≤ (k : Int) + (K : Int) := by omega
          have k4 : (0 : Int) ≤ (k : Int) + (K : Int) := by omega
          have k5 : ((k : Int) + (K : Int)).toNat - k = K := by omega
          have k7 : ((k : Int) + (K : Int)).toNat = k + K := by omega
          have k8 : ¬ c2 = k := by omega
          have n17 : N ≤ 17 := by omega
          obtain ⟨x, hx⟩ : ∃ x, x = midV (fun j => ix xs (k + j)) K := ⟨_, rfl⟩
          have HX := Lib.hid hx
          have HM := Lib.hid (midV_is (F := fun j => ix xs (k + j)) (show 0 < K by omega))
          rw [← hx] at HM
          have HK2 := Lib.hid hK2
          clear hx hNN hK2
          go_wp2
          go_loopw [7, 8, 9] (fun l m j wr => ∃ t : Nat, t ≤ K ∧ j = .int .i64 ((k + t : Nat) : Int) ∧ l = .int .i64 (lessN (fun j => ix xs (k + j)) t x) ∧ m = .int .i64 (moreN (fun j => ix xs (k + j)) t x) ∧ Below w4.heap.size w4 wr) (fun _ _ j _ => k + K - (intOf j).toNat)
          case atStart => exact ⟨0, Nat.zero_le _, rfl, rfl, rfl, hB⟩
          case round =>
            obtain ⟨t, ht, rfl, rfl, rfl, hB⟩ := hrel
            have hNN := HNN.out
            have p' := HP.out.below hB (Nat.le_refl _)
            have q' := HO.out.below hB (Nat.le_refl _)
            have d1 := p'.cell k (by rw [HYL.out]; unfold midL; rw [len_tab, ← HN.out]; omega)
            rw [HYL.out, show ix (midL xs K) k = midV (fun j => ix xs (k + j)) K by unfold midL; rw [ix_tab _ _ _ (by rw [← HN.out]; omega)], ← HX.out] at d1
            by_cases htl : t < K
            · have d2 := q'.cell (k + t) (by rw [← HN.out]; omega)
              have l0 := cnt_bd (fun i => if ix xs (k + i) < x then 1 else 0) t (fun i => by split <;> simp)
              have m0 := cnt_bd (fun i => if x < ix xs (k + i) then 1 else 0) t (fun i => by split <;> simp)
              have HL := Lib.hid (show lessN (fun j => ix xs (k + j)) (t + 1) x = lessN (fun j => ix xs (k + j)) t x + (if ix xs (k + t) < x then 1 else 0) from rfl)
              have HR := Lib.hid (show moreN (fun j => ix xs (k + j)) (t + 1) x = moreN (fun j => ix xs (k + j)) t x + (if x < ix xs (k + t) then 1 else 0) from rfl)
              obtain ⟨y, hy⟩ : ∃ y, y = ix xs (k + t) := ⟨_, rfl⟩
              rw [← hy] at d2 HL HR
              obtain ⟨q, hq⟩ : ∃ q, q = k + t := ⟨_, rfl⟩
              rw [← hq] at d2 ⊢
              have q0 : (q : Int) < (k : Int) + (K : Int) := by omega
              have q1 : (q : Int) < (n : Int) := by omega
              obtain ⟨L, hL⟩ : ∃ L, L = lessN (fun j => ix xs (k + j)) t x := ⟨_, rfl⟩
              obtain ⟨R, hR⟩ : ∃ R, R = moreN (fun j => ix xs (k + j)) t x := ⟨_, rfl⟩
              have l1 : 0 ≤ L ∧ L ≤ t := by rw [hL]; exact l0
              have r1 : 0 ≤ R ∧ R ≤ t := by rw [hR]; exact m0
              rw [← hL] at HL ⊢
              rw [← hR] at HR ⊢
              have i1 : IntKind.i64.wrap (L + 1) = L + 1 := IntWalk.i64_in _ (by omega)
              have i2 : IntKind.i64.wrap (R + 1) = R + 1 := IntWalk.i64_in _ (by omega)
              have i3 : IntKind.i64.wrap ((q : Int) + 1) = ((q + 1 : Nat) : Int) := by rw [IntKind.wrap_i64]; omega
              have HQ := Lib.hid hq
              clear hNN hy hL hR hq l0 m0 l1 r1 p' q' k2 k3 k4 k5 k7 HM HX
              rcases Int.lt_trichotomy y x with g | g | g
              · have g1 : ¬ x < y := by omega
                go_wp2_with go_quiet (fail)
                go_roundw
                case rel => exact ⟨t + 1, by omega, by rw [show k + (t + 1) = q + 1 by have := HQ.out; omega]; go_num, by rw [HL.out, if_pos g], by rw [HR.out, if_neg g1, Int.add_zero], bel_drewN hB _⟩
                case measure => simp [intOf]; omega
              · subst g
                have g1 : ¬ y < y := by omega
                go_wp2_with go_quiet (fail)
                go_roundw
                case rel => exact ⟨t + 1, by omega, by rw [show k + (t + 1) = q + 1 by have := HQ.out; omega]; go_num, by rw [HL.out, if_neg g1, Int.add_zero], by rw [HR.out, if_neg g1, Int.add_zero], bel_drewN hB _⟩
                case measure => simp [intOf]; omega
              · have g1 : ¬ y < x := by omega
                go_wp2_with go_quiet (fail)
                go_roundw
                case rel => exact ⟨t + 1, by omega, by rw [show k + (t + 1) = q + 1 by have := HQ.out; omega]; go_num, by rw [HL.out, if_neg g1, Int.add_zero], by rw [HR.out, if_pos g], bel_drewN hB _⟩
                case measure => simp [intOf]; omega
            · obtain rfl : t = K := by omega
              have hH := mid_half HM.out HK2.out
              obtain ⟨L, hL⟩ : ∃ L, L = lessN (fun j => ix xs (k + j)) t x := ⟨_, rfl⟩
              obtain ⟨R, hR⟩ : ∃ R, R = moreN (fun j => ix xs (k + j)) t x := ⟨_, rfl⟩
              have l0 := cnt_bd (fun i => if ix xs (k + i) < x then 1 else 0) t (fun i => by split <;> simp)
              have m0 := cnt_bd (fun i => if x < ix xs (k + i) then 1 else 0) t (fun i => by split <;> simp)
              have l1 : 0 ≤ L ∧ L ≤ t := by rw [hL]; exact l0
              have r1 : 0 ≤ R ∧ R ≤ t := by rw [hR]; exact m0
              rw [← hL, ← hR] at hH
              rw [← hL, ← hR]
              have i1 : IntKind.i64.wrap (2 * L) = 2 * L := IntWalk.i64_in _ (by omega)
              have i2 : IntKind.i64.wrap (2 * R) = 2 * R := IntWalk.i64_in _ (by omega)
              have i3 : ¬ ((t : Int) < 2 * L) := by omega
              have i4 : ¬ ((t : Int) < 2 * R) := by omega
              have i6 : ¬ (((k + t : Nat) : Int) < (k : Int) + (t : Int)) := by omega
              have HI := Lib.hid fun (wq : World) (hq : Below w4.heap.size w4 wq) => isIn_yes g2 k t (c2 - k) x (fun j => ix xs (k + j)) wq (fun j hj => by
                have := (HO.out.below hq (Nat.le_refl _)).cell (k + j) (by rw [← HN.out]; omega)
                exact this) HM.out.1 (by omega)
              have HB := Lib.hid hB
              generalize hgq : ((k + t : Nat) : Int) = q at i6 ⊢
              clear hNN hL hR l0 m0 l1 r1 hH p' q' hB HM HX hgq HP HO HYL HNN
              go_wp2_with fail
              go_quiet ((first | (go_at_call 28; exact Calls.quiet_of_same (HI.out _ (bel_drewN HB.out _)))))
              go_wp2
              go_roundw
              case rel => exact ⟨k + 1, by omega, by go_num, bel_drewN HB.out _⟩
              case measure => simp [intOf]; omega
        · obtain rfl : k = N := by omega
          have i6 : IntKind.i64.wrap ((n : Int) - (K : Int)) = (n : Int) - (K : Int) := IntWalk.i64_in _ (by have := HNN.out; omega)
          have i7 : IntKind.i64.wrap ((n : Int) - (K : Int) + 1) = (k : Int) := by rw [IntKind.wrap_i64]; have := HNN.out; omega
          have bb := bel_nxt bb hB
          go_wp2
          go_ret
          exact ⟨by simp, bb⟩
  · clear h
    go_enter Try.func6, Try.ntmps6
    go_wp2
    go_ret
    exact ⟨rfl, Below.refl _ _⟩
end Go.Proofs.Ytlglokbakmbpdaa
