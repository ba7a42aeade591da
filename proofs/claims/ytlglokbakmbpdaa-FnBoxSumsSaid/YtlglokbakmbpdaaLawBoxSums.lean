/-
  The law FnBoxSums, as a contract.
-/
import Derived.Test.YtlglokbakmbpdaaHelpF
import Derived.Test.YtlglokbakmbpdaaDraw4
import Derived.Test.YtlglokbakmbpdaaBxI
import Derived.Test.YtlglokbakmbpdaaSums
import Derived.Test.YtlglokbakmbpdaaMany
import Derived.Test.YtlglokbakmbpdaaLawM
namespace Go.Proofs.Ytlglokbakmbpdaa
open Go.RowKit
set_option linter.unusedVariables false

theorem boxF_len64 (xs : List Int) (z : Int) : (boxF xs z).length ≤ 64 := by
  unfold boxF
  split
  · rename_i q
    have := (vrB_of q.1).1
    unfold boxL; rw [len_tab]; omega
  · simp

theorem lst_tab (xs : List Int) (n : Nat) (hn : n = xs.length) : 0 :: sumsL xs = tab (n + 1) fun j => wrap64 (sumN (ix xs) j) := by
  subst hn
  unfold sumsL tab
  rw [List.range_succ_eq_map]
  simp [sumN, wrap64, List.map_map, Function.comp_def]

set_option maxHeartbeats 8000000 in
set_option maxRecDepth 100000 in
theorem lawBoxSums_any (v : Value) (n : Nat) (w : World) (h : RdB w v n) :
    Calls Try.prog 5 #[v] w (Says true w) := by
  have h0 := h
  obtain ⟨a, cap, rfl, h1, h2, -⟩ := h0
  unfold maxLen at h2
  by_cases hbig : n ≤ 1048576
  · go_enter Try.func5, Try.ntmps5
    go_wp2_with fail
    refine (drawBoxSums_any _ n _ h).mono ?_
    rintro e w1 ⟨u, xs, z, rfl, o, hl, hw, hz, bb⟩
    clear h h1 h2 hbig
    have HI := Lib.hid fun w (v : Value) (h : Rd w v xs) (hc : ∀ a n c, v = .slice a n c → n ≤ c) => implBoxSums_any v xs z w h hc (Own.max64 hl)
    have HS := Lib.hid fun w (v : Value) (h : Rd w v xs) => specBoxSums_any v xs z w h (Own.max64 hl)
    have hM := Own.max64 hl
    obtain ⟨ys, hys⟩ : ∃ ys, ys = boxF xs z := ⟨_, rfl⟩
    rw [← hys] at HI HS
    have hyl : ys.length ≤ 64 := by rw [hys]; exact boxF_len64 xs z
    have hyM := Own.max64 hyl
    have HE := Lib.hid fun w (a b : Value) (h1 : Rd w a ys) (h2 : Rd w b ys) => equalInts_any a b ys ys w h1 h2 hyM hyM
    have HYS := Lib.hid hys
    clear hys
    go_wp2_with fail
    refine (HI.out _ _ o.rd (own_cap o)).mono ?_
    rintro e w2 ⟨u, rfl, p, b2⟩
    have o := o.below b2 (Nat.le_refl _)
    have bb := bel_nxt bb b2
    go_wp2_with fail
    refine (HS.out _ _ o.rd).mono ?_
    rintro e w3 ⟨u3, rfl, p3, b3⟩
    have o := o.below b3 (Nat.le_refl _)
    have p := p.below b3 (Nat.le_refl _)
    have bb := bel_nxt bb b3
    go_wp2_with fail
    refine (HE.out _ _ _ p.rd p3.rd).mono ?_
    rintro e w4 ⟨rfl, b4⟩
    rw [eqB_self]
    have o := o.below b4 (Nat.le_refl _)
    have p := p.below b4 (Nat.le_refl _)
    have bb := bel_nxt bb b4
    clear b2 b3 b4 p3
    by_cases hy0 : ys.length = 0
    · obtain ⟨a1, c1, rfl⟩ := own_slD p
      rw [hy0]
      rw [hy0] at p
      go_wp2_with fail
      refine (HS.out _ _ o.rd).mono ?_
      rintro e w5 ⟨u5, rfl, p5, b5⟩
      have p := p.below b5 (Nat.le_refl _)
      have bb := bel_nxt bb b5
      go_wp2_with fail
      refine (HE.out _ _ _ p.rd p5.rd).mono ?_
      rintro e w6 ⟨rfl, b6⟩
      rw [eqB_self]
      have bb := bel_nxt bb b6
      go_wp2
      go_ret
      exact ⟨rfl, bb⟩
    · have hcb : vrB xs = true ∧ 1 ≤ z ∧ z ≤ xs.length := by
        by_cases q : vrB xs = true ∧ 1 ≤ z ∧ z ≤ xs.length
        · exact q
        · have q2 := HYS.out; rw [boxF_no q] at q2; rw [q2] at hy0; simp at hy0
      obtain ⟨hvb, hz0, hz1⟩ := hcb
      obtain ⟨K, rfl⟩ : ∃ K : Nat, z = (K : Int) := ⟨z.toNat, by omega⟩
      have hyL : ys = boxL xs K := by rw [HYS.out]; exact boxF_yes hvb (by omega) (by omega)
      have hn16 := (vrB_of hvb).1
      obtain ⟨n, hn⟩ : ∃ n, n = xs.length := ⟨_, rfl⟩
      have hyn : ys.length = n + 1 - K := by rw [hyL, hn]; unfold boxL; rw [len_tab]
      have HX := Lib.hid fun w (v : Value) (h : Rd w v xs) => implSumsOf_any v xs w h hM hw
      rw [show sumsF xs = sumsL xs by unfold sumsF; exact if_pos hvb] at HX
      obtain ⟨N, hN⟩ : ∃ N, N = n + 1 - K := ⟨_, rfl⟩
      obtain ⟨a1, c1, rfl⟩ := own_slD p
      obtain ⟨a2, c2, rfl⟩ := own_slD o
      rw [hyn, ← hN] at p ⊢
      rw [← hn] at o ⊢
      have hN0 : N ≠ 0 := by omega
      have hs16 : n ≤ 16 := by omega
      have hKn : K ≤ n := by omega
      have i5 : ((N : Int) == 0) = false := by rw [beq_eq_false_iff_ne]; omega
      have HYL := Lib.hid hyL
      have HN := Lib.hid hn
      have HNN := Lib.hid hN
      clear hy0 HI HS HYS hyL hyn hyl hyM HE hz0 hz1 hn hN hvb hl hM
      go_wp2_with fail
      refine (HX.out _ _ (o.grow _).rd).mono ?_
      rintro e w5 ⟨v5, rfl, q5, b5⟩
      have OL : Own 3 w4.heap.size (w4.alloc (.cells #[.int .i64 0] 3)) (.slice (some ⟨w4.heap.size, 0, none⟩) 1 1) [0] := ⟨rfl, .inr ⟨w4.heap.size, 1, _, rfl, Nat.le_refl _, heap_alloc_new _ _, Nat.le_refl _, by unfold maxLen; omega, rfl, rfl⟩⟩
      have apo := Own.apart o OL
      have app := Own.apart p OL
      have OL := OL.below b5 (Nat.le_refl _)
      have o := (o.grow (.cells #[.int .i64 0] 3)).below b5 (Nat.le_refl _)
      have p := (p.grow (.cells #[.int .i64 0] 3)).below b5 (Nat.le_refl _)
      have bb4 := bb.size
      have bb := bel_next (bb.alloc bb.size (.cells #[.int .i64 0] 3)) b5 (by have := bb.size; simp; omega)
      go_wp2_with (at_builtin; refine app_many rfl _ _ 23 rfl w4.heap.size 3 Try.underlying23 infoInt _ _ rfl OL _ (sumsL xs) rfl q5.rd ?e1 ?e2 ?_)
      case e1 => have q1 := HN.out; have q2 := len_sumsL xs; rw [q2, ← q1]; show 1 + n ≤ 16777216; omega
      case e2 => have := b5.size; simp at this; omega
      intro v6 w6 hO hg
      have o := o.kept hg apo.1
      have p := p.kept hg app.1
      have bb := bel_marked bb OL hg bb4
      rw [lst_tab xs n HN.out] at hO
      rcases hO.shape with ⟨_, h0⟩ | ⟨g6, c6, rfl, _, _⟩
      · have := congrArg List.length h0; rw [len_tab] at this; simp at this
      rcases p.shape with ⟨h0, _⟩ | ⟨g1, c1', h0, _, _⟩
      · simp only [Value.slice.injEq] at h0; omega
      obtain ⟨rfl, -, rfl⟩ : a1 = some ⟨g1, 0, none⟩ ∧ True ∧ c1 = c1' := by simp only [Value.slice.injEq] at h0; exact ⟨h0.1, trivial, h0.2.2⟩
      clear OL hg apo app b5 q5 h0
      rw [len_tab]
      rw [len_tab] at hO
      have HP := Lib.hid p
      have HO := Lib.hid hO
      clear p hO
      go_wp2
      go_loopw [7] (fun i wr => ∃ k : Nat, k ≤ N ∧ i = .int .i64 k ∧ Below w6.heap.size w6 wr) (fun i _ => N - (intOf i).toNat)
      case atStart => exact ⟨0, Nat.zero_le _, rfl, Below.refl _ _⟩
      case round =>
        obtain ⟨k, hk, rfl, hB⟩ := hrel
        by_cases hlt : k < N
        · have hNN := HNN.out
          have p' := HP.out.below hB (Nat.le_refl _)
          have q' := HO.out.below hB (Nat.le_refl _)
          have d1 := p'.cell k (by rw [HYL.out]; unfold boxL; rw [len_tab, ← HN.out]; omega)
          have d2 := q'.cell (k + K) (by rw [len_tab]; omega)
          have d3 := q'.cell k (by rw [len_tab]; omega)
          rw [ix_tab _ _ _ (by omega)] at d2 d3
          rw [HYL.out, show ix (boxL xs K) k = wrap64 (sumN (fun j => ix xs (k + j)) K) by unfold boxL; rw [ix_tab _ _ _ (by rw [← HN.out]; omega)]] at d1
          have k1 : IntKind.i64.wrap ((k : Int) + (K : Int)) = (k : Int) + (K : Int) := IntWalk.i64_in _ (by omega)
          have k2 : ((k : Int) + (K : Int)).toNat = k + K := by omega
          have k3 : (0 : Int) ≤ (k : Int) + (K : Int) := by omega
          have k4 : (k : Int) + (K : Int) < (n : Int) + 1 := by omega
          have k5 : (k : Int) < (n : Int) + 1 := by omega
          have k6 : (k : Int) < (N : Int) := by omega
          have k7 : IntKind.i64.wrap (wrap64 (sumN (ix xs) (k + K)) - wrap64 (sumN (ix xs) k)) = wrap64 (sumN (fun j => ix xs (k + j)) K) := by
            rw [box_sum, IntKind.wrap_i64, show ∀ z : Int, (z + 9223372036854775808) % 18446744073709551616 - 9223372036854775808 = wrap64 z from fun z => by unfold wrap64; rfl, w64_sub]
          generalize wrap64 (sumN (ix xs) (k + K)) = z2 at d2 k7
          generalize wrap64 (sumN (ix xs) k) = z3 at d3 k7
          generalize wrap64 (sumN (fun j => ix xs (k + j)) K) = z1 at d1 k7
          clear hNN p' q'
          go_wp2_with go_quiet (fail)
          have k8 : wrap64 ((k : Int) + 1) = ((k + 1 : Nat) : Int) := by unfold wrap64; omega
          refine ⟨⟨k + 1, Nat.succ_le_of_lt hlt, rfl, bel_drewN hB _⟩, ?_⟩
          clear HP HO HX HYL k8 k7 d1 d2 d3
          simp [intOf]; omega
        · obtain rfl : k = N := by omega
          have i6 : IntKind.i64.wrap ((n : Int) - (K : Int)) = (n : Int) - (K : Int) := IntWalk.i64_in _ (by have := HNN.out; omega)
          have i7 : IntKind.i64.wrap ((n : Int) - (K : Int) + 1) = (k : Int) := by rw [IntKind.wrap_i64]; have := HNN.out; omega
          have bb := bel_nxt bb hB
          go_wp2
          go_ret
          exact ⟨by simp, bb⟩
  · clear h
    go_enter Try.func5, Try.ntmps5
    go_wp2
    go_ret
    exact ⟨rfl, Below.refl _ _⟩
end Go.Proofs.Ytlglokbakmbpdaa
