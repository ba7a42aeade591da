/-
  Middles of boxes: the program, by its contracts (written by mdgen.py).
-/
import Derived.Test.YtlglokbakmbpdaaMdM
import Derived.Test.YtlglokbakmbpdaaSortL
import Derived.Test.YtlglokbakmbpdaaBxI
import Derived.Test.YtlglokbakmbpdaaCopy
import Derived.Sort.OwnSortedInts
namespace Go.Proofs.Ytlglokbakmbpdaa
open Go.RowKit
set_option linter.unusedVariables false

set_option maxHeartbeats 4000000 in
theorem middleOf_any (v : Value) (xs : List Int) (w : World) (h : Rd w v xs) (h0 : 0 < xs.length) (hl : xs.length ≤ 1048576) :
    Calls Try.prog 57 #[v] w (Tells (midV (ix xs) xs.length) w) := by
  have hv := copyOf_any v xs w h hl
  have HP := Lib.hid (midV_sorted (sort_perm xs) (sort_sorted xs) h0)
  have HL := Lib.hid (sort_perm xs).length_eq
  obtain ⟨ts, hts⟩ : ∃ ts, ts = xs.mergeSort fun x y => decide (x ≤ y) := ⟨_, rfl⟩
  rw [← hts] at HP HL
  have HT := Lib.hid hts
  obtain ⟨z, hz⟩ : ∃ z, z = midV (ix xs) xs.length := ⟨_, rfl⟩
  rw [← hz] at HP ⊢
  clear hz
  obtain ⟨a, cap, rfl, -⟩ := h
  obtain ⟨n, hn⟩ : ∃ n, n = xs.length := ⟨_, rfl⟩
  have HN := Lib.hid hn
  rw [← hn] at h0 hl ⊢
  rw [← hn] at hv
  have HV := Lib.hid hv
  clear hts hn hv
  go_enter Try.func57, Try.ntmps57
  go_wp2_with fail
  refine HV.out.mono ?_
  rintro e w1 ⟨g, rfl, hg, o, b1⟩
  have hn := HN.out
  rw [← hn] at o ⊢
  have hS : Calls Try.prog 73 #[.slice (some ⟨g, 0, none⟩) n n] w1 fun e w' => e = .returned (.tuple #[]) ∧ Own 3 w.heap.size w' (.slice (some ⟨g, 0, none⟩) n n) ts ∧ Below w.heap.size w w' := by
    rcases o.2 with ⟨h', _⟩ | ⟨g', cap', cur, h', hB, hb, q1, q2, q3, q4⟩
    · simp only [Value.slice.injEq] at h'; cases h'.1
    · simp only [Value.slice.injEq, Option.some.injEq, Addr.mk.injEq] at h'
      obtain ⟨⟨rfl, -, -⟩, -, rfl⟩ := h'
      rw [Nat.mul_one] at q4
      have hH := holds_of_blockI (ss := xs) hb q4
      have hc := slices_Sort_int g 0 n xs w1 hH (Array.getElem?_eq_some_iff.1 hb).1 (by rw [← hn]; omega)
      rw [← hn] at hc
      refine hc.mono ?_
      rintro e w' ⟨rfl, k, os, rfl⟩
      rw [← HT.out]
      have hw := ownsRow_sortedI (n := k) (os := os) (ts := ts) HL.out hB hb q1 q2 q3
      refine ⟨rfl, ?_, b1.grown (grownBy_sortedI ts.toArray) b1.size (by simpa using hg)⟩
      unfold Own
      rw [HL.out]
      rw [← hn] at hw ⊢
      exact hw
  have HB := Lib.hid b1
  clear o b1 hn
  go_wp2_with fail
  refine hS.mono ?_
  rintro e w2 ⟨rfl, o, b2⟩
  have i2 : (n : Int).tdiv 2 = ((n / 2 : Nat) : Int) := by rw [Int.tdiv_eq_ediv_of_nonneg (by omega)]; omega
  have i4 : (n / 2 : Nat) < n := by omega
  have d := o.cell (n / 2) (by rw [HL.out, ← HN.out]; exact i4)
  have HD := Lib.hid HP.out
  rw [← HN.out] at HD
  rw [HD.out] at d
  obtain ⟨m, hm⟩ : ∃ m, m = n / 2 := ⟨_, rfl⟩
  rw [← hm] at i2 i4 d
  have i3 : IntKind.i64.wrap (m : Int) = (m : Int) := IntWalk.i64_in _ (by omega)
  have i5 : (m : Int) < (n : Int) := by omega
  clear hm HD o hS
  go_wp2
  go_ret
  exact ⟨rfl, b2⟩

set_option maxHeartbeats 4000000 in
set_option maxRecDepth 20000 in
/-- ofBoxes with middleOf: V tells what the callee says of box i. -/
theorem ofBoxesM_any (v : Value) (xs : List Int) (z : Int) (w : World) (h : Rd w v xs) (hcp : ∀ a n c, v = .slice a n c → n ≤ c) (hl : xs.length ≤ maxLen) (V : Nat → Nat → Int)
    (hV : ∀ (u : Value) (K i : Nat) (wr : World), 1 ≤ K → i + K ≤ xs.length → K ≤ 1048576 → Rd wr u (tab K fun j => ix xs (i + j)) → Calls Try.prog 57 #[u] wr (Tells (V K i) wr)) :
    Calls Try.prog 53 #[v, .int .i64 z, .func (.func 57) #[] #[]] w (Made 3 w (if vrB xs = true ∧ 1 ≤ z ∧ z ≤ xs.length then tab (xs.length + 1 - z.toNat) (V z.toNat) else [])) := by
  have hv := implValid_any v xs w h hl
  obtain ⟨i0, hi, hz0, hz1, hz2⟩ := info_parts infoInt
  cases hb : vrB xs with
  | false =>
    rw [hb] at hv
    rw [if_neg (by simp)]
    obtain ⟨a, cap, rfl, -⟩ := h
    clear hb hV hcp
    go_enter Try.func53, Try.ntmps53
    go_wp2_with fail
    refine hv.mono ?_
    rintro e w1 ⟨rfl, b1⟩
    go_wp2
    go_ret
    exact ⟨_, rfl, Own.nil _ _ _, b1⟩
  | true =>
    rw [hb] at hv
    have n1 := (vrB_of hb).1
    by_cases hz : 1 ≤ z
    · have g1 : ¬ z < 1 := by omega
      by_cases hz' : z ≤ xs.length
      · have g2 : ¬ ((xs.length : Int) < z) := by omega
        rw [if_pos ⟨rfl, hz, hz'⟩]
        obtain ⟨K, rfl⟩ : ∃ K : Nat, z = (K : Int) := ⟨z.toNat, by omega⟩
        rw [Int.toNat_natCast]
        obtain ⟨a, cap, rfl, h⟩ := h
        have hcap : xs.length ≤ cap := hcp _ _ _ rfl
        clear hcp
        rcases h with hx | ⟨b, off, rfl, hbl, hc⟩
        · rw [hx] at hz'; simp at hz'; omega
        obtain ⟨n, hn⟩ : ∃ n, n = xs.length := ⟨_, rfl⟩
        obtain ⟨N, hN⟩ : ∃ N, N = n + 1 - K := ⟨_, rfl⟩
        rw [← hn] at hv hV hc n1 hl hz' g2 hcap ⊢
        rw [← hN]
        have hK : K ≤ n := by omega
        have HN := Lib.hid (show (n : Int) - (K : Int) + 1 = (N : Int) by omega)
        have HNN := Lib.hid hN
        have HC := Lib.hid hc
        have HV := Lib.hid hV
        have j1 : IntKind.i64.wrap ((n : Int) - (K : Int)) = (n : Int) - (K : Int) := IntWalk.i64_in _ (by omega)
        have j2 : IntKind.i64.wrap ((n : Int) - (K : Int) + 1) = (n : Int) - (K : Int) + 1 := IntWalk.i64_in _ (by omega)
        clear hn hN hc hV hb hz hz'
        go_enter Try.func53, Try.ntmps53
        go_wp2_with fail
        refine hv.mono ?_
        rintro e w1 ⟨rfl, b1⟩
        go_wp2_with (at_make; refine wpList_make_full _ rfl _ _ 23 rfl w1.heap.size 3 i0 (.int .i64 0) 1 Try.underlying23 hi hz0 hz1 _ _ _ _ N rfl rfl HN.out HN.out ?c1 ?c2 ?c3 ?_)
        case c1 => rw [hz2]; have := HNN.out; omega
        case c2 => have := HNN.out; unfold maxLen; omega
        case c3 => omega
        intro w2 hown hgrow
        have hI : BxI 3 w w2 w1.heap.size N 0 (V K) := by
          refine ⟨?_, b1.trans ((Below.refl w1.heap.size w1).grown hgrow (Nat.le_refl _) (by simp) |>.mono b1.size)⟩
          have := Own.mono (own_made hown) b1.size
          rw [tab_congr (g := fun _ => 0) (fun j _ => by simp)]; exact this
        have hg := b1.size
        clear hown hgrow j1 j2
        go_wp2
        go_loopw [30] (fun i wr => ∃ x : Nat, x ≤ N ∧ i = .int .i64 x ∧ BxI 3 w wr w1.heap.size N x (V K)) (fun i _ => N - (intOf i).toNat)
        case atStart => exact ⟨0, Nat.zero_le _, rfl, hI⟩
        case round =>
          obtain ⟨x, hx, rfl, hIr⟩ := hrel
          clear hI
          by_cases hlt : x < N
          · have hNN := HNN.out
            have k0 : (x : Int) < (N : Int) := by omega
            have k1 : IntKind.i64.wrap ((x : Int) + (K : Int)) = (x : Int) + (K : Int) := IntWalk.i64_in _ (by omega)
            have k2 : (x : Int) + (K : Int) ≤ (cap : Int) := by omega
            have k3 : (x : Int) ≤ (x : Int) + (K : Int) := by omega
            have k4 : (0 : Int) ≤ (x : Int) + (K : Int) := by omega
            have k5 : ((x : Int) + (K : Int)).toNat - x = K := by omega
            have k6 : ((x : Int) + (K : Int)).toNat = x + K := by omega
            have hRd : Rd wr (.slice (some ⟨b, off + x, none⟩) K (cap - x)) (tab K fun j => ix xs (x + j)) := by
              refine ⟨_, _, by rw [len_tab], .inr ⟨b, off + x, rfl, by have := hIr.2.size; omega, fun j hj => ?_⟩⟩
              rw [len_tab] at hj
              rw [hIr.2.cell (p := ⟨b, off + x + j, none⟩) hbl, ix_tab _ _ _ hj, Nat.add_assoc]
              exact HC.out (x + j) (by omega)
            have HR := Lib.hid (HV.out _ K x wr (by omega) (by omega) (by omega) hRd)
            clear hRd
            go_wp2_with fail
            refine HR.out.mono ?_
            rintro e w5 ⟨rfl, b5⟩
            have hI5 := hIr.below b5
            have d0 := hI5.1.cell x (by rw [len_tab]; omega)
            have f0 := hI5.1.frozen x
            have HS := Lib.hid (hI5.step hlt (by omega))
            clear hIr hNN hI5
            go_wp2
            go_roundw
            case rel => exact ⟨x + 1, by omega, by go_num, HS.out⟩
            case measure => simp [intOf]; omega
          · obtain rfl : x = N := by omega
            have HO : Own 3 w.heap.size wr (.slice (some ⟨w1.heap.size, 0, none⟩) x x) (tab x (V K)) := by
              have := hIr.1
              rw [tab_congr (g := V K) (fun j hj => by rw [if_pos hj])] at this
              exact this
            have HO := Lib.hid HO
            have hB := hIr.2
            clear hIr
            go_wp2
            go_ret
            exact ⟨_, rfl, HO.out, hB⟩
      · have g2 : ((xs.length : Int) < z) := by omega
        rw [if_neg (by omega)]
        obtain ⟨a, cap, rfl, -⟩ := h
        clear hb hV hz hz' hcp
        go_enter Try.func53, Try.ntmps53
        go_wp2_with fail
        refine hv.mono ?_
        rintro e w1 ⟨rfl, b1⟩
        go_wp2
        go_ret
        exact ⟨_, rfl, Own.nil _ _ _, b1⟩
    · have g1 : z < 1 := by omega
      rw [if_neg (by omega)]
      obtain ⟨a, cap, rfl, -⟩ := h
      clear hb hV hz hcp
      go_enter Try.func53, Try.ntmps53
      go_wp2_with fail
      refine hv.mono ?_
      rintro e w1 ⟨rfl, b1⟩
      go_wp2
      go_ret
      exact ⟨_, rfl, Own.nil _ _ _, b1⟩

set_option maxHeartbeats 1000000 in
theorem implMiddlesOf_any (v : Value) (xs : List Int) (z : Int) (w : World) (hz : -9223372036854775808 ≤ z ∧ z ≤ 9223372036854775807) (h : Rd w v xs) (hcp : ∀ a n c, v = .slice a n c → n ≤ c) (hl : xs.length ≤ maxLen) :
    Calls Try.prog 26 #[v, .int .i64 z] w (Made 3 w (midF xs z)) := by
  have HI := Lib.hid (ofBoxesM_any v xs z w h hcp hl (fun K i => midV (fun j => ix xs (i + j)) K) fun u K i wr h1 h2 h3 hu => by
    have := middleOf_any u _ wr hu (by rw [len_tab]; exact h1) (by rw [len_tab]; exact h3)
    rw [len_tab, show midV (ix (tab K fun j => ix xs (i + j))) K = midV (fun j => ix xs (i + j)) K from midV_congr h1 fun j hj => ix_tab _ _ _ hj] at this
    exact this)
  obtain ⟨a, cap, rfl, -⟩ := h
  clear hcp
  have t1 : IntKind.i64.wrap (z.tmod 2) = z.tmod 2 := IntWalk.i64_in _ (by
    have := Int.tmod_lt_of_pos z (show (0 : Int) < 2 by omega)
    have := Int.lt_tmod_of_pos z (show (0 : Int) < 2 by omega)
    omega)
  by_cases ho : z % 2 = 0
  · have t2 : (z.tmod 2 == 0) = true := by rw [beq_iff_eq]; exact Int.tmod_eq_zero_of_dvd (Int.dvd_of_emod_eq_zero ho)
    have HF := Lib.hid (midF_no (xs := xs) (z := z) fun q => by have := q.2.2.2; omega)
    have t3 : z.tmod 2 = 0 := by simpa using t2
    clear ho HI
    go_enter Try.func26, Try.ntmps26
    go_wp2
    go_ret
    exact ⟨_, rfl, by rw [HF.out]; exact Own.nil _ _ _, Below.refl _ _⟩
  · have t2 : (z.tmod 2 == 0) = false := by rw [beq_eq_false_iff_ne]; exact fun h => ho (Int.emod_eq_zero_of_dvd (Int.dvd_of_tmod_eq_zero h))
    have HF := Lib.hid (show (if vrB xs = true ∧ 1 ≤ z ∧ z ≤ xs.length then tab (xs.length + 1 - z.toNat) fun i => midV (fun j => ix xs (i + j)) z.toNat else []) = midF xs z by
      unfold midF midL
      by_cases q : vrB xs = true ∧ 1 ≤ z ∧ z ≤ xs.length
      · rw [if_pos q, if_pos ⟨q.1, q.2.1, q.2.2, by omega⟩]
      · rw [if_neg q, if_neg fun r => q ⟨r.1, r.2.1, r.2.2.1⟩])
    rw [HF.out] at HI
    clear ho
    go_enter Try.func26, Try.ntmps26
    go_wp2_with fail
    refine HI.out.mono ?_
    rintro e w1 ⟨u, rfl, o, b⟩
    go_wp2
    go_ret
    exact ⟨_, rfl, o, b⟩

end Go.Proofs.Ytlglokbakmbpdaa
