/-
  differenceRows of the program: what its iterator hands out, as a contract.
-/
import Derived.Test.YtpalmbcknjmmcaaRfStep
import Derived.Test.YtpalmbcknjmmcaaSteps
import Derived.Shelf.Abstract
import Derived.Shelf.RegionOpen
import Derived.TacticsInMore
import Derived.LoopNIn
import Derived.LoopIn
namespace Go.Proofs.Ytpalmbcknjmmcaa
open Go.RowKit
set_option linter.unusedVariables false
attribute [local go_sem] Oper.semAt_some
theorem wide_fn (f : FuncId) : Fence.wide.fn f = True := rfl
theorem wide_depth : Fence.wide.depth = none := rfl
theorem wide_round : Fence.wide.round = none := rfl
attribute [local go_sem] wide_fn wide_depth wide_round

/-- Number j of the kth row of differences. -/
def dif (F : Nat → Int) : Nat → Nat → Int
  | 0, j => F j
  | k + 1, j => dif F k (j + 1) - dif F k j

/-- Value v reads as the kth row of differences, in a block from m on. -/
def Diff (xs : List Int) (k m : Nat) (v : Value) (W : World) : Prop :=
  ∃ g off n cap, v = .slice (some ⟨g, off, none⟩) n cap ∧ k + n = xs.length ∧ m ≤ g ∧ ∀ j, j < n → W.cell? ⟨g, off + j, none⟩ = some (.int .i64 (wrap64 (dif (ix xs) k j)))

theorem diffRows_any (a : Option Addr) (n cap : Nat) (w : World) :
    Calls Try.prog 53 #[.slice a n cap] w fun e w' => e = .returned (.func (.func 83) #[] #[.pointer (some ⟨w.heap.size, 0, none⟩)]) ∧ w' = w.alloc (.cells #[.slice a n cap] 23) := by
  go_enter Try.func53, Try.ntmps53
  go_wp2
  go_ret
  exact ⟨rfl, rfl⟩

theorem dif_first {xs : List Int} (hw : ∀ n ∈ xs, (Lit.int .i64 n).wf = true) (j : Nat) : ix xs j = wrap64 (dif (ix xs) 0 j) := (ix_wf hw j).symm
theorem dif_next {xs ys : List Int} {k n : Nat} (h : ys = tab (n + 1) fun j => wrap64 (dif (ix xs) k j)) (j : Nat) (hj : j < n) : ix (stepsL ys) (1 + j) = wrap64 (dif (ix xs) (k + 1) j) := by
  have hl : ys.length = n + 1 := by rw [h]; simp
  unfold stepsL
  rw [ix_tab _ _ _ (by omega), if_neg (by omega), h, ix_tab _ _ _ (by omega), ix_tab _ _ _ (by omega), w64_sub, show 1 + j - 1 = j by omega, Nat.add_comm 1 j]
  rfl

theorem diff_rd {xs : List Int} {k m mm cap : Nat} {a : Option Addr} {W : World} (h : Diff xs k mm (.slice a m cap) W) (hk : k + m = xs.length) : Rd W (.slice a m cap) (tab m fun j => wrap64 (dif (ix xs) k j)) := by
  obtain ⟨g, off, n, c, he, hn, hg, hc⟩ := h
  simp only [Value.slice.injEq] at he
  obtain ⟨rfl, rfl, rfl⟩ := he
  refine ⟨_, cap, by rw [len_tab], ?_⟩
  by_cases h0 : m = 0
  · left; subst h0; rfl
  · refine .inr ⟨g, off, rfl, World.block_lt_of_cell? W ⟨g, off + 0, none⟩ (hc 0 (by omega)), fun j hj => ?_⟩
    rw [len_tab] at hj
    rw [hc j hj, ix_tab _ _ _ hj]
/-- What steps leaves of the kth row. -/
def Stepped (xs : List Int) (k m : Nat) (w : World) (e : Ending) (w' : World) : Prop :=
  ∃ g, e = .returned (.slice (some ⟨g, 0, none⟩) m m) ∧ w.heap.size ≤ g ∧ (∀ j, j < m - 1 → w'.cell? ⟨g, 1 + j, none⟩ = some (.int .i64 (wrap64 (dif (ix xs) (k + 1) j)))) ∧ Below w.heap.size w w'
theorem stepped_any {xs : List Int} {k m mm cap : Nat} {a : Option Addr} {W : World} (h : Diff xs k mm (.slice a m cap) W) (hk : k + m = xs.length) (hx : xs.length ≤ 1048576) :
    Calls Try.prog 59 #[.slice a m cap] W (Stepped xs k m W) := by
  have hr := diff_rd h hk
  refine (steps_any _ _ W hr (by rw [len_tab]; omega)).mono ?_
  rintro e w' ⟨g, rfl, hg, o, b⟩
  have hl : (stepsL (tab m fun j => wrap64 (dif (ix xs) k j))).length = m := by simp [stepsL]
  refine ⟨g, by rw [hl], hg, fun j hj => ?_, b⟩
  rw [o.cell (1 + j) (by rw [hl]; omega), dif_next (xs := xs) (k := k) (n := m - 1) (by rw [show m - 1 + 1 = m by omega]) j hj]

/-- Where the iterator stands between two rounds. -/
def DiffAt (xs : List Int) (J : Nat → World → Prop) (v : Value) (wr : World) : Prop :=
  ∃ k n a cap A, v = .slice a n cap ∧ k + n = xs.length ∧ J k A ∧ Below A.heap.size A wr ∧ (0 < n → Diff xs k A.heap.size v wr)

set_option maxHeartbeats 2000000 in
set_option maxRecDepth 100000 in
theorem diffs_hands (n : Nat) (v : Value) (xs : List Int) (Bx : Nat) (w : World) (hx : xs.length ≤ 1048576) (hw : ∀ n ∈ xs, (Lit.int .i64 n).wf = true) (hb : Bx < w.heap.size)
    (hB : w.cell? ⟨Bx, 0, none⟩ = some v) (h : Rd w v xs) :
    Hands Fence.wide n Try.prog 83 #[.pointer (some ⟨Bx, 0, none⟩)] (fun k m v W => Diff xs k m v W) xs.length w := by
  intro l J Jx W hWb hY hJ0
  have h0 := h
  obtain ⟨a, cap, rfl, -⟩ := h0
  have hcB : W.cell? ⟨Bx, 0, none⟩ = some (.slice a xs.length cap) := (hWb.cell (p := ⟨Bx, 0, none⟩) hb).trans hB
  have hR := h.below hWb (Nat.le_refl _)
  have HCP := Lib.hid (callsIn_wide (n := n - 1).2 (copyOf_any _ xs W hR hx))
  clear hB h
  refine callsIn_of_wp Try.func83 rfl trivial ?_ rfl
  simp only [Try.ntmps83, List.size_toArray, List.length_cons, List.length_nil, Nat.reduceAdd, Nat.reduceSub, Array.replicate_succ, Array.replicate_zero, List.push_toArray, List.append_toArray, List.nil_append, List.cons_append]
  gi_wp2_with (gi_at_call 56; refine HCP.out.mono ?_; rintro e w1 ⟨g, rfl, hg, o, b⟩)
  have hI : DiffAt xs J (.slice (some ⟨g, 0, none⟩) xs.length xs.length) w1 := by
    refine ⟨0, xs.length, _, _, W, rfl, by omega, hJ0, b, fun _ => ⟨g, 0, xs.length, xs.length, rfl, by omega, hg, fun j hj => ?_⟩⟩
    rw [Nat.zero_add, o.cell j hj, ← dif_first hw]
  clear hJ0 hR hcB HCP b o hg hWb
  gi_loopw [3] (fun v wr => DiffAt xs J v wr) (fun v _ => match v with | .slice _ k _ => k | _ => 0)
  case atStart => exact hI
  case round =>
    obtain ⟨k, m, a1, c1, A, rfl, hkm, hJ, hAB, hD⟩ := hrel
    clear hI
    by_cases hm : 0 < m
    · have hd := hD hm
      have hlt : k < xs.length := by omega
      obtain ⟨fn, tmps, assign, body, hy, hR⟩ := hY k _ A wr hlt hJ hAB hd
      have HY := Lib.hid hY
      have hmi : (0 : Int) < (m : Int) := by omega
      clear hD hd hY
      gi_wp2
      refine hR.mono ?_
      rintro e W3 (⟨rfl, hJ3, hG3⟩ | ⟨rfl, hJx3⟩)
      · have HST := Lib.hid (callsIn_wide (n := n - 1).2 (stepped_any hG3 hkm hx))
        have hm1 : (1 : Int) ≤ (m : Int) := by omega
        clear hR hy hG3 hJ hAB
        by_cases h1 : m = 1
        · subst h1
          gi_wp2_with (gi_at_call 59; refine HST.out.mono ?_; rintro e w4 ⟨g4, rfl, hg4, hc4, b4⟩)
          go_roundw
          case rel => exact ⟨k + 1, 0, _, _, W3, rfl, by omega, hJ3, b4, fun h => absurd h (Nat.lt_irrefl 0)⟩
          case measure => simp
        · gi_wp2_with (gi_at_call 59; refine HST.out.mono ?_; rintro e w4 ⟨g4, rfl, hg4, hc4, b4⟩)
          go_roundw
          case rel => exact ⟨k + 1, m - 1, _, _, W3, rfl, by omega, hJ3, b4, fun _ => ⟨g4, 1, m - 1, m - 1, rfl, by omega, hg4, hc4⟩⟩
          case measure => simp; omega
      · clear hR hy
        gi_wp2
        go_end0
        exact ⟨⟨_, rfl⟩, .inr ⟨k + 1, by omega, hJx3⟩⟩
    · obtain rfl : m = 0 := by omega
      obtain rfl : k = xs.length := by omega
      clear hY hD
      gi_wp2
      go_end0
      exact ⟨⟨_, rfl⟩, .inl ⟨A, hJ, hAB⟩⟩

end Go.Proofs.Ytpalmbcknjmmcaa
