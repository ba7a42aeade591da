/-
  Joined texts: RfStep, Copy, Steps, Difs.
-/
import Derived.Test.YtagncoahobghpacGreatDoorJGdE09
import Derived.Test.YtagncoahobghpacGreatDoorJGdE08
import Derived.Deep.RegionHeld3
import Derived.OwnWalkIn
import Derived.Shelf.Abstract
import Derived.Shelf.RegionOpen
import Derived.TacticsInMore
import Derived.LoopNIn
import Derived.LoopIn
namespace Go.Proofs.YtagncoahobghpacGreatDoor
open Go.RowKit
set_option linter.unusedVariables false
set_option maxRecDepth 100000

variable {P : Program} {n l : Nat}

theorem operIn_of_wp {o : Oper} {a : Act} {w : World} {K : Act → World → Prop} {Q : Exit → Act → World → Prop} (hnd : ∀ c, o.op ≠ .defer c) (h : o.wp P a w K Q) : o.wpIn (Fence.wide.inRound l) n P a w K Q := by
  unfold Oper.wp at h
  unfold Oper.wpIn
  refine ⟨fun _ _ => trivial, ?_⟩
  rw [Oper.semAt_plain _ _ _ hnd]
  generalize (execOp a.eval o).run P w = r at *
  cases r with
  | ok x w' =>
    cases x <;> first
      | exact h
      | exact ⟨fun h => (by cases h), callsIn_wide.2 h⟩
      | exact ⟨fun h => (by cases h), fun c cs _ => let ⟨v, w', r, s⟩ := h c cs; ⟨v, w', r, stepsIn_wide.2 s⟩⟩
      | exact h.elim
  | halt x w' => cases x <;> first | exact h | exact h.elim

/-- No operation is a defer statement. -/
def noDefer (ops : Array Oper) : Bool := ops.all fun o => match o.op with | .defer _ => false | _ => true
theorem noDefer_at {ops : Array Oper} (h : noDefer ops = true) {i : Nat} {o : Oper} (ho : ops[i]? = some o) : ∀ c, o.op ≠ .defer c := by
  intro c hc
  obtain ⟨hi, rfl⟩ := Array.getElem?_eq_some_iff.1 ho
  have := (Array.all_eq_true.1 h) i hi
  rw [hc] at this
  exact absurd this (by simp)

theorem opIn_of_wp {ops : Array Oper} {Q : Exit → Act → World → Prop} {i : Nat} {K K' : Act → World → Prop} {a : Act} {w : World} (hnd : noDefer ops = true) (hQ : ¬ LetsOut Q) (hK : ∀ a w, K a w → K' a w) (h : wpOp P ops Q i K a w) :
    wpOpIn (Fence.wide.inRound l) n P ops Q i K' a w := by
  unfold wpOp at h
  unfold wpOpIn
  cases ho : ops[i]? with
  | none => simp only [ho] at h; exact hK _ _ h
  | some o =>
    simp only [ho] at h
    dsimp only
    by_cases hw : Region.wanted o (yielded ops a.tmps) = true
    · rw [if_pos hw] at h
      rw [if_pos hw]
      rcases h with h | h
      · exact Oper.wpIn_mono hK (operIn_of_wp (noDefer_at hnd ho) h)
      · exact absurd h.2 hQ
    · rw [if_neg hw] at h
      rw [if_neg hw]
      exact ⟨fun _ _ => trivial, hK _ _ h⟩

theorem anyIn_of_anyH {ops : Array Oper} {md : Region.Mode} {Q : Exit → Act → World → Prop} {S : World → Prop} (hnd : noDefer ops = true) (hQ : ¬ LetsOut Q) :
    ∀ fuel listed a w, wpAnyH P md ops Q S fuel listed a w → wpAnyIn (Fence.wide.inRound l) n P md ops Q fuel listed a w
  | 0, _, _, _, h => h
  | fuel + 1, listed, a, w, h => ⟨h.1, fun i hi => opIn_of_wp hnd hQ (fun a w h => anyIn_of_anyH hnd hQ fuel _ a w h.2) (h.2 i hi)⟩

/-- The region that draws, in a round. -/
theorem region_round {ops : Array Oper} {Q : Exit → Act → World → Prop} {S : World → Prop} {id : Nat} {a : Act} {w : World} (hm : P.follows .mixedOrders = true) (hnd : noDefer ops = true) (hQ : ¬ LetsOut Q) (hS : S w.drew)
    (h : S w.drew → wpAnyH P .any ops Q S ops.size (Array.replicate ops.size false) a w.drew) : (Code.region id ops true).wpIn (Fence.wide.inRound l) n P Q a w :=
  wpIn_region_any hm (anyIn_of_anyH hnd hQ _ _ _ _ (h hS))

end Go.Proofs.YtagncoahobghpacGreatDoor

namespace Go.Proofs.YtagncoahobghpacGreatDoor
open Go.RowKit
set_option linter.unusedVariables false

set_option maxHeartbeats 1000000 in
theorem copyOf_any (v : Value) (xs : List Int) (w : World) (h : Rd w v xs) (hl : xs.length ≤ 1048576) :
    Calls Tryz.prog 108 #[v] w (MadeAt 3 w xs) := by
  obtain ⟨a, cap, rfl, h⟩ := h
  obtain ⟨i0, hi, hz0, hz1, hz2⟩ := info_parts infoInt
  go_enter Tryz.func108, Tryz.ntmps108
  go_wp2_with (at_make; refine wpList_make_full _ rfl _ _ 35 rfl w.heap.size 3 i0 (.int .i64 0) 1 Tryz.underlying35 hi hz0 hz1 _ _ _ _ xs.length rfl rfl rfl rfl ?c1 ?c2 ?c3 ?_)
  case c1 => rw [hz2]; omega
  case c2 => unfold maxLen; omega
  case c3 => omega
  intro w1 hown hgrow
  have hO := own_made hown
  have hB := (Below.refl w.heap.size w).grown hgrow (Nat.le_refl _) (by simp)
  have hs := hgrow.size
  have hH := Lib.hid (Own.heap hO)
  clear hown hgrow hO
  go_wp2_with (with_reducible refine wpList_copy_splice rfl (.tmp 7) (.tmp 8) 35 35 rfl 3 Tryz.underlying35 ?k0 _ _ _ _ _ _ rfl rfl w.heap.size 0 ((tab xs.length fun _ => 0).map (Value.int .i64)) 3 hH.out (xs.map (Value.int .i64)) ?k1 ?k2 ?k3 ?k4 w.heap.size w hB (Nat.le_refl _) ?_)
  case k0 => kernel_rfl
  case k1 => simp
  case k2 =>
    intro hpos
    rcases h with rfl | ⟨b, off, rfl, hb, hc⟩
    · simp at hpos
    · refine ⟨⟨b, off, none⟩, rfl, fun j u hj => ?_⟩
      have hlt := (List.getElem?_eq_some_iff.1 hj).1
      rw [show (⟨b, off, none⟩ : Addr).add j = ⟨b, off + j, none⟩ by simp [Addr.add], hB.cell (p := ⟨b, off + j, none⟩) hb, hc j hlt]
      simp [ix, List.getD, hj]
  case k3 => simp
  case k4 => exact ints_oneCell _ _
  intro w2 hH2 hB2
  have hO2 : Own 3 w.heap.size w2 (.slice (some ⟨w.heap.size, 0, none⟩) xs.length xs.length) xs := by
    have := hH2.out
    rw [splice_all _ _ (by simp)] at this
    exact own_heap this (Nat.le_refl _) (by unfold maxLen; omega)
  clear hH2 hH hB
  go_wp2
  go_ret
  exact ⟨_, rfl, Nat.le_refl _, hO2, hB2⟩

/-- What sumUp makes of the numbers F from place o on, m of them. -/
def upTo (F : Nat → Int) (o m : Nat) (j : Nat) : Int := if o ≤ j ∧ j < o + m then sumN (fun i => F (o + i)) (j - o + 1) else F j

/-- The row on the way: the first k + 1 of the m numbers are summed up. -/
def SumInv (E B : Nat) (w wr : World) (g n cap o k : Nat) (F : Nat → Int) : Prop :=
  Own E B wr (.slice (some ⟨g, 0, none⟩) n cap) (tab n fun j => wrap64 (upTo F o (k + 1) j)) ∧ w.grownBy wr (some g)

theorem upTo_at (F : Nat → Int) (o k : Nat) : upTo F o (k + 1) (o + k) = sumN (fun i => F (o + i)) (k + 1) := by
  unfold upTo; rw [if_pos (by omega), show o + k - o + 1 = k + 1 by omega]
theorem upTo_next (F : Nat → Int) (o k : Nat) : upTo F o (k + 1) (o + (k + 1)) = F (o + (k + 1)) := by
  unfold upTo; rw [if_neg (by omega)]
theorem upTo_step (F : Nat → Int) (o k j : Nat) (h : j ≠ o + (k + 1)) : upTo F o (k + 1 + 1) j = upTo F o (k + 1) j := by
  unfold upTo
  by_cases h1 : o ≤ j ∧ j < o + (k + 1)
  · rw [if_pos h1, if_pos (by omega)]
  · rw [if_neg h1, if_neg (by omega)]
theorem upTo_one (F : Nat → Int) (o j : Nat) : upTo F o 1 j = F j := by
  unfold upTo
  by_cases h1 : o ≤ j ∧ j < o + 1
  · rw [if_pos h1]; obtain rfl : j = o := by omega
    simp [sumN]
  · rw [if_neg h1]
theorem upTo_none (F : Nat → Int) (o j : Nat) : upTo F o 0 j = F j := by
  unfold upTo; rw [if_neg (by omega)]

theorem sumInv_step {E B g n cap o k : Nat} {w wr : World} {F : Nat → Int} (h : SumInv E B w wr g n cap o k F) (hn : o + (k + 1) < n) :
    SumInv E B w (wr.setCell ⟨g, o + (k + 1), none⟩ (.int .i64 (wrap64 (wrap64 (F (o + (k + 1))) + wrap64 (sumN (fun i => F (o + i)) (k + 1)))))) g n cap o (k + 1) F := by
  refine ⟨?_, grown_set h.2 _ _⟩
  have := h.1.set (o + (k + 1)) (wrap64 (wrap64 (F (o + (k + 1))) + wrap64 (sumN (fun i => F (o + i)) (k + 1))))
  rw [tab_set] at this
  rw [tab_congr (g := fun j => wrap64 (upTo F o (k + 1 + 1) j))] at this
  · exact this
  · intro j hj
    by_cases e : j = o + (k + 1)
    · subst e; rw [if_pos rfl, upTo_at, w64_add, Int.add_comm]; rfl
    · rw [if_neg e, upTo_step F o k j e]

theorem SumInv.drew {E B g n cap o k : Nat} {w wr : World} {F : Nat → Int} (h : SumInv E B w wr g n cap o k F) : SumInv E B w wr.drew g n cap o k F :=
  ⟨h.1, ⟨h.2.os, h.2.tape, h.2.output, h.2.size, h.2.block⟩⟩

end Go.Proofs.YtagncoahobghpacGreatDoor

namespace Go.Proofs.YtagncoahobghpacGreatDoor
open Go.RowKit
set_option linter.unusedVariables false

def stepsL (xs : List Int) : List Int := tab xs.length fun j => if j = 0 then ix xs 0 else wrap64 (ix xs j - ix xs (j - 1))
def stepsF (xs : List Int) : List Int := if vrB xs = true then stepsL xs else []
theorem stepsF_len (xs : List Int) (h : xs.length ≤ 1048576) : (stepsF xs).length ≤ 1048576 := by unfold stepsF; split <;> simp [stepsL, h]

/-- steps on the way: the numbers up to place k are stepped. -/
def StepInv (E : Nat) (w wr : World) (g n k : Nat) (xs : List Int) : Prop :=
  Own E w.heap.size wr (.slice (some ⟨g, 0, none⟩) n n) (tab n fun j => if j ≤ k ∧ j ≠ 0 then wrap64 (ix xs j - ix xs (j - 1)) else ix xs j) ∧ Below w.heap.size w wr
theorem StepInv.drew {E : Nat} {w wr : World} {g n k : Nat} {xs : List Int} (h : StepInv E w wr g n k xs) : StepInv E w wr.drew g n k xs := ⟨h.1, h.2.drew⟩
theorem stepInv_step {E g n k : Nat} {w wr : World} {xs : List Int} (h : StepInv E w wr g n k xs) (hg : w.heap.size ≤ g) :
    StepInv E w (wr.setCell ⟨g, k + 1, none⟩ (.int .i64 (wrap64 (ix xs (k + 1) - ix xs k)))) g n (k + 1) xs := by
  refine ⟨?_, h.2.setCell hg _⟩
  have := h.1.set (k + 1) (wrap64 (ix xs (k + 1) - ix xs k))
  rw [tab_set] at this
  rw [tab_congr (g := fun j => if j ≤ k + 1 ∧ j ≠ 0 then wrap64 (ix xs j - ix xs (j - 1)) else ix xs j)] at this
  · exact this
  · intro j hj
    by_cases e : j = k + 1
    · subst e; rw [if_pos rfl, if_pos (by omega)]; rfl
    · rw [if_neg e]
      by_cases e2 : j ≤ k ∧ j ≠ 0
      · rw [if_pos e2, if_pos (by omega)]
      · rw [if_neg e2, if_neg (by omega)]

set_option maxHeartbeats 1000000 in
theorem steps_any (v : Value) (xs : List Int) (w : World) (h : Rd w v xs) (hl : xs.length ≤ 1048576) :
    Calls Tryz.prog 109 #[v] w (MadeAt 3 w (stepsL xs)) := by
  have hcp := copyOf_any v xs w h hl
  obtain ⟨a, cap, rfl, h⟩ := h
  rcases h with rfl | ⟨b, off, rfl, hb, hc⟩
  · go_enter Tryz.func109, Tryz.ntmps109
    go_wp2_with fail
    refine hcp.mono ?_
    rintro e w1 ⟨g, rfl, hg, o1, b1⟩
    go_wp2
    refine wp_loop_rounds 1 ?_
    rw [rounds_succ]
    go_wp2
    go_ret
    exact ⟨g, rfl, hg, o1, b1⟩
  · by_cases hn : xs.length = 0
    · obtain rfl : xs = [] := List.eq_nil_of_length_eq_zero hn
      clear hn hc
      go_enter Tryz.func109, Tryz.ntmps109
      go_wp2_with fail
      refine hcp.mono ?_
      rintro e w1 ⟨g, rfl, hg, o1, b1⟩
      go_wp2
      refine wp_loop_rounds 1 ?_
      rw [rounds_succ]
      go_wp2
      go_ret
      exact ⟨g, rfl, hg, o1, b1⟩
    obtain ⟨n, hn2⟩ : ∃ n, n = xs.length := ⟨_, rfl⟩
    have hS : stepsL xs = tab n fun j => if j ≤ n - 1 ∧ j ≠ 0 then wrap64 (ix xs j - ix xs (j - 1)) else ix xs j := by
      rw [hn2]
      refine tab_congr fun j hj => ?_
      by_cases e : j = 0
      · subst e; simp
      · rw [if_neg e, if_pos (by omega)]
    have HL : Hid (MadeAt 3 w (stepsL xs) = fun e w' => ∃ g, e = .returned (.slice (some ⟨g, 0, none⟩) n n) ∧ w.heap.size ≤ g ∧ StepInv 3 w w' g n (n - 1) xs) := by
      funext e w'
      unfold MadeAt StepInv
      rw [hS, len_tab]
    have H0 : Hid (∀ g w1, Own 3 w.heap.size w1 (.slice (some ⟨g, 0, none⟩) n n) xs → Below w.heap.size w w1 → StepInv 3 w w1 g n 0 xs) := by
      intro g w1 ho hbl
      refine ⟨?_, hbl⟩
      rw [tab_congr (g := fun j => ix xs j) (fun j hj => if_neg (by omega)), hn2, tab_self]
      rw [← hn2]; exact ho
    unfold MadeAt at hcp
    rw [← hn2] at hcp hc hl hn ⊢
    rw [HL.out]
    clear hn2 hS
    go_enter Tryz.func109, Tryz.ntmps109
    go_wp2_with fail
    refine hcp.mono ?_
    rintro e w1 ⟨g, rfl, hg, o1, b1⟩
    have hI := H0.out g w1 o1 b1
    clear o1 b1 H0 HL
    go_wp2
    go_loopw [4] (fun i wr => ∃ k : Nat, k + 1 ≤ n ∧ i = .int .i64 ((k : Int) + 1) ∧ StepInv 3 w wr g n k xs) (fun i _ => n - (intOf i).toNat)
    case atStart => exact ⟨0, by omega, rfl, hI⟩
    case round =>
      obtain ⟨k, hk, rfl, hI⟩ := hrel
      by_cases hlt : k + 1 < n
      · have hc1 := hI.1.cell (k + 1) (by simp; omega)
        rw [ix_tab _ _ _ (by omega), if_neg (by omega)] at hc1
        have hf := hI.1.frozen (k + 1)
        have hcx : wr.cell? ⟨b, off + k, none⟩ = some (.int .i64 (ix xs k)) := (hI.2.cell (by exact hb)).trans (hc k (by omega))
        have HS := Lib.hid (stepInv_step hI hg)
        clear hI hc
        go_wp2
        go_region
        go_wp2
        go_roundw
        case rel => exact ⟨k + 1, by omega, by go_num, HS.out.drew⟩
        case measure => simp [intOf]; omega
      · have hkm : n = k + 1 := by omega
        subst hkm
        go_wp2
        go_ret
        exact ⟨g, rfl, hg, hI⟩

end Go.Proofs.YtagncoahobghpacGreatDoor

namespace Go.Proofs.YtagncoahobghpacGreatDoor
open Go.RowKit
set_option linter.unusedVariables false
set_option maxRecDepth 100000
attribute [local go_sem] Oper.semAt_some
theorem wide_fn (f : FuncId) : Fence.wide.fn f = True := rfl
theorem wide_depth : Fence.wide.depth = none := rfl
theorem wide_round : Fence.wide.round = none := rfl
attribute [local go_sem] wide_fn wide_depth wide_round

/-- Number j of the kth row of differences. -/
def dif (F : Nat → Int) : Nat → Nat → Int
  | 0, j => F j
  | k + 1, j => dif F k (j + 1) - dif F k j

/-- Value v reads as the kth row of differences, in a block from m on. -/
def Diff (xs : List Int) (k m : Nat) (v : Value) (W : World) : Prop :=
  ∃ g off n cap, v = .slice (some ⟨g, off, none⟩) n cap ∧ k + n = xs.length ∧ m ≤ g ∧ ∀ j, j < n → W.cell? ⟨g, off + j, none⟩ = some (.int .i64 (wrap64 (dif (ix xs) k j)))

theorem diffRows_any (a : Option Addr) (n cap : Nat) (w : World) :
    Calls Tryz.prog 84 #[.slice a n cap] w fun e w' => e = .returned (.func (.func 107) #[] #[.pointer (some ⟨w.heap.size, 0, none⟩)]) ∧ w' = w.alloc (.cells #[.slice a n cap] 35) := by
  go_enter Tryz.func84, Tryz.ntmps84
  go_wp2
  go_ret
  exact ⟨rfl, rfl⟩

theorem dif_first {xs : List Int} (hw : ∀ n ∈ xs, (Lit.int .i64 n).wf = true) (j : Nat) : ix xs j = wrap64 (dif (ix xs) 0 j) := (ix_wf hw j).symm
theorem dif_next {xs ys : List Int} {k n : Nat} (h : ys = tab (n + 1) fun j => wrap64 (dif (ix xs) k j)) (j : Nat) (hj : j < n) : ix (stepsL ys) (1 + j) = wrap64 (dif (ix xs) (k + 1) j) := by
  have hl : ys.length = n + 1 := by rw [h]; simp
  unfold stepsL
  rw [ix_tab _ _ _ (by omega), if_neg (by omega), h, ix_tab _ _ _ (by omega), ix_tab _ _ _ (by omega), w64_sub, show 1 + j - 1 = j by omega, Nat.add_comm 1 j]
  rfl

theorem diff_rd {xs : List Int} {k m mm cap : Nat} {a : Option Addr} {W : World} (h : Diff xs k mm (.slice a m cap) W) (hk : k + m = xs.length) : Rd W (.slice a m cap) (tab m fun j => wrap64 (dif (ix xs) k j)) := by
  obtain ⟨g, off, n, c, he, hn, hg, hc⟩ := h
  simp only [Value.slice.injEq] at he
  obtain ⟨rfl, rfl, rfl⟩ := he
  refine ⟨_, cap, by rw [len_tab], ?_⟩
  by_cases h0 : m = 0
  · left; subst h0; rfl
  · refine .inr ⟨g, off, rfl, World.block_lt_of_cell? W ⟨g, off + 0, none⟩ (hc 0 (by omega)), fun j hj => ?_⟩
    rw [len_tab] at hj
    rw [hc j hj, ix_tab _ _ _ hj]
/-- What steps leaves of the kth row. -/
def Stepped (xs : List Int) (k m : Nat) (w : World) (e : Ending) (w' : World) : Prop :=
  ∃ g, e = .returned (.slice (some ⟨g, 0, none⟩) m m) ∧ w.heap.size ≤ g ∧ (∀ j, j < m - 1 → w'.cell? ⟨g, 1 + j, none⟩ = some (.int .i64 (wrap64 (dif (ix xs) (k + 1) j)))) ∧ Below w.heap.size w w'
theorem stepped_any {xs : List Int} {k m mm cap : Nat} {a : Option Addr} {W : World} (h : Diff xs k mm (.slice a m cap) W) (hk : k + m = xs.length) (hx : xs.length ≤ 1048576) :
    Calls Tryz.prog 109 #[.slice a m cap] W (Stepped xs k m W) := by
  have hr := diff_rd h hk
  refine (steps_any _ _ W hr (by rw [len_tab]; omega)).mono ?_
  rintro e w' ⟨g, rfl, hg, o, b⟩
  have hl : (stepsL (tab m fun j => wrap64 (dif (ix xs) k j))).length = m := by simp [stepsL]
  refine ⟨g, by rw [hl], hg, fun j hj => ?_, b⟩
  rw [o.cell (1 + j) (by rw [hl]; omega), dif_next (xs := xs) (k := k) (n := m - 1) (by rw [show m - 1 + 1 = m by omega]) j hj]

/-- Where the iterator stands between two rounds. -/
def DiffAt (xs : List Int) (J : Nat → World → Prop) (v : Value) (wr : World) : Prop :=
  ∃ k n a cap A, v = .slice a n cap ∧ k + n = xs.length ∧ J k A ∧ Below A.heap.size A wr ∧ (0 < n → Diff xs k A.heap.size v wr)

set_option maxHeartbeats 2000000 in
set_option maxRecDepth 100000 in
theorem diffs_hands (n : Nat) (v : Value) (xs : List Int) (Bx : Nat) (w : World) (hx : xs.length ≤ 1048576) (hw : ∀ n ∈ xs, (Lit.int .i64 n).wf = true) (hb : Bx < w.heap.size)
    (hB : w.cell? ⟨Bx, 0, none⟩ = some v) (h : Rd w v xs) :
    Hands Fence.wide n Tryz.prog 107 #[.pointer (some ⟨Bx, 0, none⟩)] (fun k m v W => Diff xs k m v W) xs.length w := by
  intro l J Jx W hWb hY hJ0
  have h0 := h
  obtain ⟨a, cap, rfl, -⟩ := h0
  have hcB : W.cell? ⟨Bx, 0, none⟩ = some (.slice a xs.length cap) := (hWb.cell (p := ⟨Bx, 0, none⟩) hb).trans hB
  have hR := h.below hWb (Nat.le_refl _)
  have HCP := Lib.hid (callsIn_wide (n := n - 1).2 (copyOf_any _ xs W hR hx))
  clear hB h
  refine callsIn_of_wp Tryz.func107 rfl trivial ?_ rfl
  simp only [Tryz.ntmps107, List.size_toArray, List.length_cons, List.length_nil, Nat.reduceAdd, Nat.reduceSub, Array.replicate_succ, Array.replicate_zero, List.push_toArray, List.append_toArray, List.nil_append, List.cons_append]
  gi_wp2_with (gi_at_call 108; refine HCP.out.mono ?_; rintro e w1 ⟨g, rfl, hg, o, b⟩)
  have hI : DiffAt xs J (.slice (some ⟨g, 0, none⟩) xs.length xs.length) w1 := by
    refine ⟨0, xs.length, _, _, W, rfl, by omega, hJ0, b, fun _ => ⟨g, 0, xs.length, xs.length, rfl, by omega, hg, fun j hj => ?_⟩⟩
    rw [Nat.zero_add, o.cell j hj, ← dif_first hw]
  clear hJ0 hR hcB HCP b o hg hWb
  gi_loopw [3] (fun v wr => DiffAt xs J v wr) (fun v _ => match v with | .slice _ k _ => k | _ => 0)
  case atStart => exact hI
  case round =>
    obtain ⟨k, m, a1, c1, A, rfl, hkm, hJ, hAB, hD⟩ := hrel
    clear hI
    by_cases hm : 0 < m
    · have hd := hD hm
      have hlt : k < xs.length := by omega
      obtain ⟨fn, tmps, assign, body, hy, hR⟩ := hY k _ A wr hlt hJ hAB hd
      have HY := Lib.hid hY
      have hmi : (0 : Int) < (m : Int) := by omega
      clear hD hd hY
      gi_wp2
      refine hR.mono ?_
      rintro e W3 (⟨rfl, hJ3, hG3⟩ | ⟨rfl, hJx3⟩)
      · have HST := Lib.hid (callsIn_wide (n := n - 1).2 (stepped_any hG3 hkm hx))
        have hm1 : (1 : Int) ≤ (m : Int) := by omega
        clear hR hy hG3 hJ hAB
        by_cases h1 : m = 1
        · subst h1
          gi_wp2_with (gi_at_call 109; refine HST.out.mono ?_; rintro e w4 ⟨g4, rfl, hg4, hc4, b4⟩)
          go_roundw
          case rel => exact ⟨k + 1, 0, _, _, W3, rfl, by omega, hJ3, b4, fun h => absurd h (Nat.lt_irrefl 0)⟩
          case measure => simp
        · gi_wp2_with (gi_at_call 109; refine HST.out.mono ?_; rintro e w4 ⟨g4, rfl, hg4, hc4, b4⟩)
          go_roundw
          case rel => exact ⟨k + 1, m - 1, _, _, W3, rfl, by omega, hJ3, b4, fun _ => ⟨g4, 1, m - 1, m - 1, rfl, by omega, hg4, hc4⟩⟩
          case measure => simp; omega
      · clear hR hy
        gi_wp2
        go_end0
        exact ⟨⟨_, rfl⟩, .inr ⟨k + 1, by omega, hJx3⟩⟩
    · obtain rfl : m = 0 := by omega
      obtain rfl : k = xs.length := by omega
      clear hY hD
      gi_wp2
      go_end0
      exact ⟨⟨_, rfl⟩, .inl ⟨A, hJ, hAB⟩⟩

end Go.Proofs.YtagncoahobghpacGreatDoor
