/-
  copyOf and sumUp of package impl, by their contracts.
-/
import Derived.Test.YtagncoahobghpacInfo
namespace Go.Proofs.Ytagncoahobghpac
open Go.RowKit
set_option linter.unusedVariables false

set_option maxHeartbeats 1000000 in
theorem copyOf_any (v : Value) (xs : List Int) (w : World) (h : Rd w v xs) (hl : xs.length ≤ 1048576) :
    Calls Try.prog 27 #[v] w (MadeAt 3 w xs) := by
  obtain ⟨a, cap, rfl, h⟩ := h
  obtain ⟨i0, hi, hz0, hz1, hz2⟩ := info_parts infoInt
  go_enter Try.func27, Try.ntmps27
  go_wp2_with (at_make; refine wpList_make_full _ rfl _ _ 23 rfl w.heap.size 3 i0 (.int .i64 0) 1 Try.underlying23 hi hz0 hz1 _ _ _ _ xs.length rfl rfl rfl rfl ?c1 ?c2 ?c3 ?_)
  case c1 => rw [hz2]; omega
  case c2 => unfold maxLen; omega
  case c3 => omega
  intro w1 hown hgrow
  have hO := own_made hown
  have hB := (Below.refl w.heap.size w).grown hgrow (Nat.le_refl _) (by simp)
  have hs := hgrow.size
  have hH := Lib.hid (Own.heap hO)
  clear hown hgrow hO
  go_wp2_with (with_reducible refine wpList_copy_splice rfl (.tmp 7) (.tmp 8) 23 23 rfl 3 Try.underlying23 ?k0 _ _ _ _ _ _ rfl rfl w.heap.size 0 ((tab xs.length fun _ => 0).map (Value.int .i64)) 3 hH.out (xs.map (Value.int .i64)) ?k1 ?k2 ?k3 ?k4 w.heap.size w hB (Nat.le_refl _) ?_)
  case k0 => kernel_rfl
  case k1 => simp
  case k2 =>
    intro hpos
    rcases h with rfl | ⟨b, off, rfl, hb, hc⟩
    · simp at hpos
    · refine ⟨⟨b, off, none⟩, rfl, fun j u hj => ?_⟩
      have hlt := (List.getElem?_eq_some_iff.1 hj).1
      rw [show (⟨b, off, none⟩ : Addr).add j = ⟨b, off + j, none⟩ by simp [Addr.add], hB.cell (p := ⟨b, off + j, none⟩) hb, hc j hlt]
      simp [ix, List.getD, hj]
  case k3 => simp
  case k4 => exact ints_oneCell _ _
  intro w2 hH2 hB2
  have hO2 : Own 3 w.heap.size w2 (.slice (some ⟨w.heap.size, 0, none⟩) xs.length xs.length) xs := by
    have := hH2.out
    rw [splice_all _ _ (by simp)] at this
    exact own_heap this (Nat.le_refl _) (by unfold maxLen; omega)
  clear hH2 hH hB
  go_wp2
  go_ret
  exact ⟨_, rfl, Nat.le_refl _, hO2, hB2⟩

/-- What sumUp makes of the numbers F from place o on, m of them. -/
def upTo (F : Nat → Int) (o m : Nat) (j : Nat) : Int := if o ≤ j ∧ j < o + m then sumN (fun i => F (o + i)) (j - o + 1) else F j

/-- The row on the way: the first k + 1 of the m numbers are summed up. -/
def SumInv (E B : Nat) (w wr : World) (g n cap o k : Nat) (F : Nat → Int) : Prop :=
  Own E B wr (.slice (some ⟨g, 0, none⟩) n cap) (tab n fun j => wrap64 (upTo F o (k + 1) j)) ∧ w.grownBy wr (some g)

theorem upTo_at (F : Nat → Int) (o k : Nat) : upTo F o (k + 1) (o + k) = sumN (fun i => F (o + i)) (k + 1) := by
  unfold upTo; rw [if_pos (by omega), show o + k - o + 1 = k + 1 by omega]
theorem upTo_next (F : Nat → Int) (o k : Nat) : upTo F o (k + 1) (o + (k + 1)) = F (o + (k + 1)) := by
  unfold upTo; rw [if_neg (by omega)]
theorem upTo_step (F : Nat → Int) (o k j : Nat) (h : j ≠ o + (k + 1)) : upTo F o (k + 1 + 1) j = upTo F o (k + 1) j := by
  unfold upTo
  by_cases h1 : o ≤ j ∧ j < o + (k + 1)
  · rw [if_pos h1, if_pos (by omega)]
  · rw [if_neg h1, if_neg (by omega)]
theorem upTo_one (F : Nat → Int) (o j : Nat) : upTo F o 1 j = F j := by
  unfold upTo
  by_cases h1 : o ≤ j ∧ j < o + 1
  · rw [if_pos h1]; obtain rfl : j = o := by omega
    simp [sumN]
  · rw [if_neg h1]
theorem upTo_none (F : Nat → Int) (o j : Nat) : upTo F o 0 j = F j := by
  unfold upTo; rw [if_neg (by omega)]

theorem sumInv_step {E B g n cap o k : Nat} {w wr : World} {F : Nat → Int} (h : SumInv E B w wr g n cap o k F) (hn : o + (k + 1) < n) :
    SumInv E B w (wr.setCell ⟨g, o + (k + 1), none⟩ (.int .i64 (wrap64 (wrap64 (F (o + (k + 1))) + wrap64 (sumN (fun i => F (o + i)) (k + 1)))))) g n cap o (k + 1) F := by
  refine ⟨?_, grown_set h.2 _ _⟩
  have := h.1.set (o + (k + 1)) (wrap64 (wrap64 (F (o + (k + 1))) + wrap64 (sumN (fun i => F (o + i)) (k + 1))))
  rw [tab_set] at this
  rw [tab_congr (g := fun j => wrap64 (upTo F o (k + 1 + 1) j))] at this
  · exact this
  · intro j hj
    by_cases e : j = o + (k + 1)
    · subst e; rw [if_pos rfl, upTo_at, w64_add, Int.add_comm]; rfl
    · rw [if_neg e, upTo_step F o k j e]

theorem SumInv.drew {E B g n cap o k : Nat} {w wr : World} {F : Nat → Int} (h : SumInv E B w wr g n cap o k F) : SumInv E B w wr.drew g n cap o k F :=
  ⟨h.1, ⟨h.2.os, h.2.tape, h.2.output, h.2.size, h.2.block⟩⟩

end Go.Proofs.Ytagncoahobghpac
