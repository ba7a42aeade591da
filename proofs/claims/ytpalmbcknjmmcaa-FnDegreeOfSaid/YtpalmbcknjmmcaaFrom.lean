/-
  FromEdge of the program, by its contract.
-/
import Derived.Test.YtpalmbcknjmmcaaCopy
import Derived.Test.YtpalmbcknjmmcaaValid
import Derived.Test.YtpalmbcknjmmcaaFromM
namespace Go.Proofs.Ytpalmbcknjmmcaa
open Go.RowKit
set_option linter.unusedVariables false

def fromL (xs : List Int) : List Int := tab xs.length fun j => wrap64 (newt (ix xs) 0 j)
def fromF (xs : List Int) : List Int := if vrB xs = true then fromL xs else []
theorem fromF_len (xs : List Int) (h : xs.length ≤ 1048576) : (fromF xs).length ≤ 1048576 := by unfold fromF; split <;> simp [fromL, h]

theorem newtS_round {F : Nat → Int} {n t : Nat} (ht : t < n) : tab n (fun j => wrap64 (upTo (newtS F (t + 1)) t (n - t) j)) = tab n fun j => wrap64 (newtS F t j) := by
  refine tab_congr fun j hj => ?_
  congr 1
  unfold upTo
  by_cases h : t ≤ j
  · rw [if_pos ⟨h, by omega⟩]
    obtain ⟨m, rfl⟩ : ∃ m, j = t + m := ⟨j - t, by omega⟩
    rw [show t + m - t + 1 = m + 1 by omega, sumN_shift]
    show newtS F (t + 1) (t + 0) + _ = _
    have e1 : newtS F (t + 1) (t + 0) = F t := by unfold newtS; rw [if_pos (by omega)]; rfl
    have e2 : newtS F t (t + m) = newt F t m := by unfold newtS; rw [if_neg (by omega), show t + m - t = m by omega]
    rw [e1, e2, newt_sum]
    congr 1
    refine sumN_congr fun i hi => ?_
    unfold newtS
    rw [if_neg (by omega), show t + (i + 1) - (t + 1) = i by omega]
  · rw [if_neg (by omega)]
    unfold newtS
    rw [if_pos (by omega), if_pos (by omega)]

set_option maxHeartbeats 2000000 in
theorem implFromEdge_any (v : Value) (xs : List Int) (w : World) (h : Rd w v xs) (hl : xs.length ≤ maxLen) (hw : ∀ n ∈ xs, (Lit.int .i64 n).wf = true) :
    Calls Try.prog 18 #[v] w (Made 3 w (fromF xs)) := by
  have hv := implValid_any v xs w h hl
  cases hb : vrB xs with
  | true =>
    rw [hb] at hv
    have hF : Hid (fromF xs = fromL xs) := by show fromF xs = _; unfold fromF; exact if_pos hb
    have hM := vr_max hb
    obtain ⟨F, hFF⟩ : ∃ F, F = ix xs := ⟨_, rfl⟩
    obtain ⟨n, hn⟩ : ∃ n, n = xs.length := ⟨_, rfl⟩
    go_enter Try.func18, Try.ntmps18
    go_wp2_with fail
    refine hv.mono ?_
    rintro e w1 ⟨rfl, b1⟩
    go_wp2_with fail
    refine (copyOf_any v xs _ (h.below b1 (Nat.le_refl _)) hM).mono ?_
    rintro e w2 ⟨g, rfl, hg, o2, b2⟩
    have HI : Own 3 w1.heap.size w2 (.slice (some ⟨g, 0, none⟩) n n) (tab n fun j => wrap64 (newtS F n j)) := by
      rw [tab_congr (g := fun j => wrap64 (ix xs j)) (fun j hj => by rw [newtS_top F n j hj, hFF]), hn, ← tab_wf hw]; exact o2
    have HFF := Lib.hid hFF
    have HN := Lib.hid hn
    rw [← hn] at hM ⊢
    clear hb hv h hl hn hFF
    go_wp2
    go_loopw [4] (fun i wr => ∃ k : Nat, k ≤ n ∧ i = .int .i64 ((k : Int) - 1) ∧ Own 3 w1.heap.size wr (.slice (some ⟨g, 0, none⟩) n n) (tab n fun j => wrap64 (newtS F k j)) ∧ w2.grownBy wr (some g)) (fun i _ => (intOf i + 1).toNat)
    case atStart => exact ⟨n, Nat.le_refl _, rfl, HI, World.grownBy.refl _ _⟩
    case round =>
      obtain ⟨k, hk, rfl, hO, hgr⟩ := hrel
      by_cases hlt : 1 ≤ k
      · obtain ⟨t, rfl⟩ : ∃ t, k = t + 1 := ⟨k - 1, by omega⟩
        have HO := Lib.hid hO
        have htn : t < n := by omega
        have i1 : (0 : Int) ≤ (t : Int) := by omega
        have i2 : (t : Int) ≤ (n : Int) := by omega
        have i3 : ¬ n = t := by omega
        clear hO
        go_wp2_with fail
        refine (sumUp_any w1.heap.size g n n t (n - t) (n - t) (newtS F (t + 1)) _ HO.out (by omega) hM).mono ?_
        rintro e w3 ⟨rfl, o3, g3⟩
        rw [newtS_round htn] at o3
        have hgr3 := World.grownBy.trans hgr g3
        clear HO hgr g3 i1 i2 i3
        go_wp2
        go_roundw
        case rel => exact ⟨t, by omega, by go_num, o3, hgr3⟩
        case measure => simp [intOf]
      · obtain rfl : k = 0 := by omega
        go_wp2
        go_ret
        refine ⟨_, rfl, ?_, bel_marked (bel_nxt b1 b2) o2 hgr b1.size⟩
        rw [hF.out, fromL, HN.out.symm, HFF.out.symm, tab_congr (g := fun j => wrap64 (newtS F 0 j)) (fun j hj => by rw [newtS_zero])]
        exact hO.mono b1.size
  | false =>
    rw [hb] at hv
    have hF : Hid (fromF xs = []) := by show fromF xs = _; unfold fromF; exact if_neg (by simp [hb])
    go_enter Try.func18, Try.ntmps18
    go_wp2_with fail
    refine hv.mono ?_
    rintro e w1 ⟨rfl, b1⟩
    go_wp2
    go_ret
    exact ⟨_, rfl, by rw [hF.out]; exact Own.nil _ _ _, b1⟩

end Go.Proofs.Ytpalmbcknjmmcaa
