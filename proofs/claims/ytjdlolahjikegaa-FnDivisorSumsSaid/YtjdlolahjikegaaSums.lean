/-
  SumsOf and StepsOf, program and model.
-/
import Derived.Test.YtjdlolahjikegaaCopy
import Derived.Test.YtjdlolahjikegaaValid
namespace Go.Proofs.Ytjdlolahjikegaa
open Go.RowKit
set_option linter.unusedVariables false

def sumsL (xs : List Int) : List Int := tab xs.length fun j => wrap64 (sumN (ix xs) (j + 1))
def sumsF (xs : List Int) : List Int := if vrB xs = true then sumsL xs else []
theorem sumsF_len (xs : List Int) (h : xs.length ≤ 1048576) : (sumsF xs).length ≤ 1048576 := by unfold sumsF; split <;> simp [sumsL, h]

theorem upTo_all (F : Nat → Int) (n j : Nat) (h : j < n) : upTo F 0 n j = sumN F (j + 1) := by
  unfold upTo
  rw [if_pos (by omega)]
  simp

set_option maxHeartbeats 1000000 in
theorem implSumsOf_any (v : Value) (xs : List Int) (w : World) (h : Rd w v xs) (hl : xs.length ≤ maxLen) (hw : ∀ n ∈ xs, (Lit.int .i64 n).wf = true) :
    Calls Try.prog 19 #[v] w (Made 3 w (sumsF xs)) := by
  have hv := implValid_any v xs w h hl
  cases hb : vrB xs with
  | true =>
    rw [hb] at hv
    have hF : Hid (sumsF xs = sumsL xs) := by unfold sumsF; exact if_pos hb
    have hM := vr_max hb
    go_enter Try.func19, Try.ntmps19
    go_wp2_with fail
    refine hv.mono ?_
    rintro e w1 ⟨rfl, b1⟩
    go_wp2_with fail
    refine (copyOf_any v xs _ (h.below b1 (Nat.le_refl _)) hM).mono ?_
    rintro e w2 ⟨g, rfl, hg, o2, b2⟩
    go_wp2_with fail
    have o2' : Own 3 w1.heap.size w2 (.slice (some ⟨g, 0, none⟩) xs.length xs.length) (tab xs.length fun j => wrap64 (ix xs j)) := by rw [← tab_wf hw]; exact o2
    refine (sumUp_any w1.heap.size g xs.length xs.length 0 xs.length xs.length (ix xs) _ o2' (by omega) hM).mono ?_
    rintro e w3 ⟨rfl, o3, g3⟩
    go_wp2
    go_ret
    refine ⟨_, rfl, ?_, bel_marked (bel_nxt b1 b2) o2 g3 b1.size⟩
    rw [hF.out, sumsL, tab_congr (g := fun j => wrap64 (upTo (ix xs) 0 xs.length j)) (fun j hj => by rw [upTo_all _ _ _ hj])]
    exact o3.mono b1.size
  | false =>
    rw [hb] at hv
    have hF : Hid (sumsF xs = []) := by unfold sumsF; exact if_neg (by simp [hb])
    go_enter Try.func19, Try.ntmps19
    go_wp2_with fail
    refine hv.mono ?_
    rintro e w1 ⟨rfl, b1⟩
    go_wp2
    go_ret
    exact ⟨_, rfl, by rw [hF.out]; exact Own.nil _ _ _, b1⟩

set_option maxHeartbeats 1000000 in
theorem sums_any (v : Value) (xs : List Int) (w : World) (h : Rd w v xs) (hl : xs.length ≤ 1048576) :
    Calls Try.prog 56 #[v] w (Made 3 w (sumsL xs)) := by
  obtain ⟨a, cap, rfl, h⟩ := h
  obtain ⟨i0, hi, hz0, hz1, hz2⟩ := info_parts infoInt
  rcases h with rfl | ⟨b, off, rfl, hb, hc⟩
  · go_enter Try.func56, Try.ntmps56
    go_wp2
    refine wp_loop_rounds 1 ?_
    rw [rounds_succ]
    go_wp2
    go_ret
    exact ⟨_, rfl, own_empty _ _ _ (Nat.le_refl _), (Below.refl _ _).alloc (Nat.le_refl _) _⟩
  · go_enter Try.func56, Try.ntmps56
    go_wp2
    go_loopw [3, 4, 5] (fun v s i wr => ∃ k : Nat, k ≤ xs.length ∧ i = .int .i64 k ∧ s = .int .i64 (wrap64 (sumN (ix xs) k)) ∧ Own 3 w.heap.size wr v (tab k fun j => wrap64 (sumN (ix xs) (j + 1))) ∧ Below w.heap.size w wr)
      (fun _ _ i _ => xs.length - (intOf i).toNat)
    case atStart => exact ⟨0, Nat.zero_le _, rfl, by simp [sumN, wrap64], own_empty _ _ _ (Nat.le_refl _), (Below.refl _ _).alloc (Nat.le_refl _) _⟩
    case round =>
      obtain ⟨k, hk, rfl, rfl, hO, hB⟩ := hrel
      by_cases hlt : k < xs.length
      · have hcx : wr.cell? ⟨b, off + k, none⟩ = some (.int .i64 (ix xs k)) := (hB.cell (by exact hb)).trans (hc k hlt)
        have HS := Lib.hid (w64_addL (sumN (ix xs) k) (ix xs k))
        clear hc
        go_wp2_with (at_builtin; refine app_int rfl _ _ 23 rfl w.heap.size 3 Try.underlying23 infoInt _ _ rfl (hO.grow _) ⟨wr.heap.size, 0, none⟩ rfl (wrap64 (sumN (ix xs) k + ix xs k)) ?c1 ?c2 ?c3 ?_)
        case c1 => rw [HS.out]; exact cell_new1 _ _ _
        case c2 => simp; omega
        case c3 => have := hB.size; simp; omega
        intro v' w1 hO' hg'
        have hB' := app_below hB hO hg'
        have hO2 : Own 3 w.heap.size w1 v' (tab (k + 1) fun j => wrap64 (sumN (ix xs) (j + 1))) := by rw [← tab_snoc k _ _ rfl]; exact hO'
        clear hO hB hO' hg'
        go_wp2
        go_roundw
        case rel => exact ⟨k + 1, by omega, by go_num, by rw [HS.out]; rfl, hO2, hB'⟩
        case measure => simp [intOf]; omega
      · have hkl : k = xs.length := by omega
        subst hkl
        go_wp2
        go_ret
        exact ⟨_, rfl, hO, hB⟩

theorem specSumsOf_any (v : Value) (xs : List Int) (w : World) (h : Rd w v xs) (hl : xs.length ≤ maxLen) (hw : ∀ n ∈ xs, (Lit.int .i64 n).wf = true) :
    Calls Try.prog 21 #[v] w (Made 3 w (sumsF xs)) := by
  have hv := specvalid_any v xs w h hl
  cases hb : vrB xs with
  | true =>
    rw [hb] at hv
    have hF : Hid (sumsF xs = sumsL xs) := by unfold sumsF; exact if_pos hb
    have hM := vr_max hb
    go_enter Try.func21, Try.ntmps21
    go_wp2_with fail
    refine hv.mono ?_
    rintro e w1 ⟨rfl, b1⟩
    go_wp2_with fail
    refine (sums_any v xs _ (h.below b1 (Nat.le_refl _)) hM).mono ?_
    rintro e w2 ⟨g, rfl, o2, b2⟩
    go_wp2
    go_ret
    exact ⟨_, rfl, by rw [hF.out]; exact o2.mono b1.size, bel_nxt b1 b2⟩
  | false =>
    rw [hb] at hv
    have hF : Hid (sumsF xs = []) := by unfold sumsF; exact if_neg (by simp [hb])
    go_enter Try.func21, Try.ntmps21
    go_wp2_with fail
    refine hv.mono ?_
    rintro e w1 ⟨rfl, b1⟩
    go_wp2
    go_ret
    exact ⟨_, rfl, by rw [hF.out]; exact Own.nil _ _ _, b1⟩

end Go.Proofs.Ytjdlolahjikegaa
