/-
  StepsOf of the model, by its contract.
-/
import Derived.Test.YtjdlolahjikegaaSteps
import Derived.StillTailTactics
namespace Go.Proofs.Ytjdlolahjikegaa
open Go.RowKit
set_option linter.unusedVariables false

theorem own_same {E B : Nat} {w w' : World} {v : Value} {xs : List Int} (h : Own E B w v xs) (hh : w'.heap = w.heap) : Own E B w' v xs := by
  obtain ⟨h1, h2⟩ := h
  refine ⟨h1, ?_⟩
  rw [hh]; exact h2

set_option maxHeartbeats 1000000 in
theorem specsteps_any (v : Value) (xs : List Int) (w : World) (h : Rd w v xs) (hl : xs.length ≤ 1048576) :
    Calls Try.prog 58 #[v] w (Made 3 w (stepsL xs)) := by
  obtain ⟨a, cap, rfl, h⟩ := h
  rcases h with rfl | ⟨b, off, rfl, hb, hc⟩
  · go_enter Try.func58, Try.ntmps58
    go_wp2
    refine wp_loop_rounds 1 ?_
    rw [rounds_succ]
    go_wp2
    go_ret
    exact ⟨_, rfl, own_empty _ _ _ (Nat.le_refl _), (Below.refl _ _).alloc (Nat.le_refl _) _⟩
  · go_enter Try.func58, Try.ntmps58
    go_wp2
    go_loopw [3, 4] (fun v i wr => ∃ k : Nat, k ≤ xs.length ∧ i = .int .i64 k ∧ Own 3 w.heap.size wr v (tab k fun j => if j = 0 then ix xs 0 else wrap64 (ix xs j - ix xs (j - 1))) ∧ Below w.heap.size w wr)
      (fun _ i _ => xs.length - (intOf i).toNat)
    case atStart => exact ⟨0, Nat.zero_le _, rfl, own_empty _ _ _ (Nat.le_refl _), (Below.refl _ _).alloc (Nat.le_refl _) _⟩
    case round =>
      obtain ⟨k, hk, rfl, hO, hB⟩ := hrel
      by_cases hlt : k < xs.length
      · by_cases h0 : k = 0
        · subst h0
          have hcx : wr.cell? ⟨b, off, none⟩ = some (.int .i64 (ix xs 0)) := (hB.cell (by exact hb)).trans (hc 0 hlt)
          clear hc
          go_wp2_with (at_builtin; refine app_int rfl _ _ 23 rfl w.heap.size 3 Try.underlying23 infoInt _ _ rfl (hO.grow _) ⟨wr.heap.size, 0, none⟩ rfl (ix xs 0) ?c1 ?c2 ?c3 ?_)
          case c1 => exact cell_new1 _ _ _
          case c2 => simp
          case c3 => have := hB.size; simp; omega
          intro v' w1 hO' hg'
          have hB' := app_below hB hO hg'
          have hO2 : Own 3 w.heap.size w1 v' (tab (0 + 1) fun j => if j = 0 then ix xs 0 else wrap64 (ix xs j - ix xs (j - 1))) := by rw [← tab_snoc 0 _ _ rfl]; exact hO'
          clear hO hB hO' hg'
          go_wp2
          go_roundw
          case rel => exact ⟨0 + 1, by omega, by go_num, hO2, hB'⟩
          case measure => simp [intOf]; omega
        · obtain ⟨p, rfl⟩ : ∃ p, k = p + 1 := ⟨k - 1, by omega⟩
          have hcx : wr.cell? ⟨b, off + (p + 1), none⟩ = some (.int .i64 (ix xs (p + 1))) := (hB.cell (by exact hb)).trans (hc (p + 1) hlt)
          have hcy : wr.cell? ⟨b, off + p, none⟩ = some (.int .i64 (ix xs p)) := (hB.cell (by exact hb)).trans (hc p (by omega))
          have e1 : (((p + 1 : Nat) : Int) == 0) = false := by simp; omega
          have i1 : (0 : Int) ≤ (p : Int) + 1 := by omega
          have i2 : (p : Int) + 1 < (xs.length : Int) := by omega
          have i3 : (0 : Int) ≤ (p : Int) := by omega
          have i4 : (p : Int) < (xs.length : Int) := by omega
          have i5 : IntKind.i64.wrap (p : Int) = (p : Int) := IntWalk.i64_in _ (by omega)
          have i6 : ((p : Int) + 1).toNat = p + 1 := by omega
          have i7 : IntKind.i64.wrap (ix xs (p + 1) - ix xs p) = wrap64 (ix xs (p + 1) - ix xs p) := IntWalk.i64_left _
          have HN : Hid (p + 1 < xs.length ∧ xs.length ≤ 1048576) := ⟨hlt, hl⟩
          clear hlt hk hl
          clear hc
          go_wp2
          have HO := Lib.hid hO
          have HB := Lib.hid hB
          clear hO hB
          go_region_law (refine step_app_int wr rfl (.tmp 20) (.tmp 31) 23 rfl w.heap.size 3 Try.underlying23 infoInt _ _ (by simp [Act.eval, Act.put]) HO.out (grown_alloc_drew _ _) ⟨wr.heap.size, 0, none⟩ (by simp [Act.eval, Act.put]) (wrap64 (ix xs (p + 1) - ix xs p)) (cell_new1 _ _ _) (by have := HN.out; simp; omega) HB.out.size ?_; intro v' w' hO' hg')
          all_goals
            have hB' := app_below0 HB.out HO.out hg'
            have hO2 : Own 3 w.heap.size w' v' (tab (p + 1 + 1) fun j => if j = 0 then ix xs 0 else wrap64 (ix xs j - ix xs (j - 1))) := by
              rw [← tab_snoc (p + 1) _ (wrap64 (ix xs (p + 1) - ix xs p)) (by rw [if_neg (by omega)]; rfl)]; exact hO'
            obtain ⟨hn1, hn2⟩ := HN.out
            clear HO HB hO' hg' i5 i6 i7
            go_wp2
            go_roundw
            case rel => exact ⟨p + 1 + 1, by omega, by go_num, hO2, hB'⟩
            case measure => simp [intOf]; omega
      · have hkl : k = xs.length := by omega
        subst hkl
        go_wp2
        go_ret
        exact ⟨_, rfl, hO, hB⟩

theorem specStepsOf_any (v : Value) (xs : List Int) (w : World) (h : Rd w v xs) (hl : xs.length ≤ maxLen) (hw : ∀ n ∈ xs, (Lit.int .i64 n).wf = true) :
    Calls Try.prog 25 #[v] w (Made 3 w (stepsF xs)) := by
  have hv := specvalid_any v xs w h hl
  cases hb : vrB xs with
  | true =>
    rw [hb] at hv
    have hF : Hid (stepsF xs = stepsL xs) := by unfold stepsF; exact if_pos hb
    have hM := vr_max hb
    
    go_enter Try.func25, Try.ntmps25
    go_wp2_with fail
    refine hv.mono ?_
    rintro e w1 ⟨rfl, b1⟩
    go_wp2_with fail
    refine (specsteps_any v xs _ (h.below b1 (Nat.le_refl _)) hM).mono ?_
    rintro e w2 ⟨g, rfl, o2, b2⟩
    go_wp2
    go_ret
    exact ⟨_, rfl, by rw [hF.out]; exact o2.mono b1.size, bel_nxt b1 b2⟩
  | false =>
    rw [hb] at hv
    have hF : Hid (stepsF xs = []) := by unfold stepsF; exact if_neg (by simp [hb])
    go_enter Try.func25, Try.ntmps25
    go_wp2_with fail
    refine hv.mono ?_
    rintro e w1 ⟨rfl, b1⟩
    go_wp2
    go_ret
    exact ⟨_, rfl, by rw [hF.out]; exact Own.nil _ _ _, b1⟩

end Go.Proofs.Ytjdlolahjikegaa
