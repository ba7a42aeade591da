/-
  Halves and leaps of the model, by their contracts.
-/
import Derived.Test.YtgafiglfmkaniaaHvN
import Derived.Test.YtgafiglfmkaniaaApp2
import Derived.Test.YtgafiglfmkaniaaFnM
import Derived.Test.YtgafiglfmkaniaaCube
import Derived.StillTailTactics
import Derived.Deep.RegionLaw
import Derived.IntWalk
namespace Go.Proofs.Ytgafiglfmkaniaa
open Go.RowKit
set_option linter.unusedVariables false

theorem floor2_any (x : Int) (w : World) (h : -1000000 ≤ x ∧ x ≤ 1000000) :
    Calls Try.prog 47 #[.int .i64 x, .int .i64 2] w fun e w' => e = .returned (.int .i64 (x / 2)) ∧ w = w' := by
  obtain ⟨h0, h1⟩ := h
  by_cases hx : x < 0
  · have HE := Lib.hid (show -((-x + 2 - 1) / 2) = x / 2 by omega)
    have hq : 0 ≤ -x + 2 - 1 := by omega
    have hq1 : (-x + 2 - 1) / 2 ≤ 1000000 := by omega
    have hq2 : 0 ≤ (-x + 2 - 1) / 2 := by omega
    go_enter Try.func47, Try.ntmps47
    go_wp2
    go_ret
    exact ⟨ret_int HE.out, rfl⟩
  · have hx0 : 0 ≤ x := by omega
    clear hx
    go_enter Try.func47, Try.ntmps47
    go_wp2
    go_ret
    exact ⟨rfl, rfl⟩

theorem floor4_any (x : Int) (w : World) (h : -1000000 ≤ x ∧ x ≤ 1000000) :
    Calls Try.prog 47 #[.int .i64 x, .int .i64 4] w fun e w' => e = .returned (.int .i64 (x / 4)) ∧ w = w' := by
  obtain ⟨h0, h1⟩ := h
  by_cases hx : x < 0
  · have HE := Lib.hid (show -((-x + 4 - 1) / 4) = x / 4 by omega)
    have hq : 0 ≤ -x + 4 - 1 := by omega
    have hq1 : (-x + 4 - 1) / 4 ≤ 1000000 := by omega
    have hq2 : 0 ≤ (-x + 4 - 1) / 4 := by omega
    go_enter Try.func47, Try.ntmps47
    go_wp2
    go_ret
    exact ⟨ret_int HE.out, rfl⟩
  · have hx0 : 0 ≤ x := by omega
    clear hx
    go_enter Try.func47, Try.ntmps47
    go_wp2
    go_ret
    exact ⟨rfl, rfl⟩

/-- A row of an even number of numbers. -/
def evB (xs : List Int) : Bool := vrB xs && decide (xs.length % 2 = 0)
theorem evB_of {xs : List Int} (h : evB xs = true) : vrB xs = true ∧ xs.length % 2 = 0 := by simpa [evB] using h
theorem evB_no {xs : List Int} (h : vrB xs = false) : evB xs = false := by simp [evB, h]
theorem evB_eq {xs : List Int} (h : vrB xs = true) : evB xs = decide (xs.length % 2 = 0) := by simp [evB, h]

theorem validEven_any (v : Value) (xs : List Int) (w : World) (h : Rd w v xs) (hl : xs.length ≤ maxLen) :
    Calls Try.prog 38 #[v] w (Says (evB xs) w) := by
  have hv := specvalid_any v xs w h hl
  obtain ⟨a, cap, rfl, -⟩ := h
  cases hb : vrB xs with
  | true =>
    have h16 := (vrB_of hb).1
    have HE := Lib.hid (evB_eq hb)
    rw [hb] at hv
    clear hb
    by_cases h2 : xs.length % 2 = 0
    · have e1 : ((xs.length : Int) % 2 == 0) = true := by rw [beq_iff_eq]; omega
      have HD : Hid (decide (xs.length % 2 = 0) = true) := decide_eq_true h2
      clear h2
      go_enter Try.func38, Try.ntmps38
      go_wp2_with fail
      refine hv.mono ?_
      rintro e w1 ⟨rfl, b1⟩
      go_wp2
      go_ret
      exact ⟨ret_bool (by rw [HE.out, HD.out]), b1⟩
    · have e1 : ((xs.length : Int) % 2 == 0) = false := by rw [beq_eq_false_iff_ne]; omega
      have HD : Hid (decide (xs.length % 2 = 0) = false) := decide_eq_false h2
      clear h2
      go_enter Try.func38, Try.ntmps38
      go_wp2_with fail
      refine hv.mono ?_
      rintro e w1 ⟨rfl, b1⟩
      go_wp2
      go_ret
      exact ⟨ret_bool (by rw [HE.out, HD.out]), b1⟩
  | false =>
    have HE := Lib.hid (evB_no hb)
    rw [hb] at hv
    clear hb
    go_enter Try.func38, Try.ntmps38
    go_wp2_with fail
    refine hv.mono ?_
    rintro e w1 ⟨rfl, b1⟩
    go_wp2
    go_ret
    exact ⟨ret_bool HE.out.symm, b1⟩

set_option maxHeartbeats 4000000 in
theorem spechalve_any (v : Value) (xs : List Int) (m : Nat) (w : World) (h : Rd w v xs) (hm : xs.length = 2 * m) (hl : m ≤ 32) (hb : ∀ j, j < xs.length → -100000 ≤ ix xs j ∧ ix xs j ≤ 100000) :
    Calls Try.prog 39 #[v] w (Made 3 w (tab (2 * m) (hS m (ix xs)))) := by
  obtain ⟨a, cap, rfl, h⟩ := h
  have HX := Lib.hid h
  obtain ⟨F, hF⟩ : ∃ F, F = ix xs := ⟨_, rfl⟩
  have HR := Lib.hid (hal_parts m F)
  rw [← hF] at hb ⊢
  rw [hm] at hb ⊢
  have HF := Lib.hid hF
  have HM := Lib.hid hm
  clear h hF hm
  go_enter Try.func39, Try.ntmps39
  go_wp2
  go_loopw [3, 4, 5] (fun u v i wr => ∃ (k q ca cb : Nat) (ga gb : Option Addr), k ≤ m ∧ Hid (q = 2 * k) ∧ i = .int .i64 q ∧ u = .slice ga k ca ∧ v = .slice gb k cb ∧ Own 3 w.heap.size wr (.slice ga k ca) (tab k fun i => F (2 * i) + (F (2 * i + 1) - F (2 * i)) / 2) ∧ Own 3 w.heap.size wr (.slice gb k cb) (tab k fun i => F (2 * i + 1) - F (2 * i)) ∧ Apt (.slice ga k ca) (.slice gb k cb) ∧ Below w.heap.size w wr) (fun _ _ i _ => 2 * m - (intOf i).toNat)
  case atStart =>
    refine ⟨0, 0, _, _, _, _, Nat.zero_le _, rfl, rfl, rfl, rfl, (own_empty _ _ _ (Nat.le_refl _)).grow _, ?_, ?_, ((Below.refl _ _).alloc (Nat.le_refl _) _).alloc (by simp) _⟩
    · have := own_empty 3 w.heap.size (w.alloc (.cells #[] 3)) (by simp)
      simp at this
      exact this
    · intro j hj e
      simp [Value.ownBlock] at hj e
      omega
  case round =>
    obtain ⟨k, q, ca, cb, ga, gb, hk, hq, rfl, rfl, rfl, hU, hV, hA, hB⟩ := hrel
    by_cases hlt : k < m
    · rcases HX.out with hx | ⟨b, off, rfl, hbl, hc⟩
      · have := HM.out; rw [hx] at this; simp at this; omega
      have hqo := hq.out
      have hc0 : wr.cell? ⟨b, off + q, none⟩ = some (.int .i64 (F (2 * k))) := by rw [hB.cell (p := ⟨b, off + q, none⟩) hbl, hc q (by rw [HM.out]; omega), HF.out, hqo]
      have hc1 : wr.cell? ⟨b, off + (q + 1), none⟩ = some (.int .i64 (F (2 * k + 1))) := by rw [hB.cell (p := ⟨b, off + (q + 1), none⟩) hbl, hc (q + 1) (by rw [HM.out]; omega), HF.out, hqo]
      have b0 := hb (2 * k) (by omega)
      have b1 := hb (2 * k + 1) (by omega)
      obtain ⟨x, hx⟩ : ∃ x, x = F (2 * k) := ⟨_, rfl⟩
      obtain ⟨y, hy⟩ : ∃ y, y = F (2 * k + 1) := ⟨_, rfl⟩
      rw [← hx] at hc0 b0
      rw [← hy] at hc1 b1
      have HXX := Lib.hid hx
      have HY := Lib.hid hy
      have hq1 : (q : Int) + 1 < 2 * (m : Int) := by omega
      have hq2 : (q : Int) < 2 * (m : Int) := by omega
      have hq3 : (0 : Int) ≤ (q : Int) := by omega
      have hq4 : (0 : Int) ≤ (q : Int) + 1 := by omega
      have j1 : IntKind.i64.wrap ((q : Int) + 1) = (q : Int) + 1 := IntWalk.i64_in _ (by omega)
      have j2 : ((q : Int) + 1).toNat = q + 1 := by omega
      obtain ⟨d, hd⟩ : ∃ d, d = y - x := ⟨_, rfl⟩
      have j3 : IntKind.i64.wrap (y - x) = d := by rw [← hd]; exact IntWalk.i64_in _ (by omega)
      have hdb : -1000000 ≤ d ∧ d ≤ 1000000 := by omega
      have HDD := Lib.hid hd
      clear hc hb hx hy hqo hd
      go_wp2
      go_quiet (fail)
      clear j1 j2 j3
      have hU := hU.below (below_drewN (Below.refl wr.heap.size wr) nq) (Nat.le_refl _)
      have hV := hV.below (below_drewN (Below.refl wr.heap.size wr) nq) (Nat.le_refl _)
      have hB := below_drewN hB nq
      have hc0 : (wr.drewN nq).cell? ⟨b, off + q, none⟩ = some (.int .i64 x) := hc0
      generalize wr.drewN nq = wq at hU hV hB hc0 ⊢
      have HFL := Lib.hid fun w => floor2_any d w hdb
      obtain ⟨f, hf⟩ : ∃ f, f = d / 2 := ⟨_, rfl⟩
      rw [← hf] at HFL
      obtain ⟨z, hz⟩ : ∃ z, z = x + f := ⟨_, rfl⟩
      have j3 : IntKind.i64.wrap (x + f) = z := by rw [← hz]; exact IntWalk.i64_in _ (by omega)
      have HZ := Lib.hid hz
      have HF2 := Lib.hid hf
      clear hf hz
      go_wp2
      have HU := Lib.hid hU
      clear hU
      go_region_law
        (first
          | (refine step_app_int_at wq rfl (.tmp 26) (.tmp 34) 23 rfl w.heap.size 3 Try.underlying23 infoInt _ _ (by simp [Act.eval]) HU.out (grown_alloc_drew _ _) ⟨wq.heap.size, 0, none⟩ (by simp [Act.eval]) z (cell_new1 _ _ _) (by simp; omega) hB.size ?_; intro v' w' hO' hg' hat)
          | (go_simp; go_at_call 47; refine (HFL.out _).mono ?_; rintro e w' ⟨rfl, rfl⟩))
      all_goals
        have hO2 : Own 3 w.heap.size w' v' (tab (k + 1) fun i => F (2 * i) + (F (2 * i + 1) - F (2 * i)) / 2) := by
          rw [← tab_snoc k _ z (by rw [HZ.out, HF2.out, HDD.out, HXX.out, HY.out])]; exact hO'
        have hA2 := hA.symm.grown2 hV hat
        have hV2 := hV.kept hg' hA.symm.kept
        have hB2 := app_below0 hB HU.out hg'
        obtain ⟨ga', ca', rfl⟩ := own_slN hO2 (len_tab _ _)
        clear hO' hg' hat HU hV hB hc0 hA j3
        go_wp2_with (at_builtin; refine app_int_at rfl _ _ 23 rfl w.heap.size 3 Try.underlying23 infoInt _ _ rfl (hV2.grow _) ⟨w'.heap.size, 0, none⟩ rfl d ?_ ?_ ?_ ?_)
        · exact cell_new1 _ _ _
        · simp; omega
        · have := hB2.size; simp; omega
        intro v'' w2 hO' hg' hat
        have hV3 : Own 3 w.heap.size w2 v'' (tab (k + 1) fun i => F (2 * i + 1) - F (2 * i)) := by
          rw [← tab_snoc k _ d (by rw [HDD.out, HXX.out, HY.out])]; exact hO'
        have hat : v''.ownBlock = (Value.slice gb k cb).ownBlock ∨ v''.ownBlock = some (w'.alloc (.cells #[.int .i64 d] 3)).heap.size := by simpa using hat
        have hA3 := hA2.symm.grown (hO2.grow (.cells #[.int .i64 d] 3)) hat
        have hO3 := (hO2.grow (.cells #[.int .i64 d] 3)).kept hg' hA2.symm.kept
        have hB3 := app_below hB2 hV2 hg'
        obtain ⟨gb', cb', rfl⟩ := own_slN hV3 (len_tab _ _)
        have HQ : Hid (q + 2 = 2 * (k + 1)) := by show q + 2 = 2 * (k + 1); have := hq.out; omega
        clear hO' hg' hat hV2 hB2 hO2 hA2
        go_wp2
        go_roundw
        case rel => exact ⟨k + 1, q + 2, ca', cb', ga', gb', by omega, HQ, by go_num, rfl, rfl, hO3, hV3, hA3, hB3⟩
        case measure => have := hq.out; simp [intOf]; omega
    · obtain rfl : k = m := by omega
      have hqo := hq.out
      have hq1 : 2 * (k : Int) ≤ (q : Int) + 1 := by omega
      have hqb : (q : Int) ≤ 64 := by omega
      clear hqo hb
      go_wp2_with (at_builtin; refine app_many rfl _ _ 23 rfl w.heap.size 3 Try.underlying23 infoInt _ _ rfl hU _ _ rfl hV.rd ?e1 ?e2 ?_)
      case e1 => simp; omega
      case e2 => exact hB.size
      intro v' w1 hO' hg'
      have hB' := app_below0 hB hU hg'
      rw [HR.out] at hO'
      obtain ⟨ga', ca', rfl⟩ := own_slN hO' (len_tab _ _)
      clear hU hV hB hg'
      go_wp2
      go_ret
      exact ⟨_, rfl, hO', hB'⟩

theorem rd_lit2 (w : World) (x y : Int) (E k : Nat) (hk : w.heap.size = k) : Rd (w.alloc (.cells #[.int .i64 x, .int .i64 y] E)) (.slice (some ⟨k, 0, none⟩) 2 2) [x, y] := by
  subst hk
  refine ⟨_, 2, rfl, .inr ⟨_, _, rfl, by simp, fun j hj => ?_⟩⟩
  rw [World.cell?_alloc_at _ _ _ _ rfl]
  match j, hj with
  | 0, _ => rfl
  | 1, _ => rfl

set_option maxHeartbeats 4000000 in
theorem specunhalve_any (v : Value) (xs : List Int) (m : Nat) (w : World) (h : Rd w v xs) (hm : xs.length = 2 * m) (hl : m ≤ 32) (hb : ∀ j, j < xs.length → -100000 ≤ ix xs j ∧ ix xs j ≤ 100000) :
    Calls Try.prog 41 #[v] w (Made 3 w (tab (2 * m) (uS m (ix xs)))) := by
  obtain ⟨a, cap, rfl, h⟩ := h
  have HX := Lib.hid h
  obtain ⟨F, hF⟩ : ∃ F, F = ix xs := ⟨_, rfl⟩
  have HR := Lib.hid fun k (hk : k < m) => unh_two m k F hk
  rw [← hF] at hb ⊢
  rw [hm] at hb ⊢
  have HF := Lib.hid hF
  have HM := Lib.hid hm
  clear h hF hm
  go_enter Try.func41, Try.ntmps41
  go_wp2
  go_loopw [3, 5] (fun u i wr => ∃ (k ca : Nat) (ga : Option Addr), k ≤ m ∧ i = .int .i64 k ∧ u = .slice ga (2 * k) ca ∧ Own 3 w.heap.size wr (.slice ga (2 * k) ca) (tab (2 * k) (uS m F)) ∧ Below w.heap.size w wr) (fun _ i _ => m - (intOf i).toNat)
  case atStart => exact ⟨0, _, _, Nat.zero_le _, rfl, rfl, own_empty _ _ _ (Nat.le_refl _), (Below.refl _ _).alloc (Nat.le_refl _) _⟩
  case round =>
    obtain ⟨k, ca, ga, hk, rfl, rfl, hU, hB⟩ := hrel
    by_cases hlt : k < m
    · rcases HX.out with hx | ⟨b, off, rfl, hbl, hc⟩
      · have := HM.out; rw [hx] at this; simp at this; omega
      have hc0 : wr.cell? ⟨b, off + k, none⟩ = some (.int .i64 (F k)) := by rw [hB.cell (p := ⟨b, off + k, none⟩) hbl, hc k (by rw [HM.out]; omega), HF.out]
      have hc1 : wr.cell? ⟨b, off + (m + k), none⟩ = some (.int .i64 (F (m + k))) := by rw [hB.cell (p := ⟨b, off + (m + k), none⟩) hbl, hc (m + k) (by rw [HM.out]; omega), HF.out]
      have b0 := hb k (by omega)
      have b1 := hb (m + k) (by omega)
      have HRK := Lib.hid (HR.out k hlt)
      obtain ⟨x, hx⟩ : ∃ x, x = F k := ⟨_, rfl⟩
      obtain ⟨y, hy⟩ : ∃ y, y = F (m + k) := ⟨_, rfl⟩
      rw [← hx] at hc0 b0 HRK
      rw [← hy] at hc1 b1 HRK
      have hq0 : (k : Int) < 2 * (m : Int) := by omega
      have hq1 : (m : Int) + (k : Int) < 2 * (m : Int) := by omega
      have hq3 : (0 : Int) ≤ (k : Int) := by omega
      have hq4 : (0 : Int) ≤ (m : Int) + (k : Int) := by omega
      obtain ⟨f, hf⟩ : ∃ f, f = y / 2 := ⟨_, rfl⟩
      have HFL := Lib.hid fun w => floor2_any y w (by omega)
      rw [← hf] at HFL HRK
      obtain ⟨z, hz⟩ : ∃ z, z = x - f := ⟨_, rfl⟩
      rw [← hz] at HRK
      have hzb : -1000000 ≤ z ∧ z ≤ 1000000 := by omega
      have j1 : IntKind.i64.wrap ((m : Int) + (k : Int)) = (m : Int) + (k : Int) := IntWalk.i64_in _ (by omega)
      have j2 : ((m : Int) + (k : Int)).toNat = m + k := by omega
      have j3 : IntKind.i64.wrap (x - f) = z := by rw [← hz]; exact IntWalk.i64_in _ (by omega)
      clear hc hb hx hy hf hz HR
      go_wp2
      go_quiet ((first | (go_at_call 47; exact Calls.quiet_of_same ((HFL.out _).mono fun _ _ ⟨h1, h2⟩ => ⟨h1, h2.symm⟩))))
      clear j1 j3
      have hU := hU.below (below_drewN (Below.refl wr.heap.size wr) nq) (Nat.le_refl _)
      have hB := below_drewN hB nq
      have hc1 : (wr.drewN nq).cell? ⟨b, off + (m + k), none⟩ = some (.int .i64 y) := hc1
      generalize wr.drewN nq = wq at hU hB hc1 ⊢
      go_wp2_with (at_builtin; refine app_many rfl _ _ 23 rfl w.heap.size 3 Try.underlying23 infoInt _ _ rfl (hU.grow _) _ [z, z + y] rfl (rd_lit2 _ _ _ _ _ rfl) ?e1 ?e2 ?_)
      case e1 => simp; omega
      case e2 => have := hB.size; simp; omega
      intro v' w1 hO' hg'
      have hB' := app_below hB hU hg'
      rw [HRK.out] at hO'
      obtain ⟨ga', ca', rfl⟩ := own_slN hO' (len_tab _ _)
      clear hU hB hg' j2
      go_wp2
      go_roundw
      case rel => exact ⟨k + 1, ca', ga', by omega, by go_num, rfl, hO', hB'⟩
      case measure => simp [intOf]; omega
    · obtain rfl : k = m := by omega
      have HO := Lib.hid hU
      clear hU hb
      go_wp2
      go_ret
      exact ⟨_, rfl, HO.out, hB⟩

end Go.Proofs.Ytgafiglfmkaniaa
