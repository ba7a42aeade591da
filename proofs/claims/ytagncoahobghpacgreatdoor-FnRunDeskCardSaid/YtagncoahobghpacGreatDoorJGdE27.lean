/-
  Joined texts: HvT, HvU, HvR, HvG, HvL.
-/
import Derived.Test.YtagncoahobghpacGreatDoorJGdE26
import Derived.Test.YtagncoahobghpacGreatDoorJGdE25
import Derived.Test.YtagncoahobghpacGreatDoorJGdE10
import Derived.Defers
namespace Go.Proofs.YtagncoahobghpacGreatDoor
open Go.RowKit
set_option linter.unusedVariables false
set_option maxRecDepth 100000

set_option maxHeartbeats 4000000 in
theorem specdetails_any (v : Value) (xs : List Int) (m : Nat) (w : World) (h : Rd w v xs) (hm : xs.length = 2 * m) (hl : m ≤ 32) (hb : ∀ j, j < xs.length → -100000 ≤ ix xs j ∧ ix xs j ≤ 100000) :
    Calls Tryz.prog 60 #[v] w (Made 3 w (tab m (lD m (ix xs)))) := by
  obtain ⟨a, cap, rfl, h⟩ := h
  have HX := Lib.hid h
  obtain ⟨F, hF⟩ : ∃ F, F = ix xs := ⟨_, rfl⟩
  rw [← hF] at hb ⊢
  rw [hm] at hb ⊢
  have HF := Lib.hid hF
  have HM := Lib.hid hm
  have HL := Lib.hid fun k (x y nx : Int) (hx : x = F (2 * k)) (hy : y = F (2 * k + 1)) (hn : nx = if k + 1 < m then F (2 * (k + 1)) else F (2 * k)) => show y - (x + nx) / 2 = lD m F k by
    subst hx; subst hy; subst hn; rfl
  clear h hF hm
  go_enter Tryz.func60, Tryz.ntmps60
  go_wp2
  go_loopw [3, 5] (fun u i wr => ∃ (k p ca : Nat) (ga : Option Addr), k ≤ m ∧ Hid (p = 2 * k) ∧ i = .int .i64 ((p : Int) + 1) ∧ u = .slice ga k ca ∧ Own 3 w.heap.size wr (.slice ga k ca) (tab k (lD m F)) ∧ Below w.heap.size w wr) (fun _ i _ => 2 * m + 1 - (intOf i).toNat)
  case atStart => exact ⟨0, 0, _, _, Nat.zero_le _, rfl, rfl, rfl, own_empty _ _ _ (Nat.le_refl _), (Below.refl _ _).alloc (Nat.le_refl _) _⟩
  case round =>
    obtain ⟨k, p, ca, ga, hk, hp, rfl, rfl, hU, hB⟩ := hrel
    by_cases hlt : k < m
    · rcases HX.out with hx | ⟨b, off, rfl, hbl, hc⟩
      · have := HM.out; rw [hx] at this; simp at this; omega
      have hpo := hp.out
      have hc0 : wr.cell? ⟨b, off + p, none⟩ = some (.int .i64 (F (2 * k))) := by rw [hB.cell (p := ⟨b, off + p, none⟩) hbl, hc p (by rw [HM.out]; omega), HF.out, hpo]
      have hc1 : wr.cell? ⟨b, off + (p + 1), none⟩ = some (.int .i64 (F (2 * k + 1))) := by rw [hB.cell (p := ⟨b, off + (p + 1), none⟩) hbl, hc (p + 1) (by rw [HM.out]; omega), HF.out, hpo]
      have b0 := hb (2 * k) (by omega)
      have b1 := hb (2 * k + 1) (by omega)
      have hq1 : (p : Int) + 1 < 2 * (m : Int) := by omega
      have hq2 : (p : Int) < 2 * (m : Int) := by omega
      have hq3 : (0 : Int) ≤ (p : Int) := by omega
      have hq4 : (0 : Int) ≤ (p : Int) + 1 := by omega
      obtain ⟨x, hx⟩ : ∃ x, x = F (2 * k) := ⟨_, rfl⟩
      obtain ⟨y, hy⟩ : ∃ y, y = F (2 * k + 1) := ⟨_, rfl⟩
      rw [← hx] at hc0 b0
      rw [← hy] at hc1 b1
      have HXX := Lib.hid hx
      have HY := Lib.hid hy
      by_cases hk1 : k + 1 < m
      · have hc2 : wr.cell? ⟨b, off + (p + 1 + 1), none⟩ = some (.int .i64 (F (2 * (k + 1)))) := by rw [hB.cell (p := ⟨b, off + (p + 1 + 1), none⟩) hbl, hc (p + 1 + 1) (by rw [HM.out]; omega), HF.out, hpo, show 2 * k + 1 + 1 = 2 * (k + 1) by omega]
        have b2 := hb (2 * (k + 1)) (by omega)
        have hq5 : (p : Int) + 1 + 1 < 2 * (m : Int) := by omega
        have hq6 : (0 : Int) ≤ (p : Int) + 1 + 1 := by omega
        obtain ⟨nx, hn⟩ : ∃ nx, nx = F (2 * (k + 1)) := ⟨_, rfl⟩
        rw [← hn] at hc2 b2
        have HN := Lib.hid (show nx = if k + 1 < m then F (2 * (k + 1)) else F (2 * k) by rw [if_pos hk1]; exact hn)
        clear hc hb hx hy hn hpo
        obtain ⟨f, hf⟩ : ∃ f, f = (x + nx) / 2 := ⟨_, rfl⟩
        obtain ⟨t, ht⟩ : ∃ t, t = x + nx := ⟨_, rfl⟩
        have HFL := Lib.hid fun w => floor2_any t w (by omega)
        rw [← ht] at hf
        rw [← hf] at HFL
        obtain ⟨z, hz⟩ : ∃ z, z = y - f := ⟨_, rfl⟩
        have HZ := Lib.hid (show z = lD m F k by rw [hz, hf, ht]; exact HL.out k x y nx HXX.out HY.out HN.out)
        have j1 : IntKind.i64.wrap (p : Int) = (p : Int) := IntWalk.i64_in _ (by omega)
        have j2 : ((p : Int) + 1).toNat = p + 1 := by omega
        have j3 : IntKind.i64.wrap (x + nx) = t := by rw [← ht]; exact IntWalk.i64_in _ (by omega)
        have j4 : IntKind.i64.wrap (y - f) = z := by rw [← hz]; exact IntWalk.i64_in _ (by omega)
        have HU := Lib.hid hU
        have hlk : k ≤ 32 := by omega
        clear hf ht hz hU
        go_wp2
        go_region_law
          (first
            | (refine step_app_int wr rfl (.tmp 29) (.tmp 43) 35 rfl w.heap.size 3 Tryz.underlying35 infoInt _ _ (by simp [Act.eval]) HU.out (grown_alloc_drew _ _) ⟨wr.heap.size, 0, none⟩ (by simp [Act.eval]) z (cell_new1 _ _ _) (by simp; omega) hB.size ?_; intro v' w' hO' hg')
            | (go_simp; go_at_call 59; refine (HFL.out _).mono ?_; rintro e w' ⟨rfl, rfl⟩))
        all_goals
          have hO2 : Own 3 w.heap.size w' v' (tab (k + 1) (lD m F)) := by rw [← tab_snoc k _ z HZ.out]; exact hO'
          have hB2 := app_below0 hB HU.out hg'
          have HP : Hid (p + 2 = 2 * (k + 1)) := by show p + 2 = 2 * (k + 1); have := hp.out; omega
          obtain ⟨ga', ca', rfl⟩ := own_slN hO2 (len_tab _ _)
          clear hO' hg' HU hB j1 j2 j3 j4
          go_wp2
          go_roundw
          case rel => exact ⟨k + 1, p + 2, ca', ga', by omega, HP, by go_num, rfl, hO2, hB2⟩
          case measure => have := hp.out; simp [intOf]; omega
      · have hq5 : ¬ (p : Int) + 1 + 1 < 2 * (m : Int) := by omega
        have hq6 : 2 * (m : Int) ≤ (p : Int) + 1 + 1 := by omega
        have HN := Lib.hid (show x = if k + 1 < m then F (2 * (k + 1)) else F (2 * k) by rw [if_neg hk1]; exact hx)
        clear hc hb hx hy hpo
        obtain ⟨f, hf⟩ : ∃ f, f = (x + x) / 2 := ⟨_, rfl⟩
        obtain ⟨t, ht⟩ : ∃ t, t = x + x := ⟨_, rfl⟩
        have HFL := Lib.hid fun w => floor2_any t w (by omega)
        rw [← ht] at hf
        rw [← hf] at HFL
        obtain ⟨z, hz⟩ : ∃ z, z = y - f := ⟨_, rfl⟩
        have HZ := Lib.hid (show z = lD m F k by rw [hz, hf, ht]; exact HL.out k x y x HXX.out HY.out HN.out)
        have j1 : IntKind.i64.wrap (p : Int) = (p : Int) := IntWalk.i64_in _ (by omega)
        have j2 : ((p : Int) + 1).toNat = p + 1 := by omega
        have j3 : IntKind.i64.wrap (x + x) = t := by rw [← ht]; exact IntWalk.i64_in _ (by omega)
        have j4 : IntKind.i64.wrap (y - f) = z := by rw [← hz]; exact IntWalk.i64_in _ (by omega)
        have HU := Lib.hid hU
        have hlk : k ≤ 32 := by omega
        clear hf ht hz hU
        go_wp2
        go_region_law
          (first
            | (refine step_app_int wr rfl (.tmp 29) (.tmp 43) 35 rfl w.heap.size 3 Tryz.underlying35 infoInt _ _ (by simp [Act.eval]) HU.out (grown_alloc_drew _ _) ⟨wr.heap.size, 0, none⟩ (by simp [Act.eval]) z (cell_new1 _ _ _) (by simp; omega) hB.size ?_; intro v' w' hO' hg')
            | (go_simp; go_at_call 59; refine (HFL.out _).mono ?_; rintro e w' ⟨rfl, rfl⟩))
        all_goals
          have hO2 : Own 3 w.heap.size w' v' (tab (k + 1) (lD m F)) := by rw [← tab_snoc k _ z HZ.out]; exact hO'
          have hB2 := app_below0 hB HU.out hg'
          have HP : Hid (p + 2 = 2 * (k + 1)) := by show p + 2 = 2 * (k + 1); have := hp.out; omega
          obtain ⟨ga', ca', rfl⟩ := own_slN hO2 (len_tab _ _)
          clear hO' hg' HU hB j1 j2 j3 j4
          go_wp2
          go_roundw
          case rel => exact ⟨k + 1, p + 2, ca', ga', by omega, HP, by go_num, rfl, hO2, hB2⟩
          case measure => have := hp.out; simp [intOf]; omega
    · have hpo := hp.out
      have hkm : k = m := by omega
      subst hkm
      have hq1 : 2 * (k : Int) ≤ (p : Int) + 1 := by omega
      have HO := Lib.hid hU
      clear hU hb hpo
      go_wp2
      go_ret
      exact ⟨_, rfl, HO.out, hB⟩

set_option maxHeartbeats 4000000 in
theorem specleap_any (v : Value) (xs : List Int) (m : Nat) (w : World) (h : Rd w v xs) (hm : xs.length = 2 * m) (hl : m ≤ 32) (hb : ∀ j, j < xs.length → -100000 ≤ ix xs j ∧ ix xs j ≤ 100000) :
    Calls Tryz.prog 39 #[v] w (Made 3 w (tab (2 * m) (lpF m (ix xs)))) := by
  have hd := specdetails_any v xs m w h hm hl hb
  have HDB := Lib.hid fun i (hi : i < m) => lD_bound (n := m) (F := ix xs) (c := 100000) (by rw [← hm]; exact hb) hi
  obtain ⟨a, cap, rfl, h⟩ := h
  have HX := Lib.hid h
  obtain ⟨F, hF⟩ : ∃ F, F = ix xs := ⟨_, rfl⟩
  have HR := Lib.hid (lep_parts m F)
  rw [← hF] at hb hd HDB ⊢
  rw [hm] at hb hd ⊢
  have HF := Lib.hid hF
  have HM := Lib.hid hm
  clear h hF hm
  go_enter Tryz.func39, Tryz.ntmps39
  go_wp2_with fail
  refine hd.mono ?_
  rintro e w1 ⟨v1, rfl, oD, b1⟩
  obtain ⟨gd, cd, rfl⟩ := own_slN oD (len_tab _ _)
  have hDR := Lib.hid oD
  clear hd oD
  go_wp2
  go_loopw [4, 5] (fun u i wr => ∃ (k ca : Nat) (ga : Option Addr), k ≤ m ∧ i = .int .i64 k ∧ u = .slice ga k ca ∧ Own 3 w1.heap.size wr (.slice ga k ca) (tab k fun i => F (2 * i) + lQ (lD m F) i) ∧ Below w1.heap.size w1 wr) (fun _ i _ => m - (intOf i).toNat)
  case atStart => exact ⟨0, _, _, Nat.zero_le _, rfl, rfl, own_empty _ _ _ (Nat.le_refl _), (Below.refl _ _).alloc (Nat.le_refl _) _⟩
  case round =>
    obtain ⟨k, ca, ga, hk, rfl, rfl, hU, hB⟩ := hrel
    by_cases hlt : k < m
    · rcases HX.out with hx | ⟨b, off, rfl, hbl, hc⟩
      · have := HM.out; rw [hx] at this; simp at this; omega
      have hbl1 : b < w1.heap.size := Nat.lt_of_lt_of_le hbl b1.size
      have hc0 : wr.cell? ⟨b, off + 2 * k, none⟩ = some (.int .i64 (F (2 * k))) := by rw [hB.cell (p := ⟨b, off + 2 * k, none⟩) hbl1, b1.cell (p := ⟨b, off + 2 * k, none⟩) hbl, hc (2 * k) (by rw [HM.out]; omega), HF.out]
      have oD := hDR.out.below hB (Nat.le_refl _)
      obtain ⟨g, c, he, hg, hgs⟩ := oD.form (by intro e; have := congrArg List.length e; rw [len_tab] at this; simp at this; omega)
      simp only [Value.slice.injEq, len_tab, true_and] at he
      obtain ⟨rfl, rfl⟩ := he
      have hd0 := oD.cell k (by rw [len_tab]; exact hlt)
      rw [ix_tab _ _ _ hlt] at hd0
      have b0 := hb (2 * k) (by omega)
      have bd := HDB.out k hlt
      have k1 : (k : Int) < (m : Int) := by omega
      obtain ⟨x, hx⟩ : ∃ x, x = F (2 * k) := ⟨_, rfl⟩
      rw [← hx] at hc0 b0
      have HXX := Lib.hid hx
      obtain ⟨d, hdd⟩ : ∃ d, d = lD m F k := ⟨_, rfl⟩
      rw [← hdd] at hd0 bd
      have HDD := Lib.hid hdd
      by_cases hk0 : 0 < k
      · obtain ⟨p, hp⟩ : ∃ p, k = p + 1 := ⟨k - 1, by omega⟩
        have hd1 := oD.cell p (by rw [len_tab]; omega)
        rw [ix_tab _ _ _ (by omega)] at hd1
        have bl := HDB.out p (by omega)
        obtain ⟨la, hla⟩ : ∃ la, la = lD m F p := ⟨_, rfl⟩
        rw [← hla] at hd1 bl
        have HLA := Lib.hid (show la = if 0 < k then lD m F (k - 1) else lD m F k by rw [if_pos hk0, hla, hp]; rfl)
        have k2 : (k : Int) - 1 = (p : Int) := by omega
        have k3 : (0 : Int) < (k : Int) := by omega
        have k4 : (p : Int) < (m : Int) := by omega
        have k5 : (0 : Int) ≤ (p : Int) := by omega
        clear hc hb hx hdd hla oD hp
        go_wp2
        clear k2
        have hlk : k ≤ 32 := by omega
        obtain ⟨t, ht⟩ : ∃ t, t = la + d + 2 := ⟨_, rfl⟩
        have HFL := Lib.hid fun w => floor4_any t w (by omega)
        obtain ⟨f, hf⟩ : ∃ f, f = t / 4 := ⟨_, rfl⟩
        rw [← hf] at HFL
        obtain ⟨z, hz⟩ : ∃ z, z = x + f := ⟨_, rfl⟩
        have HZ := Lib.hid (show z = F (2 * k) + lQ (lD m F) k by rw [hz, hf, ht, HXX.out]; unfold lQ; rw [← HLA.out, ← HDD.out])
        have j1 : IntKind.i64.wrap (2 * (k : Int)) = 2 * (k : Int) := IntWalk.i64_in _ (by omega)
        have j2 : (2 * (k : Int)).toNat = 2 * k := by omega
        have j3 : IntKind.i64.wrap (la + d) = la + d := IntWalk.i64_in _ (by omega)
        have j5 : IntKind.i64.wrap (la + d + 2) = t := by rw [← ht]; exact IntWalk.i64_in _ (by omega)
        have j4 : IntKind.i64.wrap (x + f) = z := by rw [← hz]; exact IntWalk.i64_in _ (by omega)
        have q1 : (0 : Int) ≤ 2 * (k : Int) := by omega
        have q2 : 2 * (k : Int) < 2 * (m : Int) := by omega
        have HU := Lib.hid hU
        clear hf ht hz hU
        go_wp2
        go_region_law
          (first
            | (refine step_app_int wr rfl (.tmp 27) (.tmp 42) 35 rfl w1.heap.size 3 Tryz.underlying35 infoInt _ _ (by simp [Act.eval]) HU.out (grown_alloc_drew _ _) ⟨wr.heap.size, 0, none⟩ (by simp [Act.eval]) z (cell_new1 _ _ _) (by simp; omega) hB.size ?_; intro v' w' hO' hg')
            | (go_simp; go_at_call 59; refine (HFL.out _).mono ?_; rintro e w' ⟨rfl, rfl⟩))
        all_goals
          have hO2 : Own 3 w1.heap.size w' v' (tab (k + 1) fun i => F (2 * i) + lQ (lD m F) i) := by rw [← tab_snoc k _ z HZ.out]; exact hO'
          have hB2 := app_below0 hB HU.out hg'
          obtain ⟨ga', ca', rfl⟩ := own_slN hO2 (len_tab _ _)
          clear hO' hg' HU hB j1 j2 j3 j4 j5
          go_wp2
          go_roundw
          case rel => exact ⟨k + 1, ca', ga', by omega, by go_num, rfl, hO2, hB2⟩
          case measure => simp [intOf]; omega
      · have HLA := Lib.hid (show d = if 0 < k then lD m F (k - 1) else lD m F k by rw [if_neg hk0]; exact hdd)
        have bl := bd
        have k3 : ¬ (0 : Int) < (k : Int) := by omega
        have k6 : (k : Int) ≤ 0 := by omega
        clear hc hb hx hdd oD
        go_wp2
        have hlk : k ≤ 32 := by omega
        obtain ⟨t, ht⟩ : ∃ t, t = d + d + 2 := ⟨_, rfl⟩
        have HFL := Lib.hid fun w => floor4_any t w (by omega)
        obtain ⟨f, hf⟩ : ∃ f, f = t / 4 := ⟨_, rfl⟩
        rw [← hf] at HFL
        obtain ⟨z, hz⟩ : ∃ z, z = x + f := ⟨_, rfl⟩
        have HZ := Lib.hid (show z = F (2 * k) + lQ (lD m F) k by rw [hz, hf, ht, HXX.out]; unfold lQ; rw [← HLA.out, ← HDD.out])
        have j1 : IntKind.i64.wrap (2 * (k : Int)) = 2 * (k : Int) := IntWalk.i64_in _ (by omega)
        have j2 : (2 * (k : Int)).toNat = 2 * k := by omega
        have j3 : IntKind.i64.wrap (d + d) = d + d := IntWalk.i64_in _ (by omega)
        have j5 : IntKind.i64.wrap (d + d + 2) = t := by rw [← ht]; exact IntWalk.i64_in _ (by omega)
        have j4 : IntKind.i64.wrap (x + f) = z := by rw [← hz]; exact IntWalk.i64_in _ (by omega)
        have q1 : (0 : Int) ≤ 2 * (k : Int) := by omega
        have q2 : 2 * (k : Int) < 2 * (m : Int) := by omega
        have HU := Lib.hid hU
        clear hf ht hz hU
        go_wp2
        go_region_law
          (first
            | (refine step_app_int wr rfl (.tmp 27) (.tmp 42) 35 rfl w1.heap.size 3 Tryz.underlying35 infoInt _ _ (by simp [Act.eval]) HU.out (grown_alloc_drew _ _) ⟨wr.heap.size, 0, none⟩ (by simp [Act.eval]) z (cell_new1 _ _ _) (by simp; omega) hB.size ?_; intro v' w' hO' hg')
            | (go_simp; go_at_call 59; refine (HFL.out _).mono ?_; rintro e w' ⟨rfl, rfl⟩))
        all_goals
          have hO2 : Own 3 w1.heap.size w' v' (tab (k + 1) fun i => F (2 * i) + lQ (lD m F) i) := by rw [← tab_snoc k _ z HZ.out]; exact hO'
          have hB2 := app_below0 hB HU.out hg'
          obtain ⟨ga', ca', rfl⟩ := own_slN hO2 (len_tab _ _)
          clear hO' hg' HU hB j1 j2 j3 j4 j5
          go_wp2
          go_roundw
          case rel => exact ⟨k + 1, ca', ga', by omega, by go_num, rfl, hO2, hB2⟩
          case measure => simp [intOf]; omega
    · obtain rfl : k = m := by omega
      have oD := hDR.out.below hB (Nat.le_refl _)
      clear hb
      go_wp2_with (at_builtin; refine app_many rfl _ _ 35 rfl w1.heap.size 3 Tryz.underlying35 infoInt _ _ rfl hU _ _ rfl oD.rd ?e1 ?e2 ?_)
      case e1 => simp; omega
      case e2 => exact hB.size
      intro v' w3 hO' hg'
      have hB' := bel_nxt b1 (app_below0 hB hU hg')
      rw [HR.out] at hO'
      have hO2 := hO'.mono b1.size
      obtain ⟨ga', ca', rfl⟩ := own_slN hO2 (len_tab _ _)
      clear hU hB hg' hO' oD
      go_wp2
      go_ret
      exact ⟨_, rfl, hO2, hB'⟩

end Go.Proofs.YtagncoahobghpacGreatDoor

namespace Go.Proofs.YtagncoahobghpacGreatDoor
open Go.RowKit
set_option linter.unusedVariables false
set_option maxRecDepth 100000

def lepF (xs : List Int) : List Int := if evB xs = true then lepL xs else []
def unlF (xs : List Int) : List Int := if evB xs = true then unlL xs else []
theorem lepF_yes {xs : List Int} (h : evB xs = true) : lepF xs = lepL xs := by unfold lepF; exact if_pos h
theorem lepF_no {xs : List Int} (h : evB xs = false) : lepF xs = [] := by unfold lepF; exact if_neg (by simp [h])
theorem unlF_yes {xs : List Int} (h : evB xs = true) : unlF xs = unlL xs := by unfold unlF; exact if_pos h
theorem unlF_no {xs : List Int} (h : evB xs = false) : unlF xs = [] := by unfold unlF; exact if_neg (by simp [h])
theorem lepF_len (xs : List Int) (h : xs.length ≤ 1048576) : (lepF xs).length ≤ 1048576 := by unfold lepF; split <;> simp [len_lepL, h]
theorem unlF_len (xs : List Int) (h : xs.length ≤ 1048576) : (unlF xs).length ≤ 1048576 := by unfold unlF; split <;> simp [len_unlL, h]

/-- Slice value v reads as xs, and has room for them. -/
def Rc (w : World) (v : Value) (xs : List Int) : Prop := Rd w v xs ∧ ∀ a n c, v = .slice a n c → n ≤ c
theorem Own.rc {E B : Nat} {w : World} {v : Value} {xs : List Int} (h : Own E B w v xs) : Rc w v xs := by
  refine ⟨h.rd, fun a n c e => ?_⟩
  rcases h.2 with ⟨h', h0⟩ | ⟨g', cap', cur, h', _, _, hn, _⟩
  · rw [e] at h'; simp only [Value.slice.injEq] at h'; omega
  · rw [e] at h'; simp only [Value.slice.injEq] at h'; omega

end Go.Proofs.YtagncoahobghpacGreatDoor

namespace Go.Proofs.YtagncoahobghpacGreatDoor
open Go.RowKit
set_option linter.unusedVariables false
set_option maxRecDepth 100000

theorem pow_two_succ (k : Nat) : 2 ^ (k + 1) = 2 * 2 ^ k := by rw [Nat.pow_succ]; omega
/-- A row's logarithm: how often it is halved. -/
def lgN (n : Nat) : Nat := (bitsN n).toNat
def hlaF (xs : List Int) : List Int := if cubeB xs = true then halA (Nat.log2 xs.length) xs else []
def ulaF (xs : List Int) : List Int := if cubeB xs = true then unhA (Nat.log2 xs.length) xs else []
theorem hlaF_yes {xs : List Int} {k : Nat} (h : cubeB xs = true) (hk : xs.length = 2 ^ k) : hlaF xs = tab xs.length (hAll k (ix xs)) := by
  unfold hlaF
  rw [if_pos h, halA, hk, Nat.log2_two_pow]
theorem hlaF_no {xs : List Int} (h : cubeB xs = false) : hlaF xs = [] := by unfold hlaF; exact if_neg (by simp [h])
theorem ulaF_yes {xs : List Int} {k : Nat} (h : cubeB xs = true) (hk : xs.length = 2 ^ k) : ulaF xs = tab xs.length (uAll k (ix xs)) := by
  unfold ulaF
  rw [if_pos h, unhA, hk, Nat.log2_two_pow]
theorem ulaF_no {xs : List Int} (h : cubeB xs = false) : ulaF xs = [] := by unfold ulaF; exact if_neg (by simp [h])
theorem hlaF_len (xs : List Int) (h : xs.length ≤ 1048576) : (hlaF xs).length ≤ 1048576 := by unfold hlaF; split <;> simp [len_halA, h]
theorem ulaF_len (xs : List Int) (h : xs.length ≤ 1048576) : (ulaF xs).length ≤ 1048576 := by unfold ulaF; split <;> simp [len_unhA, h]

end Go.Proofs.YtagncoahobghpacGreatDoor

namespace Go.Proofs.YtagncoahobghpacGreatDoor
open Go.RowKit
set_option linter.unusedVariables false
set_option maxRecDepth 100000

theorem half_any (x : Int) (w : World) :
    Calls Tryz.prog 135 #[.int .i64 x] w fun e w' => e = .returned (.int .i64 (x / 2)) ∧ w' = w := by
  go_enter Tryz.func135, Tryz.ntmps135
  go_wp2
  go_ret
  exact ⟨rfl, rfl⟩

theorem cut_any (g n p q c : Nat) (w : World) (h : n ≤ c) (hq : n / 2 = q) (hp : p + q = n) (hb : n ≤ 1048576) :
    Calls Tryz.prog 188 #[.slice (some ⟨g, 0, none⟩) n c] w fun e w' => e = .returned (.tuple #[.slice (some ⟨g, 0, none⟩) p p, .slice (if c = p then some ⟨g, 0, none⟩ else some ⟨g, p, none⟩) q (c - p)]) ∧ ∃ k, w' = w.drewN k := by
  have e1 : (n : Int) / 2 = (q : Int) := by omega
  have e2 : IntKind.i64.wrap (q : Int) = (q : Int) := IntWalk.i64_in _ (by omega)
  have e3 : (n : Int) - (q : Int) = (p : Int) := by omega
  have e4 : IntKind.i64.wrap (p : Int) = (p : Int) := IntWalk.i64_in _ (by omega)
  have e5 : Int.toNat (p : Int) = p := by omega
  have i1 : (0 : Int) ≤ (p : Int) := by omega
  have i2 : (p : Int) ≤ (n : Int) := by omega
  have i3 : (p : Int) ≤ (c : Int) := by omega
  have i4 : (n : Int) ≤ (c : Int) := by omega
  have i5 : n - p = q := by omega
  clear hq hp hb
  go_enter Tryz.func188, Tryz.ntmps188
  go_wp2
  go_quiet (fail)
  go_wp2
  · exact bodyPost_ret (v := .tuple #[.slice (some ⟨g, 0, none⟩) p p, .slice (some ⟨g, 0, none⟩) q 0]) (by simp [results, Tryz.results188, go_sem]) rfl ⟨by simp, _, rfl⟩
  · exact bodyPost_ret (v := .tuple #[.slice (some ⟨g, 0, none⟩) p p, .slice (some ⟨g, p, none⟩) q (c - p)]) (by simp [results, Tryz.results188, go_sem]) rfl ⟨by simp, _, rfl⟩

/-- The methods of both kinds of rows. -/
theorem hal_cut (v : Value) (w : World) : (method 316 124 (.agg #[v]) "loop.example/wholewaves/impl.cut").run Tryz.prog w = .ok (188, v) w := by kernel_rfl
theorem lep_cut (v : Value) (w : World) : (method 316 125 (.agg #[v]) "loop.example/wholewaves/impl.cut").run Tryz.prog w = .ok (188, v) w := by kernel_rfl

theorem hal_no (v : Value) (w : World) : (Instr.typeAssert (.iface 124 (.agg #[v])) 136 125 true).run Tryz.prog w = .ok (.tuple #[.agg #[.slice none 0 0], .bool false]) w := by kernel_rfl
theorem lep_yes (v : Value) (w : World) : (Instr.typeAssert (.iface 125 (.agg #[v])) 136 125 true).run Tryz.prog w = .ok (.tuple #[.agg #[v], .bool true]) w := by kernel_rfl

theorem cut2_any (g m c : Nat) (w : World) (hc : 2 * m ≤ c) (h0 : 0 < m) (hm : m ≤ 524288) :
    Calls Tryz.prog 188 #[.slice (some ⟨g, 0, none⟩) (2 * m) c] w fun e w' => e = .returned (.tuple #[.slice (some ⟨g, 0, none⟩) m m, .slice (some ⟨g, m, none⟩) m (c - m)]) ∧ ∃ k, w' = w.drewN k := by
  refine (cut_any g (2 * m) m m c w hc (by omega) (by omega) (by omega)).mono ?_
  rintro e w1 ⟨rfl, hk⟩
  exact ⟨by rw [if_neg (by omega)], hk⟩

theorem quarter_any (x : Int) (w : World) :
    Calls Tryz.prog 136 #[.int .i64 x] w fun e w' => e = .returned (.int .i64 (x / 4)) ∧ w' = w := by
  go_enter Tryz.func136, Tryz.ntmps136
  go_wp2
  go_ret
  exact ⟨rfl, rfl⟩

/-- Of halves: what a number is taken to be, and what a detail adds. -/
theorem guessH_any (g m c : Nat) (F : Nat → Int) (i : Nat) (w : World) (hc : 2 * m ≤ c) (hi : i < m) (hm : m ≤ 524288) (h : ∀ j, j < 2 * m → w.cell? ⟨g, j, none⟩ = some (.int .i64 (F j))) :
    Calls Tryz.prog 115 #[.iface 124 (.agg #[.slice (some ⟨g, 0, none⟩) (2 * m) c]), .int .i64 i] w fun e w' => e = .returned (.int .i64 (gsH m F i)) ∧ ∃ k, w' = w.drewN k := by
  have HC := Lib.hid fun w => cut2_any g m c w hc (by omega) hm
  have hci := h i (by omega)
  have i1 : (i : Int) < (m : Int) := by omega
  have hmt := hal_cut
  have hty := hal_no
  clear h hc hm
  go_enter Tryz.func115, Tryz.ntmps115
  go_wp2_with (go_at_call 188; refine (HC.out _).mono ?_; rintro e w1 ⟨rfl, k1, rfl⟩)
  go_ret
  exact ⟨rfl, _, rfl⟩

theorem shareH_any (g m c : Nat) (F : Nat → Int) (i : Nat) (w : World) (hc : 2 * m ≤ c) (hi : i < m) (hm : m ≤ 524288) (h : ∀ j, j < 2 * m → w.cell? ⟨g, j, none⟩ = some (.int .i64 (F j))) :
    Calls Tryz.prog 116 #[.iface 124 (.agg #[.slice (some ⟨g, 0, none⟩) (2 * m) c]), .int .i64 i] w fun e w' => e = .returned (.int .i64 (shH m F i)) ∧ ∃ k, w' = w.drewN k := by
  have HC := Lib.hid fun w => cut2_any g m c w hc (by omega) hm
  have hci := h (m + i) (by omega)
  have i1 : (i : Int) < (m : Int) := by omega
  have HH := Lib.hid half_any
  have hmt := hal_cut
  have hty := hal_no
  clear h hc hm
  go_enter Tryz.func116, Tryz.ntmps116
  go_wp2_with (first | (go_at_call 188; refine (HC.out _).mono ?_; rintro e w1 ⟨rfl, k1, rfl⟩) | (go_at_call 135; refine (HH.out _ _).mono ?_; rintro e w1 ⟨rfl, rfl⟩))
  go_ret
  exact ⟨rfl, _, rfl⟩

/-- The same of leaps. -/
theorem guessL_any (g m c : Nat) (F : Nat → Int) (i : Nat) (w : World) (hc : 2 * m ≤ c) (hi : i < m) (hm : m ≤ 524288) (hb : ∀ j, j < m → -1000000000 ≤ F j ∧ F j ≤ 1000000000) (h : ∀ j, j < 2 * m → w.cell? ⟨g, j, none⟩ = some (.int .i64 (F j))) :
    Calls Tryz.prog 115 #[.iface 125 (.agg #[.slice (some ⟨g, 0, none⟩) (2 * m) c]), .int .i64 i] w fun e w' => e = .returned (.int .i64 (gsL m F i)) ∧ ∃ k, w' = w.drewN k := by
  have HC := Lib.hid fun w => cut2_any g m c w hc (by omega) hm
  have hmt := lep_cut
  have hty := lep_yes
  have b0 := hb i hi
  have hci := h i (by omega)
  have HH := Lib.hid half_any
  have i1 : (i : Int) < (m : Int) := by omega
  by_cases hlt : i + 1 < m
  · have HR := Lib.hid (show (F i + F (i + 1)) / 2 = gsL m F i by unfold gsL lM; rw [if_pos hlt])
    have b1 := hb (i + 1) hlt
    have hcj := h (i + 1) (by omega)
    have a1 : (i : Int) + 1 ≤ (m : Int) - 1 := by omega
    have a2 : ¬ (m : Int) - 1 < (i : Int) + 1 := by omega
    have a3 : (i : Int) + 1 < (m : Int) := by omega
    have e1 : ((i : Int) + 1).toNat = i + 1 := by omega
    have e2 : IntKind.i64.wrap (F i + F (i + 1)) = F i + F (i + 1) := IntWalk.i64_in _ (by omega)
    have e3 : (0 : Int) ≤ (i : Int) + 1 := by omega
    clear h hc hb
    go_enter Tryz.func115, Tryz.ntmps115
    go_wp2_with (go_at_call 188; refine (HC.out _).mono ?_; rintro e w1 ⟨rfl, k1, hw1⟩; have HW := Lib.hid hw1; have hci : w1.cell? ⟨g, i, none⟩ = some (.int .i64 (F i)) := (by rw [hw1]; exact hci); have hcj : w1.cell? ⟨g, i + 1, none⟩ = some (.int .i64 (F (i + 1))) := (by rw [hw1]; exact hcj); clear hw1)
    go_quiet ((first | (go_at_call 135; exact Calls.quiet_of_same (HH.out _ _))))
    go_wp2
    go_ret
    exact ⟨ret_int HR.out, _, by rw [HW.out, World.drewN_drewN]⟩
  · have HR := Lib.hid (show (F i + F i) / 2 = gsL m F i by unfold gsL lM; rw [if_neg hlt])
    have a0 : (m : Int) - 1 = (i : Int) := by omega
    have a1 : ¬ (i : Int) + 1 ≤ (i : Int) := by omega
    have a2 : (i : Int) < (i : Int) + 1 := by omega
    have e2 : IntKind.i64.wrap (F i + F i) = F i + F i := IntWalk.i64_in _ (by omega)
    clear h hc hb hlt
    go_enter Tryz.func115, Tryz.ntmps115
    go_wp2_with (go_at_call 188; refine (HC.out _).mono ?_; rintro e w1 ⟨rfl, k1, hw1⟩; have HW := Lib.hid hw1; have hci : w1.cell? ⟨g, i, none⟩ = some (.int .i64 (F i)) := (by rw [hw1]; exact hci); clear hw1)
    go_quiet ((first | (go_at_call 135; exact Calls.quiet_of_same (HH.out _ _))))
    go_wp2
    go_ret
    exact ⟨ret_int HR.out, _, by rw [HW.out, World.drewN_drewN]⟩

theorem shareL_any (g m c : Nat) (F : Nat → Int) (i : Nat) (w : World) (hc : 2 * m ≤ c) (hi : i < m) (hm : m ≤ 524288) (hb : ∀ j, j < m → -1000000000 ≤ F (m + j) ∧ F (m + j) ≤ 1000000000) (h : ∀ j, j < 2 * m → w.cell? ⟨g, j, none⟩ = some (.int .i64 (F j))) :
    Calls Tryz.prog 116 #[.iface 125 (.agg #[.slice (some ⟨g, 0, none⟩) (2 * m) c]), .int .i64 i] w fun e w' => e = .returned (.int .i64 (shL m F i)) ∧ ∃ k, w' = w.drewN k := by
  have HC := Lib.hid fun w => cut2_any g m c w hc (by omega) hm
  have hmt := lep_cut
  have hty := lep_yes
  have b0 := hb i hi
  have hci := h (m + i) (by omega)
  have HH := Lib.hid quarter_any
  have i1 : (i : Int) < (m : Int) := by omega
  by_cases hlt : 0 < i
  · have HR := Lib.hid (show (F (m + (i - 1)) + F (m + i) + 2) / 4 = shL m F i by unfold shL lQ; rw [if_pos hlt])
    have b1 := hb (i - 1) (by omega)
    have hcj := h (m + (i - 1)) (by omega)
    have a1 : (0 : Int) ≤ (i : Int) - 1 := by omega
    have a2 : ¬ (i : Int) - 1 < 0 := by omega
    have a3 : (i : Int) - 1 < (m : Int) := by omega
    have e1 : ((i : Int) - 1).toNat = i - 1 := by omega
    have e2 : IntKind.i64.wrap (F (m + (i - 1)) + F (m + i)) = F (m + (i - 1)) + F (m + i) := IntWalk.i64_in _ (by omega)
    have e3 : IntKind.i64.wrap (F (m + (i - 1)) + F (m + i) + 2) = F (m + (i - 1)) + F (m + i) + 2 := IntWalk.i64_in _ (by omega)
    clear h hc hb hlt
    go_enter Tryz.func116, Tryz.ntmps116
    go_wp2_with (go_at_call 188; refine (HC.out _).mono ?_; rintro e w1 ⟨rfl, k1, hw1⟩; have HW := Lib.hid hw1; have hci : w1.cell? ⟨g, m + i, none⟩ = some (.int .i64 (F (m + i))) := (by rw [hw1]; exact hci); have hcj : w1.cell? ⟨g, m + (i - 1), none⟩ = some (.int .i64 (F (m + (i - 1)))) := (by rw [hw1]; exact hcj); clear hw1)
    go_quiet ((first | (go_at_call 136; exact Calls.quiet_of_same (HH.out _ _))))
    go_wp2
    go_ret
    exact ⟨ret_int HR.out, _, by rw [HW.out, World.drewN_drewN]⟩
  · obtain rfl : i = 0 := by omega
    have HR := Lib.hid (show (F m + F m + 2) / 4 = shL m F 0 by unfold shL lQ; rw [if_neg hlt]; rfl)
    have e2 : IntKind.i64.wrap (F m + F m) = F m + F m := IntWalk.i64_in _ (by rw [Nat.add_zero] at b0; omega)
    have e3 : IntKind.i64.wrap (F m + F m + 2) = F m + F m + 2 := IntWalk.i64_in _ (by rw [Nat.add_zero] at b0; omega)
    have hcj : w.cell? ⟨g, m, none⟩ = some (.int .i64 (F m)) := h m (by omega)
    clear h hc hb hlt
    go_enter Tryz.func116, Tryz.ntmps116
    go_wp2_with (go_at_call 188; refine (HC.out _).mono ?_; rintro e w1 ⟨rfl, k1, hw1⟩; have HW := Lib.hid hw1; have hcj : w1.cell? ⟨g, m, none⟩ = some (.int .i64 (F m)) := (by rw [hw1]; exact hcj); clear hw1)
    go_quiet ((first | (go_at_call 136; exact Calls.quiet_of_same (HH.out _ _))))
    go_wp2
    go_ret
    exact ⟨ret_int HR.out, _, by rw [HW.out, World.drewN_drewN]⟩

end Go.Proofs.YtagncoahobghpacGreatDoor

namespace Go.Proofs.YtagncoahobghpacGreatDoor
open Go.RowKit
set_option linter.unusedVariables false
set_option maxRecDepth 100000

theorem own_below {E B g n cap : Nat} {w w' : World} {xs : List Int} (h : Own E B w (.slice (some ⟨g, 0, none⟩) n cap) xs) : B ≤ g ∧ g < w.heap.size := by
  rcases h.2 with ⟨h', _⟩ | ⟨g', cap', cur, h', hb, hg, _⟩
  · simp at h'
  · simp only [Value.slice.injEq, Option.some.injEq, Addr.mk.injEq, and_true] at h'
    obtain ⟨rfl, rfl, rfl⟩ := h'
    exact ⟨hb, (Array.getElem?_eq_some_iff.1 hg).1⟩

/-- The row on the way. -/
def ApI (B : Nat) (w wr : World) (g L cap g1 m k : Nat) (F : Nat → Int) : Prop :=
  Own 3 B wr (.slice (some ⟨g, 0, none⟩) L cap) (tab L (apK m k F)) ∧ Own 3 w.heap.size wr (.slice (some ⟨g1, 0, none⟩) (2 * m) (2 * m)) (tab (2 * m) F) ∧ Below B w wr

theorem putApart_any (B g c L cap m : Nat) (F : Nat → Int) (w : World) (h : Own 3 B w (.slice (some ⟨g, 0, none⟩) L cap) (tab L F)) (h0 : 0 < m) (hc : 2 * m ≤ c) (hL : 2 * m ≤ L) (hl : L ≤ 1048576) :
    Calls Tryz.prog 189 #[.slice (some ⟨g, 0, none⟩) (2 * m) c] w fun e w' =>
      e = .returned (.tuple #[]) ∧ Own 3 B w' (.slice (some ⟨g, 0, none⟩) L cap) (tab L (apK m m F)) ∧ Below B w w' := by
  obtain ⟨hBg, hgs⟩ := own_below (w' := w) h
  have hT : (tab L F).take (2 * m) = tab (2 * m) F := (take_tab _ _ (by rw [len_tab]; exact hL)).trans (tab_congr fun j hj => by rw [ix_tab _ _ _ (by omega)])
  have HCP := Lib.hid (copyOf_any (.slice (some ⟨g, 0, none⟩) (2 * m) c) (tab (2 * m) F) w (by
    rw [← hT]
    refine ⟨_, c, by rw [hT, len_tab], .inr ⟨g, 0, rfl, hgs, fun j hj => ?_⟩⟩
    rw [hT, len_tab] at hj
    rw [hT, Nat.zero_add, h.cell j (by rw [len_tab]; omega), ix_tab _ _ _ (by omega), ix_tab _ _ _ hj]) (by rw [len_tab]; omega))
  have HC := Lib.hid fun w => cut2_any g m c w hc h0 (by omega)
  have HB := Lib.hid h
  clear h hT
  go_enter Tryz.func189, Tryz.ntmps189
  go_wp2_with (first
    | (go_at_call 108; refine HCP.out.mono ?_; rintro e w1 ⟨g1, rfl, hg1, o1, b1⟩)
    | (go_at_call 188; refine (HC.out _).mono ?_; rintro e w2 ⟨rfl, k2, hw2⟩; have HW := Lib.hid hw2; clear hw2))
  have hI : ApI B w w2 g L cap g1 m 0 F := by
    rw [HW.out]
    refine ⟨?_, ?_, ?_⟩
    · rw [apK_none]; exact (HB.out.below b1 (Nat.le_refl _)).drew
    · have := o1.drew (E := 3)
      rw [len_tab] at this
      exact this
    · exact below_drewN (b1.mono (by omega)) _
  have hgg : g ≠ g1 := by omega
  clear o1 b1 HW HCP
  go_loopw [15] (fun i wr => ∃ k : Nat, k ≤ m ∧ i = .int .i64 k ∧ ApI B w wr g L cap g1 m k F) (fun i _ => m - (intOf i).toNat)
  case atStart => exact ⟨0, Nat.zero_le _, rfl, hI⟩
  case round =>
    obtain ⟨k, hk, rfl, hO, hS, hBr⟩ := hrel
    clear hI
    by_cases hlt : k < m
    · have c0 := hS.cell (2 * k) (by rw [len_tab]; omega)
      have c1 := hS.cell (2 * k + 1) (by rw [len_tab]; omega)
      rw [ix_tab _ _ _ (by omega)] at c0 c1
      have d0 := hO.cell k (by rw [len_tab]; omega)
      have d1 := hO.cell (m + k) (by rw [len_tab]; omega)
      rw [ix_tab _ _ _ (by omega)] at d0 d1
      have f0 := hO.frozen k
      have f1 := hO.frozen (m + k)
      have i1 : (k : Int) < (m : Int) := by omega
      have i2 : 2 * (k : Int) < 2 * (m : Int) := by omega
      have i3 : 2 * (k : Int) + 1 < 2 * (m : Int) := by omega
      have hne : ¬ m + k = k := by omega
      have HO := Lib.hid hO
      have HS := Lib.hid hS
      have HBR := Lib.hid hBr
      clear hO hS hBr
      go_wp2
      go_region
      go_wp2
      go_roundw
      case rel =>
        refine ⟨k + 1, by omega, by go_num, ?_, ?_, ?_⟩
        · have := (HO.out.set k (F (2 * k))).set (m + k) (F (2 * k + 1))
          rw [apK_step L F hlt] at this
          exact this.drew
        · exact ((HS.out.other _ _ (by simp [Value.ownBlock]; omega)).other _ _ (by simp [Value.ownBlock]; omega)).drew
        · exact ((HBR.out.setCell hBg _).setCell hBg _).drew
      case measure => simp [intOf]; omega
    · obtain rfl : k = m := by omega
      go_wp2
      go_end0
      exact ⟨rfl, hO, hBr⟩

def TgI (B : Nat) (w wr : World) (g L cap g1 m k : Nat) (F : Nat → Int) : Prop :=
  Own 3 B wr (.slice (some ⟨g, 0, none⟩) L cap) (tab L (tgK m k F)) ∧ Own 3 w.heap.size wr (.slice (some ⟨g1, 0, none⟩) (2 * m) (2 * m)) (tab (2 * m) F) ∧ Below B w wr

end Go.Proofs.YtagncoahobghpacGreatDoor
