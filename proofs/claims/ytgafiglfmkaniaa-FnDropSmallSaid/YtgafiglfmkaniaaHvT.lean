/-
  Leaps of the model, by their contracts.
-/
import Derived.Test.YtgafiglfmkaniaaHvQ
namespace Go.Proofs.Ytgafiglfmkaniaa
open Go.RowKit
set_option linter.unusedVariables false

set_option maxHeartbeats 4000000 in
theorem specdetails_any (v : Value) (xs : List Int) (m : Nat) (w : World) (h : Rd w v xs) (hm : xs.length = 2 * m) (hl : m ≤ 32) (hb : ∀ j, j < xs.length → -100000 ≤ ix xs j ∧ ix xs j ≤ 100000) :
    Calls Try.prog 60 #[v] w (Made 3 w (tab m (lD m (ix xs)))) := by
  obtain ⟨a, cap, rfl, h⟩ := h
  have HX := Lib.hid h
  obtain ⟨F, hF⟩ : ∃ F, F = ix xs := ⟨_, rfl⟩
  rw [← hF] at hb ⊢
  rw [hm] at hb ⊢
  have HF := Lib.hid hF
  have HM := Lib.hid hm
  have HL := Lib.hid fun k (x y nx : Int) (hx : x = F (2 * k)) (hy : y = F (2 * k + 1)) (hn : nx = if k + 1 < m then F (2 * (k + 1)) else F (2 * k)) => show y - (x + nx) / 2 = lD m F k by
    subst hx; subst hy; subst hn; rfl
  clear h hF hm
  go_enter Try.func60, Try.ntmps60
  go_wp2
  go_loopw [3, 5] (fun u i wr => ∃ (k p ca : Nat) (ga : Option Addr), k ≤ m ∧ Hid (p = 2 * k) ∧ i = .int .i64 ((p : Int) + 1) ∧ u = .slice ga k ca ∧ Own 3 w.heap.size wr (.slice ga k ca) (tab k (lD m F)) ∧ Below w.heap.size w wr) (fun _ i _ => 2 * m + 1 - (intOf i).toNat)
  case atStart => exact ⟨0, 0, _, _, Nat.zero_le _, rfl, rfl, rfl, own_empty _ _ _ (Nat.le_refl _), (Below.refl _ _).alloc (Nat.le_refl _) _⟩
  case round =>
    obtain ⟨k, p, ca, ga, hk, hp, rfl, rfl, hU, hB⟩ := hrel
    by_cases hlt : k < m
    · rcases HX.out with hx | ⟨b, off, rfl, hbl, hc⟩
      · have := HM.out; rw [hx] at this; simp at this; omega
      have hpo := hp.out
      have hc0 : wr.cell? ⟨b, off + p, none⟩ = some (.int .i64 (F (2 * k))) := by rw [hB.cell (p := ⟨b, off + p, none⟩) hbl, hc p (by rw [HM.out]; omega), HF.out, hpo]
      have hc1 : wr.cell? ⟨b, off + (p + 1), none⟩ = some (.int .i64 (F (2 * k + 1))) := by rw [hB.cell (p := ⟨b, off + (p + 1), none⟩) hbl, hc (p + 1) (by rw [HM.out]; omega), HF.out, hpo]
      have b0 := hb (2 * k) (by omega)
      have b1 := hb (2 * k + 1) (by omega)
      have hq1 : (p : Int) + 1 < 2 * (m : Int) := by omega
      have hq2 : (p : Int) < 2 * (m : Int) := by omega
      have hq3 : (0 : Int) ≤ (p : Int) := by omega
      have hq4 : (0 : Int) ≤ (p : Int) + 1 := by omega
      obtain ⟨x, hx⟩ : ∃ x, x = F (2 * k) := ⟨_, rfl⟩
      obtain ⟨y, hy⟩ : ∃ y, y = F (2 * k + 1) := ⟨_, rfl⟩
      rw [← hx] at hc0 b0
      rw [← hy] at hc1 b1
      have HXX := Lib.hid hx
      have HY := Lib.hid hy
      by_cases hk1 : k + 1 < m
      · have hc2 : wr.cell? ⟨b, off + (p + 1 + 1), none⟩ = some (.int .i64 (F (2 * (k + 1)))) := by rw [hB.cell (p := ⟨b, off + (p + 1 + 1), none⟩) hbl, hc (p + 1 + 1) (by rw [HM.out]; omega), HF.out, hpo, show 2 * k + 1 + 1 = 2 * (k + 1) by omega]
        have b2 := hb (2 * (k + 1)) (by omega)
        have hq5 : (p : Int) + 1 + 1 < 2 * (m : Int) := by omega
        have hq6 : (0 : Int) ≤ (p : Int) + 1 + 1 := by omega
        obtain ⟨nx, hn⟩ : ∃ nx, nx = F (2 * (k + 1)) := ⟨_, rfl⟩
        rw [← hn] at hc2 b2
        have HN := Lib.hid (show nx = if k + 1 < m then F (2 * (k + 1)) else F (2 * k) by rw [if_pos hk1]; exact hn)
        clear hc hb hx hy hn hpo
        obtain ⟨f, hf⟩ : ∃ f, f = (x + nx) / 2 := ⟨_, rfl⟩
        obtain ⟨t, ht⟩ : ∃ t, t = x + nx := ⟨_, rfl⟩
        have HFL := Lib.hid fun w => floor2_any t w (by omega)
        rw [← ht] at hf
        rw [← hf] at HFL
        obtain ⟨z, hz⟩ : ∃ z, z = y - f := ⟨_, rfl⟩
        have HZ := Lib.hid (show z = lD m F k by rw [hz, hf, ht]; exact HL.out k x y nx HXX.out HY.out HN.out)
        have j1 : IntKind.i64.wrap (p : Int) = (p : Int) := IntWalk.i64_in _ (by omega)
        have j2 : ((p : Int) + 1).toNat = p + 1 := by omega
        have j3 : IntKind.i64.wrap (x + nx) = t := by rw [← ht]; exact IntWalk.i64_in _ (by omega)
        have j4 : IntKind.i64.wrap (y - f) = z := by rw [← hz]; exact IntWalk.i64_in _ (by omega)
        have HU := Lib.hid hU
        have hlk : k ≤ 32 := by omega
        clear hf ht hz hU
        go_wp2
        go_region_law
          (first
            | (refine step_app_int wr rfl (.tmp 29) (.tmp 43) 23 rfl w.heap.size 3 Try.underlying23 infoInt _ _ (by simp [Act.eval]) HU.out (grown_alloc_drew _ _) ⟨wr.heap.size, 0, none⟩ (by simp [Act.eval]) z (cell_new1 _ _ _) (by simp; omega) hB.size ?_; intro v' w' hO' hg')
            | (go_simp; go_at_call 47; refine (HFL.out _).mono ?_; rintro e w' ⟨rfl, rfl⟩))
        all_goals
          have hO2 : Own 3 w.heap.size w' v' (tab (k + 1) (lD m F)) := by rw [← tab_snoc k _ z HZ.out]; exact hO'
          have hB2 := app_below0 hB HU.out hg'
          have HP : Hid (p + 2 = 2 * (k + 1)) := by show p + 2 = 2 * (k + 1); have := hp.out; omega
          obtain ⟨ga', ca', rfl⟩ := own_slN hO2 (len_tab _ _)
          clear hO' hg' HU hB j1 j2 j3 j4
          go_wp2
          go_roundw
          case rel => exact ⟨k + 1, p + 2, ca', ga', by omega, HP, by go_num, rfl, hO2, hB2⟩
          case measure => have := hp.out; simp [intOf]; omega
      · have hq5 : ¬ (p : Int) + 1 + 1 < 2 * (m : Int) := by omega
        have hq6 : 2 * (m : Int) ≤ (p : Int) + 1 + 1 := by omega
        have HN := Lib.hid (show x = if k + 1 < m then F (2 * (k + 1)) else F (2 * k) by rw [if_neg hk1]; exact hx)
        clear hc hb hx hy hpo
        obtain ⟨f, hf⟩ : ∃ f, f = (x + x) / 2 := ⟨_, rfl⟩
        obtain ⟨t, ht⟩ : ∃ t, t = x + x := ⟨_, rfl⟩
        have HFL := Lib.hid fun w => floor2_any t w (by omega)
        rw [← ht] at hf
        rw [← hf] at HFL
        obtain ⟨z, hz⟩ : ∃ z, z = y - f := ⟨_, rfl⟩
        have HZ := Lib.hid (show z = lD m F k by rw [hz, hf, ht]; exact HL.out k x y x HXX.out HY.out HN.out)
        have j1 : IntKind.i64.wrap (p : Int) = (p : Int) := IntWalk.i64_in _ (by omega)
        have j2 : ((p : Int) + 1).toNat = p + 1 := by omega
        have j3 : IntKind.i64.wrap (x + x) = t := by rw [← ht]; exact IntWalk.i64_in _ (by omega)
        have j4 : IntKind.i64.wrap (y - f) = z := by rw [← hz]; exact IntWalk.i64_in _ (by omega)
        have HU := Lib.hid hU
        have hlk : k ≤ 32 := by omega
        clear hf ht hz hU
        go_wp2
        go_region_law
          (first
            | (refine step_app_int wr rfl (.tmp 29) (.tmp 43) 23 rfl w.heap.size 3 Try.underlying23 infoInt _ _ (by simp [Act.eval]) HU.out (grown_alloc_drew _ _) ⟨wr.heap.size, 0, none⟩ (by simp [Act.eval]) z (cell_new1 _ _ _) (by simp; omega) hB.size ?_; intro v' w' hO' hg')
            | (go_simp; go_at_call 47; refine (HFL.out _).mono ?_; rintro e w' ⟨rfl, rfl⟩))
        all_goals
          have hO2 : Own 3 w.heap.size w' v' (tab (k + 1) (lD m F)) := by rw [← tab_snoc k _ z HZ.out]; exact hO'
          have hB2 := app_below0 hB HU.out hg'
          have HP : Hid (p + 2 = 2 * (k + 1)) := by show p + 2 = 2 * (k + 1); have := hp.out; omega
          obtain ⟨ga', ca', rfl⟩ := own_slN hO2 (len_tab _ _)
          clear hO' hg' HU hB j1 j2 j3 j4
          go_wp2
          go_roundw
          case rel => exact ⟨k + 1, p + 2, ca', ga', by omega, HP, by go_num, rfl, hO2, hB2⟩
          case measure => have := hp.out; simp [intOf]; omega
    · have hpo := hp.out
      have hkm : k = m := by omega
      subst hkm
      have hq1 : 2 * (k : Int) ≤ (p : Int) + 1 := by omega
      have HO := Lib.hid hU
      clear hU hb hpo
      go_wp2
      go_ret
      exact ⟨_, rfl, HO.out, hB⟩

set_option maxHeartbeats 4000000 in
theorem specleap_any (v : Value) (xs : List Int) (m : Nat) (w : World) (h : Rd w v xs) (hm : xs.length = 2 * m) (hl : m ≤ 32) (hb : ∀ j, j < xs.length → -100000 ≤ ix xs j ∧ ix xs j ≤ 100000) :
    Calls Try.prog 46 #[v] w (Made 3 w (tab (2 * m) (lpF m (ix xs)))) := by
  have hd := specdetails_any v xs m w h hm hl hb
  have HDB := Lib.hid fun i (hi : i < m) => lD_bound (n := m) (F := ix xs) (c := 100000) (by rw [← hm]; exact hb) hi
  obtain ⟨a, cap, rfl, h⟩ := h
  have HX := Lib.hid h
  obtain ⟨F, hF⟩ : ∃ F, F = ix xs := ⟨_, rfl⟩
  have HR := Lib.hid (lep_parts m F)
  rw [← hF] at hb hd HDB ⊢
  rw [hm] at hb hd ⊢
  have HF := Lib.hid hF
  have HM := Lib.hid hm
  clear h hF hm
  go_enter Try.func46, Try.ntmps46
  go_wp2_with fail
  refine hd.mono ?_
  rintro e w1 ⟨v1, rfl, oD, b1⟩
  obtain ⟨gd, cd, rfl⟩ := own_slN oD (len_tab _ _)
  have hDR := Lib.hid oD
  clear hd oD
  go_wp2
  go_loopw [4, 5] (fun u i wr => ∃ (k ca : Nat) (ga : Option Addr), k ≤ m ∧ i = .int .i64 k ∧ u = .slice ga k ca ∧ Own 3 w1.heap.size wr (.slice ga k ca) (tab k fun i => F (2 * i) + lQ (lD m F) i) ∧ Below w1.heap.size w1 wr) (fun _ i _ => m - (intOf i).toNat)
  case atStart => exact ⟨0, _, _, Nat.zero_le _, rfl, rfl, own_empty _ _ _ (Nat.le_refl _), (Below.refl _ _).alloc (Nat.le_refl _) _⟩
  case round =>
    obtain ⟨k, ca, ga, hk, rfl, rfl, hU, hB⟩ := hrel
    by_cases hlt : k < m
    · rcases HX.out with hx | ⟨b, off, rfl, hbl, hc⟩
      · have := HM.out; rw [hx] at this; simp at this; omega
      have hbl1 : b < w1.heap.size := Nat.lt_of_lt_of_le hbl b1.size
      have hc0 : wr.cell? ⟨b, off + 2 * k, none⟩ = some (.int .i64 (F (2 * k))) := by rw [hB.cell (p := ⟨b, off + 2 * k, none⟩) hbl1, b1.cell (p := ⟨b, off + 2 * k, none⟩) hbl, hc (2 * k) (by rw [HM.out]; omega), HF.out]
      have oD := hDR.out.below hB (Nat.le_refl _)
      obtain ⟨g, c, he, hg, hgs⟩ := oD.form (by intro e; have := congrArg List.length e; rw [len_tab] at this; simp at this; omega)
      simp only [Value.slice.injEq, len_tab, true_and] at he
      obtain ⟨rfl, rfl⟩ := he
      have hd0 := oD.cell k (by rw [len_tab]; exact hlt)
      rw [ix_tab _ _ _ hlt] at hd0
      have b0 := hb (2 * k) (by omega)
      have bd := HDB.out k hlt
      have k1 : (k : Int) < (m : Int) := by omega
      obtain ⟨x, hx⟩ : ∃ x, x = F (2 * k) := ⟨_, rfl⟩
      rw [← hx] at hc0 b0
      have HXX := Lib.hid hx
      obtain ⟨d, hdd⟩ : ∃ d, d = lD m F k := ⟨_, rfl⟩
      rw [← hdd] at hd0 bd
      have HDD := Lib.hid hdd
      by_cases hk0 : 0 < k
      · obtain ⟨p, hp⟩ : ∃ p, k = p + 1 := ⟨k - 1, by omega⟩
        have hd1 := oD.cell p (by rw [len_tab]; omega)
        rw [ix_tab _ _ _ (by omega)] at hd1
        have bl := HDB.out p (by omega)
        obtain ⟨la, hla⟩ : ∃ la, la = lD m F p := ⟨_, rfl⟩
        rw [← hla] at hd1 bl
        have HLA := Lib.hid (show la = if 0 < k then lD m F (k - 1) else lD m F k by rw [if_pos hk0, hla, hp]; rfl)
        have k2 : (k : Int) - 1 = (p : Int) := by omega
        have k3 : (0 : Int) < (k : Int) := by omega
        have k4 : (p : Int) < (m : Int) := by omega
        have k5 : (0 : Int) ≤ (p : Int) := by omega
        clear hc hb hx hdd hla oD hp
        go_wp2
        clear k2
        have hlk : k ≤ 32 := by omega
        obtain ⟨t, ht⟩ : ∃ t, t = la + d + 2 := ⟨_, rfl⟩
        have HFL := Lib.hid fun w => floor4_any t w (by omega)
        obtain ⟨f, hf⟩ : ∃ f, f = t / 4 := ⟨_, rfl⟩
        rw [← hf] at HFL
        obtain ⟨z, hz⟩ : ∃ z, z = x + f := ⟨_, rfl⟩
        have HZ := Lib.hid (show z = F (2 * k) + lQ (lD m F) k by rw [hz, hf, ht, HXX.out]; unfold lQ; rw [← HLA.out, ← HDD.out])
        have j1 : IntKind.i64.wrap (2 * (k : Int)) = 2 * (k : Int) := IntWalk.i64_in _ (by omega)
        have j2 : (2 * (k : Int)).toNat = 2 * k := by omega
        have j3 : IntKind.i64.wrap (la + d) = la + d := IntWalk.i64_in _ (by omega)
        have j5 : IntKind.i64.wrap (la + d + 2) = t := by rw [← ht]; exact IntWalk.i64_in _ (by omega)
        have j4 : IntKind.i64.wrap (x + f) = z := by rw [← hz]; exact IntWalk.i64_in _ (by omega)
        have q1 : (0 : Int) ≤ 2 * (k : Int) := by omega
        have q2 : 2 * (k : Int) < 2 * (m : Int) := by omega
        have HU := Lib.hid hU
        clear hf ht hz hU
        go_wp2
        go_region_law
          (first
            | (refine step_app_int wr rfl (.tmp 27) (.tmp 42) 23 rfl w1.heap.size 3 Try.underlying23 infoInt _ _ (by simp [Act.eval]) HU.out (grown_alloc_drew _ _) ⟨wr.heap.size, 0, none⟩ (by simp [Act.eval]) z (cell_new1 _ _ _) (by simp; omega) hB.size ?_; intro v' w' hO' hg')
            | (go_simp; go_at_call 47; refine (HFL.out _).mono ?_; rintro e w' ⟨rfl, rfl⟩))
        all_goals
          have hO2 : Own 3 w1.heap.size w' v' (tab (k + 1) fun i => F (2 * i) + lQ (lD m F) i) := by rw [← tab_snoc k _ z HZ.out]; exact hO'
          have hB2 := app_below0 hB HU.out hg'
          obtain ⟨ga', ca', rfl⟩ := own_slN hO2 (len_tab _ _)
          clear hO' hg' HU hB j1 j2 j3 j4 j5
          go_wp2
          go_roundw
          case rel => exact ⟨k + 1, ca', ga', by omega, by go_num, rfl, hO2, hB2⟩
          case measure => simp [intOf]; omega
      · have HLA := Lib.hid (show d = if 0 < k then lD m F (k - 1) else lD m F k by rw [if_neg hk0]; exact hdd)
        have bl := bd
        have k3 : ¬ (0 : Int) < (k : Int) := by omega
        have k6 : (k : Int) ≤ 0 := by omega
        clear hc hb hx hdd oD
        go_wp2
        have hlk : k ≤ 32 := by omega
        obtain ⟨t, ht⟩ : ∃ t, t = d + d + 2 := ⟨_, rfl⟩
        have HFL := Lib.hid fun w => floor4_any t w (by omega)
        obtain ⟨f, hf⟩ : ∃ f, f = t / 4 := ⟨_, rfl⟩
        rw [← hf] at HFL
        obtain ⟨z, hz⟩ : ∃ z, z = x + f := ⟨_, rfl⟩
        have HZ := Lib.hid (show z = F (2 * k) + lQ (lD m F) k by rw [hz, hf, ht, HXX.out]; unfold lQ; rw [← HLA.out, ← HDD.out])
        have j1 : IntKind.i64.wrap (2 * (k : Int)) = 2 * (k : Int) := IntWalk.i64_in _ (by omega)
        have j2 : (2 * (k : Int)).toNat = 2 * k := by omega
        have j3 : IntKind.i64.wrap (d + d) = d + d := IntWalk.i64_in _ (by omega)
        have j5 : IntKind.i64.wrap (d + d + 2) = t := by rw [← ht]; exact IntWalk.i64_in _ (by omega)
        have j4 : IntKind.i64.wrap (x + f) = z := by rw [← hz]; exact IntWalk.i64_in _ (by omega)
        have q1 : (0 : Int) ≤ 2 * (k : Int) := by omega
        have q2 : 2 * (k : Int) < 2 * (m : Int) := by omega
        have HU := Lib.hid hU
        clear hf ht hz hU
        go_wp2
        go_region_law
          (first
            | (refine step_app_int wr rfl (.tmp 27) (.tmp 42) 23 rfl w1.heap.size 3 Try.underlying23 infoInt _ _ (by simp [Act.eval]) HU.out (grown_alloc_drew _ _) ⟨wr.heap.size, 0, none⟩ (by simp [Act.eval]) z (cell_new1 _ _ _) (by simp; omega) hB.size ?_; intro v' w' hO' hg')
            | (go_simp; go_at_call 47; refine (HFL.out _).mono ?_; rintro e w' ⟨rfl, rfl⟩))
        all_goals
          have hO2 : Own 3 w1.heap.size w' v' (tab (k + 1) fun i => F (2 * i) + lQ (lD m F) i) := by rw [← tab_snoc k _ z HZ.out]; exact hO'
          have hB2 := app_below0 hB HU.out hg'
          obtain ⟨ga', ca', rfl⟩ := own_slN hO2 (len_tab _ _)
          clear hO' hg' HU hB j1 j2 j3 j4 j5
          go_wp2
          go_roundw
          case rel => exact ⟨k + 1, ca', ga', by omega, by go_num, rfl, hO2, hB2⟩
          case measure => simp [intOf]; omega
    · obtain rfl : k = m := by omega
      have oD := hDR.out.below hB (Nat.le_refl _)
      clear hb
      go_wp2_with (at_builtin; refine app_many rfl _ _ 23 rfl w1.heap.size 3 Try.underlying23 infoInt _ _ rfl hU _ _ rfl oD.rd ?e1 ?e2 ?_)
      case e1 => simp; omega
      case e2 => exact hB.size
      intro v' w3 hO' hg'
      have hB' := bel_nxt b1 (app_below0 hB hU hg')
      rw [HR.out] at hO'
      have hO2 := hO'.mono b1.size
      obtain ⟨ga', ca', rfl⟩ := own_slN hO2 (len_tab _ _)
      clear hU hB hg' hO' oD
      go_wp2
      go_ret
      exact ⟨_, rfl, hO2, hB'⟩

end Go.Proofs.Ytgafiglfmkaniaa
