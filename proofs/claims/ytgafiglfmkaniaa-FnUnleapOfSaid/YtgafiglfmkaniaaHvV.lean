/-
  UnleapOf of the model, by its contract.
-/
import Derived.Test.YtgafiglfmkaniaaHvU
namespace Go.Proofs.Ytgafiglfmkaniaa
open Go.RowKit
set_option linter.unusedVariables false

set_option maxHeartbeats 8000000 in
theorem specUnleapOf_any (v : Value) (xs : List Int) (w : World) (hr : Rc w v xs) (hl : xs.length ≤ maxLen) :
    Calls Try.prog 29 #[v] w (Made 3 w (unlF xs)) := by
  have h := hr.1
  have hv := validEven_any v xs w h hl
  cases hb : evB xs with
  | true =>
    rw [hb] at hv
    obtain ⟨h1, h2⟩ := evB_of hb
    have hbd := vr_bd h1
    have h16 := (vrB_of h1).1
    obtain ⟨m, hm⟩ : ∃ m, xs.length = 2 * m := ⟨xs.length / 2, half_two h2⟩
    have hml : m ≤ 8 := by omega
    have HF := Lib.hid (show unlF xs = tab (2 * m) (ulF m (ix xs)) by rw [unlF_yes hb, unlL, hm, show 2 * m / 2 = m by omega])
    have HEB := Lib.hid fun i (hi : i < m) => eV_bound (n := m) (F := ix xs) (c := 100000) (by rw [← hm]; exact hbd) hi
    have HTW := Lib.hid fun i => unl_two m i (ix xs)
    obtain ⟨a, cap, rfl, h⟩ := h
    have hcap := hr.2 _ _ _ rfl
    obtain ⟨F, hFF⟩ : ∃ F, F = ix xs := ⟨_, rfl⟩
    rw [← hFF] at HF HEB HTW hbd
    have HX := Lib.hid h
    have HFF := Lib.hid hFF
    have HM := Lib.hid hm
    rw [hm] at hv hcap hbd ⊢
    clear hr hb h1 h2 h hFF hl h16 hm
    by_cases hm0 : m = 0
    · subst hm0
      clear HX HEB HTW hbd HM HFF
      go_enter Try.func29, Try.ntmps29
      go_wp2_with fail
      refine hv.mono ?_
      rintro e w1 ⟨rfl, b1⟩
      clear hv
      go_wp2
      refine wp_loop_rounds 1 ?_
      rw [rounds_succ]
      go_wp2
      refine wp_loop_rounds 1 ?_
      rw [rounds_succ]
      go_wp2
      go_ret
      refine ⟨_, rfl, ?_, ?_⟩
      · rw [HF.out]
        have := own_empty 3 w.heap.size (w1.alloc (.cells #[] 3)) (by have := b1.size; simp; omega)
        simp at this
        exact this
      · exact (b1.alloc b1.size _).alloc (by have := b1.size; simp; omega) _
    · have hm1 : 1 ≤ m := by omega
      rcases HX.out with hx | ⟨b, off, rfl, hbl, hc⟩
      · have := HM.out; rw [hx] at this; simp at this; omega
      have HC := Lib.hid fun j (hj : j < 2 * m) => show w.cell? ⟨b, off + j, none⟩ = some (.int .i64 (F j)) by rw [HFF.out]; exact hc j (by rw [HM.out]; exact hj)
      have k0 : ¬ cap = m := by omega
      clear hc hm0
      go_enter Try.func29, Try.ntmps29
      go_wp2_with fail
      refine hv.mono ?_
      rintro e w1 ⟨rfl, b1⟩
      clear hv
      go_wp2
      have e2 : 2 * m - m = m := by omega
      rw [e2]
      clear e2
      go_loopw [5, 6] (fun u i wr => ∃ (k ca : Nat) (ga : Option Addr), k ≤ m ∧ i = .int .i64 k ∧ u = .slice ga k ca ∧ Own 3 w1.heap.size wr (.slice ga k ca) (tab k (eV m F)) ∧ Below w1.heap.size w1 wr) (fun _ i _ => m - (intOf i).toNat)
      case atStart => exact ⟨0, _, _, Nat.zero_le _, rfl, rfl, own_empty _ _ _ (Nat.le_refl _), (Below.refl _ _).alloc (Nat.le_refl _) _⟩
      case round =>
        obtain ⟨k, ca, ga, hk, rfl, rfl, hU, hB⟩ := hrel
        by_cases hlt : k < m
        · have hbl1 : b < w1.heap.size := Nat.lt_of_lt_of_le hbl b1.size
          have hc0 : wr.cell? ⟨b, off + k, none⟩ = some (.int .i64 (F k)) := by rw [hB.cell (p := ⟨b, off + k, none⟩) hbl1, b1.cell (p := ⟨b, off + k, none⟩) hbl]; exact HC.out k (by omega)
          have hd0 : wr.cell? ⟨b, off + m + k, none⟩ = some (.int .i64 (F (m + k))) := by rw [hB.cell (p := ⟨b, off + m + k, none⟩) hbl1, b1.cell (p := ⟨b, off + m + k, none⟩) hbl, Nat.add_assoc]; exact HC.out (m + k) (by omega)
          have b0 := hbd k (by omega)
          have bd := hbd (m + k) (by omega)
          have k1 : (k : Int) < (m : Int) := by omega
          have k7 : (k : Int) < 2 * (m : Int) := by omega
          have k8 : (0 : Int) ≤ (k : Int) := by omega
          obtain ⟨x, hx⟩ : ∃ x, x = F k := ⟨_, rfl⟩
          rw [← hx] at hc0 b0
          have HXX := Lib.hid hx
          obtain ⟨d, hdd⟩ : ∃ d, d = F (m + k) := ⟨_, rfl⟩
          rw [← hdd] at hd0 bd
          have HDD := Lib.hid hdd
          by_cases hk0 : 0 < k
          · obtain ⟨p, hp⟩ : ∃ p, k = p + 1 := ⟨k - 1, by omega⟩
            have hd1 : wr.cell? ⟨b, off + m + p, none⟩ = some (.int .i64 (F (m + p))) := by rw [hB.cell (p := ⟨b, off + m + p, none⟩) hbl1, b1.cell (p := ⟨b, off + m + p, none⟩) hbl, Nat.add_assoc]; exact HC.out (m + p) (by omega)
            have bl := hbd (m + p) (by omega)
            obtain ⟨la, hla⟩ : ∃ la, la = F (m + p) := ⟨_, rfl⟩
            rw [← hla] at hd1 bl
            have HLA := Lib.hid (show la = if 0 < k then F (m + (k - 1)) else F (m + k) by rw [if_pos hk0, hla, hp]; rfl)
            have k2 : (k : Int) - 1 = (p : Int) := by omega
            have k3 : (0 : Int) < (k : Int) := by omega
            have k4 : (p : Int) < (m : Int) := by omega
            have k5 : (0 : Int) ≤ (p : Int) := by omega
            clear hbd hx hdd hla hp
            go_wp2
            clear k2
            have hlk : k ≤ 32 := by omega
            obtain ⟨t, ht⟩ : ∃ t, t = la + d + 2 := ⟨_, rfl⟩
            have HFL := Lib.hid fun w => floor4_any t w (by omega)
            obtain ⟨f, hf⟩ : ∃ f, f = t / 4 := ⟨_, rfl⟩
            rw [← hf] at HFL
            obtain ⟨z, hz⟩ : ∃ z, z = x - f := ⟨_, rfl⟩
            have HZ := Lib.hid (show z = eV m F k by rw [hz, hf, ht, HXX.out]; show F k - (la + d + 2) / 4 = F k - ((if 0 < k then F (m + (k - 1)) else F (m + k)) + F (m + k) + 2) / 4; rw [← HLA.out, ← HDD.out])
            have j3 : IntKind.i64.wrap (la + d) = la + d := IntWalk.i64_in _ (by omega)
            have j5 : IntKind.i64.wrap (la + d + 2) = t := by rw [← ht]; exact IntWalk.i64_in _ (by omega)
            have j4 : IntKind.i64.wrap (x - f) = z := by rw [← hz]; exact IntWalk.i64_in _ (by omega)
            have HU := Lib.hid hU
            clear hf ht hz hU
            go_wp2
            go_region_law
              (first
                | (refine step_app_int wr rfl (.tmp 37) (.tmp 51) 23 rfl w1.heap.size 3 Try.underlying23 infoInt _ _ (by simp [Act.eval]) HU.out (grown_alloc_drew _ _) ⟨wr.heap.size, 0, none⟩ (by simp [Act.eval]) z (cell_new1 _ _ _) (by simp; omega) hB.size ?_; intro v' w' hO' hg')
                | (go_simp; go_at_call 47; refine (HFL.out _).mono ?_; rintro e w' ⟨rfl, rfl⟩))
            all_goals
              have hO2 : Own 3 w1.heap.size w' v' (tab (k + 1) (eV m F)) := by rw [← tab_snoc k _ z HZ.out]; exact hO'
              have hB2 := app_below0 hB HU.out hg'
              obtain ⟨ga', ca', rfl⟩ := own_slN hO2 (len_tab _ _)
              clear hO' hg' HU hB j3 j4 j5
              go_wp2
              go_roundw
              case rel => exact ⟨k + 1, ca', ga', by omega, by go_num, rfl, hO2, hB2⟩
              case measure => simp [intOf]; omega
          · have HLA := Lib.hid (show d = if 0 < k then F (m + (k - 1)) else F (m + k) by rw [if_neg hk0]; exact hdd)
            have bl := bd
            have k3 : ¬ (0 : Int) < (k : Int) := by omega
            have k6 : (k : Int) ≤ 0 := by omega
            clear hbd hx hdd
            go_wp2
            have hlk : k ≤ 32 := by omega
            obtain ⟨t, ht⟩ : ∃ t, t = d + d + 2 := ⟨_, rfl⟩
            have HFL := Lib.hid fun w => floor4_any t w (by omega)
            obtain ⟨f, hf⟩ : ∃ f, f = t / 4 := ⟨_, rfl⟩
            rw [← hf] at HFL
            obtain ⟨z, hz⟩ : ∃ z, z = x - f := ⟨_, rfl⟩
            have HZ := Lib.hid (show z = eV m F k by rw [hz, hf, ht, HXX.out]; show F k - (d + d + 2) / 4 = F k - ((if 0 < k then F (m + (k - 1)) else F (m + k)) + F (m + k) + 2) / 4; rw [← HLA.out, ← HDD.out])
            have j3 : IntKind.i64.wrap (d + d) = d + d := IntWalk.i64_in _ (by omega)
            have j5 : IntKind.i64.wrap (d + d + 2) = t := by rw [← ht]; exact IntWalk.i64_in _ (by omega)
            have j4 : IntKind.i64.wrap (x - f) = z := by rw [← hz]; exact IntWalk.i64_in _ (by omega)
            have HU := Lib.hid hU
            clear hf ht hz hU
            go_wp2
            go_region_law
              (first
                | (refine step_app_int wr rfl (.tmp 37) (.tmp 51) 23 rfl w1.heap.size 3 Try.underlying23 infoInt _ _ (by simp [Act.eval]) HU.out (grown_alloc_drew _ _) ⟨wr.heap.size, 0, none⟩ (by simp [Act.eval]) z (cell_new1 _ _ _) (by simp; omega) hB.size ?_; intro v' w' hO' hg')
                | (go_simp; go_at_call 47; refine (HFL.out _).mono ?_; rintro e w' ⟨rfl, rfl⟩))
            all_goals
              have hO2 : Own 3 w1.heap.size w' v' (tab (k + 1) (eV m F)) := by rw [← tab_snoc k _ z HZ.out]; exact hO'
              have hB2 := app_below0 hB HU.out hg'
              obtain ⟨ga', ca', rfl⟩ := own_slN hO2 (len_tab _ _)
              clear hO' hg' HU hB j3 j4 j5
              go_wp2
              go_roundw
              case rel => exact ⟨k + 1, ca', ga', by omega, by go_num, rfl, hO2, hB2⟩
              case measure => simp [intOf]; omega
        · obtain rfl : k = m := by omega
          have HE := Lib.hid hU
          have b2 := bel_nxt b1 hB
          obtain ⟨w2, hw2⟩ : ∃ w2, w2 = wr := ⟨_, rfl⟩
          rw [← hw2] at hU hB b2 HE ⊢
          have HW2 := Lib.hid hw2
          clear hU hw2
          go_wp2
          go_loopw [8, 9] (fun u i wr => ∃ (q c2 : Nat) (g2 : Option Addr), q ≤ k ∧ i = .int .i64 q ∧ u = .slice g2 (2 * q) c2 ∧ Own 3 w2.heap.size wr (.slice g2 (2 * q) c2) (tab (2 * q) (ulF k F)) ∧ Below w2.heap.size w2 wr) (fun _ i _ => k - (intOf i).toNat)
          case atStart => exact ⟨0, _, _, Nat.zero_le _, rfl, rfl, own_empty _ _ _ (Nat.le_refl _), (Below.refl _ _).alloc (Nat.le_refl _) _⟩
          case round =>
            obtain ⟨q, c2, g2, hq, rfl, rfl, hU, hB⟩ := hrel
            by_cases hql : q < k
            · have hbl1 : b < w2.heap.size := Nat.lt_of_lt_of_le hbl b2.size
              have hd0 : wr.cell? ⟨b, off + k + q, none⟩ = some (.int .i64 (F (k + q))) := by rw [hB.cell (p := ⟨b, off + k + q, none⟩) hbl1, b2.cell (p := ⟨b, off + k + q, none⟩) hbl, Nat.add_assoc]; exact HC.out (k + q) (by omega)
              have oE := HE.out.below hB (Nat.le_refl _)
              obtain ⟨g, c, he, hg, hgs⟩ := oE.form (by intro e; have := congrArg List.length e; rw [len_tab] at this; simp at this; omega)
              simp only [Value.slice.injEq, len_tab, true_and] at he
              obtain ⟨rfl, rfl⟩ := he
              have hc0 := oE.cell q (by rw [len_tab]; exact hql)
              rw [ix_tab _ _ _ hql] at hc0
              have b0 := HEB.out q hql
              have bd := hbd (k + q) (by omega)
              have k1 : (q : Int) < (k : Int) := by omega
              have k8 : (0 : Int) ≤ (q : Int) := by omega
              obtain ⟨x, hx⟩ : ∃ x, x = eV k F q := ⟨_, rfl⟩
              rw [← hx] at hc0 b0
              have HXX := Lib.hid hx
              obtain ⟨d, hdd⟩ : ∃ d, d = F (k + q) := ⟨_, rfl⟩
              rw [← hdd] at hd0 bd
              have HDD := Lib.hid hdd
              by_cases hk1 : q + 1 < k
              · have hc1 := oE.cell (q + 1) (by rw [len_tab]; exact hk1)
                rw [ix_tab _ _ _ hk1] at hc1
                have bn := HEB.out (q + 1) hk1
                obtain ⟨nx, hn⟩ : ∃ nx, nx = eV k F (q + 1) := ⟨_, rfl⟩
                rw [← hn] at hc1 bn
                have HNX := Lib.hid (show nx = if q + 1 < k then eV k F (q + 1) else eV k F q by rw [if_pos hk1]; exact hn)
                have k5 : (q : Int) + 1 < (k : Int) := by omega
                have k6 : (0 : Int) ≤ (q : Int) + 1 := by omega
                clear hbd hx hdd hn oE
                go_wp2
                have hlk : q ≤ 32 := by omega
                obtain ⟨t, ht⟩ : ∃ t, t = x + nx := ⟨_, rfl⟩
                have HFL := Lib.hid fun w => floor2_any t w (by omega)
                obtain ⟨f, hf⟩ : ∃ f, f = t / 2 := ⟨_, rfl⟩
                rw [← hf] at HFL
                obtain ⟨z, hz⟩ : ∃ z, z = d + f := ⟨_, rfl⟩
                have HZ := Lib.hid (show [x, z] = [eV k F q, F (k + q) + lM k (eV k F) q] by
                  rw [hz, hf, ht, HDD.out, ← HXX.out]
                  show _ = [x, F (k + q) + (eV k F q + (if q + 1 < k then eV k F (q + 1) else eV k F q)) / 2]
                  rw [← HNX.out, ← HXX.out])
                have j3 : IntKind.i64.wrap (x + nx) = t := by rw [← ht]; exact IntWalk.i64_in _ (by omega)
                have j4 : IntKind.i64.wrap (d + f) = z := by rw [← hz]; exact IntWalk.i64_in _ (by omega)
                have HU := Lib.hid hU
                clear hf ht hz hU
                go_wp2
                go_region_law
                  (first
                    | (refine step_app_many rfl (.tmp 72) (.tmp 89) 23 rfl w2.heap.size 3 Try.underlying23 infoInt _ _ (by simp [Act.eval]) (HU.out.grow (.cells #[.int .i64 x, .int .i64 z] 3)).drew (.slice (some ⟨wr.heap.size, 0, none⟩) 2 2) [x, z] (by simp [Act.eval]) (rd_lit2 _ _ _ _ _ rfl).drew (by simp; omega) (by have := hB.size; simp; omega) ?_; intro v' w' hO' hg')
                    | (go_simp; go_at_call 47; refine (HFL.out _).mono ?_; rintro e w' ⟨rfl, rfl⟩))
                all_goals
                  have hB2 := app_below0 hB HU.out (grown_thru (grown_alloc_drew wr (.cells #[.int .i64 x, .int .i64 z] 3)) hg')
                  rw [HZ.out, HTW.out q] at hO'
                  obtain ⟨ga', ca', rfl⟩ := own_slN hO' (len_tab _ _)
                  clear hg' HU hB j3 j4
                  go_wp2
                  go_roundw
                  case rel => exact ⟨q + 1, ca', ga', by omega, by go_num, rfl, hO', hB2⟩
                  case measure => simp [intOf]; omega
              · have HNX := Lib.hid (show x = if q + 1 < k then eV k F (q + 1) else eV k F q by rw [if_neg hk1]; exact hx)
                have k5 : ¬ (q : Int) + 1 < (k : Int) := by omega
                have k6 : (k : Int) ≤ (q : Int) + 1 := by omega
                clear hbd hx hdd oE
                go_wp2
                have hlk : q ≤ 32 := by omega
                obtain ⟨t, ht⟩ : ∃ t, t = x + x := ⟨_, rfl⟩
                have HFL := Lib.hid fun w => floor2_any t w (by omega)
                obtain ⟨f, hf⟩ : ∃ f, f = t / 2 := ⟨_, rfl⟩
                rw [← hf] at HFL
                obtain ⟨z, hz⟩ : ∃ z, z = d + f := ⟨_, rfl⟩
                have HZ := Lib.hid (show [x, z] = [eV k F q, F (k + q) + lM k (eV k F) q] by
                  rw [hz, hf, ht, HDD.out, ← HXX.out]
                  show _ = [x, F (k + q) + (eV k F q + (if q + 1 < k then eV k F (q + 1) else eV k F q)) / 2]
                  rw [← HNX.out, ← HXX.out])
                have j3 : IntKind.i64.wrap (x + x) = t := by rw [← ht]; exact IntWalk.i64_in _ (by omega)
                have j4 : IntKind.i64.wrap (d + f) = z := by rw [← hz]; exact IntWalk.i64_in _ (by omega)
                have HU := Lib.hid hU
                clear hf ht hz hU
                go_wp2
                go_region_law
                  (first
                    | (refine step_app_many rfl (.tmp 72) (.tmp 89) 23 rfl w2.heap.size 3 Try.underlying23 infoInt _ _ (by simp [Act.eval]) (HU.out.grow (.cells #[.int .i64 x, .int .i64 z] 3)).drew (.slice (some ⟨wr.heap.size, 0, none⟩) 2 2) [x, z] (by simp [Act.eval]) (rd_lit2 _ _ _ _ _ rfl).drew (by simp; omega) (by have := hB.size; simp; omega) ?_; intro v' w' hO' hg')
                    | (go_simp; go_at_call 47; refine (HFL.out _).mono ?_; rintro e w' ⟨rfl, rfl⟩))
                all_goals
                  have hB2 := app_below0 hB HU.out (grown_thru (grown_alloc_drew wr (.cells #[.int .i64 x, .int .i64 z] 3)) hg')
                  rw [HZ.out, HTW.out q] at hO'
                  obtain ⟨ga', ca', rfl⟩ := own_slN hO' (len_tab _ _)
                  clear hg' HU hB j3 j4
                  go_wp2
                  go_roundw
                  case rel => exact ⟨q + 1, ca', ga', by omega, by go_num, rfl, hO', hB2⟩
                  case measure => simp [intOf]; omega
            · obtain rfl : q = k := by omega
              rw [← HF.out] at hU
              have HO := Lib.hid (hU.mono b2.size)
              have hB3 := bel_nxt b2 hB
              clear hU hB hbd
              go_wp2
              go_ret
              exact ⟨_, rfl, HO.out, hB3⟩
  | false =>
    rw [hb] at hv
    have HF := Lib.hid (unlF_no hb)
    have h := hr.1
    clear hb
    go_enter Try.func29, Try.ntmps29
    go_wp2_with fail
    refine hv.mono ?_
    rintro e w1 ⟨rfl, b1⟩
    go_wp2
    go_ret
    exact ⟨_, rfl, by rw [HF.out]; exact Own.nil _ _ _, b1⟩

end Go.Proofs.Ytgafiglfmkaniaa
