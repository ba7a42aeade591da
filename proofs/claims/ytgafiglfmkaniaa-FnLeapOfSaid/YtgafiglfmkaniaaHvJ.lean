/-
  Rows taken back in place, by their contracts.
-/
import Derived.Test.YtgafiglfmkaniaaHvK
import Derived.Deep.RegionHeld3
namespace Go.Proofs.Ytgafiglfmkaniaa
open Go.RowKit
set_option linter.unusedVariables false

set_option maxHeartbeats 4000000 in
theorem lowerH_any (B g c L cap m : Nat) (F : Nat → Int) (w : World) (h : Own 3 B w (.slice (some ⟨g, 0, none⟩) L cap) (tab L F)) (h0 : 0 < m) (hc : 2 * m ≤ c) (hL : 2 * m ≤ L) (hl : L ≤ 1048576) (hb : ∀ j, j < 2 * m → -100000000 ≤ F j ∧ F j ≤ 100000000) :
    Calls Try.prog 40 #[.iface 39 (.agg #[.slice (some ⟨g, 0, none⟩) (2 * m) c])] w fun e w' =>
      e = .returned (.tuple #[]) ∧ Own 3 B w' (.slice (some ⟨g, 0, none⟩) L cap) (tab L (lowF gsH shH m F)) ∧ Below B w w' := by
  have hBg := (own_below (w' := w) h).1
  have HC := Lib.hid fun w => cut2_any g m c w hc h0 (by omega)
  have HRES := Lib.hid (show lowF gsH shH m F = tgK m m (putW m m (odU gsH m (upto m (evU shH m F) F)) (upto m (evU shH m F) F)) from rfl)
  have hsb : ∀ i, i < m → -300000000 ≤ evU shH m F i ∧ evU shH m F i ≤ 300000000 := fun i hi => by
    have a := hb i (by omega)
    have b := shH_bound (m := m) (fun j hj => hb (m + j) (by omega)) hi
    unfold evU; omega
  obtain ⟨s, hs⟩ : ∃ s, s = evU shH m F := ⟨_, rfl⟩
  rw [← hs] at HRES hsb
  have HS := Lib.hid fun i (hi : i < m) => (show F i - shH m F i = s i by rw [hs]; rfl)
  obtain ⟨E, hE⟩ : ∃ E, E = upto m s F := ⟨_, rfl⟩
  rw [← hE] at HRES
  have hEb : ∀ i, i < m → -300000000 ≤ E i ∧ E i ≤ 300000000 := fun i hi => by rw [hE, upto_lt s F hi]; exact hsb i hi
  have HED := Lib.hid fun i (hi : i < m) => (show E (m + i) = F (m + i) by rw [hE]; exact upto_ge s F (by omega))
  obtain ⟨u, hu⟩ : ∃ u, u = odU gsH m E := ⟨_, rfl⟩
  rw [← hu] at HRES
  have HU := Lib.hid fun i (hi : i < m) => (show E (m + i) + gsH m E i = u i by rw [hu]; rfl)
  have HPT := Lib.hid fun w hO => putTogether_any B g c L cap m (putW m m u E) .returning w hO h0 hc hL hl
  have HFB := Lib.hid hb
  have HSB := Lib.hid hsb
  have HEB := Lib.hid hEb
  have HE := Lib.hid hE
  have HI := Lib.hid h
  have hmt := hal_together
  have hmc := hal_cut
  clear h hb hs hsb hE hEb hu
  go_enter_defers Try.func40, Try.ntmps40
  go_wp2_with (go_at_call 50; refine (HC.out _).mono ?_; rintro e w2 ⟨rfl, k2, hw2⟩; have HW := Lib.hid hw2; clear hw2)
  have hI : Own 3 B w2 (.slice (some ⟨g, 0, none⟩) L cap) (tab L (upto 0 s F)) := by
    rw [HW.out, upto_none]; exact HI.out.drew
  have hJ : Below B w w2 := by rw [HW.out]; exact below_drewN (Below.refl _ _) _
  clear HW HI
  go_loopw [15] (fun i wr => ∃ k : Nat, k ≤ m ∧ i = .int .i64 k ∧ Own 3 B wr (.slice (some ⟨g, 0, none⟩) L cap) (tab L (upto k s F)) ∧ Below B w wr) (fun i _ => m - (intOf i).toNat)
  case atStart => exact ⟨0, Nat.zero_le _, rfl, hI, hJ⟩
  case round =>
    obtain ⟨k, hk, rfl, hO, hBr⟩ := hrel
    clear hI hJ
    by_cases hlt : k < m
    · have hcs := own_cells hO hL
      have HGU := Lib.hid fun w' (hh : ∀ j, j < 2 * m → w'.cell? ⟨g, j, none⟩ = some (.int .i64 (upto k s F j))) => shareH_any g m c (upto k s F) k w' hc hlt (by omega) hh
      rw [(sh_upto s F hk hlt).1] at HGU
      obtain ⟨q, hq⟩ : ∃ q, q = shH m F k := ⟨_, rfl⟩
      have HUK := Lib.hid (HS.out k hlt)
      have hqb : -100000001 ≤ q ∧ q ≤ 100000001 := by rw [hq]; exact shH_bound (m := m) (fun j hj => HFB.out (m + j) (by omega)) hlt
      rw [← hq] at HGU HUK
      obtain ⟨x, hx⟩ : ∃ x, x = F k := ⟨_, rfl⟩
      have hxb := HFB.out k (by omega)
      rw [← hx] at HUK hxb
      have d0 : wr.cell? ⟨g, k, none⟩ = some (.int .i64 x) := by rw [hx, ← upto_at k s F]; exact hcs k (by omega)
      have f0 := hO.frozen k
      have i1 : (k : Int) < (m : Int) := by omega
      obtain ⟨y, hy⟩ : ∃ y, y = s k := ⟨_, rfl⟩
      have j1 : IntKind.i64.wrap (x - q) = y := by rw [hy, ← HUK.out]; exact IntWalk.i64_in _ (by omega)
      have HN := hO.set k y
      rw [hy, upto_set L k s F, ← hy] at HN
      have HN := Lib.hid HN
      have HCS := Lib.hid hcs
      have HBR := Lib.hid hBr
      clear hO hcs hBr hq hx hy HUK hxb hqb
      go_wp2
      refine wp_region_noPanic ?_
      go_region_with (go_at_call 58; refine (HGU.out (World.drew wr) (fun j hj => HCS.out j hj)).mono ?_; rintro e w3 ⟨rfl, k3, rfl⟩)
      all_goals
        refine NoPanic.normal ?_
        go_wp2
        go_roundw
        case rel => exact ⟨k + 1, by omega, by go_num, HN.out, below_drewN (HBR.out.setCell hBg _) _⟩
        case measure => simp [intOf]; omega
    · have hkm : m = k := by omega
      subst hkm
      rw [← HE.out] at hO
      have hI : Own 3 B wr (.slice (some ⟨g, 0, none⟩) L cap) (tab L (putW m 0 u E)) := by rw [putW_none]; exact hO
      have hJ := hBr
      clear hO HE HS HSB hBr hk hlt
      go_wp2
      go_loopw [30] (fun i wr => ∃ k : Nat, k ≤ m ∧ i = .int .i64 k ∧ Own 3 B wr (.slice (some ⟨g, 0, none⟩) L cap) (tab L (putW m k u E)) ∧ Below B w wr) (fun i _ => m - (intOf i).toNat)
      case atStart => exact ⟨0, Nat.zero_le _, rfl, hI, hJ⟩
      case round =>
        obtain ⟨k, hk, rfl, hO, hBr⟩ := hrel
        clear hI hJ
        by_cases hlt : k < m
        · have hcs := own_cells hO hL
          have HGU := Lib.hid fun w' (hh : ∀ j, j < 2 * m → w'.cell? ⟨g, j, none⟩ = some (.int .i64 (putW m k u E j))) => guessH_any g m c (putW m k u E) k w' hc hlt (by omega) hh
          rw [(gs_put u E hlt).1] at HGU
          obtain ⟨q, hq⟩ : ∃ q, q = gsH m E k := ⟨_, rfl⟩
          have hqb : -300000000 ≤ q ∧ q ≤ 300000000 := by rw [hq]; exact gsH_bound (m := m) (fun j hj => HEB.out j (by omega)) hlt
          have HUK := Lib.hid (HU.out k hlt)
          rw [← hq] at HGU HUK
          obtain ⟨x, hx⟩ : ∃ x, x = E (m + k) := ⟨_, rfl⟩
          have hxb := HFB.out (m + k) (by omega)
          rw [← HED.out k hlt, ← hx] at hxb
          rw [← hx] at HUK
          have d0 : wr.cell? ⟨g, m + k, none⟩ = some (.int .i64 x) := by rw [hx, ← putW_next m k u E]; exact hcs (m + k) (by omega)
          have f0 := hO.frozen (m + k)
          have i1 : (k : Int) < (m : Int) := by omega
          obtain ⟨y, hy⟩ : ∃ y, y = u k := ⟨_, rfl⟩
          have j1 : IntKind.i64.wrap (x + q) = y := by rw [hy, ← HUK.out]; exact IntWalk.i64_in _ (by omega)
          have HN := hO.set (m + k) y
          rw [hy, putW_step L m k u E, ← hy] at HN
          have HN := Lib.hid HN
          have HCS := Lib.hid hcs
          have HBR := Lib.hid hBr
          clear hO hcs hBr hq hx hy HUK hxb hqb
          go_wp2
          refine wp_region_noPanic ?_
          go_region_with (go_at_call 57; refine (HGU.out (World.drew wr) (fun j hj => HCS.out j hj)).mono ?_; rintro e w3 ⟨rfl, k3, rfl⟩)
          all_goals
            refine NoPanic.normal ?_
            go_wp2
            go_roundw
            case rel => exact ⟨k + 1, by omega, by go_num, HN.out, below_drewN (HBR.out.setCell hBg _) _⟩
            case measure => simp [intOf]; omega
        · have hkm : m = k := by omega
          subst hkm
          have HO := Lib.hid hO
          clear hO
          go_wp2
          refine leaves_cons (f := 81) (args := #[.slice (some ⟨g, 0, none⟩) (2 * m) c]) (by simp) (by simp [go_sem, hmt]) ?_
          refine (HPT.out wr HO.out).mono ?_
          rintro e u' w4 ⟨rfl, rfl, o4, b4⟩
          exact ⟨_, results_none rfl _ _ _, rfl, by rw [HRES.out]; exact o4, hBr.trans b4⟩

set_option maxHeartbeats 4000000 in
theorem lowerL_any (B g c L cap m : Nat) (F : Nat → Int) (w : World) (h : Own 3 B w (.slice (some ⟨g, 0, none⟩) L cap) (tab L F)) (h0 : 0 < m) (hc : 2 * m ≤ c) (hL : 2 * m ≤ L) (hl : L ≤ 1048576) (hb : ∀ j, j < 2 * m → -100000000 ≤ F j ∧ F j ≤ 100000000) :
    Calls Try.prog 40 #[.iface 40 (.agg #[.slice (some ⟨g, 0, none⟩) (2 * m) c])] w fun e w' =>
      e = .returned (.tuple #[]) ∧ Own 3 B w' (.slice (some ⟨g, 0, none⟩) L cap) (tab L (lowF gsL shL m F)) ∧ Below B w w' := by
  have hBg := (own_below (w' := w) h).1
  have HC := Lib.hid fun w => cut2_any g m c w hc h0 (by omega)
  have HRES := Lib.hid (show lowF gsL shL m F = tgK m m (putW m m (odU gsL m (upto m (evU shL m F) F)) (upto m (evU shL m F) F)) from rfl)
  have hsb : ∀ i, i < m → -300000000 ≤ evU shL m F i ∧ evU shL m F i ≤ 300000000 := fun i hi => by
    have a := hb i (by omega)
    have b := shL_bound (m := m) (fun j hj => hb (m + j) (by omega)) hi
    unfold evU; omega
  obtain ⟨s, hs⟩ : ∃ s, s = evU shL m F := ⟨_, rfl⟩
  rw [← hs] at HRES hsb
  have HS := Lib.hid fun i (hi : i < m) => (show F i - shL m F i = s i by rw [hs]; rfl)
  obtain ⟨E, hE⟩ : ∃ E, E = upto m s F := ⟨_, rfl⟩
  rw [← hE] at HRES
  have hEb : ∀ i, i < m → -300000000 ≤ E i ∧ E i ≤ 300000000 := fun i hi => by rw [hE, upto_lt s F hi]; exact hsb i hi
  have HED := Lib.hid fun i (hi : i < m) => (show E (m + i) = F (m + i) by rw [hE]; exact upto_ge s F (by omega))
  obtain ⟨u, hu⟩ : ∃ u, u = odU gsL m E := ⟨_, rfl⟩
  rw [← hu] at HRES
  have HU := Lib.hid fun i (hi : i < m) => (show E (m + i) + gsL m E i = u i by rw [hu]; rfl)
  have HPT := Lib.hid fun w hO => putTogether_any B g c L cap m (putW m m u E) .returning w hO h0 hc hL hl
  have HFB := Lib.hid hb
  have HSB := Lib.hid hsb
  have HEB := Lib.hid hEb
  have HE := Lib.hid hE
  have HI := Lib.hid h
  have hmt := lep_together
  have hmc := lep_cut
  clear h hb hs hsb hE hEb hu
  go_enter_defers Try.func40, Try.ntmps40
  go_wp2_with (go_at_call 50; refine (HC.out _).mono ?_; rintro e w2 ⟨rfl, k2, hw2⟩; have HW := Lib.hid hw2; clear hw2)
  have hI : Own 3 B w2 (.slice (some ⟨g, 0, none⟩) L cap) (tab L (upto 0 s F)) := by
    rw [HW.out, upto_none]; exact HI.out.drew
  have hJ : Below B w w2 := by rw [HW.out]; exact below_drewN (Below.refl _ _) _
  clear HW HI
  go_loopw [15] (fun i wr => ∃ k : Nat, k ≤ m ∧ i = .int .i64 k ∧ Own 3 B wr (.slice (some ⟨g, 0, none⟩) L cap) (tab L (upto k s F)) ∧ Below B w wr) (fun i _ => m - (intOf i).toNat)
  case atStart => exact ⟨0, Nat.zero_le _, rfl, hI, hJ⟩
  case round =>
    obtain ⟨k, hk, rfl, hO, hBr⟩ := hrel
    clear hI hJ
    by_cases hlt : k < m
    · have hcs := own_cells hO hL
      have HGU := Lib.hid fun w' (hh : ∀ j, j < 2 * m → w'.cell? ⟨g, j, none⟩ = some (.int .i64 (upto k s F j))) => shareL_any g m c (upto k s F) k w' hc hlt (by omega) (fun j hj => by rw [upto_ge s F (by omega)]; have := HFB.out (m + j) (by omega); omega) hh
      rw [(sh_upto s F hk hlt).2] at HGU
      obtain ⟨q, hq⟩ : ∃ q, q = shL m F k := ⟨_, rfl⟩
      have HUK := Lib.hid (HS.out k hlt)
      have hqb : -100000001 ≤ q ∧ q ≤ 100000001 := by rw [hq]; exact shL_bound (m := m) (fun j hj => HFB.out (m + j) (by omega)) hlt
      rw [← hq] at HGU HUK
      obtain ⟨x, hx⟩ : ∃ x, x = F k := ⟨_, rfl⟩
      have hxb := HFB.out k (by omega)
      rw [← hx] at HUK hxb
      have d0 : wr.cell? ⟨g, k, none⟩ = some (.int .i64 x) := by rw [hx, ← upto_at k s F]; exact hcs k (by omega)
      have f0 := hO.frozen k
      have i1 : (k : Int) < (m : Int) := by omega
      obtain ⟨y, hy⟩ : ∃ y, y = s k := ⟨_, rfl⟩
      have j1 : IntKind.i64.wrap (x - q) = y := by rw [hy, ← HUK.out]; exact IntWalk.i64_in _ (by omega)
      have HN := hO.set k y
      rw [hy, upto_set L k s F, ← hy] at HN
      have HN := Lib.hid HN
      have HCS := Lib.hid hcs
      have HBR := Lib.hid hBr
      clear hO hcs hBr hq hx hy HUK hxb hqb
      go_wp2
      refine wp_region_noPanic ?_
      go_region_with (go_at_call 58; refine (HGU.out (World.drew wr) (fun j hj => HCS.out j hj)).mono ?_; rintro e w3 ⟨rfl, k3, rfl⟩)
      all_goals
        refine NoPanic.normal ?_
        go_wp2
        go_roundw
        case rel => exact ⟨k + 1, by omega, by go_num, HN.out, below_drewN (HBR.out.setCell hBg _) _⟩
        case measure => simp [intOf]; omega
    · have hkm : m = k := by omega
      subst hkm
      rw [← HE.out] at hO
      have hI : Own 3 B wr (.slice (some ⟨g, 0, none⟩) L cap) (tab L (putW m 0 u E)) := by rw [putW_none]; exact hO
      have hJ := hBr
      clear hO HE HS HSB hBr hk hlt
      go_wp2
      go_loopw [30] (fun i wr => ∃ k : Nat, k ≤ m ∧ i = .int .i64 k ∧ Own 3 B wr (.slice (some ⟨g, 0, none⟩) L cap) (tab L (putW m k u E)) ∧ Below B w wr) (fun i _ => m - (intOf i).toNat)
      case atStart => exact ⟨0, Nat.zero_le _, rfl, hI, hJ⟩
      case round =>
        obtain ⟨k, hk, rfl, hO, hBr⟩ := hrel
        clear hI hJ
        by_cases hlt : k < m
        · have hcs := own_cells hO hL
          have HGU := Lib.hid fun w' (hh : ∀ j, j < 2 * m → w'.cell? ⟨g, j, none⟩ = some (.int .i64 (putW m k u E j))) => guessL_any g m c (putW m k u E) k w' hc hlt (by omega) (fun j hj => by rw [putW_low u E hj]; have := HEB.out j (by omega); omega) hh
          rw [(gs_put u E hlt).2] at HGU
          obtain ⟨q, hq⟩ : ∃ q, q = gsL m E k := ⟨_, rfl⟩
          have hqb : -300000000 ≤ q ∧ q ≤ 300000000 := by rw [hq]; exact gsL_bound (m := m) (fun j hj => HEB.out j (by omega)) hlt
          have HUK := Lib.hid (HU.out k hlt)
          rw [← hq] at HGU HUK
          obtain ⟨x, hx⟩ : ∃ x, x = E (m + k) := ⟨_, rfl⟩
          have hxb := HFB.out (m + k) (by omega)
          rw [← HED.out k hlt, ← hx] at hxb
          rw [← hx] at HUK
          have d0 : wr.cell? ⟨g, m + k, none⟩ = some (.int .i64 x) := by rw [hx, ← putW_next m k u E]; exact hcs (m + k) (by omega)
          have f0 := hO.frozen (m + k)
          have i1 : (k : Int) < (m : Int) := by omega
          obtain ⟨y, hy⟩ : ∃ y, y = u k := ⟨_, rfl⟩
          have j1 : IntKind.i64.wrap (x + q) = y := by rw [hy, ← HUK.out]; exact IntWalk.i64_in _ (by omega)
          have HN := hO.set (m + k) y
          rw [hy, putW_step L m k u E, ← hy] at HN
          have HN := Lib.hid HN
          have HCS := Lib.hid hcs
          have HBR := Lib.hid hBr
          clear hO hcs hBr hq hx hy HUK hxb hqb
          go_wp2
          refine wp_region_noPanic ?_
          go_region_with (go_at_call 57; refine (HGU.out (World.drew wr) (fun j hj => HCS.out j hj)).mono ?_; rintro e w3 ⟨rfl, k3, rfl⟩)
          all_goals
            refine NoPanic.normal ?_
            go_wp2
            go_roundw
            case rel => exact ⟨k + 1, by omega, by go_num, HN.out, below_drewN (HBR.out.setCell hBg _) _⟩
            case measure => simp [intOf]; omega
        · have hkm : m = k := by omega
          subst hkm
          have HO := Lib.hid hO
          clear hO
          go_wp2
          refine leaves_cons (f := 81) (args := #[.slice (some ⟨g, 0, none⟩) (2 * m) c]) (by simp) (by simp [go_sem, hmt]) ?_
          refine (HPT.out wr HO.out).mono ?_
          rintro e u' w4 ⟨rfl, rfl, o4, b4⟩
          exact ⟨_, results_none rfl _ _ _, rfl, by rw [HRES.out]; exact o4, hBr.trans b4⟩

end Go.Proofs.Ytgafiglfmkaniaa
