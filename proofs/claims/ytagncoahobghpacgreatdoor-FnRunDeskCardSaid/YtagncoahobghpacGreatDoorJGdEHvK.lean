/-
  Rows lifted in place, and taken back, by their contracts.
-/
import Derived.Test.YtagncoahobghpacGreatDoorJGdE27
import Derived.StillTailTactics
namespace Go.Proofs.YtagncoahobghpacGreatDoor
open Go.RowKit
set_option linter.unusedVariables false
set_option maxRecDepth 100000

theorem hal_apart (v : Value) (w : World) : (method 316 124 (.agg #[v]) "loop.example/wholewaves/impl.putApart").run Tryz.prog w = .ok (189, v) w := by kernel_rfl
theorem lep_apart (v : Value) (w : World) : (method 316 125 (.agg #[v]) "loop.example/wholewaves/impl.putApart").run Tryz.prog w = .ok (189, v) w := by kernel_rfl
theorem hal_together (v : Value) (w : World) : (method 316 124 (.agg #[v]) "loop.example/wholewaves/impl.putTogether").run Tryz.prog w = .ok (195, v) w := by kernel_rfl
theorem lep_together (v : Value) (w : World) : (method 316 125 (.agg #[v]) "loop.example/wholewaves/impl.putTogether").run Tryz.prog w = .ok (195, v) w := by kernel_rfl

theorem apK_bound {m : Nat} {F : Nat → Int} {c : Int} (h : ∀ j, j < 2 * m → -c ≤ F j ∧ F j ≤ c) : ∀ j, j < 2 * m → -c ≤ apK m m F j ∧ apK m m F j ≤ c := by
  intro j hj
  rcases mid_cases m j with q | ⟨i, q, rfl⟩ | q
  · rw [apK_low F q]; exact h _ (by omega)
  · rw [apK_mid F q]; exact h _ (by omega)
  · omega

/-- The cells of a row that is owned. -/
theorem own_cells {E B g n cap L m : Nat} {w : World} {G : Nat → Int} (h : Own E B w (.slice (some ⟨g, 0, none⟩) n cap) (tab L G)) (hL : 2 * m ≤ L) : ∀ j, j < 2 * m → w.cell? ⟨g, j, none⟩ = some (.int .i64 (G j)) := fun j hj => by
  rw [h.cell j (by rw [len_tab]; omega), ix_tab _ _ _ (by omega)]

/-- The guesses on the way do not turn. -/
theorem gs_put {m k i : Nat} (u G : Nat → Int) (hi : i < m) : gsH m (putW m k u G) i = gsH m G i ∧ gsL m (putW m k u G) i = gsL m G i :=
  ⟨gsH_congr (fun j hj => putW_low u G hj) hi, gsL_congr (fun j hj => putW_low u G hj) hi⟩
theorem sh_upto {m k i : Nat} (u G : Nat → Int) (hk : k ≤ m) (hi : i < m) : shH m (upto k u G) i = shH m G i ∧ shL m (upto k u G) i = shL m G i :=
  ⟨shH_congr (fun j hj => upto_ge u G (by omega)) hi, shL_congr (fun j hj => upto_ge u G (by omega)) hi⟩

set_option maxHeartbeats 4000000 in
theorem liftH_any (B g c L cap m : Nat) (F : Nat → Int) (w : World) (h : Own 3 B w (.slice (some ⟨g, 0, none⟩) L cap) (tab L F)) (h0 : 0 < m) (hc : 2 * m ≤ c) (hL : 2 * m ≤ L) (hl : L ≤ 1048576) (hb : ∀ j, j < 2 * m → -100000000 ≤ F j ∧ F j ≤ 100000000) :
    Calls Tryz.prog 96 #[.iface 124 (.agg #[.slice (some ⟨g, 0, none⟩) (2 * m) c])] w fun e w' =>
      e = .returned (.tuple #[]) ∧ Own 3 B w' (.slice (some ⟨g, 0, none⟩) L cap) (tab L (lftF gsH shH m F)) ∧ Below B w w' := by
  have hBg := (own_below (w' := w) h).1
  have HPA := Lib.hid (putApart_any B g c L cap m F w h h0 hc hL hl)
  have HC := Lib.hid fun w => cut2_any g m c w hc h0 (by omega)
  have HRES := Lib.hid (show lftF gsH shH m F = upto m (smU shH m (putW m m (dtU gsH m (apK m m F)) (apK m m F))) (putW m m (dtU gsH m (apK m m F)) (apK m m F)) from rfl)
  obtain ⟨G, hG⟩ : ∃ G, G = apK m m F := ⟨_, rfl⟩
  have hGb := apK_bound hb
  rw [← hG] at HPA HRES hGb
  obtain ⟨u, hu⟩ : ∃ u, u = dtU gsH m G := ⟨_, rfl⟩
  rw [← hu] at HRES
  obtain ⟨G1, hG1⟩ : ∃ G1, G1 = putW m m u G := ⟨_, rfl⟩
  rw [← hG1] at HRES
  obtain ⟨s, hs⟩ : ∃ s, s = smU shH m G1 := ⟨_, rfl⟩
  rw [← hs] at HRES
  have hub : ∀ i, i < m → -200000000 ≤ u i ∧ u i ≤ 200000000 := fun i hi => by
    rw [hu]
    have a := hGb (m + i) (by omega)
    have b := gsH_bound (m := m) (fun j hj => hGb j (by omega)) hi
    unfold dtU; omega
  have HU := Lib.hid fun i (hi : i < m) => (show G (m + i) - gsH m G i = u i by rw [hu]; rfl)
  have HUB := Lib.hid hub
  have HGB := Lib.hid hGb
  have hs1 : ∀ i, i < m → -200000000 ≤ G1 (m + i) ∧ G1 (m + i) ≤ 200000000 := fun i hi => by rw [hG1, putW_mid u G hi]; exact hub i hi
  have HS1 := Lib.hid hs1
  have HS := Lib.hid fun i (hi : i < m) => (show G1 i + shH m G1 i = s i by rw [hs]; rfl)
  have HSB := Lib.hid fun i (hi : i < m) => (show -1000000000 ≤ G1 i + shH m G1 i ∧ G1 i + shH m G1 i ≤ 1000000000 by
    have a := hGb i (by omega)
    have b := shH_bound (m := m) hs1 hi
    have c : G1 i = G i := by rw [hG1]; exact putW_low u G hi
    omega)
  have HG1 := Lib.hid hG1
  have hmt := hal_apart
  have hmc := hal_cut
  clear h hb hG hu hub hGb hG1 hs hs1
  go_enter Tryz.func96, Tryz.ntmps96
  go_wp2_with (first
    | (go_at_call 189; refine HPA.out.mono ?_; rintro e w1 ⟨rfl, o1, b1⟩)
    | (go_at_call 188; refine (HC.out _).mono ?_; rintro e w2 ⟨rfl, k2, hw2⟩; have HW := Lib.hid hw2; clear hw2))
  have hI : Own 3 B w2 (.slice (some ⟨g, 0, none⟩) L cap) (tab L (putW m 0 u G)) := by
    rw [HW.out, putW_none]; exact o1.drew
  have hJ : Below B w w2 := by rw [HW.out]; exact below_drewN b1 _
  clear o1 b1 HW HPA
  go_loopw [15] (fun i wr => ∃ k : Nat, k ≤ m ∧ i = .int .i64 k ∧ Own 3 B wr (.slice (some ⟨g, 0, none⟩) L cap) (tab L (putW m k u G)) ∧ Below B w wr) (fun i _ => m - (intOf i).toNat)
  case atStart => exact ⟨0, Nat.zero_le _, rfl, hI, hJ⟩
  case round =>
    obtain ⟨k, hk, rfl, hO, hBr⟩ := hrel
    clear hI hJ
    by_cases hlt : k < m
    · have hcs := own_cells hO hL
      have HGU := Lib.hid fun w' (hh : ∀ j, j < 2 * m → w'.cell? ⟨g, j, none⟩ = some (.int .i64 (putW m k u G j))) => guessH_any g m c (putW m k u G) k w' hc hlt (by omega) hh
      rw [(gs_put u G hlt).1] at HGU
      obtain ⟨q, hq⟩ : ∃ q, q = gsH m G k := ⟨_, rfl⟩
      have hqb : -100000000 ≤ q ∧ q ≤ 100000000 := by rw [hq]; exact gsH_bound (m := m) (fun j hj => HGB.out j (by omega)) hlt
      have HUK := Lib.hid (HU.out k hlt)
      rw [← hq] at HGU HUK
      obtain ⟨x, hx⟩ : ∃ x, x = G (m + k) := ⟨_, rfl⟩
      have hxb := HGB.out (m + k) (by omega)
      rw [← hx] at hxb HUK
      have d0 : wr.cell? ⟨g, m + k, none⟩ = some (.int .i64 x) := by rw [hx, ← putW_next m k u G]; exact hcs (m + k) (by omega)
      have f0 := hO.frozen (m + k)
      have i1 : (k : Int) < (m : Int) := by omega
      have HO := Lib.hid hO
      have HCS := Lib.hid hcs
      have HBR := Lib.hid hBr
      have hO0 := hO
      clear hO hcs hBr hq hx
      obtain ⟨y, hy⟩ : ∃ y, y = u k := ⟨_, rfl⟩
      have j1 : IntKind.i64.wrap (x - q) = y := by rw [hy, ← HUK.out]; exact IntWalk.i64_in _ (by omega)
      have HN := hO0.set (m + k) y
      rw [hy, putW_step L m k u G, ← hy] at HN
      have HN := Lib.hid HN
      clear hO0 hy HUK
      go_wp2
      go_region_with (go_at_call 115; refine (HGU.out (World.drew wr) (fun j hj => HCS.out j hj)).mono ?_; rintro e w3 ⟨rfl, k3, rfl⟩)
      all_goals
        go_wp2
        go_roundw
        case rel => exact ⟨k + 1, by omega, by go_num, HN.out, below_drewN (HBR.out.setCell hBg _) _⟩
        case measure => simp [intOf]; omega
    · have hkm : m = k := by omega
      subst hkm
      rw [← HG1.out] at hO
      have hI : Own 3 B wr (.slice (some ⟨g, 0, none⟩) L cap) (tab L (upto 0 s G1)) := by rw [upto_none]; exact hO
      have hJ := hBr
      clear hO HG1 HU HUB HGB hBr hk hlt
      go_wp2
      go_loopw [30] (fun i wr => ∃ k : Nat, k ≤ m ∧ i = .int .i64 k ∧ Own 3 B wr (.slice (some ⟨g, 0, none⟩) L cap) (tab L (upto k s G1)) ∧ Below B w wr) (fun i _ => m - (intOf i).toNat)
      case atStart => exact ⟨0, Nat.zero_le _, rfl, hI, hJ⟩
      case round =>
        obtain ⟨k, hk, rfl, hO, hBr⟩ := hrel
        clear hI hJ
        by_cases hlt : k < m
        · have hcs := own_cells hO hL
          have HGU := Lib.hid fun w' (hh : ∀ j, j < 2 * m → w'.cell? ⟨g, j, none⟩ = some (.int .i64 (upto k s G1 j))) => shareH_any g m c (upto k s G1) k w' hc hlt (by omega) hh
          rw [(sh_upto s G1 hk hlt).1] at HGU
          obtain ⟨q, hq⟩ : ∃ q, q = shH m G1 k := ⟨_, rfl⟩
          have HUK := Lib.hid (HS.out k hlt)
          have hxq := HSB.out k hlt
          rw [← hq] at HGU HUK hxq
          obtain ⟨x, hx⟩ : ∃ x, x = G1 k := ⟨_, rfl⟩
          rw [← hx] at HUK hxq
          have d0 : wr.cell? ⟨g, k, none⟩ = some (.int .i64 x) := by rw [hx, ← upto_at k s G1]; exact hcs k (by omega)
          have f0 := hO.frozen k
          have i1 : (k : Int) < (m : Int) := by omega
          obtain ⟨y, hy⟩ : ∃ y, y = s k := ⟨_, rfl⟩
          have j1 : IntKind.i64.wrap (x + q) = y := by rw [hy, ← HUK.out]; exact IntWalk.i64_in _ (by omega)
          have HN := hO.set k y
          rw [hy, upto_set L k s G1, ← hy] at HN
          have HN := Lib.hid HN
          have HCS := Lib.hid hcs
          have HBR := Lib.hid hBr
          clear hO hcs hBr hq hx hy HUK hxq
          go_wp2
          go_region_with (go_at_call 116; refine (HGU.out (World.drew wr) (fun j hj => HCS.out j hj)).mono ?_; rintro e w3 ⟨rfl, k3, rfl⟩)
          all_goals
            go_wp2
            go_roundw
            case rel => exact ⟨k + 1, by omega, by go_num, HN.out, below_drewN (HBR.out.setCell hBg _) _⟩
            case measure => simp [intOf]; omega
        · have hkm : m = k := by omega
          subst hkm
          rw [← HRES.out] at hO
          have HO := Lib.hid hO
          clear hO
          go_wp2
          go_end0
          exact ⟨rfl, HO.out, hBr⟩

set_option maxHeartbeats 4000000 in
theorem liftL_any (B g c L cap m : Nat) (F : Nat → Int) (w : World) (h : Own 3 B w (.slice (some ⟨g, 0, none⟩) L cap) (tab L F)) (h0 : 0 < m) (hc : 2 * m ≤ c) (hL : 2 * m ≤ L) (hl : L ≤ 1048576) (hb : ∀ j, j < 2 * m → -100000000 ≤ F j ∧ F j ≤ 100000000) :
    Calls Tryz.prog 96 #[.iface 125 (.agg #[.slice (some ⟨g, 0, none⟩) (2 * m) c])] w fun e w' =>
      e = .returned (.tuple #[]) ∧ Own 3 B w' (.slice (some ⟨g, 0, none⟩) L cap) (tab L (lftF gsL shL m F)) ∧ Below B w w' := by
  have hBg := (own_below (w' := w) h).1
  have HPA := Lib.hid (putApart_any B g c L cap m F w h h0 hc hL hl)
  have HC := Lib.hid fun w => cut2_any g m c w hc h0 (by omega)
  have HRES := Lib.hid (show lftF gsL shL m F = upto m (smU shL m (putW m m (dtU gsL m (apK m m F)) (apK m m F))) (putW m m (dtU gsL m (apK m m F)) (apK m m F)) from rfl)
  obtain ⟨G, hG⟩ : ∃ G, G = apK m m F := ⟨_, rfl⟩
  have hGb := apK_bound hb
  rw [← hG] at HPA HRES hGb
  obtain ⟨u, hu⟩ : ∃ u, u = dtU gsL m G := ⟨_, rfl⟩
  rw [← hu] at HRES
  obtain ⟨G1, hG1⟩ : ∃ G1, G1 = putW m m u G := ⟨_, rfl⟩
  rw [← hG1] at HRES
  obtain ⟨s, hs⟩ : ∃ s, s = smU shL m G1 := ⟨_, rfl⟩
  rw [← hs] at HRES
  have hub : ∀ i, i < m → -200000000 ≤ u i ∧ u i ≤ 200000000 := fun i hi => by
    rw [hu]
    have a := hGb (m + i) (by omega)
    have b := gsL_bound (m := m) (fun j hj => hGb j (by omega)) hi
    unfold dtU; omega
  have HU := Lib.hid fun i (hi : i < m) => (show G (m + i) - gsL m G i = u i by rw [hu]; rfl)
  have HUB := Lib.hid hub
  have HGB := Lib.hid hGb
  have hs1 : ∀ i, i < m → -200000000 ≤ G1 (m + i) ∧ G1 (m + i) ≤ 200000000 := fun i hi => by rw [hG1, putW_mid u G hi]; exact hub i hi
  have HS1 := Lib.hid hs1
  have HS := Lib.hid fun i (hi : i < m) => (show G1 i + shL m G1 i = s i by rw [hs]; rfl)
  have HSB := Lib.hid fun i (hi : i < m) => (show -1000000000 ≤ G1 i + shL m G1 i ∧ G1 i + shL m G1 i ≤ 1000000000 by
    have a := hGb i (by omega)
    have b := shL_bound (m := m) hs1 hi
    have c : G1 i = G i := by rw [hG1]; exact putW_low u G hi
    omega)
  have HG1 := Lib.hid hG1
  have hmt := lep_apart
  have hmc := lep_cut
  clear h hb hG hu hub hGb hG1 hs hs1
  go_enter Tryz.func96, Tryz.ntmps96
  go_wp2_with (first
    | (go_at_call 189; refine HPA.out.mono ?_; rintro e w1 ⟨rfl, o1, b1⟩)
    | (go_at_call 188; refine (HC.out _).mono ?_; rintro e w2 ⟨rfl, k2, hw2⟩; have HW := Lib.hid hw2; clear hw2))
  have hI : Own 3 B w2 (.slice (some ⟨g, 0, none⟩) L cap) (tab L (putW m 0 u G)) := by
    rw [HW.out, putW_none]; exact o1.drew
  have hJ : Below B w w2 := by rw [HW.out]; exact below_drewN b1 _
  clear o1 b1 HW HPA
  go_loopw [15] (fun i wr => ∃ k : Nat, k ≤ m ∧ i = .int .i64 k ∧ Own 3 B wr (.slice (some ⟨g, 0, none⟩) L cap) (tab L (putW m k u G)) ∧ Below B w wr) (fun i _ => m - (intOf i).toNat)
  case atStart => exact ⟨0, Nat.zero_le _, rfl, hI, hJ⟩
  case round =>
    obtain ⟨k, hk, rfl, hO, hBr⟩ := hrel
    clear hI hJ
    by_cases hlt : k < m
    · have hcs := own_cells hO hL
      have HGU := Lib.hid fun w' (hh : ∀ j, j < 2 * m → w'.cell? ⟨g, j, none⟩ = some (.int .i64 (putW m k u G j))) => guessL_any g m c (putW m k u G) k w' hc hlt (by omega) (fun j hj => by rw [putW_low u G hj]; have := HGB.out j (by omega); omega) hh
      rw [(gs_put u G hlt).2] at HGU
      obtain ⟨q, hq⟩ : ∃ q, q = gsL m G k := ⟨_, rfl⟩
      have hqb : -100000000 ≤ q ∧ q ≤ 100000000 := by rw [hq]; exact gsL_bound (m := m) (fun j hj => HGB.out j (by omega)) hlt
      have HUK := Lib.hid (HU.out k hlt)
      rw [← hq] at HGU HUK
      obtain ⟨x, hx⟩ : ∃ x, x = G (m + k) := ⟨_, rfl⟩
      have hxb := HGB.out (m + k) (by omega)
      rw [← hx] at hxb HUK
      have d0 : wr.cell? ⟨g, m + k, none⟩ = some (.int .i64 x) := by rw [hx, ← putW_next m k u G]; exact hcs (m + k) (by omega)
      have f0 := hO.frozen (m + k)
      have i1 : (k : Int) < (m : Int) := by omega
      have HO := Lib.hid hO
      have HCS := Lib.hid hcs
      have HBR := Lib.hid hBr
      have hO0 := hO
      clear hO hcs hBr hq hx
      obtain ⟨y, hy⟩ : ∃ y, y = u k := ⟨_, rfl⟩
      have j1 : IntKind.i64.wrap (x - q) = y := by rw [hy, ← HUK.out]; exact IntWalk.i64_in _ (by omega)
      have HN := hO0.set (m + k) y
      rw [hy, putW_step L m k u G, ← hy] at HN
      have HN := Lib.hid HN
      clear hO0 hy HUK
      go_wp2
      go_region_with (go_at_call 115; refine (HGU.out (World.drew wr) (fun j hj => HCS.out j hj)).mono ?_; rintro e w3 ⟨rfl, k3, rfl⟩)
      all_goals
        go_wp2
        go_roundw
        case rel => exact ⟨k + 1, by omega, by go_num, HN.out, below_drewN (HBR.out.setCell hBg _) _⟩
        case measure => simp [intOf]; omega
    · have hkm : m = k := by omega
      subst hkm
      rw [← HG1.out] at hO
      have hI : Own 3 B wr (.slice (some ⟨g, 0, none⟩) L cap) (tab L (upto 0 s G1)) := by rw [upto_none]; exact hO
      have hJ := hBr
      clear hO HG1 HU HUB HGB hBr hk hlt
      go_wp2
      go_loopw [30] (fun i wr => ∃ k : Nat, k ≤ m ∧ i = .int .i64 k ∧ Own 3 B wr (.slice (some ⟨g, 0, none⟩) L cap) (tab L (upto k s G1)) ∧ Below B w wr) (fun i _ => m - (intOf i).toNat)
      case atStart => exact ⟨0, Nat.zero_le _, rfl, hI, hJ⟩
      case round =>
        obtain ⟨k, hk, rfl, hO, hBr⟩ := hrel
        clear hI hJ
        by_cases hlt : k < m
        · have hcs := own_cells hO hL
          have HGU := Lib.hid fun w' (hh : ∀ j, j < 2 * m → w'.cell? ⟨g, j, none⟩ = some (.int .i64 (upto k s G1 j))) => shareL_any g m c (upto k s G1) k w' hc hlt (by omega) (fun j hj => by rw [upto_ge s G1 (by omega)]; have := HS1.out j hj; omega) hh
          rw [(sh_upto s G1 hk hlt).2] at HGU
          obtain ⟨q, hq⟩ : ∃ q, q = shL m G1 k := ⟨_, rfl⟩
          have HUK := Lib.hid (HS.out k hlt)
          have hxq := HSB.out k hlt
          rw [← hq] at HGU HUK hxq
          obtain ⟨x, hx⟩ : ∃ x, x = G1 k := ⟨_, rfl⟩
          rw [← hx] at HUK hxq
          have d0 : wr.cell? ⟨g, k, none⟩ = some (.int .i64 x) := by rw [hx, ← upto_at k s G1]; exact hcs k (by omega)
          have f0 := hO.frozen k
          have i1 : (k : Int) < (m : Int) := by omega
          obtain ⟨y, hy⟩ : ∃ y, y = s k := ⟨_, rfl⟩
          have j1 : IntKind.i64.wrap (x + q) = y := by rw [hy, ← HUK.out]; exact IntWalk.i64_in _ (by omega)
          have HN := hO.set k y
          rw [hy, upto_set L k s G1, ← hy] at HN
          have HN := Lib.hid HN
          have HCS := Lib.hid hcs
          have HBR := Lib.hid hBr
          clear hO hcs hBr hq hx hy HUK hxq
          go_wp2
          go_region_with (go_at_call 116; refine (HGU.out (World.drew wr) (fun j hj => HCS.out j hj)).mono ?_; rintro e w3 ⟨rfl, k3, rfl⟩)
          all_goals
            go_wp2
            go_roundw
            case rel => exact ⟨k + 1, by omega, by go_num, HN.out, below_drewN (HBR.out.setCell hBg _) _⟩
            case measure => simp [intOf]; omega
        · have hkm : m = k := by omega
          subst hkm
          rw [← HRES.out] at hO
          have HO := Lib.hid hO
          clear hO
          go_wp2
          go_end0
          exact ⟨rfl, HO.out, hBr⟩

end Go.Proofs.YtagncoahobghpacGreatDoor
