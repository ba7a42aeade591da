/-
  Rows put apart and together in place, by their contracts.
-/
import Derived.Test.YtgafiglfmkaniaaHvG
namespace Go.Proofs.Ytgafiglfmkaniaa
open Go.RowKit
set_option linter.unusedVariables false

theorem own_below {E B g n cap : Nat} {w w' : World} {xs : List Int} (h : Own E B w (.slice (some ⟨g, 0, none⟩) n cap) xs) : B ≤ g ∧ g < w.heap.size := by
  rcases h.2 with ⟨h', _⟩ | ⟨g', cap', cur, h', hb, hg, _⟩
  · simp at h'
  · simp only [Value.slice.injEq, Option.some.injEq, Addr.mk.injEq, and_true] at h'
    obtain ⟨rfl, rfl, rfl⟩ := h'
    exact ⟨hb, (Array.getElem?_eq_some_iff.1 hg).1⟩

/-- The row on the way. -/
def ApI (B : Nat) (w wr : World) (g L cap g1 m k : Nat) (F : Nat → Int) : Prop :=
  Own 3 B wr (.slice (some ⟨g, 0, none⟩) L cap) (tab L (apK m k F)) ∧ Own 3 w.heap.size wr (.slice (some ⟨g1, 0, none⟩) (2 * m) (2 * m)) (tab (2 * m) F) ∧ Below B w wr

theorem putApart_any (B g c L cap m : Nat) (F : Nat → Int) (w : World) (h : Own 3 B w (.slice (some ⟨g, 0, none⟩) L cap) (tab L F)) (h0 : 0 < m) (hc : 2 * m ≤ c) (hL : 2 * m ≤ L) (hl : L ≤ 1048576) :
    Calls Try.prog 80 #[.slice (some ⟨g, 0, none⟩) (2 * m) c] w fun e w' =>
      e = .returned (.tuple #[]) ∧ Own 3 B w' (.slice (some ⟨g, 0, none⟩) L cap) (tab L (apK m m F)) ∧ Below B w w' := by
  obtain ⟨hBg, hgs⟩ := own_below (w' := w) h
  have hT : (tab L F).take (2 * m) = tab (2 * m) F := (take_tab _ _ (by rw [len_tab]; exact hL)).trans (tab_congr fun j hj => by rw [ix_tab _ _ _ (by omega)])
  have HCP := Lib.hid (copyOf_any (.slice (some ⟨g, 0, none⟩) (2 * m) c) (tab (2 * m) F) w (by
    rw [← hT]
    refine ⟨_, c, by rw [hT, len_tab], .inr ⟨g, 0, rfl, hgs, fun j hj => ?_⟩⟩
    rw [hT, len_tab] at hj
    rw [hT, Nat.zero_add, h.cell j (by rw [len_tab]; omega), ix_tab _ _ _ (by omega), ix_tab _ _ _ hj]) (by rw [len_tab]; omega))
  have HC := Lib.hid fun w => cut2_any g m c w hc h0 (by omega)
  have HB := Lib.hid h
  clear h hT
  go_enter Try.func80, Try.ntmps80
  go_wp2_with (first
    | (go_at_call 44; refine HCP.out.mono ?_; rintro e w1 ⟨g1, rfl, hg1, o1, b1⟩)
    | (go_at_call 50; refine (HC.out _).mono ?_; rintro e w2 ⟨rfl, k2, hw2⟩; have HW := Lib.hid hw2; clear hw2))
  have hI : ApI B w w2 g L cap g1 m 0 F := by
    rw [HW.out]
    refine ⟨?_, ?_, ?_⟩
    · rw [apK_none]; exact (HB.out.below b1 (Nat.le_refl _)).drew
    · have := o1.drew (E := 3)
      rw [len_tab] at this
      exact this
    · exact below_drewN (b1.mono (by omega)) _
  have hgg : g ≠ g1 := by omega
  clear o1 b1 HW HCP
  go_loopw [15] (fun i wr => ∃ k : Nat, k ≤ m ∧ i = .int .i64 k ∧ ApI B w wr g L cap g1 m k F) (fun i _ => m - (intOf i).toNat)
  case atStart => exact ⟨0, Nat.zero_le _, rfl, hI⟩
  case round =>
    obtain ⟨k, hk, rfl, hO, hS, hBr⟩ := hrel
    clear hI
    by_cases hlt : k < m
    · have c0 := hS.cell (2 * k) (by rw [len_tab]; omega)
      have c1 := hS.cell (2 * k + 1) (by rw [len_tab]; omega)
      rw [ix_tab _ _ _ (by omega)] at c0 c1
      have d0 := hO.cell k (by rw [len_tab]; omega)
      have d1 := hO.cell (m + k) (by rw [len_tab]; omega)
      rw [ix_tab _ _ _ (by omega)] at d0 d1
      have f0 := hO.frozen k
      have f1 := hO.frozen (m + k)
      have i1 : (k : Int) < (m : Int) := by omega
      have i2 : 2 * (k : Int) < 2 * (m : Int) := by omega
      have i3 : 2 * (k : Int) + 1 < 2 * (m : Int) := by omega
      have hne : ¬ m + k = k := by omega
      have HO := Lib.hid hO
      have HS := Lib.hid hS
      have HBR := Lib.hid hBr
      clear hO hS hBr
      go_wp2
      go_region
      go_wp2
      go_roundw
      case rel =>
        refine ⟨k + 1, by omega, by go_num, ?_, ?_, ?_⟩
        · have := (HO.out.set k (F (2 * k))).set (m + k) (F (2 * k + 1))
          rw [apK_step L F hlt] at this
          exact this.drew
        · exact ((HS.out.other _ _ (by simp [Value.ownBlock]; omega)).other _ _ (by simp [Value.ownBlock]; omega)).drew
        · exact ((HBR.out.setCell hBg _).setCell hBg _).drew
      case measure => simp [intOf]; omega
    · obtain rfl : k = m := by omega
      go_wp2
      go_end0
      exact ⟨rfl, hO, hBr⟩

def TgI (B : Nat) (w wr : World) (g L cap g1 m k : Nat) (F : Nat → Int) : Prop :=
  Own 3 B wr (.slice (some ⟨g, 0, none⟩) L cap) (tab L (tgK m k F)) ∧ Own 3 w.heap.size wr (.slice (some ⟨g1, 0, none⟩) (2 * m) (2 * m)) (tab (2 * m) F) ∧ Below B w wr

theorem putTogether_any (B g c L cap m : Nat) (F : Nat → Int) (u : FrameMode) (w : World) (h : Own 3 B w (.slice (some ⟨g, 0, none⟩) L cap) (tab L F)) (h0 : 0 < m) (hc : 2 * m ≤ c) (hL : 2 * m ≤ L) (hl : L ≤ 1048576) :
    CallsD Try.prog 81 #[.slice (some ⟨g, 0, none⟩) (2 * m) c] u w fun e u' w' =>
      u' = u ∧ (e = .returned (.tuple #[]) ∧ Own 3 B w' (.slice (some ⟨g, 0, none⟩) L cap) (tab L (tgK m m F)) ∧ Below B w w') := by
  obtain ⟨hBg, hgs⟩ := own_below (w' := w) h
  have hT : (tab L F).take (2 * m) = tab (2 * m) F := (take_tab _ _ (by rw [len_tab]; exact hL)).trans (tab_congr fun j hj => by rw [ix_tab _ _ _ (by omega)])
  have HCP := Lib.hid (copyOf_any (.slice (some ⟨g, 0, none⟩) (2 * m) c) (tab (2 * m) F) w (by
    rw [← hT]
    refine ⟨_, c, by rw [hT, len_tab], .inr ⟨g, 0, rfl, hgs, fun j hj => ?_⟩⟩
    rw [hT, len_tab] at hj
    rw [hT, Nat.zero_add, h.cell j (by rw [len_tab]; omega), ix_tab _ _ _ (by omega), ix_tab _ _ _ hj]) (by rw [len_tab]; omega))
  have HC := Lib.hid fun g w => cut2_any g m (2 * m) w (Nat.le_refl _) h0 (by omega)
  have HB := Lib.hid h
  clear h hT
  go_enter_d Try.func81, Try.ntmps81
  go_wp2_with (first
    | (go_at_call 44; refine HCP.out.mono ?_; rintro e w1 ⟨g1, rfl, hg1, o1, b1⟩)
    | (go_at_call 50; refine (HC.out _ _).mono ?_; rintro e w2 ⟨rfl, k2, hw2⟩; have HW := Lib.hid hw2; clear hw2))
  have hI : TgI B w w2 g L cap g1 m 0 F := by
    rw [HW.out]
    refine ⟨?_, ?_, ?_⟩
    · rw [tgK_none]; exact (HB.out.below b1 (Nat.le_refl _)).drew
    · have := o1.drew (E := 3)
      rw [len_tab] at this
      exact this
    · exact below_drewN (b1.mono (by omega)) _
  have hgg : g ≠ g1 := by omega
  clear o1 b1 HW HCP
  go_loopw [13] (fun i wr => ∃ k : Nat, k ≤ m ∧ i = .int .i64 k ∧ TgI B w wr g L cap g1 m k F) (fun i _ => m - (intOf i).toNat)
  case atStart => exact ⟨0, Nat.zero_le _, rfl, hI⟩
  case round =>
    obtain ⟨k, hk, rfl, hO, hS, hBr⟩ := hrel
    clear hI
    by_cases hlt : k < m
    · have c0 := hS.cell k (by rw [len_tab]; omega)
      have c1 := hS.cell (m + k) (by rw [len_tab]; omega)
      rw [ix_tab _ _ _ (by omega)] at c0 c1
      have d0 := hO.cell (2 * k) (by rw [len_tab]; omega)
      have d1 := hO.cell (2 * k + 1) (by rw [len_tab]; omega)
      rw [ix_tab _ _ _ (by omega)] at d0 d1
      have f0 := hO.frozen (2 * k)
      have f1 := hO.frozen (2 * k + 1)
      have i1 : (k : Int) < (m : Int) := by omega
      have i2 : 2 * (k : Int) < 2 * (m : Int) := by omega
      have i3 : 2 * (k : Int) + 1 < 2 * (m : Int) := by omega
      have HO := Lib.hid hO
      have HS := Lib.hid hS
      have HBR := Lib.hid hBr
      clear hO hS hBr
      go_wp2
      go_region
      go_wp2
      go_roundw
      case rel =>
        refine ⟨k + 1, by omega, by go_num, ?_, ?_, ?_⟩
        · have := (HO.out.set (2 * k) (F k)).set (2 * k + 1) (F (m + k))
          rw [tgK_step L m k F] at this
          exact this.drew
        · exact ((HS.out.other _ _ (by simp [Value.ownBlock]; omega)).other _ _ (by simp [Value.ownBlock]; omega)).drew
        · exact ((HBR.out.setCell hBg _).setCell hBg _).drew
      case measure => simp [intOf]; omega
    · obtain rfl : k = m := by omega
      go_wp2
      go_end0
      exact ⟨rfl, hO, hBr⟩

end Go.Proofs.Ytgafiglfmkaniaa
