/-
  mutate of the model.
-/
import Derived.Test.YtagncoahobghpacGreatDoorJGdFRowZ
import Derived.Test.YtagncoahobghpacGreatDoorJGdFDrawT
import Derived.Deep.RegionHeld
namespace Go.Proofs.YtagncoahobghpacGreatDoor
open Go Go.RowKit
set_option linter.unusedVariables false
set_option linter.unusedSimpArgs false
set_option maxRecDepth 100000

/-- What mutate leaves: a text that is hardly longer. -/
def MutZ (w : World) (R p n : Nat) (e : Ending) (w' : World) : Prop :=
  ∃ t p', e = .returned (.string t) ∧ t.size ≤ n + 8 ∧ Rdr 51 w' R p' ∧ p' ≤ p + 3 ∧ w.grownBy w' (some R)

def L7 : List ByteArray := [⟨#[48]⟩, ⟨#[49]⟩, ⟨#[55]⟩, ⟨#[44]⟩, ⟨#[45]⟩, ⟨#[97]⟩, ⟨#[32]⟩]
def L4 : List ByteArray := [⟨#[48]⟩, ⟨#[44]⟩, ⟨#[32]⟩, ⟨#[44, 45, 51]⟩]
theorem L7_size : ∀ j, j < 7 → (L7.getD j .empty).size ≤ 3 := by decide +kernel
theorem L4_size : ∀ j, j < 4 → (L4.getD j .empty).size ≤ 3 := by decide +kernel
theorem cells_of (w : World) (L : List ByteArray) : ∀ j, j < L.length → (w.alloc (.cells (L.map Value.string).toArray 9)).cell? ⟨w.heap.size, j, none⟩ = some (.string (L.getD j .empty)) := by
  intro j hj
  rw [World.cell?_alloc_at _ _ _ _ rfl]
  simp [List.getD, List.getElem?_eq_getElem hj]

set_option maxHeartbeats 8000000 in
theorem mutate_any (R p : Nat) (s : ByteArray) (w : World) (h : Rdr 51 w R p) (hp : p ≤ 3000) (hs : s.size ≤ 10000) :
    Calls Tryz.prog 19 #[.pointer (some ⟨R, 0, none⟩), .string s] w (MutZ w R p s.size) := by
  have HP := Lib.hid (pick_any R p (s.size + 1) w h (by omega) (by omega) (by omega))
  rw [show ((s.size + 1 : Nat) : Int) = (s.size : Int) + 1 by omega] at HP
  have e1 : IntKind.i64.wrap ((s.size : Int) + 1) = (s.size : Int) + 1 := IntWalk.i64_in _ (by omega)
  clear h
  go_enter Tryz.func19, Tryz.ntmps19
  go_wp2_with fail
  refine HP.out.mono ?_
  rintro e w1 ⟨k, rfl, hk, hR, hg⟩
  have HP2 := Lib.hid (pick_any R (p + 1) 5 w1 hR (by omega) (by omega) (by omega))
  clear HP
  go_wp2_with fail
  refine HP2.out.mono ?_
  rintro e w2 ⟨j, rfl, hj, hR2, hg2⟩
  have hG := World.grownBy.trans hg hg2
  clear HP2 hg hg2 hR e1
  have hj5 : j = 0 ∨ j = 1 ∨ j = 2 ∨ j = 3 ∨ j = 4 := by omega
  rcases hj5 with rfl | rfl | rfl | rfl | rfl
  · by_cases hks : k < s.size
    · have i1 : (k : Int) < (s.size : Int) := by omega
      have i2 : (k : Int) ≤ (s.size : Int) := by omega
      have i3 : (k : Int) + 1 ≤ (s.size : Int) := by omega
      have i4 : (0 : Int) ≤ (k : Int) + 1 := by omega
      have e1 : IntKind.i64.wrap ((k : Int) + 1) = (k : Int) + 1 := IntWalk.i64_in _ (by omega)
      go_wp2
      refine wp_region_held_drew (S := fun _ => True) (by kernel_rfl) trivial (fun hHeld => ?_)
      have hRA : Rdr 51 w2.drew R (p + 2) := hR2
      have hGA : w.grownBy w2.drew (some R) := ⟨hG.1, hG.2, hG.3, hG.4, hG.5⟩
      generalize w2.drew = WA at hRA hGA hHeld ⊢
      clear hR2 hG
      change wpAnyH _ _ _ _ _ _ _ _ _
      refine wpAnyH_take (i := 0) (v := ?v0) rfl (by kernel_rfl) (by kernel_rfl) (by kernel_rfl) (fun _ _ _ h => h) (Or.inl ⟨by rfl, ?y0⟩) hHeld ?_
      case y0 => (intro w hSw; (try dsimp only at hSw); go_simp; try with_reducible rfl)
      go_simp
      refine wpAnyH_take (i := 1) (v := ?v1) rfl (by kernel_rfl) (by kernel_rfl) (by kernel_rfl) (fun _ _ _ h => h) (Or.inl ⟨by rfl, ?y1⟩) hHeld ?_
      case y1 => (intro w hSw; (try dsimp only at hSw); go_simp; try with_reducible rfl)
      go_simp
      refine wpAnyH_take (i := 2) (v := ?v2) rfl (by kernel_rfl) (by kernel_rfl) (by kernel_rfl) (fun _ _ _ h => h) (Or.inl ⟨by rfl, ?y2⟩) hHeld ?_
      case y2 => (intro w hSw; (try dsimp only at hSw); go_simp; try with_reducible rfl)
      go_simp
      refine wpAnyH_take (i := 3) (v := ?v3) rfl (by kernel_rfl) (by kernel_rfl) (by kernel_rfl) (fun _ _ _ h => h) (Or.inl ⟨by rfl, ?y3⟩) hHeld ?_
      case y3 => (intro w hSw; (try dsimp only at hSw); go_simp; try with_reducible rfl)
      go_simp
      refine wpAnyH_take (i := 7) (v := ?v7) rfl (by kernel_rfl) (by kernel_rfl) (by kernel_rfl) (fun _ _ _ h => h) (Or.inl ⟨by rfl, ?y7⟩) hHeld ?_
      case y7 => (intro w hSw; (try dsimp only at hSw); go_simp; try with_reducible rfl)
      go_simp
      refine wpAnyH_take (i := 8) (v := ?v8) rfl (by kernel_rfl) (by kernel_rfl) (by kernel_rfl) (fun _ _ _ h => h) (Or.inl ⟨by rfl, ?y8⟩) hHeld ?_
      case y8 => (intro w hSw; (try dsimp only at hSw); go_simp; try with_reducible rfl)
      go_simp
      refine wpAnyH_take (i := 9) (v := ?v9) rfl (by kernel_rfl) (by kernel_rfl) (by kernel_rfl) (fun _ _ _ h => h) (Or.inl ⟨by rfl, ?y9⟩) hHeld ?_
      case y9 => (intro w hSw; (try dsimp only at hSw); go_simp; try with_reducible rfl)
      go_simp
      refine wpAnyH_take (i := 10) (v := ?v10) rfl (by kernel_rfl) (by kernel_rfl) (by kernel_rfl) (fun _ _ _ h => h) (Or.inl ⟨by rfl, ?y10⟩) hHeld ?_
      case y10 => (intro w hSw; (try dsimp only at hSw); go_simp; try with_reducible rfl)
      go_simp
      clear hHeld
      have HO := Lib.hid (of_at R (p + 2) WA.heap.size 7 (fun j => L7.getD j .empty) _ (hRA.kept (World.grownBy_alloc WA (.cells (L7.map Value.string).toArray 9) none) (by simp)) (by omega) (cells_of WA L7) (Nat.ne_of_gt hRA.lt) (by omega) (by omega))
      refine wpAnyH_ready (rs := [4]) (by kernel_rfl) (by simp) ?_
      refine AllReadyH.cons rfl (fun K hK => ?_) AllReadyH.nil
      go_simp
      refine hK.out _ _ trivial (fun hHeld => ?_)
      clear hK K hHeld
      refine wpAnyH_ready (rs := [5]) (by kernel_rfl) (by simp) ?_
      refine AllReadyH.cons rfl (fun K hK => ?_) AllReadyH.nil
      go_simp
      refine HO.out.mono ?_
      rintro e w3 ⟨q, hq, rfl, hR3, hg3⟩
      have hG3 := World.grownBy.andThen hGA (grown_thru (World.grownBy_alloc WA _ none) hg3) (fun j hj => .inr hj)
      have hz := L7_size q hq
      obtain ⟨r, hr⟩ : ∃ r, r = L7.getD q .empty := ⟨_, rfl⟩
      rw [← hr] at hz ⊢
      have j1 : ¬ (9223372036854775807 < (s.extract 0 k).size + r.size) := by rw [ByteArray.size_extract]; omega
      have j2 : ¬ (9223372036854775807 < (s.extract 0 k).size + r.size + (s.extract (k + 1) s.size).size) := by rw [ByteArray.size_extract, ByteArray.size_extract]; omega
      have hsz : (s.extract 0 k ++ r ++ s.extract (k + 1) s.size).size ≤ s.size + 8 := by rw [ByteArray.size_append, ByteArray.size_append, ByteArray.size_extract, ByteArray.size_extract]; omega
      clear HO hr
      obtain ⟨u, hu⟩ : ∃ u, u = s.extract 0 k := ⟨_, rfl⟩
      obtain ⟨x, hx⟩ : ∃ x, x = s.extract (k + 1) s.size := ⟨_, rfl⟩
      rw [← hu] at j1 j2 hsz ⊢
      rw [← hx] at j2 hsz ⊢
      clear hu hx
      go_simp
      refine hK.out _ _ trivial (fun hHeld => ?_)
      clear hK K hHeld
      refine wpAnyH_ready (rs := [6]) (by kernel_rfl) (by simp) ?_
      refine AllReadyH.cons rfl (fun K hK => ?_) AllReadyH.nil
      go_simp
      refine hK.out _ _ trivial (fun hHeld => ?_)
      clear hK K hHeld
      refine wpAnyH_ready (rs := [11]) (by kernel_rfl) (by simp) ?_
      refine AllReadyH.cons rfl (fun K hK => ?_) AllReadyH.nil
      go_simp
      refine hK.out _ _ trivial (fun hHeld => ?_)
      clear hK K hHeld
      refine wpAnyH_ready (rs := [12]) (by kernel_rfl) (by simp) ?_
      refine AllReadyH.cons rfl (fun K hK => ?_) AllReadyH.nil
      go_simp
      refine hK.out _ _ trivial (fun hHeld => ?_)
      clear hK K hHeld
      refine wpAnyH_done (by kernel_rfl) ?_ _
      go_wp2
      go_ret
      exact ⟨_, p + 3, rfl, hsz, hR3, by omega, hG3⟩
    · have i1 : ¬ ((k : Int) < (s.size : Int)) := by omega
      go_wp2
      go_ret
      exact ⟨s, p + 2, rfl, by omega, hR2, by omega, hG⟩
  · by_cases hks : k < s.size
    · have i1 : (k : Int) < (s.size : Int) := by omega
      have i2 : (k : Int) ≤ (s.size : Int) := by omega
      have i3 : (k : Int) + 1 ≤ (s.size : Int) := by omega
      have i4 : (0 : Int) ≤ (k : Int) + 1 := by omega
      have e1 : IntKind.i64.wrap ((k : Int) + 1) = (k : Int) + 1 := IntWalk.i64_in _ (by omega)
      go_wp2
      refine wp_region_held_drew (S := fun _ => True) (by kernel_rfl) trivial (fun hHeld => ?_)
      have hRA : Rdr 51 w2.drew R (p + 2) := hR2
      have hGA : w.grownBy w2.drew (some R) := ⟨hG.1, hG.2, hG.3, hG.4, hG.5⟩
      generalize w2.drew = WA at hRA hGA hHeld ⊢
      clear hR2 hG
      change wpAnyH _ _ _ _ _ _ _ _ _
      refine wpAnyH_take (i := 0) (v := ?v0) rfl (by kernel_rfl) (by kernel_rfl) (by kernel_rfl) (fun _ _ _ h => h) (Or.inl ⟨by rfl, ?y0⟩) hHeld ?_
      case y0 => (intro w hSw; (try dsimp only at hSw); go_simp; try with_reducible rfl)
      go_simp
      refine wpAnyH_take (i := 1) (v := ?v1) rfl (by kernel_rfl) (by kernel_rfl) (by kernel_rfl) (fun _ _ _ h => h) (Or.inl ⟨by rfl, ?y1⟩) hHeld ?_
      case y1 => (intro w hSw; (try dsimp only at hSw); go_simp; try with_reducible rfl)
      go_simp
      refine wpAnyH_take (i := 2) (v := ?v2) rfl (by kernel_rfl) (by kernel_rfl) (by kernel_rfl) (fun _ _ _ h => h) (Or.inl ⟨by rfl, ?y2⟩) hHeld ?_
      case y2 => (intro w hSw; (try dsimp only at hSw); go_simp; try with_reducible rfl)
      go_simp
      refine wpAnyH_take (i := 3) (v := ?v3) rfl (by kernel_rfl) (by kernel_rfl) (by kernel_rfl) (fun _ _ _ h => h) (Or.inl ⟨by rfl, ?y3⟩) hHeld ?_
      case y3 => (intro w hSw; (try dsimp only at hSw); go_simp; try with_reducible rfl)
      go_simp
      refine wpAnyH_take (i := 7) (v := ?v7) rfl (by kernel_rfl) (by kernel_rfl) (by kernel_rfl) (fun _ _ _ h => h) (Or.inl ⟨by rfl, ?y7⟩) hHeld ?_
      case y7 => (intro w hSw; (try dsimp only at hSw); go_simp; try with_reducible rfl)
      go_simp
      refine wpAnyH_take (i := 8) (v := ?v8) rfl (by kernel_rfl) (by kernel_rfl) (by kernel_rfl) (fun _ _ _ h => h) (Or.inl ⟨by rfl, ?y8⟩) hHeld ?_
      case y8 => (intro w hSw; (try dsimp only at hSw); go_simp; try with_reducible rfl)
      go_simp
      refine wpAnyH_take (i := 9) (v := ?v9) rfl (by kernel_rfl) (by kernel_rfl) (by kernel_rfl) (fun _ _ _ h => h) (Or.inl ⟨by rfl, ?y9⟩) hHeld ?_
      case y9 => (intro w hSw; (try dsimp only at hSw); go_simp; try with_reducible rfl)
      go_simp
      refine wpAnyH_take (i := 10) (v := ?v10) rfl (by kernel_rfl) (by kernel_rfl) (by kernel_rfl) (fun _ _ _ h => h) (Or.inl ⟨by rfl, ?y10⟩) hHeld ?_
      case y10 => (intro w hSw; (try dsimp only at hSw); go_simp; try with_reducible rfl)
      go_simp
      clear hHeld
      have HO := Lib.hid (of_at R (p + 2) WA.heap.size 7 (fun j => L7.getD j .empty) _ (hRA.kept (World.grownBy_alloc WA (.cells (L7.map Value.string).toArray 9) none) (by simp)) (by omega) (cells_of WA L7) (Nat.ne_of_gt hRA.lt) (by omega) (by omega))
      refine wpAnyH_ready (rs := [4]) (by kernel_rfl) (by simp) ?_
      refine AllReadyH.cons rfl (fun K hK => ?_) AllReadyH.nil
      go_simp
      refine hK.out _ _ trivial (fun hHeld => ?_)
      clear hK K hHeld
      refine wpAnyH_ready (rs := [5]) (by kernel_rfl) (by simp) ?_
      refine AllReadyH.cons rfl (fun K hK => ?_) AllReadyH.nil
      go_simp
      refine HO.out.mono ?_
      rintro e w3 ⟨q, hq, rfl, hR3, hg3⟩
      have hG3 := World.grownBy.andThen hGA (grown_thru (World.grownBy_alloc WA _ none) hg3) (fun j hj => .inr hj)
      have hz := L7_size q hq
      obtain ⟨r, hr⟩ : ∃ r, r = L7.getD q .empty := ⟨_, rfl⟩
      rw [← hr] at hz ⊢
      have j1 : ¬ (9223372036854775807 < (s.extract 0 k).size + r.size) := by rw [ByteArray.size_extract]; omega
      have j2 : ¬ (9223372036854775807 < (s.extract 0 k).size + r.size + (s.extract (k + 1) s.size).size) := by rw [ByteArray.size_extract, ByteArray.size_extract]; omega
      have hsz : (s.extract 0 k ++ r ++ s.extract (k + 1) s.size).size ≤ s.size + 8 := by rw [ByteArray.size_append, ByteArray.size_append, ByteArray.size_extract, ByteArray.size_extract]; omega
      clear HO hr
      obtain ⟨u, hu⟩ : ∃ u, u = s.extract 0 k := ⟨_, rfl⟩
      obtain ⟨x, hx⟩ : ∃ x, x = s.extract (k + 1) s.size := ⟨_, rfl⟩
      rw [← hu] at j1 j2 hsz ⊢
      rw [← hx] at j2 hsz ⊢
      clear hu hx
      go_simp
      refine hK.out _ _ trivial (fun hHeld => ?_)
      clear hK K hHeld
      refine wpAnyH_ready (rs := [6]) (by kernel_rfl) (by simp) ?_
      refine AllReadyH.cons rfl (fun K hK => ?_) AllReadyH.nil
      go_simp
      refine hK.out _ _ trivial (fun hHeld => ?_)
      clear hK K hHeld
      refine wpAnyH_ready (rs := [11]) (by kernel_rfl) (by simp) ?_
      refine AllReadyH.cons rfl (fun K hK => ?_) AllReadyH.nil
      go_simp
      refine hK.out _ _ trivial (fun hHeld => ?_)
      clear hK K hHeld
      refine wpAnyH_ready (rs := [12]) (by kernel_rfl) (by simp) ?_
      refine AllReadyH.cons rfl (fun K hK => ?_) AllReadyH.nil
      go_simp
      refine hK.out _ _ trivial (fun hHeld => ?_)
      clear hK K hHeld
      refine wpAnyH_done (by kernel_rfl) ?_ _
      go_wp2
      go_ret
      exact ⟨_, p + 3, rfl, hsz, hR3, by omega, hG3⟩
    · have i1 : ¬ ((k : Int) < (s.size : Int)) := by omega
      go_wp2
      go_ret
      exact ⟨s, p + 2, rfl, by omega, hR2, by omega, hG⟩
  · have i1 : (k : Int) ≤ (s.size : Int) := by omega
    go_wp2
    go_ret
    exact ⟨_, p + 2, rfl, by rw [ByteArray.size_extract]; omega, hR2, by omega, hG⟩
  · have HO := Lib.hid (of_at R (p + 2) w2.heap.size 4 (fun j => L4.getD j .empty) _ (hR2.kept (World.grownBy_alloc w2 (.cells (L4.map Value.string).toArray 9) none) (by simp)) (by omega) (cells_of w2 L4) (Nat.ne_of_gt hR2.lt) (by omega) (by omega))
    go_wp2_with fail
    refine HO.out.mono ?_
    rintro e w3 ⟨q, hq, rfl, hR3, hg3⟩
    have hG3 := World.grownBy.andThen hG (grown_thru (World.grownBy_alloc w2 _ none) hg3) (fun j hj => .inr hj)
    have hz := L4_size q hq
    obtain ⟨r, hr⟩ : ∃ r, r = L4.getD q .empty := ⟨_, rfl⟩
    rw [← hr] at hz ⊢
    have i3 : ¬ (9223372036854775807 < s.size + r.size) := by omega
    clear HO hr
    go_wp2
    go_ret
    exact ⟨_, p + 3, rfl, by rw [ByteArray.size_append]; omega, hR3, by omega, hG3⟩
  · go_wp2
    go_ret
    exact ⟨s, p + 2, rfl, by omega, hR2, by omega, hG⟩
end Go.Proofs.YtagncoahobghpacGreatDoor
