/-
  MixOf of the program, by its contract.
-/
import Derived.Test.YtpalmbcknjmmcaaMixS
import Derived.StillTailTactics
namespace Go.Proofs.Ytpalmbcknjmmcaa
open Go.RowKit
set_option linter.unusedVariables false

theorem MxInv.start {E g : Nat} {w wr : World} (op : Nat → Nat → Nat) (F G : Nat → Int) (hO : Own E w.heap.size wr (.slice (some ⟨g, 0, none⟩) 16 16) (tab 16 fun _ => 0)) (hB : Below w.heap.size w wr) : MxInv E w wr g 16 16 0 0 op F G := by
  refine ⟨?_, hB⟩
  rw [tab_congr (g := fun _ => 0) (fun j _ => by rw [mP_zero]; simp [wrap64])]
  exact hO
theorem size_two (w : World) (o o' : Obj) : ((w.alloc o).alloc o').heap.size = w.heap.size + 2 := by rw [size_one, size_one]
theorem size_three (w : World) (o o' o'' : Obj) : (((w.alloc o).alloc o').alloc o'').heap.size = w.heap.size + 3 := by rw [size_one, size_two]

theorem kindOr_any (x y : Nat) (w : World) (hx : x < 16) (hy : y < 16) :
    Calls Try.prog 86 #[.int .i64 x, .int .i64 y] w fun e w' => e = .returned (.int .i64 ((x ||| y : Nat) : Int)) ∧ w = w' := by
  have HA := or16 x hx y hy
  generalize x ||| y = z at HA
  go_enter Try.func86, Try.ntmps86
  go_wp2
  go_ret
  exact ⟨rfl, rfl⟩

set_option maxHeartbeats 8000000 in
theorem implmixOr_any (F G : Nat → Int) (w : World) :
    Calls Try.prog 77 #[.agg (arr F), .agg (arr G), .func (.func 86) #[] #[]] w fun e w' => e = .returned (.agg (arr fun j => wrap64 (mixE (fun x y => x ||| y) F G 16 j))) ∧ Below w.heap.size w w' := by
  obtain ⟨wb, hwb⟩ : ∃ wb, wb = ((w.alloc (.cells (arr F) 50)).alloc (.cells (arr G) 50)).alloc (.cells zero16.toArray 50) := ⟨_, rfl⟩
  have hsz : wb.heap.size = w.heap.size + 1 + 1 + 1 := by rw [hwb, size_three]
  have hB2 : Below (w.heap.size + 1 + 1) ((w.alloc (.cells (arr F) 50)).alloc (.cells (arr G) 50)) wb := by
    rw [hwb]; exact (Below.refl _ _).alloc (by rw [size_two]; omega) _
  have hB1 : Below (w.heap.size + 1) (w.alloc (.cells (arr F) 50)) wb := ((Below.refl _ _).alloc (by rw [size_one]; omega) _).trans (hB2.mono (by omega))
  have hB0 : Below w.heap.size w wb := ((Below.refl _ _).alloc (Nat.le_refl _) _).trans (hB1.mono (by omega))
  have hca : ∀ j, j < 16 → wb.cell? ⟨w.heap.size, j, none⟩ = some (.int .i64 (F j)) := by
    intro j hj
    rw [hB1.cell (p := ⟨w.heap.size, j, none⟩) (by show w.heap.size < w.heap.size + 1; omega), cell_of_row _ _ j _ _ (0, 0) (heap_alloc_last w _), arr_get _ _ hj]
  have hcb : ∀ j, j < 16 → wb.cell? ⟨w.heap.size + 1, j, none⟩ = some (.int .i64 (G j)) := by
    intro j hj
    rw [hB2.cell (p := ⟨w.heap.size + 1, j, none⟩) (by show w.heap.size + 1 < w.heap.size + 1 + 1; omega), cell_of_row _ _ j _ _ (0, 0) (heap_second w _ _), arr_get _ _ hj]
  have hold : wb.heap[w.heap.size + 1 + 1]? = some (.cells zero16.toArray 50 (0, 0)) := by
    have := heap_alloc_last ((w.alloc (.cells (arr F) 50)).alloc (.cells (arr G) 50)) (.cells zero16.toArray 50)
    rw [size_two] at this
    rw [hwb]; exact this
  have hI : MxInv 50 wb (wb.alloc (.cells zero16.toArray 50)) (w.heap.size + 1 + 1 + 1) 16 16 0 0 (fun x y => x ||| y) F G := by
    refine MxInv.start _ _ _ ?_ ((Below.refl _ _).alloc (Nat.le_refl _) _)
    have := own_heap (E := 50) (B := wb.heap.size) (w := wb.alloc (.cells zero16.toArray 50)) (g := wb.heap.size) (xs := tab 16 fun _ => 0) (heap_alloc_last wb _) (Nat.le_refl _) (by rw [len_tab]; unfold maxLen; omega)
    rw [len_tab] at this
    rw [← hsz]; exact this
  have HCA := Lib.hid hca
  have HCB := Lib.hid hcb
  have HOLD := Lib.hid hold
  have HB0 := Lib.hid hB0
  have HWB := Lib.hid hwb
  clear hca hcb hold hB0 hB1 hB2 hwb
  have hgw : wb.heap.size ≤ w.heap.size + 1 + 1 + 1 := by omega
  have HSZ := Lib.hid hsz
  clear hsz
  go_enter Try.func77, Try.ntmps77
  go_wp2
  go_loopw [10] (fun i wr => ∃ x : Nat, x ≤ 16 ∧ i = .int .i64 x ∧ MxInv 50 wb wr (w.heap.size + 1 + 1 + 1) 16 16 x 0 (fun x y => x ||| y) F G) (fun i _ => 16 - (intOf i).toNat)
  case atStart => exact ⟨0, by omega, rfl, by rw [zero16_lit, ← HWB.out]; exact hI⟩
  case round =>
    obtain ⟨x, hx, rfl, hIr⟩ := hrel
    by_cases hlt : x < 16
    · have hxi : (x : Int) < 16 := by omega
      go_wp2
      go_loopw [13] (fun i wr => ∃ y : Nat, y ≤ 16 ∧ i = .int .i64 y ∧ MxInv 50 wb wr (w.heap.size + 1 + 1 + 1) 16 16 x y (fun x y => x ||| y) F G) (fun i _ => 16 - (intOf i).toNat)
      case atStart => exact ⟨0, by omega, rfl, hIr⟩
      case round =>
        obtain ⟨y, hy, rfl, hIx⟩ := hrel
        by_cases hyl : y < 16
        · have hd : x ||| y < 16 := or_lt 4 (by omega) x hlt y hyl
          have HK := Lib.hid fun w => kindOr_any x y w hlt hyl
          obtain ⟨d, hde⟩ : ∃ d, x ||| y = d := ⟨_, rfl⟩
          rw [hde] at hd HK
          have hdi : (d : Int) < 16 := by omega
          have hyi : (y : Int) < 16 := by omega
          have hcx := hIx.1.cell d (by simpa using hd)
          rw [ix_tab _ _ _ hd] at hcx
          have hf := hIx.1.frozen d
          have hca : wr.cell? ⟨w.heap.size, x, none⟩ = some (.int .i64 (F x)) := (hIx.2.cell (p := ⟨w.heap.size, x, none⟩) (by show w.heap.size < wb.heap.size; rw [HSZ.out]; omega)).trans (HCA.out x hlt)
          have hcb : wr.cell? ⟨w.heap.size + 1, y, none⟩ = some (.int .i64 (G y)) := (hIx.2.cell (p := ⟨w.heap.size + 1, y, none⟩) (by show w.heap.size + 1 < wb.heap.size; rw [HSZ.out]; omega)).trans (HCB.out y hyl)
          have HS := Lib.hid (hIx.step hgw hde)
          clear hIx hIr hI hde
          obtain ⟨m0, hm0⟩ : ∃ m0, m0 = wrap64 (mP (fun x y => x ||| y) F G 16 x y d) := ⟨_, rfl⟩
          rw [← hm0] at hcx HS
          clear hm0
          go_wp2
          go_still_tail 15, (by kernel_rfl)
          still_call ((HK.out _).mono (by rintro e w' ⟨rfl, rfl⟩; exact ⟨rfl, rfl⟩))
          repeat still_step
          refine wpStill_nil ?_
          change wpList _ _ _ _ _ (World.drew wr)
          have hSd := Lib.hid HS.out
          go_wp2
          go_roundw
          case rel => exact ⟨y + 1, by omega, by go_num, HS.out.drew⟩
          case measure => simp [intOf]; omega
        · obtain rfl : y = 16 := by omega
          have HS := Lib.hid hIx.next
          clear hIx hIr hI
          go_wp2
          go_roundw
          case rel => exact ⟨x + 1, by omega, by go_num, HS.out⟩
          case measure => simp [intOf]; omega
    · obtain rfl : x = 16 := by omega
      have hH := Own.heap hIr.1
      have hld := load_arr (F := fun j => wrap64 (mP (fun x y => x ||| y) F G 16 16 0 j)) hH
      have hR : Hid ((arr fun j => wrap64 (mP (fun x y => x ||| y) F G 16 16 0 j)) = arr fun j => wrap64 (mixE (fun x y => x ||| y) F G 16 j)) := by
        show _ = _
        unfold arr
        rw [tab_congr (g := fun j => wrap64 (mixE (fun x y => x ||| y) F G 16 j)) (fun j _ => by rw [mP_all])]
      rw [hR.out] at hld
      have hold : wr.heap[w.heap.size + 1 + 1]? = some (.cells zero16.toArray 50 (0, 0)) := by rw [hIr.2.block (w.heap.size + 1 + 1) (by rw [HSZ.out]; omega)]; exact HOLD.out
      have hst := store_arr (F := fun j => wrap64 (mixE (fun x y => x ||| y) F G 16 j)) hold (by simp [zero16])
      have hld2 : (loadVar 50 ⟨w.heap.size + 1 + 1, 0, none⟩).run Try.prog (wr.setRow (w.heap.size + 1 + 1) (arr fun j => wrap64 (mixE (fun x y => x ||| y) F G 16 j))) = .ok (.agg (arr fun j => wrap64 (mixE (fun x y => x ||| y) F G 16 j))) (wr.setRow (w.heap.size + 1 + 1) (arr fun j => wrap64 (mixE (fun x y => x ||| y) F G 16 j))) := load_arr (setRow_heap wr (w.heap.size + 1 + 1) _ _ _ _ hold)
      have hBB : Below w.heap.size w (wr.setRow (w.heap.size + 1 + 1) (arr fun j => wrap64 (mixE (fun x y => x ||| y) F G 16 j))) := below_setRow (HB0.out.trans (hIr.2.mono (by rw [HSZ.out]; omega))) (by omega) _
      obtain ⟨R, hR0⟩ : ∃ R, R = (fun j => wrap64 (mixE (fun x y => x ||| y) F G 16 j)) := ⟨_, rfl⟩
      rw [← hR0] at hld hst hld2 hBB
      have HR0 := Lib.hid hR0
      clear hR0
      clear hH hold hIr hI hR
      go_wp2_with (first | with_reducible refine wpList_loadv rfl (.tmp 7) 50 rfl _ rfl _ hld ?_ | with_reducible refine wpList_storev rfl (.tmp 6) (.tmp 33) 50 rfl _ rfl _ rfl hst ?_)
      refine bodyPost_ret (v := .agg (arr R)) ?_ rfl ⟨by rw [HR0.out], hBB⟩
      exact results_cell_one rfl _ _ _ _ _ rfl hld2

theorem kindAnd_any (x y : Nat) (w : World) (hx : x < 16) (hy : y < 16) :
    Calls Try.prog 87 #[.int .i64 x, .int .i64 y] w fun e w' => e = .returned (.int .i64 ((x &&& y : Nat) : Int)) ∧ w = w' := by
  have HA := and16 x hx y hy
  generalize x &&& y = z at HA
  go_enter Try.func87, Try.ntmps87
  go_wp2
  go_ret
  exact ⟨rfl, rfl⟩

set_option maxHeartbeats 8000000 in
theorem implmixAnd_any (F G : Nat → Int) (w : World) :
    Calls Try.prog 77 #[.agg (arr F), .agg (arr G), .func (.func 87) #[] #[]] w fun e w' => e = .returned (.agg (arr fun j => wrap64 (mixE (fun x y => x &&& y) F G 16 j))) ∧ Below w.heap.size w w' := by
  obtain ⟨wb, hwb⟩ : ∃ wb, wb = ((w.alloc (.cells (arr F) 50)).alloc (.cells (arr G) 50)).alloc (.cells zero16.toArray 50) := ⟨_, rfl⟩
  have hsz : wb.heap.size = w.heap.size + 1 + 1 + 1 := by rw [hwb, size_three]
  have hB2 : Below (w.heap.size + 1 + 1) ((w.alloc (.cells (arr F) 50)).alloc (.cells (arr G) 50)) wb := by
    rw [hwb]; exact (Below.refl _ _).alloc (by rw [size_two]; omega) _
  have hB1 : Below (w.heap.size + 1) (w.alloc (.cells (arr F) 50)) wb := ((Below.refl _ _).alloc (by rw [size_one]; omega) _).trans (hB2.mono (by omega))
  have hB0 : Below w.heap.size w wb := ((Below.refl _ _).alloc (Nat.le_refl _) _).trans (hB1.mono (by omega))
  have hca : ∀ j, j < 16 → wb.cell? ⟨w.heap.size, j, none⟩ = some (.int .i64 (F j)) := by
    intro j hj
    rw [hB1.cell (p := ⟨w.heap.size, j, none⟩) (by show w.heap.size < w.heap.size + 1; omega), cell_of_row _ _ j _ _ (0, 0) (heap_alloc_last w _), arr_get _ _ hj]
  have hcb : ∀ j, j < 16 → wb.cell? ⟨w.heap.size + 1, j, none⟩ = some (.int .i64 (G j)) := by
    intro j hj
    rw [hB2.cell (p := ⟨w.heap.size + 1, j, none⟩) (by show w.heap.size + 1 < w.heap.size + 1 + 1; omega), cell_of_row _ _ j _ _ (0, 0) (heap_second w _ _), arr_get _ _ hj]
  have hold : wb.heap[w.heap.size + 1 + 1]? = some (.cells zero16.toArray 50 (0, 0)) := by
    have := heap_alloc_last ((w.alloc (.cells (arr F) 50)).alloc (.cells (arr G) 50)) (.cells zero16.toArray 50)
    rw [size_two] at this
    rw [hwb]; exact this
  have hI : MxInv 50 wb (wb.alloc (.cells zero16.toArray 50)) (w.heap.size + 1 + 1 + 1) 16 16 0 0 (fun x y => x &&& y) F G := by
    refine MxInv.start _ _ _ ?_ ((Below.refl _ _).alloc (Nat.le_refl _) _)
    have := own_heap (E := 50) (B := wb.heap.size) (w := wb.alloc (.cells zero16.toArray 50)) (g := wb.heap.size) (xs := tab 16 fun _ => 0) (heap_alloc_last wb _) (Nat.le_refl _) (by rw [len_tab]; unfold maxLen; omega)
    rw [len_tab] at this
    rw [← hsz]; exact this
  have HCA := Lib.hid hca
  have HCB := Lib.hid hcb
  have HOLD := Lib.hid hold
  have HB0 := Lib.hid hB0
  have HWB := Lib.hid hwb
  clear hca hcb hold hB0 hB1 hB2 hwb
  have hgw : wb.heap.size ≤ w.heap.size + 1 + 1 + 1 := by omega
  have HSZ := Lib.hid hsz
  clear hsz
  go_enter Try.func77, Try.ntmps77
  go_wp2
  go_loopw [10] (fun i wr => ∃ x : Nat, x ≤ 16 ∧ i = .int .i64 x ∧ MxInv 50 wb wr (w.heap.size + 1 + 1 + 1) 16 16 x 0 (fun x y => x &&& y) F G) (fun i _ => 16 - (intOf i).toNat)
  case atStart => exact ⟨0, by omega, rfl, by rw [zero16_lit, ← HWB.out]; exact hI⟩
  case round =>
    obtain ⟨x, hx, rfl, hIr⟩ := hrel
    by_cases hlt : x < 16
    · have hxi : (x : Int) < 16 := by omega
      go_wp2
      go_loopw [13] (fun i wr => ∃ y : Nat, y ≤ 16 ∧ i = .int .i64 y ∧ MxInv 50 wb wr (w.heap.size + 1 + 1 + 1) 16 16 x y (fun x y => x &&& y) F G) (fun i _ => 16 - (intOf i).toNat)
      case atStart => exact ⟨0, by omega, rfl, hIr⟩
      case round =>
        obtain ⟨y, hy, rfl, hIx⟩ := hrel
        by_cases hyl : y < 16
        · have hd : x &&& y < 16 := and_lt 4 (by omega) x hlt y hyl
          have HK := Lib.hid fun w => kindAnd_any x y w hlt hyl
          obtain ⟨d, hde⟩ : ∃ d, x &&& y = d := ⟨_, rfl⟩
          rw [hde] at hd HK
          have hdi : (d : Int) < 16 := by omega
          have hyi : (y : Int) < 16 := by omega
          have hcx := hIx.1.cell d (by simpa using hd)
          rw [ix_tab _ _ _ hd] at hcx
          have hf := hIx.1.frozen d
          have hca : wr.cell? ⟨w.heap.size, x, none⟩ = some (.int .i64 (F x)) := (hIx.2.cell (p := ⟨w.heap.size, x, none⟩) (by show w.heap.size < wb.heap.size; rw [HSZ.out]; omega)).trans (HCA.out x hlt)
          have hcb : wr.cell? ⟨w.heap.size + 1, y, none⟩ = some (.int .i64 (G y)) := (hIx.2.cell (p := ⟨w.heap.size + 1, y, none⟩) (by show w.heap.size + 1 < wb.heap.size; rw [HSZ.out]; omega)).trans (HCB.out y hyl)
          have HS := Lib.hid (hIx.step hgw hde)
          clear hIx hIr hI hde
          obtain ⟨m0, hm0⟩ : ∃ m0, m0 = wrap64 (mP (fun x y => x &&& y) F G 16 x y d) := ⟨_, rfl⟩
          rw [← hm0] at hcx HS
          clear hm0
          go_wp2
          go_still_tail 15, (by kernel_rfl)
          still_call ((HK.out _).mono (by rintro e w' ⟨rfl, rfl⟩; exact ⟨rfl, rfl⟩))
          repeat still_step
          refine wpStill_nil ?_
          change wpList _ _ _ _ _ (World.drew wr)
          have hSd := Lib.hid HS.out
          go_wp2
          go_roundw
          case rel => exact ⟨y + 1, by omega, by go_num, HS.out.drew⟩
          case measure => simp [intOf]; omega
        · obtain rfl : y = 16 := by omega
          have HS := Lib.hid hIx.next
          clear hIx hIr hI
          go_wp2
          go_roundw
          case rel => exact ⟨x + 1, by omega, by go_num, HS.out⟩
          case measure => simp [intOf]; omega
    · obtain rfl : x = 16 := by omega
      have hH := Own.heap hIr.1
      have hld := load_arr (F := fun j => wrap64 (mP (fun x y => x &&& y) F G 16 16 0 j)) hH
      have hR : Hid ((arr fun j => wrap64 (mP (fun x y => x &&& y) F G 16 16 0 j)) = arr fun j => wrap64 (mixE (fun x y => x &&& y) F G 16 j)) := by
        show _ = _
        unfold arr
        rw [tab_congr (g := fun j => wrap64 (mixE (fun x y => x &&& y) F G 16 j)) (fun j _ => by rw [mP_all])]
      rw [hR.out] at hld
      have hold : wr.heap[w.heap.size + 1 + 1]? = some (.cells zero16.toArray 50 (0, 0)) := by rw [hIr.2.block (w.heap.size + 1 + 1) (by rw [HSZ.out]; omega)]; exact HOLD.out
      have hst := store_arr (F := fun j => wrap64 (mixE (fun x y => x &&& y) F G 16 j)) hold (by simp [zero16])
      have hld2 : (loadVar 50 ⟨w.heap.size + 1 + 1, 0, none⟩).run Try.prog (wr.setRow (w.heap.size + 1 + 1) (arr fun j => wrap64 (mixE (fun x y => x &&& y) F G 16 j))) = .ok (.agg (arr fun j => wrap64 (mixE (fun x y => x &&& y) F G 16 j))) (wr.setRow (w.heap.size + 1 + 1) (arr fun j => wrap64 (mixE (fun x y => x &&& y) F G 16 j))) := load_arr (setRow_heap wr (w.heap.size + 1 + 1) _ _ _ _ hold)
      have hBB : Below w.heap.size w (wr.setRow (w.heap.size + 1 + 1) (arr fun j => wrap64 (mixE (fun x y => x &&& y) F G 16 j))) := below_setRow (HB0.out.trans (hIr.2.mono (by rw [HSZ.out]; omega))) (by omega) _
      obtain ⟨R, hR0⟩ : ∃ R, R = (fun j => wrap64 (mixE (fun x y => x &&& y) F G 16 j)) := ⟨_, rfl⟩
      rw [← hR0] at hld hst hld2 hBB
      have HR0 := Lib.hid hR0
      clear hR0
      clear hH hold hIr hI hR
      go_wp2_with (first | with_reducible refine wpList_loadv rfl (.tmp 7) 50 rfl _ rfl _ hld ?_ | with_reducible refine wpList_storev rfl (.tmp 6) (.tmp 33) 50 rfl _ rfl _ rfl hst ?_)
      refine bodyPost_ret (v := .agg (arr R)) ?_ rfl ⟨by rw [HR0.out], hBB⟩
      exact results_cell_one rfl _ _ _ _ _ rfl hld2

theorem kindXor_any (x y : Nat) (w : World) (hx : x < 16) (hy : y < 16) :
    Calls Try.prog 88 #[.int .i64 x, .int .i64 y] w fun e w' => e = .returned (.int .i64 ((x ^^^ y : Nat) : Int)) ∧ w = w' := by
  have HA := xor16 x hx y hy
  generalize x ^^^ y = z at HA
  go_enter Try.func88, Try.ntmps88
  go_wp2
  go_ret
  exact ⟨rfl, rfl⟩

set_option maxHeartbeats 8000000 in
theorem implmixXor_any (F G : Nat → Int) (w : World) :
    Calls Try.prog 77 #[.agg (arr F), .agg (arr G), .func (.func 88) #[] #[]] w fun e w' => e = .returned (.agg (arr fun j => wrap64 (mixE (fun x y => x ^^^ y) F G 16 j))) ∧ Below w.heap.size w w' := by
  obtain ⟨wb, hwb⟩ : ∃ wb, wb = ((w.alloc (.cells (arr F) 50)).alloc (.cells (arr G) 50)).alloc (.cells zero16.toArray 50) := ⟨_, rfl⟩
  have hsz : wb.heap.size = w.heap.size + 1 + 1 + 1 := by rw [hwb, size_three]
  have hB2 : Below (w.heap.size + 1 + 1) ((w.alloc (.cells (arr F) 50)).alloc (.cells (arr G) 50)) wb := by
    rw [hwb]; exact (Below.refl _ _).alloc (by rw [size_two]; omega) _
  have hB1 : Below (w.heap.size + 1) (w.alloc (.cells (arr F) 50)) wb := ((Below.refl _ _).alloc (by rw [size_one]; omega) _).trans (hB2.mono (by omega))
  have hB0 : Below w.heap.size w wb := ((Below.refl _ _).alloc (Nat.le_refl _) _).trans (hB1.mono (by omega))
  have hca : ∀ j, j < 16 → wb.cell? ⟨w.heap.size, j, none⟩ = some (.int .i64 (F j)) := by
    intro j hj
    rw [hB1.cell (p := ⟨w.heap.size, j, none⟩) (by show w.heap.size < w.heap.size + 1; omega), cell_of_row _ _ j _ _ (0, 0) (heap_alloc_last w _), arr_get _ _ hj]
  have hcb : ∀ j, j < 16 → wb.cell? ⟨w.heap.size + 1, j, none⟩ = some (.int .i64 (G j)) := by
    intro j hj
    rw [hB2.cell (p := ⟨w.heap.size + 1, j, none⟩) (by show w.heap.size + 1 < w.heap.size + 1 + 1; omega), cell_of_row _ _ j _ _ (0, 0) (heap_second w _ _), arr_get _ _ hj]
  have hold : wb.heap[w.heap.size + 1 + 1]? = some (.cells zero16.toArray 50 (0, 0)) := by
    have := heap_alloc_last ((w.alloc (.cells (arr F) 50)).alloc (.cells (arr G) 50)) (.cells zero16.toArray 50)
    rw [size_two] at this
    rw [hwb]; exact this
  have hI : MxInv 50 wb (wb.alloc (.cells zero16.toArray 50)) (w.heap.size + 1 + 1 + 1) 16 16 0 0 (fun x y => x ^^^ y) F G := by
    refine MxInv.start _ _ _ ?_ ((Below.refl _ _).alloc (Nat.le_refl _) _)
    have := own_heap (E := 50) (B := wb.heap.size) (w := wb.alloc (.cells zero16.toArray 50)) (g := wb.heap.size) (xs := tab 16 fun _ => 0) (heap_alloc_last wb _) (Nat.le_refl _) (by rw [len_tab]; unfold maxLen; omega)
    rw [len_tab] at this
    rw [← hsz]; exact this
  have HCA := Lib.hid hca
  have HCB := Lib.hid hcb
  have HOLD := Lib.hid hold
  have HB0 := Lib.hid hB0
  have HWB := Lib.hid hwb
  clear hca hcb hold hB0 hB1 hB2 hwb
  have hgw : wb.heap.size ≤ w.heap.size + 1 + 1 + 1 := by omega
  have HSZ := Lib.hid hsz
  clear hsz
  go_enter Try.func77, Try.ntmps77
  go_wp2
  go_loopw [10] (fun i wr => ∃ x : Nat, x ≤ 16 ∧ i = .int .i64 x ∧ MxInv 50 wb wr (w.heap.size + 1 + 1 + 1) 16 16 x 0 (fun x y => x ^^^ y) F G) (fun i _ => 16 - (intOf i).toNat)
  case atStart => exact ⟨0, by omega, rfl, by rw [zero16_lit, ← HWB.out]; exact hI⟩
  case round =>
    obtain ⟨x, hx, rfl, hIr⟩ := hrel
    by_cases hlt : x < 16
    · have hxi : (x : Int) < 16 := by omega
      go_wp2
      go_loopw [13] (fun i wr => ∃ y : Nat, y ≤ 16 ∧ i = .int .i64 y ∧ MxInv 50 wb wr (w.heap.size + 1 + 1 + 1) 16 16 x y (fun x y => x ^^^ y) F G) (fun i _ => 16 - (intOf i).toNat)
      case atStart => exact ⟨0, by omega, rfl, hIr⟩
      case round =>
        obtain ⟨y, hy, rfl, hIx⟩ := hrel
        by_cases hyl : y < 16
        · have hd : x ^^^ y < 16 := xor_lt 4 (by omega) x hlt y hyl
          have HK := Lib.hid fun w => kindXor_any x y w hlt hyl
          obtain ⟨d, hde⟩ : ∃ d, x ^^^ y = d := ⟨_, rfl⟩
          rw [hde] at hd HK
          have hdi : (d : Int) < 16 := by omega
          have hyi : (y : Int) < 16 := by omega
          have hcx := hIx.1.cell d (by simpa using hd)
          rw [ix_tab _ _ _ hd] at hcx
          have hf := hIx.1.frozen d
          have hca : wr.cell? ⟨w.heap.size, x, none⟩ = some (.int .i64 (F x)) := (hIx.2.cell (p := ⟨w.heap.size, x, none⟩) (by show w.heap.size < wb.heap.size; rw [HSZ.out]; omega)).trans (HCA.out x hlt)
          have hcb : wr.cell? ⟨w.heap.size + 1, y, none⟩ = some (.int .i64 (G y)) := (hIx.2.cell (p := ⟨w.heap.size + 1, y, none⟩) (by show w.heap.size + 1 < wb.heap.size; rw [HSZ.out]; omega)).trans (HCB.out y hyl)
          have HS := Lib.hid (hIx.step hgw hde)
          clear hIx hIr hI hde
          obtain ⟨m0, hm0⟩ : ∃ m0, m0 = wrap64 (mP (fun x y => x ^^^ y) F G 16 x y d) := ⟨_, rfl⟩
          rw [← hm0] at hcx HS
          clear hm0
          go_wp2
          go_still_tail 15, (by kernel_rfl)
          still_call ((HK.out _).mono (by rintro e w' ⟨rfl, rfl⟩; exact ⟨rfl, rfl⟩))
          repeat still_step
          refine wpStill_nil ?_
          change wpList _ _ _ _ _ (World.drew wr)
          have hSd := Lib.hid HS.out
          go_wp2
          go_roundw
          case rel => exact ⟨y + 1, by omega, by go_num, HS.out.drew⟩
          case measure => simp [intOf]; omega
        · obtain rfl : y = 16 := by omega
          have HS := Lib.hid hIx.next
          clear hIx hIr hI
          go_wp2
          go_roundw
          case rel => exact ⟨x + 1, by omega, by go_num, HS.out⟩
          case measure => simp [intOf]; omega
    · obtain rfl : x = 16 := by omega
      have hH := Own.heap hIr.1
      have hld := load_arr (F := fun j => wrap64 (mP (fun x y => x ^^^ y) F G 16 16 0 j)) hH
      have hR : Hid ((arr fun j => wrap64 (mP (fun x y => x ^^^ y) F G 16 16 0 j)) = arr fun j => wrap64 (mixE (fun x y => x ^^^ y) F G 16 j)) := by
        show _ = _
        unfold arr
        rw [tab_congr (g := fun j => wrap64 (mixE (fun x y => x ^^^ y) F G 16 j)) (fun j _ => by rw [mP_all])]
      rw [hR.out] at hld
      have hold : wr.heap[w.heap.size + 1 + 1]? = some (.cells zero16.toArray 50 (0, 0)) := by rw [hIr.2.block (w.heap.size + 1 + 1) (by rw [HSZ.out]; omega)]; exact HOLD.out
      have hst := store_arr (F := fun j => wrap64 (mixE (fun x y => x ^^^ y) F G 16 j)) hold (by simp [zero16])
      have hld2 : (loadVar 50 ⟨w.heap.size + 1 + 1, 0, none⟩).run Try.prog (wr.setRow (w.heap.size + 1 + 1) (arr fun j => wrap64 (mixE (fun x y => x ^^^ y) F G 16 j))) = .ok (.agg (arr fun j => wrap64 (mixE (fun x y => x ^^^ y) F G 16 j))) (wr.setRow (w.heap.size + 1 + 1) (arr fun j => wrap64 (mixE (fun x y => x ^^^ y) F G 16 j))) := load_arr (setRow_heap wr (w.heap.size + 1 + 1) _ _ _ _ hold)
      have hBB : Below w.heap.size w (wr.setRow (w.heap.size + 1 + 1) (arr fun j => wrap64 (mixE (fun x y => x ^^^ y) F G 16 j))) := below_setRow (HB0.out.trans (hIr.2.mono (by rw [HSZ.out]; omega))) (by omega) _
      obtain ⟨R, hR0⟩ : ∃ R, R = (fun j => wrap64 (mixE (fun x y => x ^^^ y) F G 16 j)) := ⟨_, rfl⟩
      rw [← hR0] at hld hst hld2 hBB
      have HR0 := Lib.hid hR0
      clear hR0
      clear hH hold hIr hI hR
      go_wp2_with (first | with_reducible refine wpList_loadv rfl (.tmp 7) 50 rfl _ rfl _ hld ?_ | with_reducible refine wpList_storev rfl (.tmp 6) (.tmp 33) 50 rfl _ rfl _ rfl hst ?_)
      refine bodyPost_ret (v := .agg (arr R)) ?_ rfl ⟨by rw [HR0.out], hBB⟩
      exact results_cell_one rfl _ _ _ _ _ rfl hld2

end Go.Proofs.Ytpalmbcknjmmcaa
