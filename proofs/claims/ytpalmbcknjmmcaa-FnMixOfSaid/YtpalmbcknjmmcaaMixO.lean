/-
  MixOf of the program, by its contract.
-/
import Derived.Test.YtpalmbcknjmmcaaKinds
import Derived.Test.YtpalmbcknjmmcaaCopy
import Derived.Deep.RegionHeld3
namespace Go.Proofs.Ytpalmbcknjmmcaa
open Go.RowKit
set_option linter.unusedVariables false

theorem kind_info : (Try.prog.info? 61).map (·.size) = some 2 := by kernel_rfl
theorem store_kind (w : World) (a b : Value) (ha : a.oneCell' = true) (hb : b.oneCell' = true) (c : Array Value) (hc : c.size = 2) : (storeVar 61 ⟨w.heap.size, 0, none⟩ (.agg #[a, b])).run Try.prog (w.alloc (.cells c 61)) = .ok () (w.alloc (.cells #[a, b] 61)) :=
  run_storeVar_new w _ _ _ kind_info hc (by simp [ha, hb])
theorem kind_at0 (w : World) : (Instr.index 62 (.agg kindCells) (.int .i64 0)).run Try.prog w = .ok (.agg #[.string sOr, .func (.func 86) #[] #[]]) w := by kernel_rfl
theorem kind_at1 (w : World) : (Instr.index 62 (.agg kindCells) (.int .i64 1)).run Try.prog w = .ok (.agg #[.string sAnd, .func (.func 87) #[] #[]]) w := by kernel_rfl
theorem kind_at2 (w : World) : (Instr.index 62 (.agg kindCells) (.int .i64 2)).run Try.prog w = .ok (.agg #[.string sXor, .func (.func 88) #[] #[]]) w := by kernel_rfl
theorem wp_storev {P : Program} {w w' : World} {o : Oper} {a : Act} {K : Act → World → Prop} {Q : Exit → Act → World → Prop} (p x : Operand) (t : TypeId) (ho : o.op = .store t p x)
    (ad : Addr) (hp : a.eval p = .pointer (some ad)) (v : Value) (hx : a.eval x = v) (hl : (storeVar t ad v).run P w = .ok () w') (h : K (a.put o.dst undef) w') : Oper.wp P o a w K Q := by
  unfold Oper.wp
  simp only [execOp, ho, Instr.storeAt, Instr.sureAddr, hp, hx, Sem.run_bind, Sem.run_pure, Result.andThen, hl]
  exact h
theorem setRow_other (w : World) (gz : Nat) (cs : Array Value) (g : Nat) (h : g ≠ gz) : (w.setRow gz cs).heap[g]? = w.heap[g]? := by
  simp [World.setRow, Array.getElem?_modify, Ne.symm h]
theorem own_arr {E B gz : Nat} {w : World} (hB : B ≤ w.heap.size) (hg : B ≤ gz) (h : w.heap[gz]? = some (.cells zero16.toArray E (0, 0))) (R : Nat → Int) : Own E B (w.setRow gz (arr R)) (.slice (some ⟨gz, 0, none⟩) 16 16) (tab 16 R) := by
  have := setRow_heap w gz _ (arr R) _ _ h
  have h2 := own_heap (E := E) (B := B) (w := w.setRow gz (arr R)) (g := gz) (xs := tab 16 R) this hg (by rw [len_tab]; unfold maxLen; omega)
  rwa [len_tab] at h2

theorem slice_cells (gz n : Nat) (W : World) (h : n ≤ 16) : (Instr.sliceAt 50 (.pointer (some ⟨gz, 0, none⟩)) none (some (.int .i64 (n : Int))) none).run Try.prog W = .ok (.slice (some ⟨gz, 0, none⟩) n 16) W := by
  have hu : Try.prog.underlying 50 = some (.array (Try.prog.arrayLen 50) (Try.prog.elem 50)) := by kernel_rfl
  have ha : Try.prog.arrayLen 50 = 16 := by kernel_rfl
  have he : (sizeOf (Try.prog.elem 50)).run Try.prog W = .ok 1 W := by kernel_rfl
  rw [run_sliceAt_array_h W 50 ⟨gz, 0, none⟩ hu .i64 n (by omega) (by rw [ha]; omega), he, ha]
  simp [Result.andThen, slicedAt, Addr.add]
theorem rd_arr {E B gz n : Nat} {w : World} {R : Nat → Int} (h : Own E B w (.slice (some ⟨gz, 0, none⟩) 16 16) (tab 16 R)) (hn : n ≤ 16) : Rd w (.slice (some ⟨gz, 0, none⟩) n 16) (tab n R) := by
  refine ⟨some ⟨gz, 0, none⟩, 16, by rw [len_tab], .inr ⟨gz, 0, rfl, ?_, fun j hj => ?_⟩⟩
  · exact (Array.getElem?_eq_some_iff.1 (Own.heap h)).1
  · rw [len_tab] at hj
    rw [Nat.zero_add, h.cell j (by simp; omega), ix_tab _ _ _ (by omega), ix_tab _ _ _ hj]
theorem mixE_more (op : Nat → Nat → Nat) (F G : Nat → Int) {n m : Nat} (h : n ≤ m) (hF : ∀ x, n ≤ x → F x = 0) (hG : ∀ x, n ≤ x → G x = 0) (j : Nat) : mixE op F G m j = mixE op F G n j := by
  unfold mixE
  rw [sumN_more h fun x hx _ => sumN_zero fun y _ => by rw [hF x hx, Int.zero_mul]; split <;> rfl]
  exact sumN_congr fun x _ => sumN_more h fun y hy _ => by rw [hG y hy, Int.mul_zero]; split <;> rfl
theorem ix_behind (xs : List Int) {j : Nat} (h : xs.length ≤ j) : ix xs j = 0 := by simp [ix, List.getD, List.getElem?_eq_none h]
theorem mixL_arr (s : ByteArray) (xs ys : List Int) (hl : xs.length ≤ 16) (hn : xs.length = ys.length) : mixL s xs ys = tab xs.length fun j => wrap64 (mixE (mixOp s) (ix xs) (ix ys) 16 j) := by
  unfold mixL
  exact tab_congr fun j _ => by rw [mixE_more (mixOp s) (ix xs) (ix ys) hl (fun x hx => ix_behind xs hx) (fun x hx => ix_behind ys (by omega))]

set_option maxHeartbeats 16000000 in
theorem implMixOr_any (u v : Value) (xs ys : List Int) (w : World) (h : Rd w u xs) (h' : Rd w v ys) (hl : xs.length ≤ 16) (hl' : ys.length ≤ 16) (hn : xs.length = ys.length) (hcx : cubeB xs = true) (hcy : cubeB ys = true) :
    Calls Try.prog 41 #[u, v, .string sOr] w (Made 3 w (mixL sOr xs ys)) := by
  have hv := isBinaryRow_any u xs w h (by unfold maxLen; omega)
  rw [hcx] at hv
  have HV2 := Lib.hid fun w (h : Rd w v ys) => isBinaryRow_any v ys w h (by unfold maxLen; omega)
  rw [hcy] at HV2
  have hne : ((xs.length : Int) != (ys.length : Int)) = false := by simp [hn]
  obtain ⟨R, hR⟩ : ∃ R : Nat → Int, R = fun j => wrap64 (mixE (fun x y => x ||| y) (ix xs) (ix ys) 16 j) := ⟨_, rfl⟩
  have HF : Hid (mixL sOr xs ys = tab xs.length R) := by show mixL sOr xs ys = _; rw [mixL_arr _ _ _ hl hn, mixOp_or, hR]
  have HMX := Lib.hid fun W => implmixOr_any (ix xs) (ix ys) W
  rw [← hR] at HMX
  have HI0 := kind_at0
  have HST0 := fun w => store_kind w (.string sOr) (.func (.func 86) #[] #[]) rfl rfl
  simp only [kindCells, sOr, sAnd, sXor] at HI0 HST0
  unfold sOr at HF ⊢
  have H1 := Lib.hid h
  have H2 := Lib.hid h'
  obtain ⟨a, cap, rfl, -⟩ := h
  obtain ⟨a', cap', rfl, -⟩ := h'
  clear hn hcx hcy hR
  go_enter Try.func41, Try.ntmps41
  go_wp2_with fail
  refine hv.mono ?_
  rintro e w1 ⟨rfl, b1⟩
  go_wp2_with fail
  refine (HV2.out _ (H2.out.below b1 (Nat.le_refl _))).mono ?_
  rintro e w2 ⟨rfl, b2⟩
  go_wp2_with fail
  refine (mixKinds_any _).mono ?_
  rintro e w3 ⟨rfl, b3⟩
  have bb := bel_nxt (bel_nxt b1 b2) b3
  clear b1 b2 b3 hv HV2
  unfold kindCells sOr sAnd sXor
  go_wp2
  refine wp_loop_rounds 4 ?_
  rw [rounds_succ]
  go_wp2_with (with_reducible refine wpList_storev rfl (.tmp 8) (.tmp 28) 61 rfl _ rfl _ rfl (HST0 _ _ rfl) ?_)
  have b4 : Below w.heap.size w (w3.alloc (.cells #[.string { data := #[111, 114] }, .func (.func 86) #[] #[]] 61)) := bb.alloc bb.size _
  have fD : (w3.alloc (.cells #[.string { data := #[111, 114] }, .func (.func 86) #[] #[]] 61)).drew.cell? ⟨w3.heap.size, 1, none⟩ = some (.func (.func 86) #[] #[]) := by
    show (w3.alloc _).cell? _ = _
    rw [World.cell?_alloc_at _ _ _ _ rfl]; rfl
  have gD : w3.heap.size < (w3.alloc (.cells #[.string { data := #[111, 114] }, .func (.func 86) #[] #[]] 61)).drew.heap.size := by show w3.heap.size < (w3.alloc _).heap.size; rw [size_one]; omega
  have bD := b4.drew
  generalize w3.heap.size = g at fD gD ⊢
  have HCA := Lib.hid fun W (hb : Below w.heap.size w W) => cellsOf_any _ xs W (H1.out.below hb (Nat.le_refl _)) hl
  have HCB := Lib.hid fun W (hb : Below w.heap.size w W) => cellsOf_any _ ys W (H2.out.below hb (Nat.le_refl _)) hl'
  clear b4 bb HI0 HST0
  refine wp_region_held_drew (S := fun w' => w'.cell? ⟨g, 1, none⟩ = some (.func (.func 86) #[] #[])) (by kernel_rfl) fD (fun hHeld => ?_)
  generalize (w3.alloc (.cells #[.string { data := #[111, 114] }, .func (.func 86) #[] #[]] 61)).drew = WA at fD gD bD hHeld ⊢
  change wpAnyH _ _ _ _ _ _ _ _ _
  refine wpAnyH_take (i := 0) (v := ?v0) rfl (by kernel_rfl) (by kernel_rfl) (by kernel_rfl) (fun _ _ _ h => h) (Or.inl ⟨by rfl, ?y0⟩) hHeld ?_
  case y0 => (intro w hSw; (try dsimp only at hSw); go_simp; try with_reducible rfl)
  go_simp
  refine wpAnyH_take (i := 2) (v := ?v2) rfl (by kernel_rfl) (by kernel_rfl) (by kernel_rfl) (fun _ _ _ h => h) (Or.inl ⟨by rfl, ?y2⟩) hHeld ?_
  case y2 => (intro w hSw; (try dsimp only at hSw); go_simp; try with_reducible rfl)
  go_simp
  refine wpAnyH_take (i := 4) (v := ?v4) rfl (by kernel_rfl) (by kernel_rfl) (by kernel_rfl) (fun _ _ _ h => h) (Or.inl ⟨by rfl, ?y4⟩) hHeld ?_
  case y4 => (intro w hSw; (try dsimp only at hSw); go_simp; try with_reducible rfl)
  go_simp
  refine wpAnyH_take (i := 5) (v := ?v5) rfl (by kernel_rfl) (by kernel_rfl) (by kernel_rfl) (fun _ _ _ h => h) (Or.inl ⟨by rfl, ?y5⟩) hHeld ?_
  case y5 => (intro w hSw; (try dsimp only at hSw); go_simp; try with_reducible rfl)
  go_simp
  clear hHeld
  refine wpAnyH_ready (rs := [1, 7]) (by kernel_rfl) (by simp) ?_
  refine AllReadyH.cons rfl (fun K hK => ?_) (AllReadyH.cons rfl (fun K hK => ?_) AllReadyH.nil)
  · go_simp
    refine (HCA.out _ bD).mono ?_
    rintro e W1 ⟨rfl, bN⟩
    have fD := (bN.cell (p := ⟨g, 1, none⟩) gD).trans fD
    have gD := Nat.lt_of_lt_of_le gD bN.size
    have bD := bel_nxt bD bN
    clear bN
    go_simp
    refine hK.out _ _ fD (fun hHeld => ?_)
    clear hK K hHeld
    refine wpAnyH_ready (rs := [3, 7]) (by kernel_rfl) (by simp) ?_
    refine AllReadyH.cons rfl (fun K hK => ?_) (AllReadyH.cons rfl (fun K hK => ?_) AllReadyH.nil)
    · go_simp
      refine (HCB.out _ bD).mono ?_
      rintro e W2 ⟨rfl, bN⟩
      have fD := (bN.cell (p := ⟨g, 1, none⟩) gD).trans fD
      have gD := Nat.lt_of_lt_of_le gD bN.size
      have bD := bel_nxt bD bN
      clear bN
      go_simp
      refine hK.out _ _ fD (fun hHeld => ?_)
      clear hK K hHeld
      refine wpAnyH_ready (rs := [6, 7]) (by kernel_rfl) (by simp) ?_
      refine AllReadyH.cons rfl (fun K hK => ?_) (AllReadyH.cons rfl (fun K hK => ?_) AllReadyH.nil)
      · go_simp
        refine (HMX.out _).mono ?_
        rintro e W3 ⟨rfl, bN⟩
        have fD := (bN.cell (p := ⟨g, 1, none⟩) gD).trans fD
        have gD := Nat.lt_of_lt_of_le gD bN.size
        have bD := bel_nxt bD bN
        clear bN
        go_simp
        refine hK.out _ _ fD (fun hHeld => ?_)
        clear hK K hHeld
        refine wpAnyH_ready (rs := [7]) (by kernel_rfl) (by simp) ?_
        refine AllReadyH.cons rfl (fun K hK => ?_) AllReadyH.nil
        go_simp
        have zA : (W3.alloc (.cells #[Value.int IntKind.i64 0, Value.int IntKind.i64 0, Value.int IntKind.i64 0, Value.int IntKind.i64 0, Value.int IntKind.i64 0, Value.int IntKind.i64 0, Value.int IntKind.i64 0, Value.int IntKind.i64 0, Value.int IntKind.i64 0, Value.int IntKind.i64 0, Value.int IntKind.i64 0, Value.int IntKind.i64 0, Value.int IntKind.i64 0, Value.int IntKind.i64 0, Value.int IntKind.i64 0, Value.int IntKind.i64 0] 50)).heap[W3.heap.size]? = some (.cells zero16.toArray 50 (0, 0)) := heap_alloc_last W3 _
        have bN := Below.alloc (Below.refl W3.heap.size W3) (Nat.le_refl _) (.cells #[Value.int IntKind.i64 0, Value.int IntKind.i64 0, Value.int IntKind.i64 0, Value.int IntKind.i64 0, Value.int IntKind.i64 0, Value.int IntKind.i64 0, Value.int IntKind.i64 0, Value.int IntKind.i64 0, Value.int IntKind.i64 0, Value.int IntKind.i64 0, Value.int IntKind.i64 0, Value.int IntKind.i64 0, Value.int IntKind.i64 0, Value.int IntKind.i64 0, Value.int IntKind.i64 0, Value.int IntKind.i64 0] 50)
        have gne : g ≠ W3.heap.size := Nat.ne_of_lt gD
        have gw : w.heap.size ≤ W3.heap.size := bD.size
        have fD := (bN.cell (p := ⟨g, 1, none⟩) gD).trans fD
        have gD := Nat.lt_of_lt_of_le gD bN.size
        have bD := bel_nxt bD bN
        generalize W3.alloc (.cells #[Value.int IntKind.i64 0, Value.int IntKind.i64 0, Value.int IntKind.i64 0, Value.int IntKind.i64 0, Value.int IntKind.i64 0, Value.int IntKind.i64 0, Value.int IntKind.i64 0, Value.int IntKind.i64 0, Value.int IntKind.i64 0, Value.int IntKind.i64 0, Value.int IntKind.i64 0, Value.int IntKind.i64 0, Value.int IntKind.i64 0, Value.int IntKind.i64 0, Value.int IntKind.i64 0, Value.int IntKind.i64 0] 50) = W4 at zA fD gD bD bN ⊢
        generalize W3.heap.size = gz at zA gne gw bN ⊢
        clear bN
        refine hK.out _ _ fD (fun hHeld => ?_)
        clear hK K hHeld
        refine wpAnyH_ready (rs := [8]) (by kernel_rfl) (by simp) ?_
        refine AllReadyH.cons rfl (fun K hK => ?_) AllReadyH.nil
        rw [if_pos (by rfl)]
        have hst := store_arr (F := R) zA (by simp [zero16])
        refine wp_storev (.tmp 9) (.tmp 39) 50 rfl _ rfl _ rfl hst ?_
        simp only [Act.put]
        have fE : (W4.setRow gz (arr R)).cell? ⟨g, 1, none⟩ = some (.func (.func 86) #[] #[]) := by rw [World.cell?_of_block (w := W4) (setRow_other _ gz _ g gne)]; exact fD
        refine hK.out _ _ fE (fun hHeld => ?_)
        clear hK K hHeld
        refine wpAnyH_done (by kernel_rfl) ?_ _
        have bE : Below w.heap.size w (W4.setRow gz (arr R)) := below_setRow bD gw _
        have hO := own_arr bD.size gw zA R
        clear hst zA fE fD gD gne gw bD
        generalize W4.setRow gz (arr R) = WE at bE hO ⊢
        have hsl := slice_cells gz xs.length WE hl
        go_wp2_with fail
        refine (copyOf_any _ (tab xs.length R) _ (rd_arr hO hl) (by rw [len_tab]; omega)).mono ?_
        rintro e WF ⟨gr, rfl, hgr, oF, bF⟩
        rw [len_tab] at oF ⊢
        clear hsl hO
        go_wp2
        go_ret
        exact ⟨_, rfl, by rw [HF.out]; exact oF.mono bE.size, bel_nxt bE bF⟩
      · go_simp
        have zA : (W2.alloc (.cells #[Value.int IntKind.i64 0, Value.int IntKind.i64 0, Value.int IntKind.i64 0, Value.int IntKind.i64 0, Value.int IntKind.i64 0, Value.int IntKind.i64 0, Value.int IntKind.i64 0, Value.int IntKind.i64 0, Value.int IntKind.i64 0, Value.int IntKind.i64 0, Value.int IntKind.i64 0, Value.int IntKind.i64 0, Value.int IntKind.i64 0, Value.int IntKind.i64 0, Value.int IntKind.i64 0, Value.int IntKind.i64 0] 50)).heap[W2.heap.size]? = some (.cells zero16.toArray 50 (0, 0)) := heap_alloc_last W2 _
        have bN := Below.alloc (Below.refl W2.heap.size W2) (Nat.le_refl _) (.cells #[Value.int IntKind.i64 0, Value.int IntKind.i64 0, Value.int IntKind.i64 0, Value.int IntKind.i64 0, Value.int IntKind.i64 0, Value.int IntKind.i64 0, Value.int IntKind.i64 0, Value.int IntKind.i64 0, Value.int IntKind.i64 0, Value.int IntKind.i64 0, Value.int IntKind.i64 0, Value.int IntKind.i64 0, Value.int IntKind.i64 0, Value.int IntKind.i64 0, Value.int IntKind.i64 0, Value.int IntKind.i64 0] 50)
        have gne : g ≠ W2.heap.size := Nat.ne_of_lt gD
        have gw : w.heap.size ≤ W2.heap.size := bD.size
        have fD := (bN.cell (p := ⟨g, 1, none⟩) gD).trans fD
        have gD := Nat.lt_of_lt_of_le gD bN.size
        have bD := bel_nxt bD bN
        generalize W2.alloc (.cells #[Value.int IntKind.i64 0, Value.int IntKind.i64 0, Value.int IntKind.i64 0, Value.int IntKind.i64 0, Value.int IntKind.i64 0, Value.int IntKind.i64 0, Value.int IntKind.i64 0, Value.int IntKind.i64 0, Value.int IntKind.i64 0, Value.int IntKind.i64 0, Value.int IntKind.i64 0, Value.int IntKind.i64 0, Value.int IntKind.i64 0, Value.int IntKind.i64 0, Value.int IntKind.i64 0, Value.int IntKind.i64 0] 50) = W5 at zA fD gD bD bN ⊢
        generalize W2.heap.size = gz at zA gne gw bN ⊢
        clear bN
        refine hK.out _ _ fD (fun hHeld => ?_)
        clear hK K hHeld
        refine wpAnyH_ready (rs := [6]) (by kernel_rfl) (by simp) ?_
        refine AllReadyH.cons rfl (fun K hK => ?_) AllReadyH.nil
        go_simp
        refine (HMX.out _).mono ?_
        rintro e W6 ⟨rfl, bN⟩
        have zA := (bN.block gz (Array.getElem?_eq_some_iff.1 zA).1).trans zA
        have fD := (bN.cell (p := ⟨g, 1, none⟩) gD).trans fD
        have gD := Nat.lt_of_lt_of_le gD bN.size
        have bD := bel_nxt bD bN
        clear bN
        go_simp
        refine hK.out _ _ fD (fun hHeld => ?_)
        clear hK K hHeld
        refine wpAnyH_ready (rs := [8]) (by kernel_rfl) (by simp) ?_
        refine AllReadyH.cons rfl (fun K hK => ?_) AllReadyH.nil
        rw [if_pos (by rfl)]
        have hst := store_arr (F := R) zA (by simp [zero16])
        refine wp_storev (.tmp 9) (.tmp 39) 50 rfl _ rfl _ rfl hst ?_
        simp only [Act.put]
        have fE : (W6.setRow gz (arr R)).cell? ⟨g, 1, none⟩ = some (.func (.func 86) #[] #[]) := by rw [World.cell?_of_block (w := W6) (setRow_other _ gz _ g gne)]; exact fD
        refine hK.out _ _ fE (fun hHeld => ?_)
        clear hK K hHeld
        refine wpAnyH_done (by kernel_rfl) ?_ _
        have bE : Below w.heap.size w (W6.setRow gz (arr R)) := below_setRow bD gw _
        have hO := own_arr bD.size gw zA R
        clear hst zA fE fD gD gne gw bD
        generalize W6.setRow gz (arr R) = WE at bE hO ⊢
        have hsl := slice_cells gz xs.length WE hl
        go_wp2_with fail
        refine (copyOf_any _ (tab xs.length R) _ (rd_arr hO hl) (by rw [len_tab]; omega)).mono ?_
        rintro e WF ⟨gr, rfl, hgr, oF, bF⟩
        rw [len_tab] at oF ⊢
        clear hsl hO
        go_wp2
        go_ret
        exact ⟨_, rfl, by rw [HF.out]; exact oF.mono bE.size, bel_nxt bE bF⟩
    · go_simp
      have zA : (W1.alloc (.cells #[Value.int IntKind.i64 0, Value.int IntKind.i64 0, Value.int IntKind.i64 0, Value.int IntKind.i64 0, Value.int IntKind.i64 0, Value.int IntKind.i64 0, Value.int IntKind.i64 0, Value.int IntKind.i64 0, Value.int IntKind.i64 0, Value.int IntKind.i64 0, Value.int IntKind.i64 0, Value.int IntKind.i64 0, Value.int IntKind.i64 0, Value.int IntKind.i64 0, Value.int IntKind.i64 0, Value.int IntKind.i64 0] 50)).heap[W1.heap.size]? = some (.cells zero16.toArray 50 (0, 0)) := heap_alloc_last W1 _
      have bN := Below.alloc (Below.refl W1.heap.size W1) (Nat.le_refl _) (.cells #[Value.int IntKind.i64 0, Value.int IntKind.i64 0, Value.int IntKind.i64 0, Value.int IntKind.i64 0, Value.int IntKind.i64 0, Value.int IntKind.i64 0, Value.int IntKind.i64 0, Value.int IntKind.i64 0, Value.int IntKind.i64 0, Value.int IntKind.i64 0, Value.int IntKind.i64 0, Value.int IntKind.i64 0, Value.int IntKind.i64 0, Value.int IntKind.i64 0, Value.int IntKind.i64 0, Value.int IntKind.i64 0] 50)
      have gne : g ≠ W1.heap.size := Nat.ne_of_lt gD
      have gw : w.heap.size ≤ W1.heap.size := bD.size
      have fD := (bN.cell (p := ⟨g, 1, none⟩) gD).trans fD
      have gD := Nat.lt_of_lt_of_le gD bN.size
      have bD := bel_nxt bD bN
      generalize W1.alloc (.cells #[Value.int IntKind.i64 0, Value.int IntKind.i64 0, Value.int IntKind.i64 0, Value.int IntKind.i64 0, Value.int IntKind.i64 0, Value.int IntKind.i64 0, Value.int IntKind.i64 0, Value.int IntKind.i64 0, Value.int IntKind.i64 0, Value.int IntKind.i64 0, Value.int IntKind.i64 0, Value.int IntKind.i64 0, Value.int IntKind.i64 0, Value.int IntKind.i64 0, Value.int IntKind.i64 0, Value.int IntKind.i64 0] 50) = W7 at zA fD gD bD bN ⊢
      generalize W1.heap.size = gz at zA gne gw bN ⊢
      clear bN
      refine hK.out _ _ fD (fun hHeld => ?_)
      clear hK K hHeld
      refine wpAnyH_ready (rs := [3]) (by kernel_rfl) (by simp) ?_
      refine AllReadyH.cons rfl (fun K hK => ?_) AllReadyH.nil
      go_simp
      refine (HCB.out _ bD).mono ?_
      rintro e W8 ⟨rfl, bN⟩
      have zA := (bN.block gz (Array.getElem?_eq_some_iff.1 zA).1).trans zA
      have fD := (bN.cell (p := ⟨g, 1, none⟩) gD).trans fD
      have gD := Nat.lt_of_lt_of_le gD bN.size
      have bD := bel_nxt bD bN
      clear bN
      go_simp
      refine hK.out _ _ fD (fun hHeld => ?_)
      clear hK K hHeld
      refine wpAnyH_ready (rs := [6]) (by kernel_rfl) (by simp) ?_
      refine AllReadyH.cons rfl (fun K hK => ?_) AllReadyH.nil
      go_simp
      refine (HMX.out _).mono ?_
      rintro e W9 ⟨rfl, bN⟩
      have zA := (bN.block gz (Array.getElem?_eq_some_iff.1 zA).1).trans zA
      have fD := (bN.cell (p := ⟨g, 1, none⟩) gD).trans fD
      have gD := Nat.lt_of_lt_of_le gD bN.size
      have bD := bel_nxt bD bN
      clear bN
      go_simp
      refine hK.out _ _ fD (fun hHeld => ?_)
      clear hK K hHeld
      refine wpAnyH_ready (rs := [8]) (by kernel_rfl) (by simp) ?_
      refine AllReadyH.cons rfl (fun K hK => ?_) AllReadyH.nil
      rw [if_pos (by rfl)]
      have hst := store_arr (F := R) zA (by simp [zero16])
      refine wp_storev (.tmp 9) (.tmp 39) 50 rfl _ rfl _ rfl hst ?_
      simp only [Act.put]
      have fE : (W9.setRow gz (arr R)).cell? ⟨g, 1, none⟩ = some (.func (.func 86) #[] #[]) := by rw [World.cell?_of_block (w := W9) (setRow_other _ gz _ g gne)]; exact fD
      refine hK.out _ _ fE (fun hHeld => ?_)
      clear hK K hHeld
      refine wpAnyH_done (by kernel_rfl) ?_ _
      have bE : Below w.heap.size w (W9.setRow gz (arr R)) := below_setRow bD gw _
      have hO := own_arr bD.size gw zA R
      clear hst zA fE fD gD gne gw bD
      generalize W9.setRow gz (arr R) = WE at bE hO ⊢
      have hsl := slice_cells gz xs.length WE hl
      go_wp2_with fail
      refine (copyOf_any _ (tab xs.length R) _ (rd_arr hO hl) (by rw [len_tab]; omega)).mono ?_
      rintro e WF ⟨gr, rfl, hgr, oF, bF⟩
      rw [len_tab] at oF ⊢
      clear hsl hO
      go_wp2
      go_ret
      exact ⟨_, rfl, by rw [HF.out]; exact oF.mono bE.size, bel_nxt bE bF⟩
  · go_simp
    have zA : (WA.alloc (.cells #[Value.int IntKind.i64 0, Value.int IntKind.i64 0, Value.int IntKind.i64 0, Value.int IntKind.i64 0, Value.int IntKind.i64 0, Value.int IntKind.i64 0, Value.int IntKind.i64 0, Value.int IntKind.i64 0, Value.int IntKind.i64 0, Value.int IntKind.i64 0, Value.int IntKind.i64 0, Value.int IntKind.i64 0, Value.int IntKind.i64 0, Value.int IntKind.i64 0, Value.int IntKind.i64 0, Value.int IntKind.i64 0] 50)).heap[WA.heap.size]? = some (.cells zero16.toArray 50 (0, 0)) := heap_alloc_last WA _
    have bN := Below.alloc (Below.refl WA.heap.size WA) (Nat.le_refl _) (.cells #[Value.int IntKind.i64 0, Value.int IntKind.i64 0, Value.int IntKind.i64 0, Value.int IntKind.i64 0, Value.int IntKind.i64 0, Value.int IntKind.i64 0, Value.int IntKind.i64 0, Value.int IntKind.i64 0, Value.int IntKind.i64 0, Value.int IntKind.i64 0, Value.int IntKind.i64 0, Value.int IntKind.i64 0, Value.int IntKind.i64 0, Value.int IntKind.i64 0, Value.int IntKind.i64 0, Value.int IntKind.i64 0] 50)
    have gne : g ≠ WA.heap.size := Nat.ne_of_lt gD
    have gw : w.heap.size ≤ WA.heap.size := bD.size
    have fD := (bN.cell (p := ⟨g, 1, none⟩) gD).trans fD
    have gD := Nat.lt_of_lt_of_le gD bN.size
    have bD := bel_nxt bD bN
    generalize WA.alloc (.cells #[Value.int IntKind.i64 0, Value.int IntKind.i64 0, Value.int IntKind.i64 0, Value.int IntKind.i64 0, Value.int IntKind.i64 0, Value.int IntKind.i64 0, Value.int IntKind.i64 0, Value.int IntKind.i64 0, Value.int IntKind.i64 0, Value.int IntKind.i64 0, Value.int IntKind.i64 0, Value.int IntKind.i64 0, Value.int IntKind.i64 0, Value.int IntKind.i64 0, Value.int IntKind.i64 0, Value.int IntKind.i64 0] 50) = W10 at zA fD gD bD bN ⊢
    generalize WA.heap.size = gz at zA gne gw bN ⊢
    clear bN
    refine hK.out _ _ fD (fun hHeld => ?_)
    clear hK K hHeld
    refine wpAnyH_ready (rs := [1]) (by kernel_rfl) (by simp) ?_
    refine AllReadyH.cons rfl (fun K hK => ?_) AllReadyH.nil
    go_simp
    refine (HCA.out _ bD).mono ?_
    rintro e W11 ⟨rfl, bN⟩
    have zA := (bN.block gz (Array.getElem?_eq_some_iff.1 zA).1).trans zA
    have fD := (bN.cell (p := ⟨g, 1, none⟩) gD).trans fD
    have gD := Nat.lt_of_lt_of_le gD bN.size
    have bD := bel_nxt bD bN
    clear bN
    go_simp
    refine hK.out _ _ fD (fun hHeld => ?_)
    clear hK K hHeld
    refine wpAnyH_ready (rs := [3]) (by kernel_rfl) (by simp) ?_
    refine AllReadyH.cons rfl (fun K hK => ?_) AllReadyH.nil
    go_simp
    refine (HCB.out _ bD).mono ?_
    rintro e W12 ⟨rfl, bN⟩
    have zA := (bN.block gz (Array.getElem?_eq_some_iff.1 zA).1).trans zA
    have fD := (bN.cell (p := ⟨g, 1, none⟩) gD).trans fD
    have gD := Nat.lt_of_lt_of_le gD bN.size
    have bD := bel_nxt bD bN
    clear bN
    go_simp
    refine hK.out _ _ fD (fun hHeld => ?_)
    clear hK K hHeld
    refine wpAnyH_ready (rs := [6]) (by kernel_rfl) (by simp) ?_
    refine AllReadyH.cons rfl (fun K hK => ?_) AllReadyH.nil
    go_simp
    refine (HMX.out _).mono ?_
    rintro e W13 ⟨rfl, bN⟩
    have zA := (bN.block gz (Array.getElem?_eq_some_iff.1 zA).1).trans zA
    have fD := (bN.cell (p := ⟨g, 1, none⟩) gD).trans fD
    have gD := Nat.lt_of_lt_of_le gD bN.size
    have bD := bel_nxt bD bN
    clear bN
    go_simp
    refine hK.out _ _ fD (fun hHeld => ?_)
    clear hK K hHeld
    refine wpAnyH_ready (rs := [8]) (by kernel_rfl) (by simp) ?_
    refine AllReadyH.cons rfl (fun K hK => ?_) AllReadyH.nil
    rw [if_pos (by rfl)]
    have hst := store_arr (F := R) zA (by simp [zero16])
    refine wp_storev (.tmp 9) (.tmp 39) 50 rfl _ rfl _ rfl hst ?_
    simp only [Act.put]
    have fE : (W13.setRow gz (arr R)).cell? ⟨g, 1, none⟩ = some (.func (.func 86) #[] #[]) := by rw [World.cell?_of_block (w := W13) (setRow_other _ gz _ g gne)]; exact fD
    refine hK.out _ _ fE (fun hHeld => ?_)
    clear hK K hHeld
    refine wpAnyH_done (by kernel_rfl) ?_ _
    have bE : Below w.heap.size w (W13.setRow gz (arr R)) := below_setRow bD gw _
    have hO := own_arr bD.size gw zA R
    clear hst zA fE fD gD gne gw bD
    generalize W13.setRow gz (arr R) = WE at bE hO ⊢
    have hsl := slice_cells gz xs.length WE hl
    go_wp2_with fail
    refine (copyOf_any _ (tab xs.length R) _ (rd_arr hO hl) (by rw [len_tab]; omega)).mono ?_
    rintro e WF ⟨gr, rfl, hgr, oF, bF⟩
    rw [len_tab] at oF ⊢
    clear hsl hO
    go_wp2
    go_ret
    exact ⟨_, rfl, by rw [HF.out]; exact oF.mono bE.size, bel_nxt bE bF⟩

set_option maxHeartbeats 16000000 in
theorem implMixAnd_any (u v : Value) (xs ys : List Int) (w : World) (h : Rd w u xs) (h' : Rd w v ys) (hl : xs.length ≤ 16) (hl' : ys.length ≤ 16) (hn : xs.length = ys.length) (hcx : cubeB xs = true) (hcy : cubeB ys = true) :
    Calls Try.prog 41 #[u, v, .string sAnd] w (Made 3 w (mixL sAnd xs ys)) := by
  have hv := isBinaryRow_any u xs w h (by unfold maxLen; omega)
  rw [hcx] at hv
  have HV2 := Lib.hid fun w (h : Rd w v ys) => isBinaryRow_any v ys w h (by unfold maxLen; omega)
  rw [hcy] at HV2
  have hne : ((xs.length : Int) != (ys.length : Int)) = false := by simp [hn]
  obtain ⟨R, hR⟩ : ∃ R : Nat → Int, R = fun j => wrap64 (mixE (fun x y => x &&& y) (ix xs) (ix ys) 16 j) := ⟨_, rfl⟩
  have HF : Hid (mixL sAnd xs ys = tab xs.length R) := by show mixL sAnd xs ys = _; rw [mixL_arr _ _ _ hl hn, mixOp_and, hR]
  have HMX := Lib.hid fun W => implmixAnd_any (ix xs) (ix ys) W
  rw [← hR] at HMX
  have HI0 := kind_at0
  have HST0 := fun w => store_kind w (.string sOr) (.func (.func 86) #[] #[]) rfl rfl
  have HI1 := kind_at1
  have HST1 := fun w => store_kind w (.string sAnd) (.func (.func 87) #[] #[]) rfl rfl
  simp only [kindCells, sOr, sAnd, sXor] at HI0 HI1 HST0 HST1
  unfold sAnd at HF ⊢
  have H1 := Lib.hid h
  have H2 := Lib.hid h'
  obtain ⟨a, cap, rfl, -⟩ := h
  obtain ⟨a', cap', rfl, -⟩ := h'
  clear hn hcx hcy hR
  go_enter Try.func41, Try.ntmps41
  go_wp2_with fail
  refine hv.mono ?_
  rintro e w1 ⟨rfl, b1⟩
  go_wp2_with fail
  refine (HV2.out _ (H2.out.below b1 (Nat.le_refl _))).mono ?_
  rintro e w2 ⟨rfl, b2⟩
  go_wp2_with fail
  refine (mixKinds_any _).mono ?_
  rintro e w3 ⟨rfl, b3⟩
  have bb := bel_nxt (bel_nxt b1 b2) b3
  clear b1 b2 b3 hv HV2
  unfold kindCells sOr sAnd sXor
  go_wp2
  refine wp_loop_rounds 4 ?_
  rw [rounds_succ]
  go_wp2_with (with_reducible refine wpList_storev rfl (.tmp 8) (.tmp 28) 61 rfl _ rfl _ rfl (HST0 _ _ rfl) ?_)
  have bb := bb.alloc bb.size (.cells #[.string { data := #[111, 114] }, .func (.func 86) #[] #[]] 61)
  generalize w3.alloc (.cells #[.string { data := #[111, 114] }, .func (.func 86) #[] #[]] 61) = w30 at bb ⊢
  clear HI0 HST0
  rw [rounds_succ]
  go_wp2_with (with_reducible refine wpList_storev rfl (.tmp 8) (.tmp 28) 61 rfl _ rfl _ rfl (HST1 _ _ rfl) ?_)
  have b4 : Below w.heap.size w (w30.alloc (.cells #[.string { data := #[97, 110, 100] }, .func (.func 87) #[] #[]] 61)) := bb.alloc bb.size _
  have fD : (w30.alloc (.cells #[.string { data := #[97, 110, 100] }, .func (.func 87) #[] #[]] 61)).drew.cell? ⟨w30.heap.size, 1, none⟩ = some (.func (.func 87) #[] #[]) := by
    show (w30.alloc _).cell? _ = _
    rw [World.cell?_alloc_at _ _ _ _ rfl]; rfl
  have gD : w30.heap.size < (w30.alloc (.cells #[.string { data := #[97, 110, 100] }, .func (.func 87) #[] #[]] 61)).drew.heap.size := by show w30.heap.size < (w30.alloc _).heap.size; rw [size_one]; omega
  have bD := b4.drew
  generalize w30.heap.size = g at fD gD ⊢
  have HCA := Lib.hid fun W (hb : Below w.heap.size w W) => cellsOf_any _ xs W (H1.out.below hb (Nat.le_refl _)) hl
  have HCB := Lib.hid fun W (hb : Below w.heap.size w W) => cellsOf_any _ ys W (H2.out.below hb (Nat.le_refl _)) hl'
  clear b4 bb HI1 HST1
  refine wp_region_held_drew (S := fun w' => w'.cell? ⟨g, 1, none⟩ = some (.func (.func 87) #[] #[])) (by kernel_rfl) fD (fun hHeld => ?_)
  generalize (w30.alloc (.cells #[.string { data := #[97, 110, 100] }, .func (.func 87) #[] #[]] 61)).drew = WA at fD gD bD hHeld ⊢
  change wpAnyH _ _ _ _ _ _ _ _ _
  refine wpAnyH_take (i := 0) (v := ?v0) rfl (by kernel_rfl) (by kernel_rfl) (by kernel_rfl) (fun _ _ _ h => h) (Or.inl ⟨by rfl, ?y0⟩) hHeld ?_
  case y0 => (intro w hSw; (try dsimp only at hSw); go_simp; try with_reducible rfl)
  go_simp
  refine wpAnyH_take (i := 2) (v := ?v2) rfl (by kernel_rfl) (by kernel_rfl) (by kernel_rfl) (fun _ _ _ h => h) (Or.inl ⟨by rfl, ?y2⟩) hHeld ?_
  case y2 => (intro w hSw; (try dsimp only at hSw); go_simp; try with_reducible rfl)
  go_simp
  refine wpAnyH_take (i := 4) (v := ?v4) rfl (by kernel_rfl) (by kernel_rfl) (by kernel_rfl) (fun _ _ _ h => h) (Or.inl ⟨by rfl, ?y4⟩) hHeld ?_
  case y4 => (intro w hSw; (try dsimp only at hSw); go_simp; try with_reducible rfl)
  go_simp
  refine wpAnyH_take (i := 5) (v := ?v5) rfl (by kernel_rfl) (by kernel_rfl) (by kernel_rfl) (fun _ _ _ h => h) (Or.inl ⟨by rfl, ?y5⟩) hHeld ?_
  case y5 => (intro w hSw; (try dsimp only at hSw); go_simp; try with_reducible rfl)
  go_simp
  clear hHeld
  refine wpAnyH_ready (rs := [1, 7]) (by kernel_rfl) (by simp) ?_
  refine AllReadyH.cons rfl (fun K hK => ?_) (AllReadyH.cons rfl (fun K hK => ?_) AllReadyH.nil)
  · go_simp
    refine (HCA.out _ bD).mono ?_
    rintro e W1 ⟨rfl, bN⟩
    have fD := (bN.cell (p := ⟨g, 1, none⟩) gD).trans fD
    have gD := Nat.lt_of_lt_of_le gD bN.size
    have bD := bel_nxt bD bN
    clear bN
    go_simp
    refine hK.out _ _ fD (fun hHeld => ?_)
    clear hK K hHeld
    refine wpAnyH_ready (rs := [3, 7]) (by kernel_rfl) (by simp) ?_
    refine AllReadyH.cons rfl (fun K hK => ?_) (AllReadyH.cons rfl (fun K hK => ?_) AllReadyH.nil)
    · go_simp
      refine (HCB.out _ bD).mono ?_
      rintro e W2 ⟨rfl, bN⟩
      have fD := (bN.cell (p := ⟨g, 1, none⟩) gD).trans fD
      have gD := Nat.lt_of_lt_of_le gD bN.size
      have bD := bel_nxt bD bN
      clear bN
      go_simp
      refine hK.out _ _ fD (fun hHeld => ?_)
      clear hK K hHeld
      refine wpAnyH_ready (rs := [6, 7]) (by kernel_rfl) (by simp) ?_
      refine AllReadyH.cons rfl (fun K hK => ?_) (AllReadyH.cons rfl (fun K hK => ?_) AllReadyH.nil)
      · go_simp
        refine (HMX.out _).mono ?_
        rintro e W3 ⟨rfl, bN⟩
        have fD := (bN.cell (p := ⟨g, 1, none⟩) gD).trans fD
        have gD := Nat.lt_of_lt_of_le gD bN.size
        have bD := bel_nxt bD bN
        clear bN
        go_simp
        refine hK.out _ _ fD (fun hHeld => ?_)
        clear hK K hHeld
        refine wpAnyH_ready (rs := [7]) (by kernel_rfl) (by simp) ?_
        refine AllReadyH.cons rfl (fun K hK => ?_) AllReadyH.nil
        go_simp
        have zA : (W3.alloc (.cells #[Value.int IntKind.i64 0, Value.int IntKind.i64 0, Value.int IntKind.i64 0, Value.int IntKind.i64 0, Value.int IntKind.i64 0, Value.int IntKind.i64 0, Value.int IntKind.i64 0, Value.int IntKind.i64 0, Value.int IntKind.i64 0, Value.int IntKind.i64 0, Value.int IntKind.i64 0, Value.int IntKind.i64 0, Value.int IntKind.i64 0, Value.int IntKind.i64 0, Value.int IntKind.i64 0, Value.int IntKind.i64 0] 50)).heap[W3.heap.size]? = some (.cells zero16.toArray 50 (0, 0)) := heap_alloc_last W3 _
        have bN := Below.alloc (Below.refl W3.heap.size W3) (Nat.le_refl _) (.cells #[Value.int IntKind.i64 0, Value.int IntKind.i64 0, Value.int IntKind.i64 0, Value.int IntKind.i64 0, Value.int IntKind.i64 0, Value.int IntKind.i64 0, Value.int IntKind.i64 0, Value.int IntKind.i64 0, Value.int IntKind.i64 0, Value.int IntKind.i64 0, Value.int IntKind.i64 0, Value.int IntKind.i64 0, Value.int IntKind.i64 0, Value.int IntKind.i64 0, Value.int IntKind.i64 0, Value.int IntKind.i64 0] 50)
        have gne : g ≠ W3.heap.size := Nat.ne_of_lt gD
        have gw : w.heap.size ≤ W3.heap.size := bD.size
        have fD := (bN.cell (p := ⟨g, 1, none⟩) gD).trans fD
        have gD := Nat.lt_of_lt_of_le gD bN.size
        have bD := bel_nxt bD bN
        generalize W3.alloc (.cells #[Value.int IntKind.i64 0, Value.int IntKind.i64 0, Value.int IntKind.i64 0, Value.int IntKind.i64 0, Value.int IntKind.i64 0, Value.int IntKind.i64 0, Value.int IntKind.i64 0, Value.int IntKind.i64 0, Value.int IntKind.i64 0, Value.int IntKind.i64 0, Value.int IntKind.i64 0, Value.int IntKind.i64 0, Value.int IntKind.i64 0, Value.int IntKind.i64 0, Value.int IntKind.i64 0, Value.int IntKind.i64 0] 50) = W4 at zA fD gD bD bN ⊢
        generalize W3.heap.size = gz at zA gne gw bN ⊢
        clear bN
        refine hK.out _ _ fD (fun hHeld => ?_)
        clear hK K hHeld
        refine wpAnyH_ready (rs := [8]) (by kernel_rfl) (by simp) ?_
        refine AllReadyH.cons rfl (fun K hK => ?_) AllReadyH.nil
        rw [if_pos (by rfl)]
        have hst := store_arr (F := R) zA (by simp [zero16])
        refine wp_storev (.tmp 9) (.tmp 39) 50 rfl _ rfl _ rfl hst ?_
        simp only [Act.put]
        have fE : (W4.setRow gz (arr R)).cell? ⟨g, 1, none⟩ = some (.func (.func 87) #[] #[]) := by rw [World.cell?_of_block (w := W4) (setRow_other _ gz _ g gne)]; exact fD
        refine hK.out _ _ fE (fun hHeld => ?_)
        clear hK K hHeld
        refine wpAnyH_done (by kernel_rfl) ?_ _
        have bE : Below w.heap.size w (W4.setRow gz (arr R)) := below_setRow bD gw _
        have hO := own_arr bD.size gw zA R
        clear hst zA fE fD gD gne gw bD
        generalize W4.setRow gz (arr R) = WE at bE hO ⊢
        have hsl := slice_cells gz xs.length WE hl
        go_wp2_with fail
        refine (copyOf_any _ (tab xs.length R) _ (rd_arr hO hl) (by rw [len_tab]; omega)).mono ?_
        rintro e WF ⟨gr, rfl, hgr, oF, bF⟩
        rw [len_tab] at oF ⊢
        clear hsl hO
        go_wp2
        go_ret
        exact ⟨_, rfl, by rw [HF.out]; exact oF.mono bE.size, bel_nxt bE bF⟩
      · go_simp
        have zA : (W2.alloc (.cells #[Value.int IntKind.i64 0, Value.int IntKind.i64 0, Value.int IntKind.i64 0, Value.int IntKind.i64 0, Value.int IntKind.i64 0, Value.int IntKind.i64 0, Value.int IntKind.i64 0, Value.int IntKind.i64 0, Value.int IntKind.i64 0, Value.int IntKind.i64 0, Value.int IntKind.i64 0, Value.int IntKind.i64 0, Value.int IntKind.i64 0, Value.int IntKind.i64 0, Value.int IntKind.i64 0, Value.int IntKind.i64 0] 50)).heap[W2.heap.size]? = some (.cells zero16.toArray 50 (0, 0)) := heap_alloc_last W2 _
        have bN := Below.alloc (Below.refl W2.heap.size W2) (Nat.le_refl _) (.cells #[Value.int IntKind.i64 0, Value.int IntKind.i64 0, Value.int IntKind.i64 0, Value.int IntKind.i64 0, Value.int IntKind.i64 0, Value.int IntKind.i64 0, Value.int IntKind.i64 0, Value.int IntKind.i64 0, Value.int IntKind.i64 0, Value.int IntKind.i64 0, Value.int IntKind.i64 0, Value.int IntKind.i64 0, Value.int IntKind.i64 0, Value.int IntKind.i64 0, Value.int IntKind.i64 0, Value.int IntKind.i64 0] 50)
        have gne : g ≠ W2.heap.size := Nat.ne_of_lt gD
        have gw : w.heap.size ≤ W2.heap.size := bD.size
        have fD := (bN.cell (p := ⟨g, 1, none⟩) gD).trans fD
        have gD := Nat.lt_of_lt_of_le gD bN.size
        have bD := bel_nxt bD bN
        generalize W2.alloc (.cells #[Value.int IntKind.i64 0, Value.int IntKind.i64 0, Value.int IntKind.i64 0, Value.int IntKind.i64 0, Value.int IntKind.i64 0, Value.int IntKind.i64 0, Value.int IntKind.i64 0, Value.int IntKind.i64 0, Value.int IntKind.i64 0, Value.int IntKind.i64 0, Value.int IntKind.i64 0, Value.int IntKind.i64 0, Value.int IntKind.i64 0, Value.int IntKind.i64 0, Value.int IntKind.i64 0, Value.int IntKind.i64 0] 50) = W5 at zA fD gD bD bN ⊢
        generalize W2.heap.size = gz at zA gne gw bN ⊢
        clear bN
        refine hK.out _ _ fD (fun hHeld => ?_)
        clear hK K hHeld
        refine wpAnyH_ready (rs := [6]) (by kernel_rfl) (by simp) ?_
        refine AllReadyH.cons rfl (fun K hK => ?_) AllReadyH.nil
        go_simp
        refine (HMX.out _).mono ?_
        rintro e W6 ⟨rfl, bN⟩
        have zA := (bN.block gz (Array.getElem?_eq_some_iff.1 zA).1).trans zA
        have fD := (bN.cell (p := ⟨g, 1, none⟩) gD).trans fD
        have gD := Nat.lt_of_lt_of_le gD bN.size
        have bD := bel_nxt bD bN
        clear bN
        go_simp
        refine hK.out _ _ fD (fun hHeld => ?_)
        clear hK K hHeld
        refine wpAnyH_ready (rs := [8]) (by kernel_rfl) (by simp) ?_
        refine AllReadyH.cons rfl (fun K hK => ?_) AllReadyH.nil
        rw [if_pos (by rfl)]
        have hst := store_arr (F := R) zA (by simp [zero16])
        refine wp_storev (.tmp 9) (.tmp 39) 50 rfl _ rfl _ rfl hst ?_
        simp only [Act.put]
        have fE : (W6.setRow gz (arr R)).cell? ⟨g, 1, none⟩ = some (.func (.func 87) #[] #[]) := by rw [World.cell?_of_block (w := W6) (setRow_other _ gz _ g gne)]; exact fD
        refine hK.out _ _ fE (fun hHeld => ?_)
        clear hK K hHeld
        refine wpAnyH_done (by kernel_rfl) ?_ _
        have bE : Below w.heap.size w (W6.setRow gz (arr R)) := below_setRow bD gw _
        have hO := own_arr bD.size gw zA R
        clear hst zA fE fD gD gne gw bD
        generalize W6.setRow gz (arr R) = WE at bE hO ⊢
        have hsl := slice_cells gz xs.length WE hl
        go_wp2_with fail
        refine (copyOf_any _ (tab xs.length R) _ (rd_arr hO hl) (by rw [len_tab]; omega)).mono ?_
        rintro e WF ⟨gr, rfl, hgr, oF, bF⟩
        rw [len_tab] at oF ⊢
        clear hsl hO
        go_wp2
        go_ret
        exact ⟨_, rfl, by rw [HF.out]; exact oF.mono bE.size, bel_nxt bE bF⟩
    · go_simp
      have zA : (W1.alloc (.cells #[Value.int IntKind.i64 0, Value.int IntKind.i64 0, Value.int IntKind.i64 0, Value.int IntKind.i64 0, Value.int IntKind.i64 0, Value.int IntKind.i64 0, Value.int IntKind.i64 0, Value.int IntKind.i64 0, Value.int IntKind.i64 0, Value.int IntKind.i64 0, Value.int IntKind.i64 0, Value.int IntKind.i64 0, Value.int IntKind.i64 0, Value.int IntKind.i64 0, Value.int IntKind.i64 0, Value.int IntKind.i64 0] 50)).heap[W1.heap.size]? = some (.cells zero16.toArray 50 (0, 0)) := heap_alloc_last W1 _
      have bN := Below.alloc (Below.refl W1.heap.size W1) (Nat.le_refl _) (.cells #[Value.int IntKind.i64 0, Value.int IntKind.i64 0, Value.int IntKind.i64 0, Value.int IntKind.i64 0, Value.int IntKind.i64 0, Value.int IntKind.i64 0, Value.int IntKind.i64 0, Value.int IntKind.i64 0, Value.int IntKind.i64 0, Value.int IntKind.i64 0, Value.int IntKind.i64 0, Value.int IntKind.i64 0, Value.int IntKind.i64 0, Value.int IntKind.i64 0, Value.int IntKind.i64 0, Value.int IntKind.i64 0] 50)
      have gne : g ≠ W1.heap.size := Nat.ne_of_lt gD
      have gw : w.heap.size ≤ W1.heap.size := bD.size
      have fD := (bN.cell (p := ⟨g, 1, none⟩) gD).trans fD
      have gD := Nat.lt_of_lt_of_le gD bN.size
      have bD := bel_nxt bD bN
      generalize W1.alloc (.cells #[Value.int IntKind.i64 0, Value.int IntKind.i64 0, Value.int IntKind.i64 0, Value.int IntKind.i64 0, Value.int IntKind.i64 0, Value.int IntKind.i64 0, Value.int IntKind.i64 0, Value.int IntKind.i64 0, Value.int IntKind.i64 0, Value.int IntKind.i64 0, Value.int IntKind.i64 0, Value.int IntKind.i64 0, Value.int IntKind.i64 0, Value.int IntKind.i64 0, Value.int IntKind.i64 0, Value.int IntKind.i64 0] 50) = W7 at zA fD gD bD bN ⊢
      generalize W1.heap.size = gz at zA gne gw bN ⊢
      clear bN
      refine hK.out _ _ fD (fun hHeld => ?_)
      clear hK K hHeld
      refine wpAnyH_ready (rs := [3]) (by kernel_rfl) (by simp) ?_
      refine AllReadyH.cons rfl (fun K hK => ?_) AllReadyH.nil
      go_simp
      refine (HCB.out _ bD).mono ?_
      rintro e W8 ⟨rfl, bN⟩
      have zA := (bN.block gz (Array.getElem?_eq_some_iff.1 zA).1).trans zA
      have fD := (bN.cell (p := ⟨g, 1, none⟩) gD).trans fD
      have gD := Nat.lt_of_lt_of_le gD bN.size
      have bD := bel_nxt bD bN
      clear bN
      go_simp
      refine hK.out _ _ fD (fun hHeld => ?_)
      clear hK K hHeld
      refine wpAnyH_ready (rs := [6]) (by kernel_rfl) (by simp) ?_
      refine AllReadyH.cons rfl (fun K hK => ?_) AllReadyH.nil
      go_simp
      refine (HMX.out _).mono ?_
      rintro e W9 ⟨rfl, bN⟩
      have zA := (bN.block gz (Array.getElem?_eq_some_iff.1 zA).1).trans zA
      have fD := (bN.cell (p := ⟨g, 1, none⟩) gD).trans fD
      have gD := Nat.lt_of_lt_of_le gD bN.size
      have bD := bel_nxt bD bN
      clear bN
      go_simp
      refine hK.out _ _ fD (fun hHeld => ?_)
      clear hK K hHeld
      refine wpAnyH_ready (rs := [8]) (by kernel_rfl) (by simp) ?_
      refine AllReadyH.cons rfl (fun K hK => ?_) AllReadyH.nil
      rw [if_pos (by rfl)]
      have hst := store_arr (F := R) zA (by simp [zero16])
      refine wp_storev (.tmp 9) (.tmp 39) 50 rfl _ rfl _ rfl hst ?_
      simp only [Act.put]
      have fE : (W9.setRow gz (arr R)).cell? ⟨g, 1, none⟩ = some (.func (.func 87) #[] #[]) := by rw [World.cell?_of_block (w := W9) (setRow_other _ gz _ g gne)]; exact fD
      refine hK.out _ _ fE (fun hHeld => ?_)
      clear hK K hHeld
      refine wpAnyH_done (by kernel_rfl) ?_ _
      have bE : Below w.heap.size w (W9.setRow gz (arr R)) := below_setRow bD gw _
      have hO := own_arr bD.size gw zA R
      clear hst zA fE fD gD gne gw bD
      generalize W9.setRow gz (arr R) = WE at bE hO ⊢
      have hsl := slice_cells gz xs.length WE hl
      go_wp2_with fail
      refine (copyOf_any _ (tab xs.length R) _ (rd_arr hO hl) (by rw [len_tab]; omega)).mono ?_
      rintro e WF ⟨gr, rfl, hgr, oF, bF⟩
      rw [len_tab] at oF ⊢
      clear hsl hO
      go_wp2
      go_ret
      exact ⟨_, rfl, by rw [HF.out]; exact oF.mono bE.size, bel_nxt bE bF⟩
  · go_simp
    have zA : (WA.alloc (.cells #[Value.int IntKind.i64 0, Value.int IntKind.i64 0, Value.int IntKind.i64 0, Value.int IntKind.i64 0, Value.int IntKind.i64 0, Value.int IntKind.i64 0, Value.int IntKind.i64 0, Value.int IntKind.i64 0, Value.int IntKind.i64 0, Value.int IntKind.i64 0, Value.int IntKind.i64 0, Value.int IntKind.i64 0, Value.int IntKind.i64 0, Value.int IntKind.i64 0, Value.int IntKind.i64 0, Value.int IntKind.i64 0] 50)).heap[WA.heap.size]? = some (.cells zero16.toArray 50 (0, 0)) := heap_alloc_last WA _
    have bN := Below.alloc (Below.refl WA.heap.size WA) (Nat.le_refl _) (.cells #[Value.int IntKind.i64 0, Value.int IntKind.i64 0, Value.int IntKind.i64 0, Value.int IntKind.i64 0, Value.int IntKind.i64 0, Value.int IntKind.i64 0, Value.int IntKind.i64 0, Value.int IntKind.i64 0, Value.int IntKind.i64 0, Value.int IntKind.i64 0, Value.int IntKind.i64 0, Value.int IntKind.i64 0, Value.int IntKind.i64 0, Value.int IntKind.i64 0, Value.int IntKind.i64 0, Value.int IntKind.i64 0] 50)
    have gne : g ≠ WA.heap.size := Nat.ne_of_lt gD
    have gw : w.heap.size ≤ WA.heap.size := bD.size
    have fD := (bN.cell (p := ⟨g, 1, none⟩) gD).trans fD
    have gD := Nat.lt_of_lt_of_le gD bN.size
    have bD := bel_nxt bD bN
    generalize WA.alloc (.cells #[Value.int IntKind.i64 0, Value.int IntKind.i64 0, Value.int IntKind.i64 0, Value.int IntKind.i64 0, Value.int IntKind.i64 0, Value.int IntKind.i64 0, Value.int IntKind.i64 0, Value.int IntKind.i64 0, Value.int IntKind.i64 0, Value.int IntKind.i64 0, Value.int IntKind.i64 0, Value.int IntKind.i64 0, Value.int IntKind.i64 0, Value.int IntKind.i64 0, Value.int IntKind.i64 0, Value.int IntKind.i64 0] 50) = W10 at zA fD gD bD bN ⊢
    generalize WA.heap.size = gz at zA gne gw bN ⊢
    clear bN
    refine hK.out _ _ fD (fun hHeld => ?_)
    clear hK K hHeld
    refine wpAnyH_ready (rs := [1]) (by kernel_rfl) (by simp) ?_
    refine AllReadyH.cons rfl (fun K hK => ?_) AllReadyH.nil
    go_simp
    refine (HCA.out _ bD).mono ?_
    rintro e W11 ⟨rfl, bN⟩
    have zA := (bN.block gz (Array.getElem?_eq_some_iff.1 zA).1).trans zA
    have fD := (bN.cell (p := ⟨g, 1, none⟩) gD).trans fD
    have gD := Nat.lt_of_lt_of_le gD bN.size
    have bD := bel_nxt bD bN
    clear bN
    go_simp
    refine hK.out _ _ fD (fun hHeld => ?_)
    clear hK K hHeld
    refine wpAnyH_ready (rs := [3]) (by kernel_rfl) (by simp) ?_
    refine AllReadyH.cons rfl (fun K hK => ?_) AllReadyH.nil
    go_simp
    refine (HCB.out _ bD).mono ?_
    rintro e W12 ⟨rfl, bN⟩
    have zA := (bN.block gz (Array.getElem?_eq_some_iff.1 zA).1).trans zA
    have fD := (bN.cell (p := ⟨g, 1, none⟩) gD).trans fD
    have gD := Nat.lt_of_lt_of_le gD bN.size
    have bD := bel_nxt bD bN
    clear bN
    go_simp
    refine hK.out _ _ fD (fun hHeld => ?_)
    clear hK K hHeld
    refine wpAnyH_ready (rs := [6]) (by kernel_rfl) (by simp) ?_
    refine AllReadyH.cons rfl (fun K hK => ?_) AllReadyH.nil
    go_simp
    refine (HMX.out _).mono ?_
    rintro e W13 ⟨rfl, bN⟩
    have zA := (bN.block gz (Array.getElem?_eq_some_iff.1 zA).1).trans zA
    have fD := (bN.cell (p := ⟨g, 1, none⟩) gD).trans fD
    have gD := Nat.lt_of_lt_of_le gD bN.size
    have bD := bel_nxt bD bN
    clear bN
    go_simp
    refine hK.out _ _ fD (fun hHeld => ?_)
    clear hK K hHeld
    refine wpAnyH_ready (rs := [8]) (by kernel_rfl) (by simp) ?_
    refine AllReadyH.cons rfl (fun K hK => ?_) AllReadyH.nil
    rw [if_pos (by rfl)]
    have hst := store_arr (F := R) zA (by simp [zero16])
    refine wp_storev (.tmp 9) (.tmp 39) 50 rfl _ rfl _ rfl hst ?_
    simp only [Act.put]
    have fE : (W13.setRow gz (arr R)).cell? ⟨g, 1, none⟩ = some (.func (.func 87) #[] #[]) := by rw [World.cell?_of_block (w := W13) (setRow_other _ gz _ g gne)]; exact fD
    refine hK.out _ _ fE (fun hHeld => ?_)
    clear hK K hHeld
    refine wpAnyH_done (by kernel_rfl) ?_ _
    have bE : Below w.heap.size w (W13.setRow gz (arr R)) := below_setRow bD gw _
    have hO := own_arr bD.size gw zA R
    clear hst zA fE fD gD gne gw bD
    generalize W13.setRow gz (arr R) = WE at bE hO ⊢
    have hsl := slice_cells gz xs.length WE hl
    go_wp2_with fail
    refine (copyOf_any _ (tab xs.length R) _ (rd_arr hO hl) (by rw [len_tab]; omega)).mono ?_
    rintro e WF ⟨gr, rfl, hgr, oF, bF⟩
    rw [len_tab] at oF ⊢
    clear hsl hO
    go_wp2
    go_ret
    exact ⟨_, rfl, by rw [HF.out]; exact oF.mono bE.size, bel_nxt bE bF⟩

set_option maxHeartbeats 16000000 in
theorem implMixXor_any (u v : Value) (xs ys : List Int) (w : World) (h : Rd w u xs) (h' : Rd w v ys) (hl : xs.length ≤ 16) (hl' : ys.length ≤ 16) (hn : xs.length = ys.length) (hcx : cubeB xs = true) (hcy : cubeB ys = true) :
    Calls Try.prog 41 #[u, v, .string sXor] w (Made 3 w (mixL sXor xs ys)) := by
  have hv := isBinaryRow_any u xs w h (by unfold maxLen; omega)
  rw [hcx] at hv
  have HV2 := Lib.hid fun w (h : Rd w v ys) => isBinaryRow_any v ys w h (by unfold maxLen; omega)
  rw [hcy] at HV2
  have hne : ((xs.length : Int) != (ys.length : Int)) = false := by simp [hn]
  obtain ⟨R, hR⟩ : ∃ R : Nat → Int, R = fun j => wrap64 (mixE (fun x y => x ^^^ y) (ix xs) (ix ys) 16 j) := ⟨_, rfl⟩
  have HF : Hid (mixL sXor xs ys = tab xs.length R) := by show mixL sXor xs ys = _; rw [mixL_arr _ _ _ hl hn, mixOp_xor, hR]
  have HMX := Lib.hid fun W => implmixXor_any (ix xs) (ix ys) W
  rw [← hR] at HMX
  have HI0 := kind_at0
  have HST0 := fun w => store_kind w (.string sOr) (.func (.func 86) #[] #[]) rfl rfl
  have HI1 := kind_at1
  have HST1 := fun w => store_kind w (.string sAnd) (.func (.func 87) #[] #[]) rfl rfl
  have HI2 := kind_at2
  have HST2 := fun w => store_kind w (.string sXor) (.func (.func 88) #[] #[]) rfl rfl
  simp only [kindCells, sOr, sAnd, sXor] at HI0 HI1 HI2 HST0 HST1 HST2
  unfold sXor at HF ⊢
  have H1 := Lib.hid h
  have H2 := Lib.hid h'
  obtain ⟨a, cap, rfl, -⟩ := h
  obtain ⟨a', cap', rfl, -⟩ := h'
  clear hn hcx hcy hR
  go_enter Try.func41, Try.ntmps41
  go_wp2_with fail
  refine hv.mono ?_
  rintro e w1 ⟨rfl, b1⟩
  go_wp2_with fail
  refine (HV2.out _ (H2.out.below b1 (Nat.le_refl _))).mono ?_
  rintro e w2 ⟨rfl, b2⟩
  go_wp2_with fail
  refine (mixKinds_any _).mono ?_
  rintro e w3 ⟨rfl, b3⟩
  have bb := bel_nxt (bel_nxt b1 b2) b3
  clear b1 b2 b3 hv HV2
  unfold kindCells sOr sAnd sXor
  go_wp2
  refine wp_loop_rounds 4 ?_
  rw [rounds_succ]
  go_wp2_with (with_reducible refine wpList_storev rfl (.tmp 8) (.tmp 28) 61 rfl _ rfl _ rfl (HST0 _ _ rfl) ?_)
  have bb := bb.alloc bb.size (.cells #[.string { data := #[111, 114] }, .func (.func 86) #[] #[]] 61)
  generalize w3.alloc (.cells #[.string { data := #[111, 114] }, .func (.func 86) #[] #[]] 61) = w30 at bb ⊢
  clear HI0 HST0
  rw [rounds_succ]
  go_wp2_with (with_reducible refine wpList_storev rfl (.tmp 8) (.tmp 28) 61 rfl _ rfl _ rfl (HST1 _ _ rfl) ?_)
  have bb := bb.alloc bb.size (.cells #[.string { data := #[97, 110, 100] }, .func (.func 87) #[] #[]] 61)
  generalize w30.alloc (.cells #[.string { data := #[97, 110, 100] }, .func (.func 87) #[] #[]] 61) = w31 at bb ⊢
  clear HI1 HST1
  rw [rounds_succ]
  go_wp2_with (with_reducible refine wpList_storev rfl (.tmp 8) (.tmp 28) 61 rfl _ rfl _ rfl (HST2 _ _ rfl) ?_)
  have b4 : Below w.heap.size w (w31.alloc (.cells #[.string { data := #[120, 111, 114] }, .func (.func 88) #[] #[]] 61)) := bb.alloc bb.size _
  have fD : (w31.alloc (.cells #[.string { data := #[120, 111, 114] }, .func (.func 88) #[] #[]] 61)).drew.cell? ⟨w31.heap.size, 1, none⟩ = some (.func (.func 88) #[] #[]) := by
    show (w31.alloc _).cell? _ = _
    rw [World.cell?_alloc_at _ _ _ _ rfl]; rfl
  have gD : w31.heap.size < (w31.alloc (.cells #[.string { data := #[120, 111, 114] }, .func (.func 88) #[] #[]] 61)).drew.heap.size := by show w31.heap.size < (w31.alloc _).heap.size; rw [size_one]; omega
  have bD := b4.drew
  generalize w31.heap.size = g at fD gD ⊢
  have HCA := Lib.hid fun W (hb : Below w.heap.size w W) => cellsOf_any _ xs W (H1.out.below hb (Nat.le_refl _)) hl
  have HCB := Lib.hid fun W (hb : Below w.heap.size w W) => cellsOf_any _ ys W (H2.out.below hb (Nat.le_refl _)) hl'
  clear b4 bb HI2 HST2
  refine wp_region_held_drew (S := fun w' => w'.cell? ⟨g, 1, none⟩ = some (.func (.func 88) #[] #[])) (by kernel_rfl) fD (fun hHeld => ?_)
  generalize (w31.alloc (.cells #[.string { data := #[120, 111, 114] }, .func (.func 88) #[] #[]] 61)).drew = WA at fD gD bD hHeld ⊢
  change wpAnyH _ _ _ _ _ _ _ _ _
  refine wpAnyH_take (i := 0) (v := ?v0) rfl (by kernel_rfl) (by kernel_rfl) (by kernel_rfl) (fun _ _ _ h => h) (Or.inl ⟨by rfl, ?y0⟩) hHeld ?_
  case y0 => (intro w hSw; (try dsimp only at hSw); go_simp; try with_reducible rfl)
  go_simp
  refine wpAnyH_take (i := 2) (v := ?v2) rfl (by kernel_rfl) (by kernel_rfl) (by kernel_rfl) (fun _ _ _ h => h) (Or.inl ⟨by rfl, ?y2⟩) hHeld ?_
  case y2 => (intro w hSw; (try dsimp only at hSw); go_simp; try with_reducible rfl)
  go_simp
  refine wpAnyH_take (i := 4) (v := ?v4) rfl (by kernel_rfl) (by kernel_rfl) (by kernel_rfl) (fun _ _ _ h => h) (Or.inl ⟨by rfl, ?y4⟩) hHeld ?_
  case y4 => (intro w hSw; (try dsimp only at hSw); go_simp; try with_reducible rfl)
  go_simp
  refine wpAnyH_take (i := 5) (v := ?v5) rfl (by kernel_rfl) (by kernel_rfl) (by kernel_rfl) (fun _ _ _ h => h) (Or.inl ⟨by rfl, ?y5⟩) hHeld ?_
  case y5 => (intro w hSw; (try dsimp only at hSw); go_simp; try with_reducible rfl)
  go_simp
  clear hHeld
  refine wpAnyH_ready (rs := [1, 7]) (by kernel_rfl) (by simp) ?_
  refine AllReadyH.cons rfl (fun K hK => ?_) (AllReadyH.cons rfl (fun K hK => ?_) AllReadyH.nil)
  · go_simp
    refine (HCA.out _ bD).mono ?_
    rintro e W1 ⟨rfl, bN⟩
    have fD := (bN.cell (p := ⟨g, 1, none⟩) gD).trans fD
    have gD := Nat.lt_of_lt_of_le gD bN.size
    have bD := bel_nxt bD bN
    clear bN
    go_simp
    refine hK.out _ _ fD (fun hHeld => ?_)
    clear hK K hHeld
    refine wpAnyH_ready (rs := [3, 7]) (by kernel_rfl) (by simp) ?_
    refine AllReadyH.cons rfl (fun K hK => ?_) (AllReadyH.cons rfl (fun K hK => ?_) AllReadyH.nil)
    · go_simp
      refine (HCB.out _ bD).mono ?_
      rintro e W2 ⟨rfl, bN⟩
      have fD := (bN.cell (p := ⟨g, 1, none⟩) gD).trans fD
      have gD := Nat.lt_of_lt_of_le gD bN.size
      have bD := bel_nxt bD bN
      clear bN
      go_simp
      refine hK.out _ _ fD (fun hHeld => ?_)
      clear hK K hHeld
      refine wpAnyH_ready (rs := [6, 7]) (by kernel_rfl) (by simp) ?_
      refine AllReadyH.cons rfl (fun K hK => ?_) (AllReadyH.cons rfl (fun K hK => ?_) AllReadyH.nil)
      · go_simp
        refine (HMX.out _).mono ?_
        rintro e W3 ⟨rfl, bN⟩
        have fD := (bN.cell (p := ⟨g, 1, none⟩) gD).trans fD
        have gD := Nat.lt_of_lt_of_le gD bN.size
        have bD := bel_nxt bD bN
        clear bN
        go_simp
        refine hK.out _ _ fD (fun hHeld => ?_)
        clear hK K hHeld
        refine wpAnyH_ready (rs := [7]) (by kernel_rfl) (by simp) ?_
        refine AllReadyH.cons rfl (fun K hK => ?_) AllReadyH.nil
        go_simp
        have zA : (W3.alloc (.cells #[Value.int IntKind.i64 0, Value.int IntKind.i64 0, Value.int IntKind.i64 0, Value.int IntKind.i64 0, Value.int IntKind.i64 0, Value.int IntKind.i64 0, Value.int IntKind.i64 0, Value.int IntKind.i64 0, Value.int IntKind.i64 0, Value.int IntKind.i64 0, Value.int IntKind.i64 0, Value.int IntKind.i64 0, Value.int IntKind.i64 0, Value.int IntKind.i64 0, Value.int IntKind.i64 0, Value.int IntKind.i64 0] 50)).heap[W3.heap.size]? = some (.cells zero16.toArray 50 (0, 0)) := heap_alloc_last W3 _
        have bN := Below.alloc (Below.refl W3.heap.size W3) (Nat.le_refl _) (.cells #[Value.int IntKind.i64 0, Value.int IntKind.i64 0, Value.int IntKind.i64 0, Value.int IntKind.i64 0, Value.int IntKind.i64 0, Value.int IntKind.i64 0, Value.int IntKind.i64 0, Value.int IntKind.i64 0, Value.int IntKind.i64 0, Value.int IntKind.i64 0, Value.int IntKind.i64 0, Value.int IntKind.i64 0, Value.int IntKind.i64 0, Value.int IntKind.i64 0, Value.int IntKind.i64 0, Value.int IntKind.i64 0] 50)
        have gne : g ≠ W3.heap.size := Nat.ne_of_lt gD
        have gw : w.heap.size ≤ W3.heap.size := bD.size
        have fD := (bN.cell (p := ⟨g, 1, none⟩) gD).trans fD
        have gD := Nat.lt_of_lt_of_le gD bN.size
        have bD := bel_nxt bD bN
        generalize W3.alloc (.cells #[Value.int IntKind.i64 0, Value.int IntKind.i64 0, Value.int IntKind.i64 0, Value.int IntKind.i64 0, Value.int IntKind.i64 0, Value.int IntKind.i64 0, Value.int IntKind.i64 0, Value.int IntKind.i64 0, Value.int IntKind.i64 0, Value.int IntKind.i64 0, Value.int IntKind.i64 0, Value.int IntKind.i64 0, Value.int IntKind.i64 0, Value.int IntKind.i64 0, Value.int IntKind.i64 0, Value.int IntKind.i64 0] 50) = W4 at zA fD gD bD bN ⊢
        generalize W3.heap.size = gz at zA gne gw bN ⊢
        clear bN
        refine hK.out _ _ fD (fun hHeld => ?_)
        clear hK K hHeld
        refine wpAnyH_ready (rs := [8]) (by kernel_rfl) (by simp) ?_
        refine AllReadyH.cons rfl (fun K hK => ?_) AllReadyH.nil
        rw [if_pos (by rfl)]
        have hst := store_arr (F := R) zA (by simp [zero16])
        refine wp_storev (.tmp 9) (.tmp 39) 50 rfl _ rfl _ rfl hst ?_
        simp only [Act.put]
        have fE : (W4.setRow gz (arr R)).cell? ⟨g, 1, none⟩ = some (.func (.func 88) #[] #[]) := by rw [World.cell?_of_block (w := W4) (setRow_other _ gz _ g gne)]; exact fD
        refine hK.out _ _ fE (fun hHeld => ?_)
        clear hK K hHeld
        refine wpAnyH_done (by kernel_rfl) ?_ _
        have bE : Below w.heap.size w (W4.setRow gz (arr R)) := below_setRow bD gw _
        have hO := own_arr bD.size gw zA R
        clear hst zA fE fD gD gne gw bD
        generalize W4.setRow gz (arr R) = WE at bE hO ⊢
        have hsl := slice_cells gz xs.length WE hl
        go_wp2_with fail
        refine (copyOf_any _ (tab xs.length R) _ (rd_arr hO hl) (by rw [len_tab]; omega)).mono ?_
        rintro e WF ⟨gr, rfl, hgr, oF, bF⟩
        rw [len_tab] at oF ⊢
        clear hsl hO
        go_wp2
        go_ret
        exact ⟨_, rfl, by rw [HF.out]; exact oF.mono bE.size, bel_nxt bE bF⟩
      · go_simp
        have zA : (W2.alloc (.cells #[Value.int IntKind.i64 0, Value.int IntKind.i64 0, Value.int IntKind.i64 0, Value.int IntKind.i64 0, Value.int IntKind.i64 0, Value.int IntKind.i64 0, Value.int IntKind.i64 0, Value.int IntKind.i64 0, Value.int IntKind.i64 0, Value.int IntKind.i64 0, Value.int IntKind.i64 0, Value.int IntKind.i64 0, Value.int IntKind.i64 0, Value.int IntKind.i64 0, Value.int IntKind.i64 0, Value.int IntKind.i64 0] 50)).heap[W2.heap.size]? = some (.cells zero16.toArray 50 (0, 0)) := heap_alloc_last W2 _
        have bN := Below.alloc (Below.refl W2.heap.size W2) (Nat.le_refl _) (.cells #[Value.int IntKind.i64 0, Value.int IntKind.i64 0, Value.int IntKind.i64 0, Value.int IntKind.i64 0, Value.int IntKind.i64 0, Value.int IntKind.i64 0, Value.int IntKind.i64 0, Value.int IntKind.i64 0, Value.int IntKind.i64 0, Value.int IntKind.i64 0, Value.int IntKind.i64 0, Value.int IntKind.i64 0, Value.int IntKind.i64 0, Value.int IntKind.i64 0, Value.int IntKind.i64 0, Value.int IntKind.i64 0] 50)
        have gne : g ≠ W2.heap.size := Nat.ne_of_lt gD
        have gw : w.heap.size ≤ W2.heap.size := bD.size
        have fD := (bN.cell (p := ⟨g, 1, none⟩) gD).trans fD
        have gD := Nat.lt_of_lt_of_le gD bN.size
        have bD := bel_nxt bD bN
        generalize W2.alloc (.cells #[Value.int IntKind.i64 0, Value.int IntKind.i64 0, Value.int IntKind.i64 0, Value.int IntKind.i64 0, Value.int IntKind.i64 0, Value.int IntKind.i64 0, Value.int IntKind.i64 0, Value.int IntKind.i64 0, Value.int IntKind.i64 0, Value.int IntKind.i64 0, Value.int IntKind.i64 0, Value.int IntKind.i64 0, Value.int IntKind.i64 0, Value.int IntKind.i64 0, Value.int IntKind.i64 0, Value.int IntKind.i64 0] 50) = W5 at zA fD gD bD bN ⊢
        generalize W2.heap.size = gz at zA gne gw bN ⊢
        clear bN
        refine hK.out _ _ fD (fun hHeld => ?_)
        clear hK K hHeld
        refine wpAnyH_ready (rs := [6]) (by kernel_rfl) (by simp) ?_
        refine AllReadyH.cons rfl (fun K hK => ?_) AllReadyH.nil
        go_simp
        refine (HMX.out _).mono ?_
        rintro e W6 ⟨rfl, bN⟩
        have zA := (bN.block gz (Array.getElem?_eq_some_iff.1 zA).1).trans zA
        have fD := (bN.cell (p := ⟨g, 1, none⟩) gD).trans fD
        have gD := Nat.lt_of_lt_of_le gD bN.size
        have bD := bel_nxt bD bN
        clear bN
        go_simp
        refine hK.out _ _ fD (fun hHeld => ?_)
        clear hK K hHeld
        refine wpAnyH_ready (rs := [8]) (by kernel_rfl) (by simp) ?_
        refine AllReadyH.cons rfl (fun K hK => ?_) AllReadyH.nil
        rw [if_pos (by rfl)]
        have hst := store_arr (F := R) zA (by simp [zero16])
        refine wp_storev (.tmp 9) (.tmp 39) 50 rfl _ rfl _ rfl hst ?_
        simp only [Act.put]
        have fE : (W6.setRow gz (arr R)).cell? ⟨g, 1, none⟩ = some (.func (.func 88) #[] #[]) := by rw [World.cell?_of_block (w := W6) (setRow_other _ gz _ g gne)]; exact fD
        refine hK.out _ _ fE (fun hHeld => ?_)
        clear hK K hHeld
        refine wpAnyH_done (by kernel_rfl) ?_ _
        have bE : Below w.heap.size w (W6.setRow gz (arr R)) := below_setRow bD gw _
        have hO := own_arr bD.size gw zA R
        clear hst zA fE fD gD gne gw bD
        generalize W6.setRow gz (arr R) = WE at bE hO ⊢
        have hsl := slice_cells gz xs.length WE hl
        go_wp2_with fail
        refine (copyOf_any _ (tab xs.length R) _ (rd_arr hO hl) (by rw [len_tab]; omega)).mono ?_
        rintro e WF ⟨gr, rfl, hgr, oF, bF⟩
        rw [len_tab] at oF ⊢
        clear hsl hO
        go_wp2
        go_ret
        exact ⟨_, rfl, by rw [HF.out]; exact oF.mono bE.size, bel_nxt bE bF⟩
    · go_simp
      have zA : (W1.alloc (.cells #[Value.int IntKind.i64 0, Value.int IntKind.i64 0, Value.int IntKind.i64 0, Value.int IntKind.i64 0, Value.int IntKind.i64 0, Value.int IntKind.i64 0, Value.int IntKind.i64 0, Value.int IntKind.i64 0, Value.int IntKind.i64 0, Value.int IntKind.i64 0, Value.int IntKind.i64 0, Value.int IntKind.i64 0, Value.int IntKind.i64 0, Value.int IntKind.i64 0, Value.int IntKind.i64 0, Value.int IntKind.i64 0] 50)).heap[W1.heap.size]? = some (.cells zero16.toArray 50 (0, 0)) := heap_alloc_last W1 _
      have bN := Below.alloc (Below.refl W1.heap.size W1) (Nat.le_refl _) (.cells #[Value.int IntKind.i64 0, Value.int IntKind.i64 0, Value.int IntKind.i64 0, Value.int IntKind.i64 0, Value.int IntKind.i64 0, Value.int IntKind.i64 0, Value.int IntKind.i64 0, Value.int IntKind.i64 0, Value.int IntKind.i64 0, Value.int IntKind.i64 0, Value.int IntKind.i64 0, Value.int IntKind.i64 0, Value.int IntKind.i64 0, Value.int IntKind.i64 0, Value.int IntKind.i64 0, Value.int IntKind.i64 0] 50)
      have gne : g ≠ W1.heap.size := Nat.ne_of_lt gD
      have gw : w.heap.size ≤ W1.heap.size := bD.size
      have fD := (bN.cell (p := ⟨g, 1, none⟩) gD).trans fD
      have gD := Nat.lt_of_lt_of_le gD bN.size
      have bD := bel_nxt bD bN
      generalize W1.alloc (.cells #[Value.int IntKind.i64 0, Value.int IntKind.i64 0, Value.int IntKind.i64 0, Value.int IntKind.i64 0, Value.int IntKind.i64 0, Value.int IntKind.i64 0, Value.int IntKind.i64 0, Value.int IntKind.i64 0, Value.int IntKind.i64 0, Value.int IntKind.i64 0, Value.int IntKind.i64 0, Value.int IntKind.i64 0, Value.int IntKind.i64 0, Value.int IntKind.i64 0, Value.int IntKind.i64 0, Value.int IntKind.i64 0] 50) = W7 at zA fD gD bD bN ⊢
      generalize W1.heap.size = gz at zA gne gw bN ⊢
      clear bN
      refine hK.out _ _ fD (fun hHeld => ?_)
      clear hK K hHeld
      refine wpAnyH_ready (rs := [3]) (by kernel_rfl) (by simp) ?_
      refine AllReadyH.cons rfl (fun K hK => ?_) AllReadyH.nil
      go_simp
      refine (HCB.out _ bD).mono ?_
      rintro e W8 ⟨rfl, bN⟩
      have zA := (bN.block gz (Array.getElem?_eq_some_iff.1 zA).1).trans zA
      have fD := (bN.cell (p := ⟨g, 1, none⟩) gD).trans fD
      have gD := Nat.lt_of_lt_of_le gD bN.size
      have bD := bel_nxt bD bN
      clear bN
      go_simp
      refine hK.out _ _ fD (fun hHeld => ?_)
      clear hK K hHeld
      refine wpAnyH_ready (rs := [6]) (by kernel_rfl) (by simp) ?_
      refine AllReadyH.cons rfl (fun K hK => ?_) AllReadyH.nil
      go_simp
      refine (HMX.out _).mono ?_
      rintro e W9 ⟨rfl, bN⟩
      have zA := (bN.block gz (Array.getElem?_eq_some_iff.1 zA).1).trans zA
      have fD := (bN.cell (p := ⟨g, 1, none⟩) gD).trans fD
      have gD := Nat.lt_of_lt_of_le gD bN.size
      have bD := bel_nxt bD bN
      clear bN
      go_simp
      refine hK.out _ _ fD (fun hHeld => ?_)
      clear hK K hHeld
      refine wpAnyH_ready (rs := [8]) (by kernel_rfl) (by simp) ?_
      refine AllReadyH.cons rfl (fun K hK => ?_) AllReadyH.nil
      rw [if_pos (by rfl)]
      have hst := store_arr (F := R) zA (by simp [zero16])
      refine wp_storev (.tmp 9) (.tmp 39) 50 rfl _ rfl _ rfl hst ?_
      simp only [Act.put]
      have fE : (W9.setRow gz (arr R)).cell? ⟨g, 1, none⟩ = some (.func (.func 88) #[] #[]) := by rw [World.cell?_of_block (w := W9) (setRow_other _ gz _ g gne)]; exact fD
      refine hK.out _ _ fE (fun hHeld => ?_)
      clear hK K hHeld
      refine wpAnyH_done (by kernel_rfl) ?_ _
      have bE : Below w.heap.size w (W9.setRow gz (arr R)) := below_setRow bD gw _
      have hO := own_arr bD.size gw zA R
      clear hst zA fE fD gD gne gw bD
      generalize W9.setRow gz (arr R) = WE at bE hO ⊢
      have hsl := slice_cells gz xs.length WE hl
      go_wp2_with fail
      refine (copyOf_any _ (tab xs.length R) _ (rd_arr hO hl) (by rw [len_tab]; omega)).mono ?_
      rintro e WF ⟨gr, rfl, hgr, oF, bF⟩
      rw [len_tab] at oF ⊢
      clear hsl hO
      go_wp2
      go_ret
      exact ⟨_, rfl, by rw [HF.out]; exact oF.mono bE.size, bel_nxt bE bF⟩
  · go_simp
    have zA : (WA.alloc (.cells #[Value.int IntKind.i64 0, Value.int IntKind.i64 0, Value.int IntKind.i64 0, Value.int IntKind.i64 0, Value.int IntKind.i64 0, Value.int IntKind.i64 0, Value.int IntKind.i64 0, Value.int IntKind.i64 0, Value.int IntKind.i64 0, Value.int IntKind.i64 0, Value.int IntKind.i64 0, Value.int IntKind.i64 0, Value.int IntKind.i64 0, Value.int IntKind.i64 0, Value.int IntKind.i64 0, Value.int IntKind.i64 0] 50)).heap[WA.heap.size]? = some (.cells zero16.toArray 50 (0, 0)) := heap_alloc_last WA _
    have bN := Below.alloc (Below.refl WA.heap.size WA) (Nat.le_refl _) (.cells #[Value.int IntKind.i64 0, Value.int IntKind.i64 0, Value.int IntKind.i64 0, Value.int IntKind.i64 0, Value.int IntKind.i64 0, Value.int IntKind.i64 0, Value.int IntKind.i64 0, Value.int IntKind.i64 0, Value.int IntKind.i64 0, Value.int IntKind.i64 0, Value.int IntKind.i64 0, Value.int IntKind.i64 0, Value.int IntKind.i64 0, Value.int IntKind.i64 0, Value.int IntKind.i64 0, Value.int IntKind.i64 0] 50)
    have gne : g ≠ WA.heap.size := Nat.ne_of_lt gD
    have gw : w.heap.size ≤ WA.heap.size := bD.size
    have fD := (bN.cell (p := ⟨g, 1, none⟩) gD).trans fD
    have gD := Nat.lt_of_lt_of_le gD bN.size
    have bD := bel_nxt bD bN
    generalize WA.alloc (.cells #[Value.int IntKind.i64 0, Value.int IntKind.i64 0, Value.int IntKind.i64 0, Value.int IntKind.i64 0, Value.int IntKind.i64 0, Value.int IntKind.i64 0, Value.int IntKind.i64 0, Value.int IntKind.i64 0, Value.int IntKind.i64 0, Value.int IntKind.i64 0, Value.int IntKind.i64 0, Value.int IntKind.i64 0, Value.int IntKind.i64 0, Value.int IntKind.i64 0, Value.int IntKind.i64 0, Value.int IntKind.i64 0] 50) = W10 at zA fD gD bD bN ⊢
    generalize WA.heap.size = gz at zA gne gw bN ⊢
    clear bN
    refine hK.out _ _ fD (fun hHeld => ?_)
    clear hK K hHeld
    refine wpAnyH_ready (rs := [1]) (by kernel_rfl) (by simp) ?_
    refine AllReadyH.cons rfl (fun K hK => ?_) AllReadyH.nil
    go_simp
    refine (HCA.out _ bD).mono ?_
    rintro e W11 ⟨rfl, bN⟩
    have zA := (bN.block gz (Array.getElem?_eq_some_iff.1 zA).1).trans zA
    have fD := (bN.cell (p := ⟨g, 1, none⟩) gD).trans fD
    have gD := Nat.lt_of_lt_of_le gD bN.size
    have bD := bel_nxt bD bN
    clear bN
    go_simp
    refine hK.out _ _ fD (fun hHeld => ?_)
    clear hK K hHeld
    refine wpAnyH_ready (rs := [3]) (by kernel_rfl) (by simp) ?_
    refine AllReadyH.cons rfl (fun K hK => ?_) AllReadyH.nil
    go_simp
    refine (HCB.out _ bD).mono ?_
    rintro e W12 ⟨rfl, bN⟩
    have zA := (bN.block gz (Array.getElem?_eq_some_iff.1 zA).1).trans zA
    have fD := (bN.cell (p := ⟨g, 1, none⟩) gD).trans fD
    have gD := Nat.lt_of_lt_of_le gD bN.size
    have bD := bel_nxt bD bN
    clear bN
    go_simp
    refine hK.out _ _ fD (fun hHeld => ?_)
    clear hK K hHeld
    refine wpAnyH_ready (rs := [6]) (by kernel_rfl) (by simp) ?_
    refine AllReadyH.cons rfl (fun K hK => ?_) AllReadyH.nil
    go_simp
    refine (HMX.out _).mono ?_
    rintro e W13 ⟨rfl, bN⟩
    have zA := (bN.block gz (Array.getElem?_eq_some_iff.1 zA).1).trans zA
    have fD := (bN.cell (p := ⟨g, 1, none⟩) gD).trans fD
    have gD := Nat.lt_of_lt_of_le gD bN.size
    have bD := bel_nxt bD bN
    clear bN
    go_simp
    refine hK.out _ _ fD (fun hHeld => ?_)
    clear hK K hHeld
    refine wpAnyH_ready (rs := [8]) (by kernel_rfl) (by simp) ?_
    refine AllReadyH.cons rfl (fun K hK => ?_) AllReadyH.nil
    rw [if_pos (by rfl)]
    have hst := store_arr (F := R) zA (by simp [zero16])
    refine wp_storev (.tmp 9) (.tmp 39) 50 rfl _ rfl _ rfl hst ?_
    simp only [Act.put]
    have fE : (W13.setRow gz (arr R)).cell? ⟨g, 1, none⟩ = some (.func (.func 88) #[] #[]) := by rw [World.cell?_of_block (w := W13) (setRow_other _ gz _ g gne)]; exact fD
    refine hK.out _ _ fE (fun hHeld => ?_)
    clear hK K hHeld
    refine wpAnyH_done (by kernel_rfl) ?_ _
    have bE : Below w.heap.size w (W13.setRow gz (arr R)) := below_setRow bD gw _
    have hO := own_arr bD.size gw zA R
    clear hst zA fE fD gD gne gw bD
    generalize W13.setRow gz (arr R) = WE at bE hO ⊢
    have hsl := slice_cells gz xs.length WE hl
    go_wp2_with fail
    refine (copyOf_any _ (tab xs.length R) _ (rd_arr hO hl) (by rw [len_tab]; omega)).mono ?_
    rintro e WF ⟨gr, rfl, hgr, oF, bF⟩
    rw [len_tab] at oF ⊢
    clear hsl hO
    go_wp2
    go_ret
    exact ⟨_, rfl, by rw [HF.out]; exact oF.mono bE.size, bel_nxt bE bF⟩

end Go.Proofs.Ytpalmbcknjmmcaa
