/-
  Signs, cells and sums over cells of the program.
-/
import Derived.Test.YtagncoahobghpacMa1
import Derived.Test.YtagncoahobghpacCube
import Derived.Deep.WholeRow
namespace Go.Proofs.Ytagncoahobghpac
open Go.RowKit
set_option linter.unusedVariables false
set_option maxRecDepth 100000

def energyF (xs : List Int) : Int := if vrB xs = true then wrap64 (sq (ix xs) xs.length) else -1
theorem lt16 {x : Nat} (h : x < 16) : x = 0 ∨ x = 1 ∨ x = 2 ∨ x = 3 ∨ x = 4 ∨ x = 5 ∨ x = 6 ∨ x = 7 ∨ x = 8 ∨ x = 9 ∨ x = 10 ∨ x = 11 ∨ x = 12 ∨ x = 13 ∨ x = 14 ∨ x = 15 := by omega

theorem and16 : ∀ x : Nat, x < 16 → ∀ y : Nat, y < 16 → bits BinOp.and IntKind.i64 (x : Int) (y : Int) = ((x &&& y : Nat) : Int) := by decide +kernel
theorem xor16 : ∀ x : Nat, x < 16 → ∀ y : Nat, y < 16 → bits BinOp.xor IntKind.i64 (x : Int) (y : Int) = ((x ^^^ y : Nat) : Int) := by decide +kernel
theorem or16 : ∀ x : Nat, x < 16 → ∀ y : Nat, y < 16 → bits BinOp.or IntKind.i64 (x : Int) (y : Int) = ((x ||| y : Nat) : Int) := by decide +kernel

/-- The cells of an array of sixteen numbers. -/
def arr (F : Nat → Int) : Array Value := ((tab 16 F).map (Value.int .i64)).toArray
theorem arr_size (F : Nat → Int) : (arr F).size = 16 := by simp [arr]
theorem arr_get (F : Nat → Int) (j : Nat) (h : j < 16) : (arr F)[j]? = some (.int .i64 (F j)) := by
  simp only [arr, List.getElem?_toArray]
  rw [getElem?_map_int _ _ (by simpa using h), ix_tab _ _ _ h]

theorem cellAt_any (x : Nat) (F : Nat → Int) (w : World) (hx : x < 16) :
    Calls Try.prog 35 #[.agg (arr F), .int .i64 x] w (Tells (F x) w) := by
  have hc : ∀ E, (w.alloc (.cells (arr F) E)).cell? ⟨w.heap.size, x, none⟩ = some (.int .i64 (F x)) := by
    intro E
    rw [cell_of_row _ _ x _ _ (0, 0) (heap_alloc_last w _), arr_get _ _ hx]
  have HS := arr_size F
  go_enter Try.func35, Try.ntmps35
  go_wp2
  go_ret
  exact ⟨rfl, (Below.refl _ _).alloc (Nat.le_refl _) _⟩

theorem splice_row (xs : List Int) (h : xs.length ≤ 16) : splice ((tab 16 fun _ => 0).map (Value.int .i64)) 0 (xs.map (Value.int .i64)) = (tab 16 (ix xs)).map (Value.int .i64) := by
  have e : (tab 16 (ix xs)) = xs ++ (tab (16 - xs.length) fun _ => 0) := by
    apply List.ext_getElem?
    intro j
    rw [getElem?_tab, List.getElem?_append]
    by_cases h1 : j < xs.length
    · rw [if_pos h1, if_pos (by omega)]; simp [ix, List.getD, h1]
    · rw [if_neg h1, getElem?_tab]
      by_cases h2 : j < 16
      · rw [if_pos h2, if_pos (by omega)]; simp [ix, List.getD, List.getElem?_eq_none (Nat.le_of_not_lt h1)]
      · rw [if_neg h2, if_neg (by omega)]
  rw [e]
  simp only [splice, List.take_zero, List.nil_append, Nat.zero_add, List.length_map, List.map_append]
  congr 1
  rw [← List.map_drop]
  congr 1
  apply List.ext_getElem?
  intro j
  rw [List.getElem?_drop, getElem?_tab, getElem?_tab]
  by_cases h2 : j < 16 - xs.length
  · rw [if_pos h2, if_pos (by omega)]
  · rw [if_neg h2, if_neg (by omega)]

def zero16 : List Value := (tab 16 fun _ => 0).map (Value.int .i64)
theorem zero16_lit : #[Value.int IntKind.i64 0, Value.int IntKind.i64 0, Value.int IntKind.i64 0, Value.int IntKind.i64 0, Value.int IntKind.i64 0, Value.int IntKind.i64 0, Value.int IntKind.i64 0, Value.int IntKind.i64 0, Value.int IntKind.i64 0, Value.int IntKind.i64 0, Value.int IntKind.i64 0, Value.int IntKind.i64 0, Value.int IntKind.i64 0, Value.int IntKind.i64 0, Value.int IntKind.i64 0, Value.int IntKind.i64 0] = zero16.toArray := rfl
theorem wpList_loadv {P : Program} {w : World} {ops : Array Oper} {rest : List Oper} {o : Oper} {a : Act} {Q : Exit → Act → World → Prop} (hgd : o.guard = none) (p : Operand) (t : TypeId) (ho : o.op = .load t p)
    (ad : Addr) (hp : a.eval p = .pointer (some ad)) (v : Value) (hl : (loadVar t ad).run P w = .ok v w) (h : wpList P ops Q rest (a.put o.dst v) w) : wpList P ops Q (o :: rest) a w := by
  refine wpList_plain hgd fun K hK => ?_
  unfold Oper.wp
  simp only [execOp, ho, Instr.loadAt, Instr.sureAddr, hp, Sem.run_bind, Sem.run_pure, Result.andThen, hl]
  exact hK _ _ h
theorem wpList_storev {P : Program} {w w' : World} {ops : Array Oper} {rest : List Oper} {o : Oper} {a : Act} {Q : Exit → Act → World → Prop} (hgd : o.guard = none) (p x : Operand) (t : TypeId) (ho : o.op = .store t p x)
    (ad : Addr) (hp : a.eval p = .pointer (some ad)) (v : Value) (hx : a.eval x = v) (hl : (storeVar t ad v).run P w = .ok () w') (h : wpList P ops Q rest (a.put o.dst undef) w') : wpList P ops Q (o :: rest) a w := by
  refine wpList_plain hgd fun K hK => ?_
  unfold Oper.wp
  simp only [execOp, ho, Instr.storeAt, Instr.sureAddr, hp, hx, Sem.run_bind, Sem.run_pure, Result.andThen, hl]
  exact hK _ _ h

theorem results_cell_one {fn : Func} {p : Tmp} {ty : TypeId} (h : fn.results = #[.cell p ty]) (tmps : Array Value) (P : Program) (w : World) (ad : Addr) (v : Value) (hp : tmps.getD p undef = .pointer (some ad)) (hl : (loadVar ty ad).run P w = .ok v w) :
    (results fn tmps).run P w = .ok v w := by
  rw [Array.getD_eq_getD_getElem?] at hp
  simp only [results, h]
  simp [hp, asAddr, hl]

theorem size_one (w : World) (o : Obj) : (w.alloc o).heap.size = w.heap.size + 1 := by show (w.heap.push o).size = _; simp
theorem heap_second (w : World) (o o' : Obj) : ((w.alloc o).alloc o').heap[w.heap.size + 1]? = some o' := by
  have := heap_alloc_last (w.alloc o) o'
  rwa [size_one] at this
theorem arr_cells (F : Nat → Int) : (arr F).all (·.oneCell') = true := by
  simp only [arr, Array.all_eq_true_iff_forall_mem]
  intro v hv
  simp only [List.mem_toArray, List.mem_map] at hv
  obtain ⟨n, _, rfl⟩ := hv
  rfl
theorem arr_info : (Try.prog.info? 45).map (·.size) = some 16 := by kernel_rfl
theorem arr_under : ∃ n e, Try.prog.underlying 45 = some (.array n e) := ⟨_, _, rfl⟩
theorem load_arr {w : World} {g : Nat} {F : Nat → Int} {t : TypeId} (h : w.heap[g]? = some (.cells (arr F) t (0, 0))) :
    (loadVar 45 ⟨g, 0, none⟩).run Try.prog w = .ok (.agg (arr F)) w := by
  obtain ⟨n, e, hu⟩ := arr_under
  exact run_loadVar_row w g t _ (arr F) (0, 0) _ h hu rfl (by rw [arr_size]; exact arr_info)
theorem store_arr {w : World} {g : Nat} {F : Nat → Int} {old : Array Value} {t : TypeId} (h : w.heap[g]? = some (.cells old t (0, 0))) (ho : old.size = 16) :
    (storeVar 45 ⟨g, 0, none⟩ (.agg (arr F))).run Try.prog w = .ok () (w.setRow g (arr F)) :=
  run_storeVar_row w g t _ old (arr F) h (by rw [arr_size]; exact arr_info) (by rw [arr_size]; exact ho) (arr_cells F)

set_option maxHeartbeats 1000000 in
theorem cellsOf_any (v : Value) (xs : List Int) (w : World) (h : Rd w v xs) (hl : xs.length ≤ 16) :
    Calls Try.prog 33 #[v] w fun e w' => e = .returned (.agg (arr (ix xs))) ∧ Below w.heap.size w w' := by
  obtain ⟨a, cap, rfl, h⟩ := h
  have HX := Lib.hid h
  clear h
  go_enter Try.func33, Try.ntmps33
  go_wp2_with (with_reducible refine wpList_copy_splice rfl (.tmp 4) (.tmp 5) 23 23 rfl 3 Try.underlying23 ?k0 _ _ _ _ _ _ rfl rfl (w.heap.size + 1) 0 zero16 45 ?kh (xs.map (Value.int .i64)) ?k1 ?k2 ?k3 ?k4 (w.heap.size + 1) (w.alloc (.cells zero16.toArray 45)) ?k5 (Nat.le_refl _) ?_)
  case k0 => kernel_rfl
  case kh => rw [zero16_lit]; exact heap_second w _ _
  case k1 => simp only [List.length_map]; exact (Nat.min_eq_left hl).symm
  case k2 =>
    intro hpos
    rcases HX.out with rfl | ⟨b, off, rfl, hb, hc⟩
    · simp at hpos
    · refine ⟨⟨b, off, none⟩, rfl, fun j u hj => ?_⟩
      have hlt := (List.getElem?_eq_some_iff.1 hj).1
      have hB := ((Below.refl w.heap.size w).alloc (Nat.le_refl _) (.cells zero16.toArray 45)).alloc (by rw [size_one]; omega) (.cells zero16.toArray 45)
      rw [show (⟨b, off, none⟩ : Addr).add j = ⟨b, off + j, none⟩ by simp [Addr.add], zero16_lit, hB.cell (p := ⟨b, off + j, none⟩) hb, hc j (by simpa using hlt)]
      simp only [ix, List.getD, hj, Option.getD_some]
  case k3 => simp [zero16]; omega
  case k4 => exact ints_oneCell _ _
  case k5 => rw [zero16_lit]; exact (Below.refl (w.heap.size + 1) (w.alloc _)).alloc (by rw [size_one]; exact Nat.le_refl _) _
  intro w2 hH2 hB2
  have hld : (loadVar 45 ⟨w.heap.size + 1, 0, none⟩).run Try.prog w2 = .ok (.agg (arr (ix xs))) w2 := by
    have := hH2.out
    rw [zero16, splice_row xs hl] at this
    exact load_arr this
  have hold : w2.heap[w.heap.size]? = some (.cells zero16.toArray 45 (0, 0)) := by
    rw [hB2.block w.heap.size (by omega)]
    exact heap_alloc_last _ _
  have hst := store_arr (F := ix xs) hold (by simp [zero16])
  have hB : Below w.heap.size w (w2.setRow w.heap.size (arr (ix xs))) := below_setRow (((Below.refl w.heap.size w).alloc (Nat.le_refl _) _).trans (hB2.mono (by omega))) (Nat.le_refl _) _
  have hld2 : (loadVar 45 ⟨w.heap.size, 0, none⟩).run Try.prog (w2.setRow w.heap.size (arr (ix xs))) = .ok (.agg (arr (ix xs))) (w2.setRow w.heap.size (arr (ix xs))) :=
    load_arr (setRow_heap w2 w.heap.size _ _ _ _ hold)
  clear hold hH2 hB2 HX
  go_wp2_with (first | with_reducible refine wpList_loadv rfl (.tmp 3) 45 rfl _ rfl _ hld ?_ | with_reducible refine wpList_storev rfl (.tmp 2) (.tmp 7) 45 rfl _ rfl _ rfl hst ?_)
  refine bodyPost_ret (v := .agg (arr (ix xs))) ?_ rfl ⟨rfl, hB⟩
  exact results_cell_one rfl _ _ _ _ _ rfl hld2

theorem store_new (F : Nat → Int) (w : World) : (storeVar 45 ⟨w.heap.size, 0, none⟩ (.agg (arr F))).run Try.prog (w.alloc (.cells #[Value.int IntKind.i64 0, Value.int IntKind.i64 0, Value.int IntKind.i64 0, Value.int IntKind.i64 0, Value.int IntKind.i64 0, Value.int IntKind.i64 0, Value.int IntKind.i64 0, Value.int IntKind.i64 0, Value.int IntKind.i64 0, Value.int IntKind.i64 0, Value.int IntKind.i64 0, Value.int IntKind.i64 0, Value.int IntKind.i64 0, Value.int IntKind.i64 0, Value.int IntKind.i64 0, Value.int IntKind.i64 0] 45)) = .ok () (w.alloc (.cells (arr F) 45)) := by
  rw [zero16_lit]
  exact run_storeVar_new w 45 _ (arr F) (by rw [arr_size]; exact arr_info) (by rw [arr_size]; simp [zero16]) (arr_cells F)
theorem load_new (F : Nat → Int) (w : World) : (loadVar 45 ⟨w.heap.size, 0, none⟩).run Try.prog (w.alloc (.cells (arr F) 45)) = .ok (.agg (arr F)) (w.alloc (.cells (arr F) 45)) := load_arr (heap_alloc_last w _)
theorem index_arr (F : Nat → Int) (k : Nat) (h : k < 16) (W : World) : (Instr.index 45 (.agg (arr F)) (.int .i64 k)).run Try.prog W = .ok (.int .i64 (F k)) W := by
  have HG := arr_get F k h
  have hu : Try.prog.underlying 45 = some (.array 16 3) := rfl
  have hs := Try.sizeOf3
  simp [Instr.index, asIntOf, underlying, hu, Sem.run_bind, Result.andThen, part, HG, h]

set_option maxHeartbeats 1600000 in
theorem weighAt_any (F : Nat → Int) (w : World) :
    Calls Try.prog 34 #[.agg (arr F), .func (.func 35) #[.agg (arr F)] #[]] w (Tells (wrap64 (sq F 16)) w) := by
  have hld : ∀ w : World, (loadVar 45 ⟨w.heap.size, 0, none⟩).run Try.prog (w.alloc (.cells (arr F) 45)) = .ok (.agg (arr F)) (w.alloc (.cells (arr F) 45)) := fun w => load_arr (heap_alloc_last w _)
  have HS := arr_size F
  go_enter Try.func34, Try.ntmps34
  go_wp2_with (with_reducible refine wpList_loadv rfl (.tmp 2) 45 rfl _ rfl _ (hld w) ?_)
  clear hld
  go_loopw [5, 9] (fun s i wr => ∃ k : Nat, k ≤ 16 ∧ i = .int .i64 k ∧ s = .int .i64 (wrap64 (sumN (fun x => F x * F x) k)) ∧ Below w.heap.size w wr) (fun _ i _ => 16 - (intOf i).toNat)
  case atStart => exact ⟨0, by omega, rfl, by simp [sumN, wrap64], (Below.refl _ _).alloc (Nat.le_refl _) _⟩
  case round =>
    obtain ⟨k, hk, rfl, rfl, hB⟩ := hrel
    by_cases hlt : k < 16
    · have HG := arr_get F k hlt
      obtain ⟨z, hz⟩ : ∃ z, F k = z := ⟨_, rfl⟩
      have HI := index_arr F k hlt
      rw [hz] at HI
      have HSt : Hid (wrap64 (wrap64 (sumN (fun x => F x * F x) k) + wrap64 (z * z)) = wrap64 (sumN (fun x => F x * F x) (k + 1))) := by
        show _ = _
        rw [w64_add, sumN, ← hz]
      go_wp2_with fail
      refine ((hz ▸ cellAt_any k F _ hlt)).mono ?_
      rintro e w2 ⟨rfl, b2⟩
      have hB := bel_nxt hB b2
      go_wp2
      go_roundw
      case rel => exact ⟨k + 1, by omega, by go_num, by rw [HSt.out], hB⟩
      case measure => simp [intOf]; omega
    · have hkl : k = 16 := by omega
      subst hkl
      go_wp2
      go_ret
      exact ⟨rfl, hB⟩

end Go.Proofs.Ytagncoahobghpac
