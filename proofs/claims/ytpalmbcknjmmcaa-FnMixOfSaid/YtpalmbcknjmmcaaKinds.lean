/-
  The kinds of mixing of the program, by their contract.
-/
import Derived.Test.YtpalmbcknjmmcaaMixI

namespace Go.Proofs.Ytpalmbcknjmmcaa
open Go.RowKit
set_option linter.unusedVariables false

def kindCells : Array Value := #[.string sOr, .func (.func 86) #[] #[], .string sAnd, .func (.func 87) #[] #[], .string sXor, .func (.func 88) #[] #[]]
def noKinds : Array Value := #[.string { data := #[] }, .nilFunc, .string { data := #[] }, .nilFunc, .string { data := #[] }, .nilFunc]
theorem kinds_info : (Try.prog.info? 62).map (·.size) = some 6 := by kernel_rfl
theorem kinds_under : ∃ n e, Try.prog.underlying 62 = some (.array n e) := ⟨_, _, rfl⟩
theorem store_kinds (w : World) : (storeVar 62 ⟨w.heap.size, 0, none⟩ (.agg kindCells)).run Try.prog (w.alloc (.cells noKinds 62)) = .ok () (w.alloc (.cells kindCells 62)) :=
  run_storeVar_new w 62 _ kindCells kinds_info rfl (by decide +kernel)
theorem load_kinds (w : World) : (loadVar 62 ⟨w.heap.size, 0, none⟩).run Try.prog (w.alloc (.cells kindCells 62)) = .ok (.agg kindCells) (w.alloc (.cells kindCells 62)) := by
  obtain ⟨n, e, hu⟩ := kinds_under
  exact run_loadVar_row _ _ _ _ kindCells (0, 0) _ (heap_alloc_last w _) hu rfl kinds_info
theorem mixKinds_any (w : World) : Calls Try.prog 76 #[] w fun e w' => e = .returned (.agg kindCells) ∧ Below w.heap.size w w' := by
  have hst := store_kinds w
  have hld := load_kinds w
  go_enter Try.func76, Try.ntmps76
  go_wp2_with (with_reducible refine wpList_storev rfl (.tmp 0) (.tmp 4) 62 rfl _ rfl _ rfl hst ?_)
  refine bodyPost_ret (v := .agg kindCells) ?_ rfl ⟨rfl, (Below.refl _ _).alloc (Nat.le_refl _) _⟩
  exact results_cell_one rfl _ _ _ _ _ rfl hld

end Go.Proofs.Ytpalmbcknjmmcaa
