/-
  The operations that the program makes are tame (written by tmgen.py). No program is named here.
-/
import Derived.Test.YtlglokbakmbpdaaTm
namespace Go.Proofs.Ytlglokbakmbpdaa
open Go Go.Conc
set_option linter.unusedVariables false
set_option linter.unusedSimpArgs false

theorem tm_pure {P : Program} {α : Type} (a : α) : Tame P TT (pure a : Sem α) := by
  repeat' (first | (with_reducible intro _) | (with_reducible refine tame_bind ?_ ?_) | (with_reducible refine tame_map ?_ ?_) | (with_reducible refine tame_ite ?_ ?_) | split | trivial | (intro _) | (dsimp only))

theorem tm_stuck {P : Program} {α : Type} (s : String) : Tame P TT (stuck s : Sem α) := by
  repeat' (first | (with_reducible exact tm_pure _) | (with_reducible intro _) | (with_reducible refine tame_bind ?_ ?_) | (with_reducible refine tame_map ?_ ?_) | (with_reducible refine tame_ite ?_ ?_) | split | trivial | (intro _) | (dsimp only))

theorem tm_uns {P : Program} {α : Type} (u : Unsupported) : Tame P TT (unsupported u : Sem α) := by
  repeat' (first | (with_reducible exact tm_pure _) | (with_reducible exact tm_stuck _) | (with_reducible intro _) | (with_reducible refine tame_bind ?_ ?_) | (with_reducible refine tame_map ?_ ?_) | (with_reducible refine tame_ite ?_ ?_) | split | trivial | (intro _) | (dsimp only))

theorem tm_goPanic {P : Program} {α : Type} (v : Value) : Tame P TT (goPanic v : Sem α) := by
  repeat' (first | (with_reducible exact tm_pure _) | (with_reducible exact tm_stuck _) | (with_reducible exact tm_uns _) | (with_reducible intro _) | (with_reducible refine tame_bind ?_ ?_) | (with_reducible refine tame_map ?_ ?_) | (with_reducible refine tame_ite ?_ ?_) | split | trivial | (intro _) | (dsimp only))

theorem tm_load {P : Program} (a : Addr) : Tame P TT (load a) := by
  unfold load
  repeat' (first | (with_reducible exact tm_pure _) | (with_reducible exact tm_stuck _) | (with_reducible exact tm_uns _) | (with_reducible intro _) | (with_reducible refine tame_bind ?_ ?_) | (with_reducible refine tame_map ?_ ?_) | (with_reducible refine tame_ite ?_ ?_) | split | trivial | (intro _) | (dsimp only))

theorem tm_store {P : Program} (a : Addr) (v : Value) : Tame P TT (store a v) := by
  unfold store
  repeat' (first | (with_reducible exact tm_pure _) | (with_reducible exact tm_stuck _) | (with_reducible exact tm_uns _) | (with_reducible intro _) | (with_reducible refine tame_bind ?_ ?_) | (with_reducible refine tame_map ?_ ?_) | (with_reducible refine tame_ite ?_ ?_) | split | trivial | (intro _) | (dsimp only))

theorem tm_newObj {P : Program} (o : Obj) : Tame P TT (newObj o) := by
  unfold newObj
  repeat' (first | (with_reducible exact tm_pure _) | (with_reducible exact tm_stuck _) | (with_reducible exact tm_uns _) | (with_reducible intro _) | (with_reducible refine tame_bind ?_ ?_) | (with_reducible refine tame_map ?_ ?_) | (with_reducible refine tame_ite ?_ ?_) | split | trivial | (intro _) | (dsimp only))

theorem tm_shape {P : Program} (r : Nat) : Tame P TT (shape r) := by
  unfold shape
  repeat' (first | (with_reducible exact tm_pure _) | (with_reducible exact tm_stuck _) | (with_reducible exact tm_uns _) | (with_reducible intro _) | (with_reducible refine tame_bind ?_ ?_) | (with_reducible refine tame_map ?_ ?_) | (with_reducible refine tame_ite ?_ ?_) | split | trivial | (intro _) | (dsimp only))

theorem tm_freeze {P : Program} (a : Addr) (n : Nat) : Tame P TT (freeze a n) := by
  unfold freeze
  repeat' (first | (with_reducible exact tm_pure _) | (with_reducible exact tm_stuck _) | (with_reducible exact tm_uns _) | (with_reducible intro _) | (with_reducible refine tame_bind ?_ ?_) | (with_reducible refine tame_map ?_ ?_) | (with_reducible refine tame_ite ?_ ?_) | split | trivial | (intro _) | (dsimp only))

theorem tm_frozen {P : Program} (a : Addr) : Tame P TT (frozen a) := by
  unfold frozen
  repeat' (first | (with_reducible exact tm_pure _) | (with_reducible exact tm_stuck _) | (with_reducible exact tm_uns _) | (with_reducible intro _) | (with_reducible refine tame_bind ?_ ?_) | (with_reducible refine tame_map ?_ ?_) | (with_reducible refine tame_ite ?_ ?_) | split | trivial | (intro _) | (dsimp only))

theorem tm_getObj {P : Program} (r : Nat) : Tame P TT (getObj r) := by
  unfold getObj
  repeat' (first | (with_reducible exact tm_pure _) | (with_reducible exact tm_stuck _) | (with_reducible exact tm_uns _) | (with_reducible intro _) | (with_reducible refine tame_bind ?_ ?_) | (with_reducible refine tame_map ?_ ?_) | (with_reducible refine tame_ite ?_ ?_) | split | trivial | (intro _) | (dsimp only))

theorem tm_choose {P : Program} (q : Question) : Tame P TT (choose q) := by
  unfold choose
  repeat' (first | (with_reducible exact tm_pure _) | (with_reducible exact tm_stuck _) | (with_reducible exact tm_uns _) | (with_reducible intro _) | (with_reducible refine tame_bind ?_ ?_) | (with_reducible refine tame_map ?_ ?_) | (with_reducible refine tame_ite ?_ ?_) | split | trivial | (intro _) | (dsimp only))

theorem tm_program {P : Program}  : Tame P TT (program) := by
  unfold program
  repeat' (first | (with_reducible exact tm_pure _) | (with_reducible exact tm_stuck _) | (with_reducible exact tm_uns _) | (with_reducible intro _) | (with_reducible refine tame_bind ?_ ?_) | (with_reducible refine tame_map ?_ ?_) | (with_reducible refine tame_ite ?_ ?_) | split | trivial | (intro _) | (dsimp only))

theorem tm_room {P : Program} (n : Nat) : Tame P TT (askRoom n) := by
  unfold askRoom mark
  repeat' (first | (with_reducible exact tm_pure _) | (with_reducible exact tm_stuck _) | (with_reducible exact tm_uns _) | (exact ⟨by decide, by decide, trivial⟩) | (with_reducible intro _) | (with_reducible refine tame_bind ?_ ?_) | (with_reducible refine tame_map ?_ ?_) | (with_reducible refine tame_ite ?_ ?_) | split | trivial | (intro _) | (dsimp only))

theorem tm_noRoom {P : Program}  : Tame P TT (mark .noRoom) := by
  unfold mark
  repeat' (first | (with_reducible exact tm_pure _) | (with_reducible exact tm_stuck _) | (with_reducible exact tm_uns _) | (exact ⟨by decide, by decide, trivial⟩) | (with_reducible intro _) | (with_reducible refine tame_bind ?_ ?_) | (with_reducible refine tame_map ?_ ?_) | (with_reducible refine tame_ite ?_ ?_) | split | trivial | (intro _) | (dsimp only))

theorem tm_typeInfo {P : Program} (t : TypeId) : Tame P TT (typeInfo t) := by
  unfold typeInfo
  repeat' (first | (with_reducible exact tm_pure _) | (with_reducible exact tm_stuck _) | (with_reducible exact tm_uns _) | (with_reducible exact tm_program) | (with_reducible intro _) | (with_reducible refine tame_bind ?_ ?_) | (with_reducible refine tame_map ?_ ?_) | (with_reducible refine tame_ite ?_ ?_) | split | trivial | (intro _) | (dsimp only))

theorem tm_under {P : Program} (t : TypeId) : Tame P TT (underlying t) := by
  unfold underlying
  repeat' (first | (with_reducible exact tm_pure _) | (with_reducible exact tm_stuck _) | (with_reducible exact tm_uns _) | (with_reducible exact tm_program) | (with_reducible exact tm_typeInfo _) | (with_reducible intro _) | (with_reducible refine tame_bind ?_ ?_) | (with_reducible refine tame_map ?_ ?_) | (with_reducible refine tame_ite ?_ ?_) | split | trivial | (intro _) | (dsimp only))

theorem tm_zero {P : Program} (t : TypeId) : Tame P TT (zeroValue t) := by
  unfold zeroValue
  repeat' (first | (with_reducible exact tm_pure _) | (with_reducible exact tm_stuck _) | (with_reducible exact tm_uns _) | (with_reducible exact tm_typeInfo _) | (with_reducible intro _) | (with_reducible refine tame_bind ?_ ?_) | (with_reducible refine tame_map ?_ ?_) | (with_reducible refine tame_ite ?_ ?_) | split | trivial | (intro _) | (dsimp only))

theorem tm_sizeOf {P : Program} (t : TypeId) : Tame P TT (sizeOf t) := by
  unfold sizeOf
  repeat' (first | (with_reducible exact tm_pure _) | (with_reducible exact tm_stuck _) | (with_reducible exact tm_uns _) | (with_reducible exact tm_typeInfo _) | (with_reducible intro _) | (with_reducible refine tame_bind ?_ ?_) | (with_reducible refine tame_map ?_ ?_) | (with_reducible refine tame_ite ?_ ?_) | split | trivial | (intro _) | (dsimp only))

theorem tm_isAgg {P : Program} (t : TypeId) : Tame P TT (isAgg t) := by
  unfold isAgg
  repeat' (first | (with_reducible exact tm_pure _) | (with_reducible exact tm_stuck _) | (with_reducible exact tm_uns _) | (with_reducible exact tm_under _) | (with_reducible intro _) | (with_reducible refine tame_bind ?_ ?_) | (with_reducible refine tame_map ?_ ?_) | (with_reducible refine tame_ite ?_ ?_) | split | trivial | (intro _) | (dsimp only))

theorem tm_cellsFrom {P : Program} (a : Addr) : ∀ (n i : Nat) (acc : Array Value), Tame P TT (loadCellsFrom a i n acc)
  | 0, _, _ => trivial
  | n + 1, i, acc => tame_bind (tm_load _) fun v => tm_cellsFrom a n (i + 1) _
theorem tm_loadCells {P : Program} (a : Addr) (n : Nat) : Tame P TT (loadCells a n) := tm_cellsFrom a n 0 _
theorem tm_storeCells {P : Program} (a : Addr) : ∀ (vs : List Value) (i : Nat), Tame P TT (storeCells a vs i)
  | [], _ => trivial
  | v :: vs, i => tame_bind (tm_store _ _) fun _ => tm_storeCells a vs (i + 1)

theorem tm_loadVar {P : Program} (t : TypeId) (a : Addr) : Tame P TT (loadVar t a) := by
  unfold loadVar
  repeat' (first | (with_reducible exact tm_pure _) | (with_reducible exact tm_stuck _) | (with_reducible exact tm_uns _) | (with_reducible exact tm_load _) | (with_reducible exact tm_sizeOf _) | (with_reducible exact tm_isAgg _) | (with_reducible exact tm_loadCells _ _) | (with_reducible exact tm_storeCells _ _ _) | (with_reducible intro _) | (with_reducible refine tame_bind ?_ ?_) | (with_reducible refine tame_map ?_ ?_) | (with_reducible refine tame_ite ?_ ?_) | split | trivial | (intro _) | (dsimp only))

theorem tm_storeVar {P : Program} (t : TypeId) (a : Addr) (v : Value) : Tame P TT (storeVar t a v) := by
  unfold storeVar
  repeat' (first | (with_reducible exact tm_pure _) | (with_reducible exact tm_stuck _) | (with_reducible exact tm_uns _) | (with_reducible exact tm_sizeOf _) | (with_reducible exact tm_loadCells _ _) | (with_reducible exact tm_storeCells _ _ _) | (with_reducible intro _) | (with_reducible refine tame_bind ?_ ?_) | (with_reducible refine tame_map ?_ ?_) | (with_reducible refine tame_ite ?_ ?_) | split | trivial | (intro _) | (dsimp only))

theorem tm_newRow {P : Program} (t : TypeId) (cs : Array Value) : Tame P TT (newRow t cs) := by
  unfold newRow
  repeat' (first | (with_reducible exact tm_pure _) | (with_reducible exact tm_stuck _) | (with_reducible exact tm_uns _) | (with_reducible exact tm_newObj _) | (with_reducible exact tm_loadCells _ _) | (with_reducible exact tm_storeCells _ _ _) | (with_reducible intro _) | (with_reducible refine tame_bind ?_ ?_) | (with_reducible refine tame_map ?_ ?_) | (with_reducible refine tame_ite ?_ ?_) | split | trivial | (intro _) | (dsimp only))

theorem tm_newVar {P : Program} (t : TypeId) (v : Value) : Tame P TT (newVar t v) := by
  unfold newVar
  repeat' (first | (with_reducible exact tm_pure _) | (with_reducible exact tm_stuck _) | (with_reducible exact tm_uns _) | (with_reducible exact tm_loadCells _ _) | (with_reducible exact tm_storeCells _ _ _) | (with_reducible exact tm_newRow _ _) | (with_reducible intro _) | (with_reducible refine tame_bind ?_ ?_) | (with_reducible refine tame_map ?_ ?_) | (with_reducible refine tame_ite ?_ ?_) | split | trivial | (intro _) | (dsimp only))

theorem tm_elemOf {P : Program} (t : TypeId) : Tame P TT (elemOf t) := by
  unfold elemOf
  repeat' (first | (with_reducible exact tm_pure _) | (with_reducible exact tm_stuck _) | (with_reducible exact tm_uns _) | (with_reducible exact tm_under _) | (with_reducible exact tm_loadCells _ _) | (with_reducible exact tm_storeCells _ _ _) | (with_reducible intro _) | (with_reducible refine tame_bind ?_ ?_) | (with_reducible refine tame_map ?_ ?_) | (with_reducible refine tame_ite ?_ ?_) | split | trivial | (intro _) | (dsimp only))

theorem tm_part {P : Program} (t : TypeId) (cs : Array Value) (n : Nat) : Tame P TT (part t cs n) := by
  unfold part
  repeat' (first | (with_reducible exact tm_pure _) | (with_reducible exact tm_stuck _) | (with_reducible exact tm_uns _) | (with_reducible exact tm_sizeOf _) | (with_reducible exact tm_isAgg _) | (with_reducible exact tm_loadCells _ _) | (with_reducible exact tm_storeCells _ _ _) | (with_reducible intro _) | (with_reducible refine tame_bind ?_ ?_) | (with_reducible refine tame_map ?_ ?_) | (with_reducible refine tame_ite ?_ ?_) | split | trivial | (intro _) | (dsimp only))

theorem tm_rp {P : Program} {α : Type} (e : RuntimeError) : Tame P TT (runtimePanic e : Sem α) := by
  unfold runtimePanic
  repeat' (first | (with_reducible exact tm_pure _) | (with_reducible exact tm_stuck _) | (with_reducible exact tm_uns _) | (with_reducible exact tm_goPanic _) | (with_reducible exact tm_program) | (with_reducible exact tm_loadCells _ _) | (with_reducible exact tm_storeCells _ _ _) | (with_reducible exact tm_newVar _ _) | (with_reducible exact tm_elemOf _) | (with_reducible intro _) | (with_reducible refine tame_bind ?_ ?_) | (with_reducible refine tame_map ?_ ?_) | (with_reducible refine tame_ite ?_ ?_) | split | trivial | (intro _) | (dsimp only))

theorem tm_bp {P : Program} {α : Type} (k : IntKind) (x y : Int) (c : BoundsCode) : Tame P TT (boundsPanic k x y c : Sem α) := by
  unfold boundsPanic
  repeat' (first | (with_reducible exact tm_pure _) | (with_reducible exact tm_stuck _) | (with_reducible exact tm_uns _) | (with_reducible exact tm_choose _) | (with_reducible exact tm_loadCells _ _) | (with_reducible exact tm_storeCells _ _ _) | (with_reducible exact tm_rp _) | (with_reducible intro _) | (with_reducible refine tame_bind ?_ ?_) | (with_reducible refine tame_map ?_ ?_) | (with_reducible refine tame_ite ?_ ?_) | split | trivial | (intro _) | (dsimp only))

theorem tm_asIntOf {P : Program} (v : Value) : Tame P TT (asIntOf v) := by
  unfold asIntOf
  repeat' (first | (with_reducible exact tm_pure _) | (with_reducible exact tm_stuck _) | (with_reducible exact tm_uns _) | (with_reducible exact tm_loadCells _ _) | (with_reducible exact tm_storeCells _ _ _) | (with_reducible intro _) | (with_reducible refine tame_bind ?_ ?_) | (with_reducible refine tame_map ?_ ?_) | (with_reducible refine tame_ite ?_ ?_) | split | trivial | (intro _) | (dsimp only))

theorem tm_asInt {P : Program} (v : Value) : Tame P TT (asInt v) := by
  unfold asInt
  repeat' (first | (with_reducible exact tm_pure _) | (with_reducible exact tm_stuck _) | (with_reducible exact tm_uns _) | (with_reducible exact tm_loadCells _ _) | (with_reducible exact tm_storeCells _ _ _) | (with_reducible exact tm_asIntOf _) | (with_reducible intro _) | (with_reducible refine tame_bind ?_ ?_) | (with_reducible refine tame_map ?_ ?_) | (with_reducible refine tame_ite ?_ ?_) | split | trivial | (intro _) | (dsimp only))

theorem tm_asBool {P : Program} (v : Value) : Tame P TT (asBool v) := by
  unfold asBool
  repeat' (first | (with_reducible exact tm_pure _) | (with_reducible exact tm_stuck _) | (with_reducible exact tm_uns _) | (with_reducible exact tm_loadCells _ _) | (with_reducible exact tm_storeCells _ _ _) | (with_reducible intro _) | (with_reducible refine tame_bind ?_ ?_) | (with_reducible refine tame_map ?_ ?_) | (with_reducible refine tame_ite ?_ ?_) | split | trivial | (intro _) | (dsimp only))

theorem tm_asString {P : Program} (v : Value) : Tame P TT (asString v) := by
  unfold asString
  repeat' (first | (with_reducible exact tm_pure _) | (with_reducible exact tm_stuck _) | (with_reducible exact tm_uns _) | (with_reducible exact tm_loadCells _ _) | (with_reducible exact tm_storeCells _ _ _) | (with_reducible intro _) | (with_reducible refine tame_bind ?_ ?_) | (with_reducible refine tame_map ?_ ?_) | (with_reducible refine tame_ite ?_ ?_) | split | trivial | (intro _) | (dsimp only))

theorem tm_asAgg {P : Program} (v : Value) : Tame P TT (asAgg v) := by
  unfold asAgg
  repeat' (first | (with_reducible exact tm_pure _) | (with_reducible exact tm_stuck _) | (with_reducible exact tm_uns _) | (with_reducible exact tm_loadCells _ _) | (with_reducible exact tm_storeCells _ _ _) | (with_reducible intro _) | (with_reducible refine tame_bind ?_ ?_) | (with_reducible refine tame_map ?_ ?_) | (with_reducible refine tame_ite ?_ ?_) | split | trivial | (intro _) | (dsimp only))

theorem tm_asAddr {P : Program} (v : Value) : Tame P TT (asAddr v) := by
  unfold asAddr
  repeat' (first | (with_reducible exact tm_pure _) | (with_reducible exact tm_stuck _) | (with_reducible exact tm_uns _) | (with_reducible exact tm_loadCells _ _) | (with_reducible exact tm_storeCells _ _ _) | (with_reducible exact tm_rp _) | (with_reducible intro _) | (with_reducible refine tame_bind ?_ ?_) | (with_reducible refine tame_map ?_ ?_) | (with_reducible refine tame_ite ?_ ?_) | split | trivial | (intro _) | (dsimp only))

theorem tm_viewAt {P : Program} (r : Nat) : Tame P TT (viewAt r) := by
  unfold viewAt
  repeat' (first | (with_reducible exact tm_pure _) | (with_reducible exact tm_stuck _) | (with_reducible exact tm_uns _) | (with_reducible exact tm_shape _) | (with_reducible exact tm_getObj _) | (with_reducible exact tm_loadCells _ _) | (with_reducible exact tm_storeCells _ _ _) | (with_reducible intro _) | (with_reducible refine tame_bind ?_ ?_) | (with_reducible refine tame_map ?_ ?_) | (with_reducible refine tame_ite ?_ ?_) | split | trivial | (intro _) | (dsimp only))

theorem tm_numberAt {P : Program} (r : Nat) : Tame P TT (numberAt r) := by
  unfold numberAt
  repeat' (first | (with_reducible exact tm_pure _) | (with_reducible exact tm_stuck _) | (with_reducible exact tm_uns _) | (with_reducible exact tm_shape _) | (with_reducible exact tm_getObj _) | (with_reducible exact tm_loadCells _ _) | (with_reducible exact tm_storeCells _ _ _) | (with_reducible intro _) | (with_reducible refine tame_bind ?_ ?_) | (with_reducible refine tame_map ?_ ?_) | (with_reducible refine tame_ite ?_ ?_) | split | trivial | (intro _) | (dsimp only))

theorem tm_asNumber {P : Program} (a : Addr) (b : Bool) : Tame P TT (asNumber a b) := by
  unfold asNumber
  repeat' (first | (with_reducible exact tm_pure _) | (with_reducible exact tm_stuck _) | (with_reducible exact tm_uns _) | (with_reducible exact tm_newObj _) | (with_reducible exact tm_loadCells _ _) | (with_reducible exact tm_storeCells _ _ _) | (with_reducible intro _) | (with_reducible refine tame_bind ?_ ?_) | (with_reducible refine tame_map ?_ ?_) | (with_reducible refine tame_ite ?_ ?_) | split | trivial | (intro _) | (dsimp only))

theorem tm_behind {P : Program} (a : Addr) : Tame P TT (behindNumber a) := by
  unfold behindNumber
  repeat' (first | (with_reducible exact tm_pure _) | (with_reducible exact tm_stuck _) | (with_reducible exact tm_uns _) | (with_reducible exact tm_loadCells _ _) | (with_reducible exact tm_storeCells _ _ _) | (with_reducible exact tm_numberAt _) | (with_reducible intro _) | (with_reducible refine tame_bind ?_ ?_) | (with_reducible refine tame_map ?_ ?_) | (with_reducible refine tame_ite ?_ ?_) | split | trivial | (intro _) | (dsimp only))

theorem tm_sureAddr {P : Program} (v : Value) : Tame P TT (Instr.sureAddr v) := by
  unfold Instr.sureAddr
  repeat' (first | (with_reducible exact tm_pure _) | (with_reducible exact tm_stuck _) | (with_reducible exact tm_uns _) | (with_reducible exact tm_loadCells _ _) | (with_reducible exact tm_storeCells _ _ _) | (with_reducible intro _) | (with_reducible refine tame_bind ?_ ?_) | (with_reducible refine tame_map ?_ ?_) | (with_reducible refine tame_ite ?_ ?_) | split | trivial | (intro _) | (dsimp only))

theorem tm_loadAt {P : Program} (t : TypeId) (v : Value) : Tame P TT (Instr.loadAt t v) := by
  unfold Instr.loadAt
  repeat' (first | (with_reducible exact tm_pure _) | (with_reducible exact tm_stuck _) | (with_reducible exact tm_uns _) | (with_reducible exact tm_loadCells _ _) | (with_reducible exact tm_storeCells _ _ _) | (with_reducible exact tm_loadVar _ _) | (with_reducible exact tm_sureAddr _) | (with_reducible intro _) | (with_reducible refine tame_bind ?_ ?_) | (with_reducible refine tame_map ?_ ?_) | (with_reducible refine tame_ite ?_ ?_) | split | trivial | (intro _) | (dsimp only))

theorem tm_storeAt {P : Program} (t : TypeId) (a v : Value) : Tame P TT (Instr.storeAt t a v) := by
  unfold Instr.storeAt
  repeat' (first | (with_reducible exact tm_pure _) | (with_reducible exact tm_stuck _) | (with_reducible exact tm_uns _) | (with_reducible exact tm_loadCells _ _) | (with_reducible exact tm_storeCells _ _ _) | (with_reducible exact tm_storeVar _ _ _) | (with_reducible exact tm_sureAddr _) | (with_reducible intro _) | (with_reducible refine tame_bind ?_ ?_) | (with_reducible refine tame_map ?_ ?_) | (with_reducible refine tame_ite ?_ ?_) | split | trivial | (intro _) | (dsimp only))

theorem tm_alloc {P : Program} (t : TypeId) (b : Bool) (v : Value) : Tame P TT (Instr.alloc t b v) := by
  unfold Instr.alloc
  repeat' (first | (with_reducible exact tm_pure _) | (with_reducible exact tm_stuck _) | (with_reducible exact tm_uns _) | (with_reducible exact tm_zero _) | (with_reducible exact tm_loadCells _ _) | (with_reducible exact tm_storeCells _ _ _) | (with_reducible exact tm_storeVar _ _ _) | (with_reducible exact tm_newVar _ _) | (with_reducible intro _) | (with_reducible refine tame_bind ?_ ?_) | (with_reducible refine tame_map ?_ ?_) | (with_reducible refine tame_ite ?_ ?_) | split | trivial | (intro _) | (dsimp only))

theorem tm_box {P : Program} (t : TypeId) (v : Value) : Tame P TT (Instr.box t v) := by
  unfold Instr.box
  repeat' (first | (with_reducible exact tm_pure _) | (with_reducible exact tm_stuck _) | (with_reducible exact tm_uns _) | (with_reducible exact tm_loadCells _ _) | (with_reducible exact tm_storeCells _ _ _) | (with_reducible exact tm_newVar _ _) | (with_reducible intro _) | (with_reducible refine tame_bind ?_ ?_) | (with_reducible refine tame_map ?_ ?_) | (with_reducible refine tame_ite ?_ ?_) | split | trivial | (intro _) | (dsimp only))

theorem tm_noView {P : Program} (a : Addr) : Tame P TT (noView a) := by
  unfold noView
  repeat' (first | (with_reducible exact tm_pure _) | (with_reducible exact tm_stuck _) | (with_reducible exact tm_uns _) | (with_reducible exact tm_loadCells _ _) | (with_reducible exact tm_storeCells _ _ _) | (with_reducible exact tm_viewAt _) | (with_reducible intro _) | (with_reducible refine tame_bind ?_ ?_) | (with_reducible refine tame_map ?_ ?_) | (with_reducible refine tame_ite ?_ ?_) | split | trivial | (intro _) | (dsimp only))

theorem tm_byteOf {P : Program} (a : Addr) : Tame P TT (byteOf a) := by
  unfold byteOf
  repeat' (first | (with_reducible exact tm_pure _) | (with_reducible exact tm_stuck _) | (with_reducible exact tm_uns _) | (with_reducible exact tm_shape _) | (with_reducible exact tm_program) | (with_reducible exact tm_loadCells _ _) | (with_reducible exact tm_storeCells _ _ _) | (with_reducible exact tm_noView _) | (with_reducible intro _) | (with_reducible refine tame_bind ?_ ?_) | (with_reducible refine tame_map ?_ ?_) | (with_reducible refine tame_ite ?_ ?_) | split | trivial | (intro _) | (dsimp only))

theorem tm_partAt {P : Program} (a : Addr) (x y : Nat) : Tame P TT (partAt a x y) := by
  unfold partAt
  repeat' (first | (with_reducible exact tm_pure _) | (with_reducible exact tm_stuck _) | (with_reducible exact tm_uns _) | (with_reducible exact tm_loadCells _ _) | (with_reducible exact tm_storeCells _ _ _) | (with_reducible exact tm_byteOf _) | (with_reducible intro _) | (with_reducible refine tame_bind ?_ ?_) | (with_reducible refine tame_map ?_ ?_) | (with_reducible refine tame_ite ?_ ?_) | split | trivial | (intro _) | (dsimp only))

theorem tm_fieldPlace {P : Program} (a : Addr) (f : Field) : Tame P TT (fieldPlace a f) := by
  unfold fieldPlace
  repeat' (first | (with_reducible exact tm_pure _) | (with_reducible exact tm_stuck _) | (with_reducible exact tm_uns _) | (with_reducible exact tm_sizeOf _) | (with_reducible exact tm_loadCells _ _) | (with_reducible exact tm_storeCells _ _ _) | (with_reducible exact tm_partAt _ _ _) | (with_reducible intro _) | (with_reducible refine tame_bind ?_ ?_) | (with_reducible refine tame_map ?_ ?_) | (with_reducible refine tame_ite ?_ ?_) | split | trivial | (intro _) | (dsimp only))

theorem tm_fieldAt {P : Program} (t : TypeId) (a : Value) (n : Nat) : Tame P TT (Instr.fieldAt t a n) := by
  unfold Instr.fieldAt
  repeat' (first | (with_reducible exact tm_pure _) | (with_reducible exact tm_stuck _) | (with_reducible exact tm_uns _) | (with_reducible exact tm_under _) | (with_reducible exact tm_loadCells _ _) | (with_reducible exact tm_storeCells _ _ _) | (with_reducible exact tm_sureAddr _) | (with_reducible exact tm_fieldPlace _ _) | (with_reducible intro _) | (with_reducible refine tame_bind ?_ ?_) | (with_reducible refine tame_map ?_ ?_) | (with_reducible refine tame_ite ?_ ?_) | split | trivial | (intro _) | (dsimp only))

theorem tm_indexAt {P : Program} (t : TypeId) (a i : Value) : Tame P TT (Instr.indexAt t a i) := by
  unfold Instr.indexAt
  repeat' (first | (with_reducible exact tm_pure _) | (with_reducible exact tm_stuck _) | (with_reducible exact tm_uns _) | (with_reducible exact tm_under _) | (with_reducible exact tm_sizeOf _) | (with_reducible exact tm_loadCells _ _) | (with_reducible exact tm_storeCells _ _ _) | (with_reducible exact tm_bp _ _ _ _) | (with_reducible exact tm_asIntOf _) | (with_reducible exact tm_sureAddr _) | (with_reducible intro _) | (with_reducible refine tame_bind ?_ ?_) | (with_reducible refine tame_map ?_ ?_) | (with_reducible refine tame_ite ?_ ?_) | split | trivial | (intro _) | (dsimp only))

theorem tm_sliceBound {P : Program} (x : Value) (y : Nat) (c : BoundsCode) : Tame P TT (Instr.sliceBound x y c) := by
  unfold Instr.sliceBound
  repeat' (first | (with_reducible exact tm_pure _) | (with_reducible exact tm_stuck _) | (with_reducible exact tm_uns _) | (with_reducible exact tm_loadCells _ _) | (with_reducible exact tm_storeCells _ _ _) | (with_reducible exact tm_bp _ _ _ _) | (with_reducible exact tm_asIntOf _) | (with_reducible intro _) | (with_reducible refine tame_bind ?_ ?_) | (with_reducible refine tame_map ?_ ?_) | (with_reducible refine tame_ite ?_ ?_) | split | trivial | (intro _) | (dsimp only))

theorem tm_sliceBounds {P : Program} (b : Bool) (l c : Nat) (x y z : Option Value) : Tame P TT (Instr.sliceBounds b l c x y z) := by
  unfold Instr.sliceBounds
  repeat' (first | (with_reducible exact tm_pure _) | (with_reducible exact tm_stuck _) | (with_reducible exact tm_uns _) | (with_reducible exact tm_loadCells _ _) | (with_reducible exact tm_storeCells _ _ _) | (with_reducible exact tm_sliceBound _ _ _) | (with_reducible intro _) | (with_reducible refine tame_bind ?_ ?_) | (with_reducible refine tame_map ?_ ?_) | (with_reducible refine tame_ite ?_ ?_) | split | trivial | (intro _) | (dsimp only))

theorem tm_slice {P : Program} (t : TypeId) (v : Value) (x y z : Option Value) : Tame P TT (Instr.slice t v x y z) := by
  unfold Instr.slice
  repeat' (first | (with_reducible exact tm_pure _) | (with_reducible exact tm_stuck _) | (with_reducible exact tm_uns _) | (with_reducible exact tm_typeInfo _) | (with_reducible exact tm_under _) | (with_reducible exact tm_sizeOf _) | (with_reducible exact tm_loadCells _ _) | (with_reducible exact tm_storeCells _ _ _) | (with_reducible exact tm_newVar _ _) | (with_reducible exact tm_asInt _) | (with_reducible exact tm_asAddr _) | (with_reducible exact tm_sliceBounds _ _ _ _ _ _) | (with_reducible intro _) | (with_reducible refine tame_bind ?_ ?_) | (with_reducible refine tame_map ?_ ?_) | (with_reducible refine tame_ite ?_ ?_) | split | trivial | (intro _) | (dsimp only))

theorem tm_sliceAt {P : Program} (t : TypeId) (v : Value) (x y z : Option Value) : Tame P TT (Instr.sliceAt t v x y z) := by
  unfold Instr.sliceAt
  repeat' (first | (with_reducible exact tm_pure _) | (with_reducible exact tm_stuck _) | (with_reducible exact tm_uns _) | (with_reducible exact tm_typeInfo _) | (with_reducible exact tm_under _) | (with_reducible exact tm_sizeOf _) | (with_reducible exact tm_loadCells _ _) | (with_reducible exact tm_storeCells _ _ _) | (with_reducible exact tm_rp _) | (with_reducible exact tm_asInt _) | (with_reducible exact tm_sureAddr _) | (with_reducible exact tm_sliceBounds _ _ _ _ _ _) | (with_reducible exact tm_slice _ _ _ _ _) | (with_reducible intro _) | (with_reducible refine tame_bind ?_ ?_) | (with_reducible refine tame_map ?_ ?_) | (with_reducible refine tame_ite ?_ ?_) | split | trivial | (intro _) | (dsimp only))

theorem tm_buildSlice {P : Program} (t : TypeId) (n : Nat) (ps : Array (Nat × Value)) : Tame P TT (Instr.buildSlice t n ps) := by
  unfold Instr.buildSlice
  repeat' (first | (with_reducible exact tm_pure _) | (with_reducible exact tm_stuck _) | (with_reducible exact tm_uns _) | (with_reducible exact tm_under _) | (with_reducible exact tm_zero _) | (with_reducible exact tm_sizeOf _) | (with_reducible exact tm_loadCells _ _) | (with_reducible exact tm_storeCells _ _ _) | (with_reducible exact tm_newRow _ _) | (with_reducible exact tm_part _ _ _) | (with_reducible exact tm_slice _ _ _ _ _) | (with_reducible intro _) | (with_reducible refine tame_bind ?_ ?_) | (with_reducible refine tame_map ?_ ?_) | (with_reducible refine tame_ite ?_ ?_) | split | trivial | (intro _) | (dsimp only))

theorem tm_makeSlice {P : Program} (t : TypeId) (l c : Value) : Tame P TT (Instr.makeSlice t l c) := by
  unfold Instr.makeSlice
  repeat' (first | (with_reducible exact tm_pure _) | (with_reducible exact tm_stuck _) | (with_reducible exact tm_uns _) | (with_reducible exact tm_choose _) | (with_reducible exact tm_room _) | (with_reducible exact tm_typeInfo _) | (with_reducible exact tm_under _) | (with_reducible exact tm_zero _) | (with_reducible exact tm_sizeOf _) | (with_reducible exact tm_loadCells _ _) | (with_reducible exact tm_storeCells _ _ _) | (with_reducible exact tm_newRow _ _) | (with_reducible exact tm_rp _) | (with_reducible exact tm_asInt _) | (with_reducible exact tm_slice _ _ _ _ _) | (with_reducible intro _) | (with_reducible refine tame_bind ?_ ?_) | (with_reducible refine tame_map ?_ ?_) | (with_reducible refine tame_ite ?_ ?_) | split | trivial | (intro _) | (dsimp only))

theorem tm_makeFunc {P : Program} (f : Fn) (a b : Array Value) : Tame P TT (Instr.makeFunc f a b) := by
  unfold Instr.makeFunc
  repeat' (first | (with_reducible exact tm_pure _) | (with_reducible exact tm_stuck _) | (with_reducible exact tm_uns _) | (with_reducible exact tm_program) | (with_reducible exact tm_under _) | (with_reducible exact tm_loadCells _ _) | (with_reducible exact tm_storeCells _ _ _) | (with_reducible exact tm_slice _ _ _ _ _) | (with_reducible intro _) | (with_reducible refine tame_bind ?_ ?_) | (with_reducible refine tame_map ?_ ?_) | (with_reducible refine tame_ite ?_ ?_) | split | trivial | (intro _) | (dsimp only))

theorem tm_extract {P : Program} (v : Value) (n : Nat) : Tame P TT (Instr.extract v n) := by
  unfold Instr.extract
  repeat' (first | (with_reducible exact tm_pure _) | (with_reducible exact tm_stuck _) | (with_reducible exact tm_uns _) | (with_reducible exact tm_loadCells _ _) | (with_reducible exact tm_storeCells _ _ _) | (with_reducible intro _) | (with_reducible refine tame_bind ?_ ?_) | (with_reducible refine tame_map ?_ ?_) | (with_reducible refine tame_ite ?_ ?_) | split | trivial | (intro _) | (dsimp only))

theorem tm_field {P : Program} (t : TypeId) (v : Value) (n : Nat) : Tame P TT (Instr.field t v n) := by
  unfold Instr.field
  repeat' (first | (with_reducible exact tm_pure _) | (with_reducible exact tm_stuck _) | (with_reducible exact tm_uns _) | (with_reducible exact tm_load _) | (with_reducible exact tm_shape _) | (with_reducible exact tm_program) | (with_reducible exact tm_noRoom) | (with_reducible exact tm_under _) | (with_reducible exact tm_loadCells _ _) | (with_reducible exact tm_storeCells _ _ _) | (with_reducible exact tm_part _ _ _) | (with_reducible exact tm_asInt _) | (with_reducible exact tm_asAgg _) | (with_reducible exact tm_fieldPlace _ _) | (with_reducible intro _) | (with_reducible refine tame_bind ?_ ?_) | (with_reducible refine tame_map ?_ ?_) | (with_reducible refine tame_ite ?_ ?_) | split | trivial | (intro _) | (dsimp only))

theorem tm_index {P : Program} (t : TypeId) (v i : Value) : Tame P TT (Instr.index t v i) := by
  unfold Instr.index
  repeat' (first | (with_reducible exact tm_pure _) | (with_reducible exact tm_stuck _) | (with_reducible exact tm_uns _) | (with_reducible exact tm_load _) | (with_reducible exact tm_shape _) | (with_reducible exact tm_under _) | (with_reducible exact tm_sizeOf _) | (with_reducible exact tm_loadCells _ _) | (with_reducible exact tm_storeCells _ _ _) | (with_reducible exact tm_part _ _ _) | (with_reducible exact tm_bp _ _ _ _) | (with_reducible exact tm_asIntOf _) | (with_reducible exact tm_asInt _) | (with_reducible exact tm_slice _ _ _ _ _) | (with_reducible exact tm_extract _ _) | (with_reducible intro _) | (with_reducible refine tame_bind ?_ ?_) | (with_reducible refine tame_map ?_ ?_) | (with_reducible refine tame_ite ?_ ?_) | split | trivial | (intro _) | (dsimp only))

theorem tm_holds {P : Program} (a : Addr) (n : Nat) : Tame P TT (Builtin.holdsCells a n) := by
  unfold Builtin.holdsCells
  repeat' (first | (with_reducible exact tm_pure _) | (with_reducible exact tm_stuck _) | (with_reducible exact tm_uns _) | (with_reducible exact tm_shape _) | (with_reducible exact tm_loadCells _ _) | (with_reducible exact tm_storeCells _ _ _) | (with_reducible intro _) | (with_reducible refine tame_bind ?_ ?_) | (with_reducible refine tame_map ?_ ?_) | (with_reducible refine tame_ite ?_ ?_) | split | trivial | (intro _) | (dsimp only))

theorem tm_share {P : Program} (a b c : Nat) (d : Option Addr) (x : Value) : Tame P TT (Builtin.mayShare a b c d x) := by
  unfold Builtin.mayShare
  repeat' (first | (with_reducible exact tm_pure _) | (with_reducible exact tm_stuck _) | (with_reducible exact tm_uns _) | (with_reducible exact tm_frozen _) | (with_reducible exact tm_loadCells _ _) | (with_reducible exact tm_storeCells _ _ _) | (with_reducible exact tm_slice _ _ _ _ _) | (with_reducible exact tm_holds _ _) | (with_reducible intro _) | (with_reducible refine tame_bind ?_ ?_) | (with_reducible refine tame_map ?_ ?_) | (with_reducible refine tame_ite ?_ ?_) | split | trivial | (intro _) | (dsimp only))

theorem tm_lenOf {P : Program} (v : Value) : Tame P TT (Builtin.lenOf v) := by
  unfold Builtin.lenOf
  repeat' (first | (with_reducible exact tm_pure _) | (with_reducible exact tm_stuck _) | (with_reducible exact tm_uns _) | (with_reducible exact tm_loadCells _ _) | (with_reducible exact tm_storeCells _ _ _) | (with_reducible exact tm_slice _ _ _ _ _) | (with_reducible intro _) | (with_reducible refine tame_bind ?_ ?_) | (with_reducible refine tame_map ?_ ?_) | (with_reducible refine tame_ite ?_ ?_) | split | trivial | (intro _) | (dsimp only))

theorem tm_first {P : Program} (a b : Nat) (v : Value) : Tame P TT (Builtin.firstCells a b v) := by
  unfold Builtin.firstCells
  repeat' (first | (with_reducible exact tm_pure _) | (with_reducible exact tm_stuck _) | (with_reducible exact tm_uns _) | (with_reducible exact tm_loadCells _ _) | (with_reducible exact tm_storeCells _ _ _) | (with_reducible exact tm_slice _ _ _ _ _) | (with_reducible exact tm_extract _ _) | (with_reducible intro _) | (with_reducible refine tame_bind ?_ ?_) | (with_reducible refine tame_map ?_ ?_) | (with_reducible refine tame_ite ?_ ?_) | split | trivial | (intro _) | (dsimp only))

set_option maxHeartbeats 4000000 in
theorem tm_append {P : Program} (ts : Array TypeId) (t : TypeId) (vs : Array Value) : Tame P TT (Builtin.append_ ts t vs) := by
  unfold Builtin.append_
  repeat' (first | (with_reducible exact tm_pure _) | (with_reducible exact tm_stuck _) | (with_reducible exact tm_uns _) | (with_reducible exact tm_choose _) | (with_reducible exact tm_room _) | (with_reducible exact tm_noRoom) | (with_reducible exact tm_typeInfo _) | (with_reducible exact tm_under _) | (with_reducible exact tm_zero _) | (with_reducible exact tm_sizeOf _) | (with_reducible exact tm_loadCells _ _) | (with_reducible exact tm_storeCells _ _ _) | (with_reducible exact tm_newRow _ _) | (with_reducible exact tm_rp _) | (with_reducible exact tm_asInt _) | (with_reducible exact tm_slice _ _ _ _ _) | (with_reducible exact tm_share _ _ _ _ _) | (with_reducible exact tm_lenOf _) | (with_reducible exact tm_first _ _ _) | (with_reducible intro _) | (with_reducible refine tame_bind ?_ ?_) | (with_reducible refine tame_map ?_ ?_) | (with_reducible refine tame_ite ?_ ?_) | split | trivial | (intro _) | (dsimp only))

theorem tm_copy {P : Program} (ts : Array TypeId) (t : TypeId) (vs : Array Value) : Tame P TT (Builtin.copy_ ts t vs) := by
  unfold Builtin.copy_
  repeat' (first | (with_reducible exact tm_pure _) | (with_reducible exact tm_stuck _) | (with_reducible exact tm_uns _) | (with_reducible exact tm_under _) | (with_reducible exact tm_sizeOf _) | (with_reducible exact tm_loadCells _ _) | (with_reducible exact tm_storeCells _ _ _) | (with_reducible exact tm_slice _ _ _ _ _) | (with_reducible exact tm_lenOf _) | (with_reducible exact tm_first _ _ _) | (with_reducible intro _) | (with_reducible refine tame_bind ?_ ?_) | (with_reducible refine tame_map ?_ ?_) | (with_reducible refine tame_ite ?_ ?_) | split | trivial | (intro _) | (dsimp only))

theorem tm_len {P : Program} (ts : Array TypeId) (t : TypeId) (vs : Array Value) : Tame P TT (Builtin.len_ ts t vs) := by
  unfold Builtin.len_
  repeat' (first | (with_reducible exact tm_pure _) | (with_reducible exact tm_stuck _) | (with_reducible exact tm_uns _) | (with_reducible exact tm_getObj _) | (with_reducible exact tm_under _) | (with_reducible exact tm_loadCells _ _) | (with_reducible exact tm_storeCells _ _ _) | (with_reducible exact tm_slice _ _ _ _ _) | (with_reducible intro _) | (with_reducible refine tame_bind ?_ ?_) | (with_reducible refine tame_map ?_ ?_) | (with_reducible refine tame_ite ?_ ?_) | split | trivial | (intro _) | (dsimp only))

theorem tm_cap {P : Program} (ts : Array TypeId) (t : TypeId) (vs : Array Value) : Tame P TT (Builtin.cap_ ts t vs) := by
  unfold Builtin.cap_
  repeat' (first | (with_reducible exact tm_pure _) | (with_reducible exact tm_stuck _) | (with_reducible exact tm_uns _) | (with_reducible exact tm_getObj _) | (with_reducible exact tm_under _) | (with_reducible exact tm_loadCells _ _) | (with_reducible exact tm_storeCells _ _ _) | (with_reducible exact tm_slice _ _ _ _ _) | (with_reducible intro _) | (with_reducible refine tame_bind ?_ ?_) | (with_reducible refine tame_map ?_ ?_) | (with_reducible refine tame_ite ?_ ?_) | split | trivial | (intro _) | (dsimp only))

theorem tm_intArith {P : Program} (o : BinOp) (k : IntKind) (x y : Int) : Tame P TT (Op.intArith o k x y) := by
  unfold Op.intArith
  repeat' (first | (with_reducible exact tm_pure _) | (with_reducible exact tm_stuck _) | (with_reducible exact tm_uns _) | (with_reducible exact tm_loadCells _ _) | (with_reducible exact tm_storeCells _ _ _) | (with_reducible intro _) | (with_reducible refine tame_bind ?_ ?_) | (with_reducible refine tame_map ?_ ?_) | (with_reducible refine tame_ite ?_ ?_) | split | trivial | (intro _) | (dsimp only))

theorem tm_intDiv {P : Program} (o : BinOp) (k : IntKind) (x y : Int) : Tame P TT (Op.intDiv o k x y) := by
  unfold Op.intDiv
  repeat' (first | (with_reducible exact tm_pure _) | (with_reducible exact tm_stuck _) | (with_reducible exact tm_uns _) | (with_reducible exact tm_loadCells _ _) | (with_reducible exact tm_storeCells _ _ _) | (with_reducible exact tm_rp _) | (with_reducible intro _) | (with_reducible refine tame_bind ?_ ?_) | (with_reducible refine tame_map ?_ ?_) | (with_reducible refine tame_ite ?_ ?_) | split | trivial | (intro _) | (dsimp only))

theorem tm_intBits {P : Program} (o : BinOp) (k : IntKind) (x y : Int) : Tame P TT (Op.intBits o k x y) := by
  unfold Op.intBits
  repeat' (first | (with_reducible exact tm_pure _) | (with_reducible exact tm_stuck _) | (with_reducible exact tm_uns _) | (with_reducible exact tm_loadCells _ _) | (with_reducible exact tm_storeCells _ _ _) | (with_reducible intro _) | (with_reducible refine tame_bind ?_ ?_) | (with_reducible refine tame_map ?_ ?_) | (with_reducible refine tame_ite ?_ ?_) | split | trivial | (intro _) | (dsimp only))

theorem tm_intCmp {P : Program} (o : BinOp) (x y : Int) : Tame P TT (Op.intCmp o x y) := by
  unfold Op.intCmp
  repeat' (first | (with_reducible exact tm_pure _) | (with_reducible exact tm_stuck _) | (with_reducible exact tm_uns _) | (with_reducible exact tm_loadCells _ _) | (with_reducible exact tm_storeCells _ _ _) | (with_reducible intro _) | (with_reducible refine tame_bind ?_ ?_) | (with_reducible refine tame_map ?_ ?_) | (with_reducible refine tame_ite ?_ ?_) | split | trivial | (intro _) | (dsimp only))

theorem tm_shift {P : Program} (o : BinOp) (k : IntKind) (x : Int) (k2 : IntKind) (y : Int) : Tame P TT (Op.shift o k x k2 y) := by
  unfold Op.shift
  repeat' (first | (with_reducible exact tm_pure _) | (with_reducible exact tm_stuck _) | (with_reducible exact tm_uns _) | (with_reducible exact tm_loadCells _ _) | (with_reducible exact tm_storeCells _ _ _) | (with_reducible exact tm_rp _) | (with_reducible intro _) | (with_reducible refine tame_bind ?_ ?_) | (with_reducible refine tame_map ?_ ?_) | (with_reducible refine tame_ite ?_ ?_) | split | trivial | (intro _) | (dsimp only))

theorem tm_stringOp {P : Program} (o : BinOp) (x y : ByteArray) : Tame P TT (Op.stringOp o x y) := by
  unfold Op.stringOp
  repeat' (first | (with_reducible exact tm_pure _) | (with_reducible exact tm_stuck _) | (with_reducible exact tm_uns _) | (with_reducible exact tm_loadCells _ _) | (with_reducible exact tm_storeCells _ _ _) | (with_reducible intro _) | (with_reducible refine tame_bind ?_ ?_) | (with_reducible refine tame_map ?_ ?_) | (with_reducible refine tame_ite ?_ ?_) | split | trivial | (intro _) | (dsimp only))

theorem tm_unary {P : Program} (o : UnOp) (x : Value) : Tame P TT (Op.unary o x) := by
  unfold Op.unary
  repeat' (first | (with_reducible exact tm_pure _) | (with_reducible exact tm_stuck _) | (with_reducible exact tm_uns _) | (with_reducible exact tm_loadCells _ _) | (with_reducible exact tm_storeCells _ _ _) | (with_reducible exact tm_intArith _ _ _ _) | (with_reducible exact tm_intBits _ _ _ _) | (with_reducible intro _) | (with_reducible refine tame_bind ?_ ?_) | (with_reducible refine tame_map ?_ ?_) | (with_reducible refine tame_ite ?_ ?_) | split | trivial | (intro _) | (dsimp only))

theorem tm_floatCmp {P : Program} (o : BinOp) (k : FloatKind) (x y : Nat) : Tame P TT (Op.floatCmp o k x y) := by
  unfold Op.floatCmp
  repeat' (first | (with_reducible exact tm_pure _) | (with_reducible exact tm_stuck _) | (with_reducible exact tm_uns _) | (with_reducible exact tm_loadCells _ _) | (with_reducible exact tm_storeCells _ _ _) | (with_reducible intro _) | (with_reducible refine tame_bind ?_ ?_) | (with_reducible refine tame_map ?_ ?_) | (with_reducible refine tame_ite ?_ ?_) | split | trivial | (intro _) | (dsimp only))

theorem tm_floatArith {P : Program} (o : BinOp) (k : FloatKind) (x y : Nat) : Tame P TT (Op.floatArith o k x y) := by
  unfold Op.floatArith
  repeat' (first | (with_reducible exact tm_pure _) | (with_reducible exact tm_stuck _) | (with_reducible exact tm_uns _) | (with_reducible exact tm_choose _) | (with_reducible exact tm_loadCells _ _) | (with_reducible exact tm_storeCells _ _ _) | (with_reducible intro _) | (with_reducible refine tame_bind ?_ ?_) | (with_reducible refine tame_map ?_ ?_) | (with_reducible refine tame_ite ?_ ?_) | split | trivial | (intro _) | (dsimp only))

theorem tm_intToInt {P : Program} (k : IntKind) (n : Int) : Tame P TT (Conv.intToInt k n) := by
  unfold Conv.intToInt
  repeat' (first | (with_reducible exact tm_pure _) | (with_reducible exact tm_stuck _) | (with_reducible exact tm_uns _) | (with_reducible exact tm_loadCells _ _) | (with_reducible exact tm_storeCells _ _ _) | (with_reducible intro _) | (with_reducible refine tame_bind ?_ ?_) | (with_reducible refine tame_map ?_ ?_) | (with_reducible refine tame_ite ?_ ?_) | split | trivial | (intro _) | (dsimp only))

theorem tm_floatToInt {P : Program} (s : FloatKind) (b : Nat) (k : IntKind) : Tame P TT (Conv.floatToInt s b k) := by
  unfold Conv.floatToInt
  repeat' (first | (with_reducible exact tm_pure _) | (with_reducible exact tm_stuck _) | (with_reducible exact tm_uns _) | (with_reducible exact tm_choose _) | (with_reducible exact tm_loadCells _ _) | (with_reducible exact tm_storeCells _ _ _) | (with_reducible intro _) | (with_reducible refine tame_bind ?_ ?_) | (with_reducible refine tame_map ?_ ?_) | (with_reducible refine tame_ite ?_ ?_) | split | trivial | (intro _) | (dsimp only))

end Go.Proofs.Ytlglokbakmbpdaa
