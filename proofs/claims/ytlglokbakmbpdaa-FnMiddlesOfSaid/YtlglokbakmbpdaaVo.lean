/-
  More of the model's operations are tame: comparisons at every type, conversions, assertions, methods, builtins, and entries of the library that have no body (written by tmgen3.py). No program is named here.
-/
import Derived.Test.YtlglokbakmbpdaaTp
namespace Go.Proofs.Ytlglokbakmbpdaa
open Go Go.Conc
set_option linter.unusedVariables false
set_option linter.unusedSimpArgs false

theorem tame_forIn {P : Program} {α β : Type} {f : α → β → Sem (ForInStep β)} (hf : ∀ a b, Tame P TT (f a b)) : ∀ (l : List α) (b : β), Tame P TT (forIn l b f)
  | [], b => by rw [List.forIn_nil]; exact tm_pure _
  | a :: l, b => by
    rw [List.forIn_cons]
    refine tame_bind (hf a b) fun x => ?_
    cases x with
    | done b' => exact tm_pure _
    | yield b' => exact tame_forIn hf l b'
theorem tame_forInA {P : Program} {α β : Type} {f : α → β → Sem (ForInStep β)} (hf : ∀ a b, Tame P TT (f a b)) (l : Array α) (b : β) : Tame P TT (forIn l b f) := by
  rw [← Array.forIn_toList]
  exact tame_forIn hf _ _
theorem tame_foldlM {P : Program} {α β : Type} {f : β → α → Sem β} (hf : ∀ b a, Tame P TT (f b a)) : ∀ (l : List α) (b : β), Tame P TT (l.foldlM f b)
  | [], b => tm_pure _
  | a :: l, b => tame_bind (hf b a) fun b' => tame_foldlM hf l b'

theorem tm_mark {P : Program} (m : Mark) (h1 : m ≠ .disable) (h2 : m ≠ .enable) : Tame P TT (mark m) := by
  unfold mark
  repeat' (first | (with_reducible exact tm_pure _) | (with_reducible exact tm_stuck _) | (with_reducible exact tm_uns _) | (with_reducible exact tm_noRoom) | (with_reducible exact tm_loadCells _ _) | (with_reducible exact tm_storeCells _ _ _) | (exact ⟨h1, h2, trivial⟩) | (with_reducible intro _) | (with_reducible refine tame_bind ?_ ?_) | (with_reducible refine tame_map ?_ ?_) | (with_reducible refine tame_ite ?_ ?_) | split | trivial | (intro _) | (dsimp only))

theorem tm_typeStr {P : Program} (t : TypeId) : Tame P TT (typeStr t) := by
  unfold typeStr
  repeat' (first | (with_reducible exact tm_pure _) | (with_reducible exact tm_stuck _) | (with_reducible exact tm_uns _) | (with_reducible exact tm_typeInfo _) | (with_reducible exact tm_loadCells _ _) | (with_reducible exact tm_storeCells _ _ _) | (with_reducible intro _) | (with_reducible refine tame_bind ?_ ?_) | (with_reducible refine tame_map ?_ ?_) | (with_reducible refine tame_ite ?_ ?_) | split | trivial | (intro _) | (dsimp only))

theorem tm_panicString {P : Program} {α : Type} (s : String) : Tame P TT (panicString s : Sem α) := by
  unfold panicString
  repeat' (first | (with_reducible exact tm_pure _) | (with_reducible exact tm_stuck _) | (with_reducible exact tm_uns _) | (with_reducible exact tm_goPanic _) | (with_reducible exact tm_program) | (with_reducible exact tm_loadCells _ _) | (with_reducible exact tm_storeCells _ _ _) | (with_reducible intro _) | (with_reducible refine tame_bind ?_ ?_) | (with_reducible refine tame_map ?_ ?_) | (with_reducible refine tame_ite ?_ ?_) | split | trivial | (intro _) | (dsimp only))

theorem tm_cellsIn {P : Program} (r : Nat) : Tame P TT (cellsIn r) := by
  unfold cellsIn
  repeat' (first | (with_reducible exact tm_pure _) | (with_reducible exact tm_stuck _) | (with_reducible exact tm_uns _) | (with_reducible exact tm_shape _) | (with_reducible exact tm_getObj _) | (with_reducible exact tm_loadCells _ _) | (with_reducible exact tm_storeCells _ _ _) | (with_reducible intro _) | (with_reducible refine tame_bind ?_ ?_) | (with_reducible refine tame_map ?_ ?_) | (with_reducible refine tame_ite ?_ ?_) | split | trivial | (intro _) | (dsimp only))

theorem tm_stringish {P : Program} (a : Addr) : Tame P TT (markStringish a) := by
  unfold markStringish
  repeat' (first | (with_reducible exact tm_pure _) | (with_reducible exact tm_stuck _) | (with_reducible exact tm_uns _) | (with_reducible exact tm_shape _) | (with_reducible exact tm_freeze _ _) | (with_reducible exact tm_loadCells _ _) | (with_reducible exact tm_storeCells _ _ _) | (with_reducible intro _) | (with_reducible refine tame_bind ?_ ?_) | (with_reducible refine tame_map ?_ ?_) | (with_reducible refine tame_ite ?_ ?_) | split | trivial | (intro _) | (dsimp only))

theorem tm_stringishQ {P : Program} (a : Addr) : Tame P TT (stringish a) := by
  unfold stringish
  repeat' (first | (with_reducible exact tm_pure _) | (with_reducible exact tm_stuck _) | (with_reducible exact tm_uns _) | (with_reducible exact tm_shape _) | (with_reducible exact tm_frozen _) | (with_reducible exact tm_loadCells _ _) | (with_reducible exact tm_storeCells _ _ _) | (with_reducible intro _) | (with_reducible refine tame_bind ?_ ?_) | (with_reducible refine tame_map ?_ ?_) | (with_reducible refine tame_ite ?_ ?_) | split | trivial | (intro _) | (dsimp only))

theorem tm_mayBeOne {P : Program} (a b : Addr) : Tame P TT (mayBeOne a b) := by
  unfold mayBeOne
  repeat' (first | (with_reducible exact tm_pure _) | (with_reducible exact tm_stuck _) | (with_reducible exact tm_uns _) | (with_reducible exact tm_shape _) | (with_reducible exact tm_loadCells _ _) | (with_reducible exact tm_storeCells _ _ _) | (with_reducible exact tm_stringishQ _) | (simp only [Sem.bind]) | (with_reducible intro _) | (with_reducible refine tame_bind ?_ ?_) | (with_reducible refine tame_map ?_ ?_) | (with_reducible refine tame_ite ?_ ?_) | split | trivial | (intro _) | (dsimp only))

theorem tm_sameAddr {P : Program} (a b : Addr) : Tame P TT (sameAddr a b) := by
  unfold sameAddr
  repeat' (first | (with_reducible exact tm_pure _) | (with_reducible exact tm_stuck _) | (with_reducible exact tm_uns _) | (with_reducible exact tm_frozen _) | (with_reducible exact tm_choose _) | (with_reducible exact tm_loadCells _ _) | (with_reducible exact tm_storeCells _ _ _) | (with_reducible exact tm_noView _) | (with_reducible exact tm_mayBeOne _ _) | (with_reducible intro _) | (with_reducible refine tame_bind ?_ ?_) | (with_reducible refine tame_map ?_ ?_) | (with_reducible refine tame_ite ?_ ?_) | split | trivial | (intro _) | (dsimp only))

theorem tm_samePointer {P : Program} (a b : Option Addr) : Tame P TT (samePointer a b) := by
  unfold samePointer
  repeat' (first | (with_reducible exact tm_pure _) | (with_reducible exact tm_stuck _) | (with_reducible exact tm_uns _) | (with_reducible exact tm_loadCells _ _) | (with_reducible exact tm_storeCells _ _ _) | (with_reducible exact tm_sameAddr _ _) | (with_reducible intro _) | (with_reducible refine tame_bind ?_ ?_) | (with_reducible refine tame_map ?_ ?_) | (with_reducible refine tame_ite ?_ ?_) | split | trivial | (intro _) | (dsimp only))

theorem tm_globalAddr {P : Program} (s : String) : Tame P TT (globalAddr s) := by
  unfold globalAddr
  repeat' (first | (with_reducible exact tm_pure _) | (with_reducible exact tm_stuck _) | (with_reducible exact tm_uns _) | (with_reducible exact tm_program) | (with_reducible exact tm_loadCells _ _) | (with_reducible exact tm_storeCells _ _ _) | (with_reducible intro _) | (with_reducible refine tame_bind ?_ ?_) | (with_reducible refine tame_map ?_ ?_) | (with_reducible refine tame_ite ?_ ?_) | split | trivial | (intro _) | (dsimp only))

theorem tm_cutType {P : Program} (s : String) : Tame P TT (cutType s) := by
  unfold cutType
  repeat' (first | (with_reducible exact tm_pure _) | (with_reducible exact tm_stuck _) | (with_reducible exact tm_uns _) | (with_reducible exact tm_program) | (with_reducible exact tm_loadCells _ _) | (with_reducible exact tm_storeCells _ _ _) | (with_reducible intro _) | (with_reducible refine tame_bind ?_ ?_) | (with_reducible refine tame_map ?_ ?_) | (with_reducible refine tame_ite ?_ ?_) | split | trivial | (intro _) | (dsimp only))

theorem tm_varsAt {P : Program} (a : Addr) (u : TypeId) (n : Nat) : Tame P TT (variablesAt a u n) := by
  unfold variablesAt
  repeat' (first | (with_reducible exact tm_pure _) | (with_reducible exact tm_stuck _) | (with_reducible exact tm_uns _) | (with_reducible exact tm_shape _) | (with_reducible exact tm_program) | (with_reducible exact tm_loadCells _ _) | (with_reducible exact tm_storeCells _ _ _) | (with_reducible intro _) | (with_reducible refine tame_bind ?_ ?_) | (with_reducible refine tame_map ?_ ?_) | (with_reducible refine tame_ite ?_ ?_) | split | trivial | (intro _) | (dsimp only))

set_option maxHeartbeats 4000000 in
theorem tm_eqGuardInA {P : Program} : ∀ (d : Nat) (t : TypeId) (x y : Value), Tame P TT (Op.eqGuardIn d t x y)
  | 0, _, _, _ => trivial
  | d + 1, t, x, y => by
    have ih := fun t x y => tm_eqGuardInA (P := P) d t x y
    unfold Op.eqGuardIn
    repeat' (first | (with_reducible exact tm_pure _) | (with_reducible exact tm_stuck _) | (with_reducible exact tm_uns _) | (with_reducible exact tm_under _) | (with_reducible exact tm_sizeOf _) | (with_reducible exact tm_loadCells _ _) | (with_reducible exact tm_storeCells _ _ _) | (with_reducible exact tm_part _ _ _) | (with_reducible exact ih _ _ _) | (refine tame_forInA ?_ _ _) | (refine tame_forIn ?_ _ _) | (simp only [Std.Legacy.Range.forIn_eq_forIn_range']) | (with_reducible intro _) | (with_reducible refine tame_bind ?_ ?_) | (with_reducible refine tame_map ?_ ?_) | (with_reducible refine tame_ite ?_ ?_) | split | trivial | (intro _) | (dsimp only))

set_option maxHeartbeats 8000000 in
theorem tm_equalInA {P : Program} : ∀ (d : Nat) (t : TypeId) (x y : Value), Tame P TT (Op.equalIn d t x y)
  | 0, _, _, _ => trivial
  | d + 1, t, x, y => by
    have ih := fun t x y => tm_equalInA (P := P) d t x y
    unfold Op.equalIn
    repeat' (first | (with_reducible exact tm_pure _) | (with_reducible exact tm_stuck _) | (with_reducible exact tm_uns _) | (with_reducible exact tm_choose _) | (with_reducible exact tm_program) | (with_reducible exact tm_typeInfo _) | (with_reducible exact tm_under _) | (with_reducible exact tm_sizeOf _) | (with_reducible exact tm_loadCells _ _) | (with_reducible exact tm_storeCells _ _ _) | (with_reducible exact tm_part _ _ _) | (with_reducible exact tm_rp _) | (with_reducible exact tm_behind _) | (with_reducible exact tm_byteOf _) | (with_reducible exact tm_slice _ _ _ _ _) | (with_reducible exact tm_typeStr _) | (with_reducible exact tm_sameAddr _ _) | (with_reducible exact tm_samePointer _ _) | (with_reducible exact ih _ _ _) | (refine tame_forInA ?_ _ _) | (refine tame_forIn ?_ _ _) | (simp only [Std.Legacy.Range.forIn_eq_forIn_range']) | (with_reducible intro _) | (with_reducible refine tame_bind ?_ ?_) | (with_reducible refine tame_map ?_ ?_) | (with_reducible refine tame_ite ?_ ?_) | split | trivial | (intro _) | (dsimp only))

theorem tm_equalA {P : Program} (t : TypeId) (x y : Value) : Tame P TT (Op.equal t x y) := by
  unfold Op.equal
  repeat' (first | (with_reducible exact tm_pure _) | (with_reducible exact tm_stuck _) | (with_reducible exact tm_uns _) | (with_reducible exact tm_loadCells _ _) | (with_reducible exact tm_storeCells _ _ _) | (with_reducible exact tm_equalInA _ _ _ _) | (with_reducible intro _) | (with_reducible refine tame_bind ?_ ?_) | (with_reducible refine tame_map ?_ ?_) | (with_reducible refine tame_ite ?_ ?_) | split | trivial | (intro _) | (dsimp only))

theorem tm_eqGuardA {P : Program} (o : BinOp) (t : TypeId) (x y : Operand) (a b : Value) : Tame P TT (eqGuard o t x y a b) := by
  unfold eqGuard
  repeat' (first | (with_reducible exact tm_pure _) | (with_reducible exact tm_stuck _) | (with_reducible exact tm_uns _) | (with_reducible exact tm_program) | (with_reducible exact tm_loadCells _ _) | (with_reducible exact tm_storeCells _ _ _) | (with_reducible exact tm_part _ _ _) | (with_reducible exact tm_eqGuardInA _ _ _ _) | (with_reducible intro _) | (with_reducible refine tame_bind ?_ ?_) | (with_reducible refine tame_map ?_ ?_) | (with_reducible refine tame_ite ?_ ?_) | split | trivial | (intro _) | (dsimp only))

set_option maxHeartbeats 4000000 in
theorem tm_binOpA {P : Program} (o : BinOp) (t : TypeId) (x y : Value) : Tame P TT (binOp o t x y) := by
  unfold binOp
  repeat' (first | (with_reducible exact tm_pure _) | (with_reducible exact tm_stuck _) | (with_reducible exact tm_uns _) | (with_reducible exact tm_under _) | (with_reducible exact tm_loadCells _ _) | (with_reducible exact tm_storeCells _ _ _) | (with_reducible exact tm_behind _) | (with_reducible exact tm_intArith _ _ _ _) | (with_reducible exact tm_intDiv _ _ _ _) | (with_reducible exact tm_intBits _ _ _ _) | (with_reducible exact tm_intCmp _ _ _) | (with_reducible exact tm_shift _ _ _ _ _) | (with_reducible exact tm_stringOp _ _ _) | (with_reducible exact tm_floatCmp _ _ _ _) | (with_reducible exact tm_floatArith _ _ _ _) | (with_reducible exact tm_moved _ _ _) | (with_reducible exact tm_movedP _ _ _) | (with_reducible exact tm_complexOp _ _ _ _ _ _) | (with_reducible exact tm_addrSub _ _ _) | (with_reducible exact tm_addrCmp _ _ _) | (with_reducible exact tm_addrMod _ _ _) | (with_reducible exact tm_equalA _ _ _) | (with_reducible intro _) | (with_reducible refine tame_bind ?_ ?_) | (with_reducible refine tame_map ?_ ?_) | (with_reducible refine tame_ite ?_ ?_) | split | trivial | (intro _) | (dsimp only))

theorem tm_seenAt {P : Program} (a : Addr) : Tame P TT (Conv.seenAt a) := by
  unfold Conv.seenAt
  repeat' (first | (with_reducible exact tm_pure _) | (with_reducible exact tm_stuck _) | (with_reducible exact tm_uns _) | (with_reducible exact tm_shape _) | (with_reducible exact tm_program) | (with_reducible exact tm_loadCells _ _) | (with_reducible exact tm_storeCells _ _ _) | (with_reducible exact tm_viewAt _) | (with_reducible intro _) | (with_reducible refine tame_bind ?_ ?_) | (with_reducible refine tame_map ?_ ?_) | (with_reducible refine tame_ite ?_ ?_) | split | trivial | (intro _) | (dsimp only))

theorem tm_stb {P : Program} (e : TypeId) (s : ByteArray) : Tame P TT (Conv.stringToBytes e s) := by
  unfold Conv.stringToBytes
  repeat' (first | (with_reducible exact tm_pure _) | (with_reducible exact tm_stuck _) | (with_reducible exact tm_uns _) | (with_reducible exact tm_choose _) | (with_reducible exact tm_loadCells _ _) | (with_reducible exact tm_storeCells _ _ _) | (with_reducible exact tm_newRow _ _) | (with_reducible exact tm_slice _ _ _ _ _) | (with_reducible exact tm_stringish _) | (with_reducible intro _) | (with_reducible refine tame_bind ?_ ?_) | (with_reducible refine tame_map ?_ ?_) | (with_reducible refine tame_ite ?_ ?_) | split | trivial | (intro _) | (dsimp only))

theorem tm_bts {P : Program} (x : Value) : Tame P TT (Conv.bytesToString x) := by
  unfold Conv.bytesToString
  repeat' (first | (with_reducible exact tm_pure _) | (with_reducible exact tm_stuck _) | (with_reducible exact tm_uns _) | (with_reducible exact tm_loadCells _ _) | (with_reducible exact tm_storeCells _ _ _) | (with_reducible exact tm_slice _ _ _ _ _) | (refine tame_forInA ?_ _ _) | (with_reducible intro _) | (with_reducible refine tame_bind ?_ ?_) | (with_reducible refine tame_map ?_ ?_) | (with_reducible refine tame_ite ?_ ?_) | split | trivial | (intro _) | (dsimp only))

set_option maxHeartbeats 4000000 in
theorem tm_up {P : Program} (a b : TypeId) (x : Value) : Tame P TT (Conv.unsafePointer a b x) := by
  unfold Conv.unsafePointer
  repeat' (first | (with_reducible exact tm_pure _) | (with_reducible exact tm_stuck _) | (with_reducible exact tm_uns _) | (with_reducible exact tm_newObj _) | (with_reducible exact tm_shape _) | (with_reducible exact tm_program) | (with_reducible exact tm_under _) | (with_reducible exact tm_sizeOf _) | (with_reducible exact tm_loadCells _ _) | (with_reducible exact tm_storeCells _ _ _) | (with_reducible exact tm_asNumber _ _) | (with_reducible exact tm_cellsIn _) | (with_reducible exact tm_varsAt _ _ _) | (with_reducible exact tm_seenAt _) | (with_reducible intro _) | (with_reducible refine tame_bind ?_ ?_) | (with_reducible refine tame_map ?_ ?_) | (with_reducible refine tame_ite ?_ ?_) | split | trivial | (intro _) | (dsimp only))

theorem tm_loadBytes {P : Program} : ∀ (n : Nat) (a : Addr) (acc : ByteArray), Tame P TT (loadBytes a acc n)
  | 0, a, acc => by unfold loadBytes; exact tm_pure _
  | n + 1, a, acc => by
    have ih := fun a acc => tm_loadBytes (P := P) n a acc
    unfold loadBytes
    repeat' (first | (with_reducible exact tm_pure _) | (with_reducible exact tm_stuck _) | (with_reducible exact tm_uns _) | (with_reducible exact tm_load _) | (with_reducible exact tm_loadCells _ _) | (with_reducible exact tm_storeCells _ _ _) | (with_reducible exact ih _ _) | (with_reducible intro _) | (with_reducible refine tame_bind ?_ ?_) | (with_reducible refine tame_map ?_ ?_) | (with_reducible refine tame_ite ?_ ?_) | split | trivial | (intro _) | (dsimp only))

set_option maxHeartbeats 4000000 in
theorem tm_uString {P : Program} (ts : Array TypeId) (t : TypeId) (vs : Array Value) : Tame P TT (Builtin.unsafeString_ ts t vs) := by
  unfold Builtin.unsafeString_
  obtain ⟨l⟩ := vs
  rcases l with _ | ⟨x1, _ | ⟨x2, _ | ⟨x3, l⟩⟩⟩ <;> first | exact tm_stuck _ | skip
  cases x1 <;> first | exact tm_stuck _ | skip
  refine tame_bind (tm_asInt x2) fun n => ?_
  repeat' (first | (with_reducible exact tm_pure _) | (with_reducible exact tm_stuck _) | (with_reducible exact tm_uns _) | (with_reducible exact tm_freeze _ _) | (with_reducible exact tm_loadCells _ _) | (with_reducible exact tm_storeCells _ _ _) | (with_reducible exact tm_elemOf _) | (with_reducible exact tm_rp _) | (with_reducible exact tm_asInt _) | (with_reducible exact tm_len _ _ _) | (with_reducible exact tm_varsAt _ _ _) | (with_reducible exact tm_up _ _ _) | (with_reducible exact tm_loadBytes _ _ _) | (with_reducible intro _) | (with_reducible refine tame_bind ?_ ?_) | (with_reducible refine tame_map ?_ ?_) | (with_reducible refine tame_ite ?_ ?_) | split | trivial | (intro _) | (dsimp only))

set_option maxHeartbeats 4000000 in
theorem tm_uSliceData {P : Program} (ts : Array TypeId) (t : TypeId) (vs : Array Value) : Tame P TT (Builtin.unsafeSliceData_ ts t vs) := by
  unfold Builtin.unsafeSliceData_
  obtain ⟨l⟩ := vs
  rcases l with _ | ⟨x1, _ | ⟨x2, l⟩⟩ <;> first | exact tm_stuck _ | skip
  cases x1 <;> first | exact tm_stuck _ | skip
  rename_i o n c
  cases o with
  | none => exact tm_pure _
  | some a =>
    refine tame_ite (tm_pure _) (tame_bind (tm_viewAt _) fun b => ?_)
    repeat' (first | (with_reducible exact tm_pure _) | (with_reducible exact tm_stuck _) | (with_reducible exact tm_uns _) | (with_reducible exact tm_newObj _) | (with_reducible exact tm_loadCells _ _) | (with_reducible exact tm_storeCells _ _ _) | (with_reducible exact tm_elemOf _) | (with_reducible exact tm_viewAt _) | (with_reducible exact tm_slice _ _ _ _ _) | (with_reducible intro _) | (with_reducible refine tame_bind ?_ ?_) | (with_reducible refine tame_map ?_ ?_) | (with_reducible refine tame_ite ?_ ?_) | split | trivial | (intro _) | (dsimp only))

theorem tm_min2 {P : Program} (x y : Value) : Tame P TT (Builtin.min2 x y) := by
  unfold Builtin.min2
  repeat' (first | (with_reducible exact tm_pure _) | (with_reducible exact tm_stuck _) | (with_reducible exact tm_uns _) | (with_reducible exact tm_choose _) | (with_reducible exact tm_loadCells _ _) | (with_reducible exact tm_storeCells _ _ _) | (with_reducible exact tm_asBool _) | (with_reducible exact tm_stringOp _ _ _) | (with_reducible intro _) | (with_reducible refine tame_bind ?_ ?_) | (with_reducible refine tame_map ?_ ?_) | (with_reducible refine tame_ite ?_ ?_) | split | trivial | (intro _) | (dsimp only))

theorem tm_max2 {P : Program} (x y : Value) : Tame P TT (Builtin.max2 x y) := by
  unfold Builtin.max2
  repeat' (first | (with_reducible exact tm_pure _) | (with_reducible exact tm_stuck _) | (with_reducible exact tm_uns _) | (with_reducible exact tm_choose _) | (with_reducible exact tm_loadCells _ _) | (with_reducible exact tm_storeCells _ _ _) | (with_reducible exact tm_asBool _) | (with_reducible exact tm_stringOp _ _ _) | (with_reducible intro _) | (with_reducible refine tame_bind ?_ ?_) | (with_reducible refine tame_map ?_ ?_) | (with_reducible refine tame_ite ?_ ?_) | split | trivial | (intro _) | (dsimp only))

theorem tm_min {P : Program} (ts : Array TypeId) (t : TypeId) (vs : Array Value) : Tame P TT (Builtin.min_ ts t vs) := by
  unfold Builtin.min_
  repeat' (first | (with_reducible exact tm_pure _) | (with_reducible exact tm_stuck _) | (with_reducible exact tm_uns _) | (with_reducible exact tm_loadCells _ _) | (with_reducible exact tm_storeCells _ _ _) | (with_reducible exact tm_min2 _ _) | (refine tame_foldlM ?_ _ _) | (with_reducible intro _) | (with_reducible refine tame_bind ?_ ?_) | (with_reducible refine tame_map ?_ ?_) | (with_reducible refine tame_ite ?_ ?_) | split | trivial | (intro _) | (dsimp only))

theorem tm_max {P : Program} (ts : Array TypeId) (t : TypeId) (vs : Array Value) : Tame P TT (Builtin.max_ ts t vs) := by
  unfold Builtin.max_
  repeat' (first | (with_reducible exact tm_pure _) | (with_reducible exact tm_stuck _) | (with_reducible exact tm_uns _) | (with_reducible exact tm_loadCells _ _) | (with_reducible exact tm_storeCells _ _ _) | (with_reducible exact tm_max2 _ _) | (refine tame_foldlM ?_ _ _) | (with_reducible intro _) | (with_reducible refine tame_bind ?_ ?_) | (with_reducible refine tame_map ?_ ?_) | (with_reducible refine tame_ite ?_ ?_) | split | trivial | (intro _) | (dsimp only))

theorem tm_typeAssert {P : Program} (x : Value) (a b : TypeId) (c : Bool) : Tame P TT (Instr.typeAssert x a b c) := by
  unfold Instr.typeAssert
  repeat' (first | (with_reducible exact tm_pure _) | (with_reducible exact tm_stuck _) | (with_reducible exact tm_uns _) | (with_reducible exact tm_program) | (with_reducible exact tm_typeInfo _) | (with_reducible exact tm_under _) | (with_reducible exact tm_zero _) | (with_reducible exact tm_loadCells _ _) | (with_reducible exact tm_storeCells _ _ _) | (with_reducible exact tm_rp _) | (with_reducible exact tm_field _ _ _) | (with_reducible exact tm_panicString _) | (with_reducible intro _) | (with_reducible refine tame_bind ?_ ?_) | (with_reducible refine tame_map ?_ ?_) | (with_reducible refine tame_ite ?_ ?_) | split | trivial | (intro _) | (dsimp only))

theorem tm_itf {P : Program} (k : FloatKind) (n : Int) : Tame P TT (Conv.intToFloat k n) := by
  unfold Conv.intToFloat
  repeat' (first | (with_reducible exact tm_pure _) | (with_reducible exact tm_stuck _) | (with_reducible exact tm_uns _) | (with_reducible exact tm_loadCells _ _) | (with_reducible exact tm_storeCells _ _ _) | (with_reducible intro _) | (with_reducible refine tame_bind ?_ ?_) | (with_reducible refine tame_map ?_ ?_) | (with_reducible refine tame_ite ?_ ?_) | split | trivial | (intro _) | (dsimp only))

theorem tm_its {P : Program} (n : Int) : Tame P TT (Conv.intToString n) := by
  unfold Conv.intToString
  repeat' (first | (with_reducible exact tm_pure _) | (with_reducible exact tm_stuck _) | (with_reducible exact tm_uns _) | (with_reducible exact tm_loadCells _ _) | (with_reducible exact tm_storeCells _ _ _) | (with_reducible intro _) | (with_reducible refine tame_bind ?_ ?_) | (with_reducible refine tame_map ?_ ?_) | (with_reducible refine tame_ite ?_ ?_) | split | trivial | (intro _) | (dsimp only))

theorem tm_c2c {P : Program} (s : FloatKind) (a b : Nat) (k : FloatKind) : Tame P TT (Conv.complexToComplex s a b k) := by
  unfold Conv.complexToComplex
  repeat' (first | (with_reducible exact tm_pure _) | (with_reducible exact tm_stuck _) | (with_reducible exact tm_uns _) | (with_reducible exact tm_loadCells _ _) | (with_reducible exact tm_storeCells _ _ _) | (with_reducible exact tm_f2f _ _ _) | (with_reducible intro _) | (with_reducible refine tame_bind ?_ ?_) | (with_reducible refine tame_map ?_ ?_) | (with_reducible refine tame_ite ?_ ?_) | split | trivial | (intro _) | (dsimp only))

theorem tm_str {P : Program} (e : TypeId) (s : ByteArray) : Tame P TT (Conv.stringToRunes e s) := by
  unfold Conv.stringToRunes
  repeat' (first | (with_reducible exact tm_pure _) | (with_reducible exact tm_stuck _) | (with_reducible exact tm_uns _) | (with_reducible exact tm_choose _) | (with_reducible exact tm_loadCells _ _) | (with_reducible exact tm_storeCells _ _ _) | (with_reducible exact tm_newRow _ _) | (with_reducible exact tm_slice _ _ _ _ _) | (with_reducible intro _) | (with_reducible refine tame_bind ?_ ?_) | (with_reducible refine tame_map ?_ ?_) | (with_reducible refine tame_ite ?_ ?_) | split | trivial | (intro _) | (dsimp only))

theorem tm_rts {P : Program} (x : Value) : Tame P TT (Conv.runesToString x) := by
  unfold Conv.runesToString
  repeat' (first | (with_reducible exact tm_pure _) | (with_reducible exact tm_stuck _) | (with_reducible exact tm_uns _) | (with_reducible exact tm_loadCells _ _) | (with_reducible exact tm_storeCells _ _ _) | (with_reducible exact tm_slice _ _ _ _ _) | (refine tame_forInA ?_ _ _) | (with_reducible intro _) | (with_reducible refine tame_bind ?_ ?_) | (with_reducible refine tame_map ?_ ?_) | (with_reducible refine tame_ite ?_ ?_) | split | trivial | (intro _) | (dsimp only))

set_option maxHeartbeats 4000000 in
theorem tm_convertA {P : Program} (a b : TypeId) (x : Value) : Tame P TT (convert a b x) := by
  unfold convert
  repeat' (first | (with_reducible exact tm_pure _) | (with_reducible exact tm_stuck _) | (with_reducible exact tm_uns _) | (with_reducible exact tm_load _) | (with_reducible exact tm_under _) | (with_reducible exact tm_loadCells _ _) | (with_reducible exact tm_storeCells _ _ _) | (with_reducible exact tm_rp _) | (with_reducible exact tm_slice _ _ _ _ _) | (with_reducible exact tm_extract _ _) | (with_reducible exact tm_intToInt _ _) | (with_reducible exact tm_floatToInt _ _ _) | (with_reducible exact tm_f2f _ _ _) | (with_reducible exact tm_panicString _) | (with_reducible exact tm_stringish _) | (with_reducible exact tm_binOpA _ _ _ _) | (with_reducible exact tm_stb _ _) | (with_reducible exact tm_bts _) | (with_reducible exact tm_up _ _ _) | (with_reducible exact tm_itf _ _) | (with_reducible exact tm_its _) | (with_reducible exact tm_c2c _ _ _ _) | (with_reducible exact tm_str _ _) | (with_reducible exact tm_rts _) | (with_reducible intro _) | (with_reducible refine tame_bind ?_ ?_) | (with_reducible refine tame_map ?_ ?_) | (with_reducible refine tame_ite ?_ ?_) | split | trivial | (intro _) | (dsimp only))

theorem tm_follow {P : Program} : ∀ (l : List FieldStep) (t : TypeId) (x : Place), Tame P TT (follow l t x)
  | [], _, _ => trivial
  | s :: rest, t, x => by
    have ih := fun t x => tm_follow (P := P) rest t x
    unfold follow
    repeat' (first | (with_reducible exact tm_pure _) | (with_reducible exact tm_stuck _) | (with_reducible exact tm_uns _) | (with_reducible exact tm_under _) | (with_reducible exact tm_loadCells _ _) | (with_reducible exact tm_storeCells _ _ _) | (with_reducible exact tm_part _ _ _) | (with_reducible exact tm_asAddr _) | (with_reducible exact tm_fieldPlace _ _) | (with_reducible exact tm_field _ _ _) | (with_reducible exact tm_index _ _ _) | (with_reducible exact ih _ _) | (with_reducible exact tm_loadVar _ _) | (unfold Place.get) | (with_reducible intro _) | (with_reducible refine tame_bind ?_ ?_) | (with_reducible refine tame_map ?_ ?_) | (with_reducible refine tame_ite ?_ ?_) | split | trivial | (intro _) | (dsimp only))

theorem tm_get {P : Program} (t : TypeId) (x : Place) : Tame P TT (Place.get t x) := by
  unfold Place.get
  repeat' (first | (with_reducible exact tm_pure _) | (with_reducible exact tm_stuck _) | (with_reducible exact tm_uns _) | (with_reducible exact tm_loadCells _ _) | (with_reducible exact tm_storeCells _ _ _) | (with_reducible exact tm_loadVar _ _) | (with_reducible intro _) | (with_reducible refine tame_bind ?_ ?_) | (with_reducible refine tame_map ?_ ?_) | (with_reducible refine tame_ite ?_ ?_) | split | trivial | (intro _) | (dsimp only))

set_option maxHeartbeats 4000000 in
theorem tm_wrapNil {P : Program} (ts : Array TypeId) (t : TypeId) (vs : Array Value) : Tame P TT (Builtin.ssaWrapNilChk_ ts t vs) := by
  unfold Builtin.ssaWrapNilChk_
  obtain ⟨l⟩ := vs
  rcases l with _ | ⟨x1, _ | ⟨x2, _ | ⟨x3, _ | ⟨x4, l⟩⟩⟩⟩ <;> first | exact tm_stuck _ | skip
  cases x2 <;> first | exact tm_stuck _ | skip
  cases x3 <;> first | exact tm_stuck _ | skip
  cases x1 <;> first | exact tm_stuck _ | skip
  rename_i o
  cases o with
  | some a => exact tm_pure _
  | none =>
    refine tame_bind (tm_choose _) fun n => ?_
    repeat' (first | (with_reducible exact tm_pure _) | (with_reducible exact tm_stuck _) | (with_reducible exact tm_uns _) | (with_reducible exact tm_choose _) | (with_reducible exact tm_typeInfo _) | (with_reducible exact tm_under _) | (with_reducible exact tm_loadCells _ _) | (with_reducible exact tm_storeCells _ _ _) | (with_reducible exact tm_rp _) | (with_reducible intro _) | (with_reducible refine tame_bind ?_ ?_) | (with_reducible refine tame_map ?_ ?_) | (with_reducible refine tame_ite ?_ ?_) | split | trivial | (intro _) | (dsimp only))

theorem tm_receiverAt {P : Program} (t : TypeId) (x : Place) (b : Bool) (w : Option String) : Tame P TT (receiverAt t x b w) := by
  unfold receiverAt
  repeat' (first | (with_reducible exact tm_pure _) | (with_reducible exact tm_stuck _) | (with_reducible exact tm_uns _) | (with_reducible exact tm_under _) | (with_reducible exact tm_loadCells _ _) | (with_reducible exact tm_storeCells _ _ _) | (with_reducible exact tm_loadVar _ _) | (with_reducible exact tm_asAddr _) | (with_reducible exact tm_get _ _) | (with_reducible exact tm_wrapNil _ _ _) | (with_reducible intro _) | (with_reducible refine tame_bind ?_ ?_) | (with_reducible refine tame_map ?_ ?_) | (with_reducible refine tame_ite ?_ ?_) | split | trivial | (intro _) | (dsimp only))

theorem tm_range {P : Program} (t : TypeId) (x : Value) : Tame P TT (Instr.range t x) := by
  unfold Instr.range
  repeat' (first | (with_reducible exact tm_pure _) | (with_reducible exact tm_stuck _) | (with_reducible exact tm_uns _) | (with_reducible exact tm_newObj _) | (with_reducible exact tm_shape _) | (with_reducible exact tm_getObj _) | (with_reducible exact tm_under _) | (with_reducible exact tm_loadCells _ _) | (with_reducible exact tm_storeCells _ _ _) | (with_reducible exact tm_part _ _ _) | (with_reducible exact tm_index _ _ _) | (with_reducible intro _) | (with_reducible refine tame_bind ?_ ?_) | (with_reducible refine tame_map ?_ ?_) | (with_reducible refine tame_ite ?_ ?_) | split | trivial | (intro _) | (dsimp only))

set_option maxHeartbeats 4000000 in
theorem tm_next {P : Program} (x : Value) (b : Bool) (t : TypeId) : Tame P TT (Instr.next x b t) := by
  unfold Instr.next
  repeat' (first | (with_reducible exact tm_pure _) | (with_reducible exact tm_stuck _) | (with_reducible exact tm_uns _) | (with_reducible exact tm_load _) | (with_reducible exact tm_store _ _) | (with_reducible exact tm_getObj _) | (with_reducible exact tm_choose _) | (with_reducible exact tm_program) | (with_reducible exact tm_noRoom) | (with_reducible exact tm_zero _) | (with_reducible exact tm_loadCells _ _) | (with_reducible exact tm_storeCells _ _ _) | (with_reducible exact tm_elemOf _) | (with_reducible exact tm_rp _) | (with_reducible exact tm_asInt _) | (with_reducible exact tm_asAddr _) | (with_reducible exact tm_slice _ _ _ _ _) | (with_reducible exact tm_panicString _) | (with_reducible exact tm_get _ _) | (with_reducible exact tm_range _ _) | (with_reducible intro _) | (with_reducible refine tame_bind ?_ ?_) | (with_reducible refine tame_map ?_ ?_) | (with_reducible refine tame_ite ?_ ?_) | split | trivial | (intro _) | (dsimp only))

theorem tm_noPack {P : Program} (s : String) (t : TypeId) : Tame P TT (Extern.Rtype.noPack s t) := by
  unfold Extern.Rtype.noPack
  repeat' (first | (with_reducible exact tm_pure _) | (with_reducible exact tm_stuck _) | (with_reducible exact tm_uns _) | (with_reducible exact tm_program) | (with_reducible exact tm_loadCells _ _) | (with_reducible exact tm_storeCells _ _ _) | (with_reducible intro _) | (with_reducible refine tame_bind ?_ ?_) | (with_reducible refine tame_map ?_ ?_) | (with_reducible refine tame_ite ?_ ?_) | split | trivial | (intro _) | (dsimp only))

theorem tm_noPackHeld {P : Program} (s : String) (t : TypeId) : Tame P TT (Extern.Rtype.noPackHeld s t) := by
  unfold Extern.Rtype.noPackHeld
  repeat' (first | (with_reducible exact tm_pure _) | (with_reducible exact tm_stuck _) | (with_reducible exact tm_uns _) | (with_reducible exact tm_program) | (with_reducible exact tm_loadCells _ _) | (with_reducible exact tm_storeCells _ _ _) | (with_reducible intro _) | (with_reducible refine tame_bind ?_ ?_) | (with_reducible refine tame_map ?_ ?_) | (with_reducible refine tame_ite ?_ ?_) | split | trivial | (intro _) | (dsimp only))

theorem tm_noPackNamed {P : Program} (s : String) (t : TypeId) : Tame P TT (Extern.Rtype.noPackNamed s t) := by
  unfold Extern.Rtype.noPackNamed
  repeat' (first | (with_reducible exact tm_pure _) | (with_reducible exact tm_stuck _) | (with_reducible exact tm_uns _) | (with_reducible exact tm_program) | (with_reducible exact tm_loadCells _ _) | (with_reducible exact tm_storeCells _ _ _) | (with_reducible intro _) | (with_reducible refine tame_bind ?_ ?_) | (with_reducible refine tame_map ?_ ?_) | (with_reducible refine tame_ite ?_ ?_) | split | trivial | (intro _) | (dsimp only))

theorem tm_noPackMethods {P : Program} (s : String) (t : TypeId) : Tame P TT (Extern.Rtype.noPackMethods s t) := by
  unfold Extern.Rtype.noPackMethods
  repeat' (first | (with_reducible exact tm_pure _) | (with_reducible exact tm_stuck _) | (with_reducible exact tm_uns _) | (with_reducible exact tm_program) | (with_reducible exact tm_loadCells _ _) | (with_reducible exact tm_storeCells _ _ _) | (with_reducible intro _) | (with_reducible refine tame_bind ?_ ?_) | (with_reducible refine tame_map ?_ ?_) | (with_reducible refine tame_ite ?_ ?_) | split | trivial | (intro _) | (dsimp only))

theorem tm_spelt {P : Program} (t : TypeId) : Tame P TT (Extern.Rtype.spelt t) := by
  unfold Extern.Rtype.spelt
  repeat' (first | (with_reducible exact tm_pure _) | (with_reducible exact tm_stuck _) | (with_reducible exact tm_uns _) | (with_reducible exact tm_loadCells _ _) | (with_reducible exact tm_storeCells _ _ _) | (with_reducible exact tm_typeStr _) | (with_reducible exact tm_noPackNamed _ _) | (with_reducible intro _) | (with_reducible refine tame_bind ?_ ?_) | (with_reducible refine tame_map ?_ ?_) | (with_reducible refine tame_ite ?_ ?_) | split | trivial | (intro _) | (dsimp only))

theorem tm_underR {P : Program} (t : TypeId) : Tame P TT (Extern.Rtype.under t) := by
  unfold Extern.Rtype.under
  repeat' (first | (with_reducible exact tm_pure _) | (with_reducible exact tm_stuck _) | (with_reducible exact tm_uns _) | (with_reducible exact tm_typeInfo _) | (with_reducible exact tm_loadCells _ _) | (with_reducible exact tm_storeCells _ _ _) | (with_reducible intro _) | (with_reducible refine tame_bind ?_ ?_) | (with_reducible refine tame_map ?_ ?_) | (with_reducible refine tame_ite ?_ ?_) | split | trivial | (intro _) | (dsimp only))

theorem tm_kind {P : Program} (t : TypeId) : Tame P TT (Extern.Rtype.kind t) := by
  unfold Extern.Rtype.kind
  repeat' (first | (with_reducible exact tm_pure _) | (with_reducible exact tm_stuck _) | (with_reducible exact tm_uns _) | (with_reducible exact tm_loadCells _ _) | (with_reducible exact tm_storeCells _ _ _) | (with_reducible exact tm_slice _ _ _ _ _) | (with_reducible exact tm_up _ _ _) | (with_reducible exact tm_underR _) | (with_reducible intro _) | (with_reducible refine tame_bind ?_ ?_) | (with_reducible refine tame_map ?_ ?_) | (with_reducible refine tame_ite ?_ ?_) | split | trivial | (intro _) | (dsimp only))

theorem tm_hasName {P : Program} (t : TypeId) : Tame P TT (Extern.Rtype.hasName t) := by
  unfold Extern.Rtype.hasName
  repeat' (first | (with_reducible exact tm_pure _) | (with_reducible exact tm_stuck _) | (with_reducible exact tm_uns _) | (with_reducible exact tm_typeInfo _) | (with_reducible exact tm_loadCells _ _) | (with_reducible exact tm_storeCells _ _ _) | (with_reducible exact tm_up _ _ _) | (with_reducible intro _) | (with_reducible refine tame_bind ?_ ?_) | (with_reducible refine tame_map ?_ ?_) | (with_reducible refine tame_ite ?_ ?_) | split | trivial | (intro _) | (dsimp only))

theorem tm_elemQ {P : Program} (t : TypeId) : Tame P TT (Extern.Rtype.elem? t) := by
  unfold Extern.Rtype.elem?
  repeat' (first | (with_reducible exact tm_pure _) | (with_reducible exact tm_stuck _) | (with_reducible exact tm_uns _) | (with_reducible exact tm_loadCells _ _) | (with_reducible exact tm_storeCells _ _ _) | (with_reducible exact tm_slice _ _ _ _ _) | (with_reducible exact tm_underR _) | (with_reducible intro _) | (with_reducible refine tame_bind ?_ ?_) | (with_reducible refine tame_map ?_ ?_) | (with_reducible refine tame_ite ?_ ?_) | split | trivial | (intro _) | (dsimp only))

theorem tm_implements {P : Program} (t u : TypeId) : Tame P TT (Extern.Rtype.implements t u) := by
  unfold Extern.Rtype.implements
  repeat' (first | (with_reducible exact tm_pure _) | (with_reducible exact tm_stuck _) | (with_reducible exact tm_uns _) | (with_reducible exact tm_typeInfo _) | (with_reducible exact tm_loadCells _ _) | (with_reducible exact tm_storeCells _ _ _) | (with_reducible exact tm_noPackMethods _ _) | (with_reducible exact tm_underR _) | (with_reducible intro _) | (with_reducible refine tame_bind ?_ ?_) | (with_reducible refine tame_map ?_ ?_) | (with_reducible refine tame_ite ?_ ?_) | split | trivial | (intro _) | (dsimp only))

theorem tm_dirAss {P : Program} (t u : TypeId) : Tame P TT (Extern.Rtype.directlyAssignable t u) := by
  unfold Extern.Rtype.directlyAssignable
  repeat' (first | (with_reducible exact tm_pure _) | (with_reducible exact tm_stuck _) | (with_reducible exact tm_uns _) | (with_reducible exact tm_loadCells _ _) | (with_reducible exact tm_storeCells _ _ _) | (with_reducible exact tm_underR _) | (with_reducible exact tm_hasName _) | (simp only [Sem.bind]) | (with_reducible intro _) | (with_reducible refine tame_bind ?_ ?_) | (with_reducible refine tame_map ?_ ?_) | (with_reducible refine tame_ite ?_ ?_) | split | trivial | (intro _) | (dsimp only))

theorem tm_handle {P : Program} (t : TypeId) : Tame P TT (Extern.Rtype.handle t) := by
  unfold Extern.Rtype.handle
  repeat' (first | (with_reducible exact tm_pure _) | (with_reducible exact tm_stuck _) | (with_reducible exact tm_uns _) | (with_reducible exact tm_program) | (with_reducible exact tm_loadCells _ _) | (with_reducible exact tm_storeCells _ _ _) | (with_reducible intro _) | (with_reducible refine tame_bind ?_ ?_) | (with_reducible refine tame_map ?_ ?_) | (with_reducible refine tame_ite ?_ ?_) | split | trivial | (intro _) | (dsimp only))

theorem tm_ofHandle {P : Program} (v : Value) : Tame P TT (Extern.Rtype.ofHandle v) := by
  unfold Extern.Rtype.ofHandle
  repeat' (first | (with_reducible exact tm_pure _) | (with_reducible exact tm_stuck _) | (with_reducible exact tm_uns _) | (with_reducible exact tm_program) | (with_reducible exact tm_loadCells _ _) | (with_reducible exact tm_storeCells _ _ _) | (with_reducible intro _) | (with_reducible refine tame_bind ?_ ?_) | (with_reducible refine tame_map ?_ ?_) | (with_reducible refine tame_ite ?_ ?_) | split | trivial | (intro _) | (dsimp only))

theorem tm_toType {P : Program} (t : TypeId) : Tame P TT (Extern.ReflectliteType.toType t) := by
  unfold Extern.ReflectliteType.toType
  repeat' (first | (with_reducible exact tm_pure _) | (with_reducible exact tm_stuck _) | (with_reducible exact tm_uns _) | (with_reducible exact tm_loadCells _ _) | (with_reducible exact tm_storeCells _ _ _) | (with_reducible exact tm_cutType _) | (with_reducible exact tm_handle _) | (with_reducible intro _) | (with_reducible refine tame_bind ?_ ?_) | (with_reducible refine tame_map ?_ ?_) | (with_reducible refine tame_ite ?_ ?_) | split | trivial | (intro _) | (dsimp only))

theorem tm_ofRtype {P : Program} (v : Value) : Tame P TT (Extern.ReflectliteType.ofRtype v) := by
  unfold Extern.ReflectliteType.ofRtype
  cases v <;> first | exact tm_stuck _ | skip
  rename_i vs
  obtain ⟨l⟩ := vs
  rcases l with _ | ⟨x1, _ | ⟨x2, l⟩⟩ <;> first | exact tm_stuck _ | skip
  refine tame_bind (tm_ofHandle x1) fun t => ?_
  repeat' (first | (with_reducible exact tm_pure _) | (with_reducible exact tm_stuck _) | (with_reducible exact tm_uns _) | (with_reducible exact tm_loadCells _ _) | (with_reducible exact tm_storeCells _ _ _) | (with_reducible exact tm_noPack _ _) | (with_reducible exact tm_ofHandle _) | (with_reducible intro _) | (with_reducible refine tame_bind ?_ ?_) | (with_reducible refine tame_map ?_ ?_) | (with_reducible refine tame_ite ?_ ?_) | split | trivial | (intro _) | (dsimp only))

theorem tm_rTypeOf {P : Program} (vs : Array Value) : Tame P TT (Extern.ReflectliteType.typeOf vs) := by
  unfold Extern.ReflectliteType.typeOf
  obtain ⟨l⟩ := vs
  rcases l with _ | ⟨x1, _ | ⟨x2, l⟩⟩ <;> first | exact tm_stuck _ | skip
  cases x1 <;> first | exact tm_stuck _ | exact tm_pure _ | exact tm_toType _

theorem tm_rElem {P : Program} (t : TypeId) : Tame P TT (Extern.ReflectliteType.elem t) := by
  unfold Extern.ReflectliteType.elem
  repeat' (first | (with_reducible exact tm_pure _) | (with_reducible exact tm_stuck _) | (with_reducible exact tm_uns _) | (with_reducible exact tm_loadCells _ _) | (with_reducible exact tm_storeCells _ _ _) | (with_reducible exact tm_loadVar _ _) | (with_reducible exact tm_panicString _) | (with_reducible exact tm_spelt _) | (with_reducible exact tm_elemQ _) | (with_reducible exact tm_toType _) | (with_reducible intro _) | (with_reducible refine tame_bind ?_ ?_) | (with_reducible refine tame_map ?_ ?_) | (with_reducible refine tame_ite ?_ ?_) | split | trivial | (intro _) | (dsimp only))

theorem tm_rImpl {P : Program} (t u : TypeId) : Tame P TT (Extern.ReflectliteType.implements_ t u) := by
  unfold Extern.ReflectliteType.implements_
  repeat' (first | (with_reducible exact tm_pure _) | (with_reducible exact tm_stuck _) | (with_reducible exact tm_uns _) | (with_reducible exact tm_loadCells _ _) | (with_reducible exact tm_storeCells _ _ _) | (with_reducible exact tm_panicString _) | (with_reducible exact tm_noPack _ _) | (with_reducible exact tm_noPackMethods _ _) | (with_reducible exact tm_kind _) | (with_reducible exact tm_implements _ _) | (with_reducible intro _) | (with_reducible refine tame_bind ?_ ?_) | (with_reducible refine tame_map ?_ ?_) | (with_reducible refine tame_ite ?_ ?_) | split | trivial | (intro _) | (dsimp only))

theorem tm_rAss {P : Program} (t u : TypeId) : Tame P TT (Extern.ReflectliteType.assignableTo t u) := by
  unfold Extern.ReflectliteType.assignableTo
  repeat' (first | (with_reducible exact tm_pure _) | (with_reducible exact tm_stuck _) | (with_reducible exact tm_uns _) | (with_reducible exact tm_loadCells _ _) | (with_reducible exact tm_storeCells _ _ _) | (with_reducible exact tm_noPackMethods _ _) | (with_reducible exact tm_implements _ _) | (with_reducible exact tm_dirAss _ _) | (simp only [Sem.bind]) | (with_reducible intro _) | (with_reducible refine tame_bind ?_ ?_) | (with_reducible refine tame_map ?_ ?_) | (with_reducible refine tame_ite ?_ ?_) | split | trivial | (intro _) | (dsimp only))

theorem tm_rRel {P : Program} {f : TypeId → TypeId → Sem Bool} (hf : ∀ t u, Tame P TT (f t u)) (s : String) (vs : Array Value) : Tame P TT (Extern.ReflectliteType.relation s f vs) := by
  unfold Extern.ReflectliteType.relation
  obtain ⟨l⟩ := vs
  rcases l with _ | ⟨x1, _ | ⟨x2, _ | ⟨x3, l⟩⟩⟩ <;> first | exact tm_stuck _ | skip
  cases x2 <;> first | exact tm_stuck _ | exact tm_panicString _ | exact tame_bind (tm_ofRtype _) fun a => tame_bind (tm_ofRtype _) fun b => tame_bind (hf a b) fun c => tm_pure _

theorem tm_rMethod {P : Program} {f : TypeId → Sem Value} (hf : ∀ t, Tame P TT (f t)) (vs : Array Value) : Tame P TT (Extern.ReflectliteType.method f vs) := by
  unfold Extern.ReflectliteType.method
  obtain ⟨l⟩ := vs
  rcases l with _ | ⟨x1, _ | ⟨x2, l⟩⟩ <;> first | exact tm_stuck _ | skip
  exact tame_bind (tm_ofRtype _) fun t => hf t

theorem tm_rAbi {P : Program} {f : TypeId → Sem Value} (hf : ∀ t, Tame P TT (f t)) (vs : Array Value) : Tame P TT (Extern.ReflectliteType.abiMethod f vs) := by
  unfold Extern.ReflectliteType.abiMethod
  obtain ⟨l⟩ := vs
  rcases l with _ | ⟨x1, _ | ⟨x2, l⟩⟩ <;> first | exact tm_stuck _ | skip
  exact tame_bind (tm_ofHandle _) fun t => tame_bind (tm_noPack _ t) fun _ => hf t

theorem tm_vmk {P : Program} (t : TypeId) (a : Addr) (n : Nat) : Tame P TT (Extern.ReflectliteValue.mk t a n) := by
  unfold Extern.ReflectliteValue.mk
  repeat' (first | (with_reducible exact tm_pure _) | (with_reducible exact tm_stuck _) | (with_reducible exact tm_uns _) | (with_reducible exact tm_loadCells _ _) | (with_reducible exact tm_storeCells _ _ _) | (with_reducible exact tm_kind _) | (with_reducible exact tm_handle _) | (with_reducible intro _) | (with_reducible refine tame_bind ?_ ?_) | (with_reducible refine tame_map ?_ ?_) | (with_reducible refine tame_ite ?_ ?_) | split | trivial | (intro _) | (dsimp only))

theorem tm_unpack {P : Program} (v : Value) : Tame P TT (Extern.ReflectliteValue.unpack v) := by
  unfold Extern.ReflectliteValue.unpack
  repeat' (first | (with_reducible exact tm_pure _) | (with_reducible exact tm_stuck _) | (with_reducible exact tm_uns _) | (with_reducible exact tm_loadCells _ _) | (with_reducible exact tm_storeCells _ _ _) | (with_reducible exact tm_newVar _ _) | (with_reducible exact tm_vmk _ _ _) | (with_reducible intro _) | (with_reducible refine tame_bind ?_ ?_) | (with_reducible refine tame_map ?_ ?_) | (with_reducible refine tame_ite ?_ ?_) | split | trivial | (intro _) | (dsimp only))

theorem tm_valueError {P : Program} {α : Type} (s : String) (k : Nat) : Tame P TT (Extern.ReflectliteValue.valueError s k : Sem α) := by
  unfold Extern.ReflectliteValue.valueError
  repeat' (first | (with_reducible exact tm_pure _) | (with_reducible exact tm_stuck _) | (with_reducible exact tm_uns _) | (with_reducible exact tm_goPanic _) | (with_reducible exact tm_loadCells _ _) | (with_reducible exact tm_storeCells _ _ _) | (with_reducible exact tm_newVar _ _) | (with_reducible exact tm_elemOf _) | (with_reducible exact tm_cutType _) | (with_reducible intro _) | (with_reducible refine tame_bind ?_ ?_) | (with_reducible refine tame_map ?_ ?_) | (with_reducible refine tame_ite ?_ ?_) | split | trivial | (intro _) | (dsimp only))

theorem tm_partsAny {P : Program} (v : Value) : Tame P TT (Extern.ReflectliteValue.partsAny v) := by
  cases v <;> first | exact tm_stuck _ | skip
  rename_i vs
  obtain ⟨l⟩ := vs
  rcases l with _ | ⟨x1, _ | ⟨x2, _ | ⟨x3, _ | ⟨x4, l⟩⟩⟩⟩ <;> first | exact tm_stuck _ | skip
  cases x3 <;> first | exact tm_stuck _ | (cases x2 <;> exact tm_stuck _) | skip
  rename_i k n
  cases k <;> first | exact tm_stuck _ | (cases x2 <;> first | exact tm_stuck _ | (rename_i o; cases o <;> exact tm_stuck _)) | skip
  cases n with
  | ofNat m =>
    cases m with
    | zero => exact tm_pure _
    | succ m => cases x2 <;> first | exact tm_stuck _ | (rename_i o; cases o <;> first | exact tm_stuck _ | exact tame_bind (tm_ofHandle _) fun _ => tm_pure _)
  | negSucc m => cases x2 <;> first | exact tm_stuck _ | (rename_i o; cases o <;> first | exact tm_stuck _ | exact tame_bind (tm_ofHandle _) fun _ => tm_pure _)
theorem tm_parts {P : Program} (v : Value) : Tame P TT (Extern.ReflectliteValue.parts v) := by
  unfold Extern.ReflectliteValue.parts
  repeat' (first | (with_reducible exact tm_pure _) | (with_reducible exact tm_stuck _) | (with_reducible exact tm_uns _) | (with_reducible exact tm_shape _) | (with_reducible exact tm_loadCells _ _) | (with_reducible exact tm_storeCells _ _ _) | (with_reducible exact tm_part _ _ _) | (with_reducible exact tm_get _ _) | (with_reducible exact tm_noPack _ _) | (with_reducible exact tm_kind _) | (with_reducible exact tm_partsAny _) | (with_reducible intro _) | (with_reducible refine tame_bind ?_ ?_) | (with_reducible refine tame_map ?_ ?_) | (with_reducible refine tame_ite ?_ ?_) | split | trivial | (intro _) | (dsimp only))

theorem tm_vMethod {P : Program} {z : Sem Value} {f : TypeId → Addr → Nat → Nat → Sem Value} (hz : Tame P TT z) (hf : ∀ t a n k, Tame P TT (f t a n k)) (vs : Array Value) : Tame P TT (Extern.ReflectliteValue.method z f vs) := by
  unfold Extern.ReflectliteValue.method
  obtain ⟨l⟩ := vs
  rcases l with _ | ⟨x1, _ | ⟨x2, l⟩⟩ <;> first | exact tm_stuck _ | skip
  refine tame_bind (tm_parts _) fun o => ?_
  cases o with
  | none => exact hz
  | some x => exact hf _ _ _ _

theorem tm_vMethodAny {P : Program} {z : Sem Value} {f : TypeId → Addr → Nat → Nat → Sem Value} (hz : Tame P TT z) (hf : ∀ t a n k, Tame P TT (f t a n k)) (vs : Array Value) : Tame P TT (Extern.ReflectliteValue.methodAny z f vs) := by
  unfold Extern.ReflectliteValue.methodAny
  obtain ⟨l⟩ := vs
  rcases l with _ | ⟨x1, _ | ⟨x2, l⟩⟩ <;> first | exact tm_stuck _ | skip
  refine tame_bind (tm_partsAny _) fun o => ?_
  cases o with
  | none => exact hz
  | some x => exact hf _ _ _ _

theorem tm_vIsNil {P : Program} (t : TypeId) (a : Addr) (n k : Nat) : Tame P TT (Extern.ReflectliteValue.isNil t a n k) := by
  unfold Extern.ReflectliteValue.isNil
  repeat' (first | (with_reducible exact tm_pure _) | (with_reducible exact tm_stuck _) | (with_reducible exact tm_uns _) | (with_reducible exact tm_loadCells _ _) | (with_reducible exact tm_storeCells _ _ _) | (with_reducible exact tm_loadVar _ _) | (with_reducible exact tm_slice _ _ _ _ _) | (with_reducible exact tm_get _ _) | (with_reducible exact tm_kind _) | (with_reducible exact tm_valueError _ _) | (with_reducible intro _) | (with_reducible refine tame_bind ?_ ?_) | (with_reducible refine tame_map ?_ ?_) | (with_reducible refine tame_ite ?_ ?_) | split | trivial | (intro _) | (dsimp only))

theorem tm_vElem {P : Program} (t : TypeId) (a : Addr) (n k : Nat) : Tame P TT (Extern.ReflectliteValue.elem t a n k) := by
  unfold Extern.ReflectliteValue.elem
  repeat' (first | (with_reducible exact tm_pure _) | (with_reducible exact tm_stuck _) | (with_reducible exact tm_uns _) | (with_reducible exact tm_loadCells _ _) | (with_reducible exact tm_storeCells _ _ _) | (with_reducible exact tm_loadVar _ _) | (with_reducible exact tm_panicString _) | (with_reducible exact tm_spelt _) | (with_reducible exact tm_elemQ _) | (with_reducible exact tm_toType _) | (with_reducible exact tm_rElem _) | (with_reducible exact tm_vmk _ _ _) | (with_reducible exact tm_unpack _) | (with_reducible exact tm_valueError _ _) | (with_reducible intro _) | (with_reducible refine tame_bind ?_ ?_) | (with_reducible refine tame_map ?_ ?_) | (with_reducible refine tame_ite ?_ ?_) | split | trivial | (intro _) | (dsimp only))

theorem tm_vSet {P : Program} (vs : Array Value) : Tame P TT (Extern.ReflectliteValue.set vs) := by
  unfold Extern.ReflectliteValue.set
  obtain ⟨l⟩ := vs
  rcases l with _ | ⟨x1, _ | ⟨x2, _ | ⟨x3, l⟩⟩⟩ <;> first | exact tm_stuck _ | skip
  refine tame_bind (tm_parts _) fun o => ?_
  refine tame_bind (tm_parts _) fun o => ?_
  repeat' (first | (with_reducible exact tm_pure _) | (with_reducible exact tm_stuck _) | (with_reducible exact tm_uns _) | (with_reducible exact tm_zero _) | (with_reducible exact tm_loadCells _ _) | (with_reducible exact tm_storeCells _ _ _) | (with_reducible exact tm_loadVar _ _) | (with_reducible exact tm_storeVar _ _ _) | (with_reducible exact tm_panicString _) | (with_reducible exact tm_spelt _) | (with_reducible exact tm_kind _) | (with_reducible exact tm_implements _ _) | (with_reducible exact tm_dirAss _ _) | (with_reducible exact tm_parts _) | (with_reducible intro _) | (with_reducible refine tame_bind ?_ ?_) | (with_reducible refine tame_map ?_ ?_) | (with_reducible refine tame_ite ?_ ?_) | split | trivial | (intro _) | (dsimp only))

theorem tm_noEscape {P : Program} (vs : Array Value) : Tame P TT (Extern.AbiNoEscape.same vs) := by
  unfold Extern.AbiNoEscape.same
  obtain ⟨l⟩ := vs
  rcases l with _ | ⟨x1, _ | ⟨x2, l⟩⟩ <;> first | exact tm_stuck _ | skip
  exact tm_pure _

theorem tm_xLoadBytes {P : Program} : ∀ (n : Nat) (a : Addr) (acc : ByteArray), Tame P TT (Extern.Bytes.loadBytes a n acc)
  | 0, a, acc => by unfold Extern.Bytes.loadBytes; exact tm_pure _
  | n + 1, a, acc => by
    have ih := fun a acc => tm_xLoadBytes (P := P) n a acc
    unfold Extern.Bytes.loadBytes
    repeat' (first | (with_reducible exact tm_pure _) | (with_reducible exact tm_stuck _) | (with_reducible exact tm_uns _) | (with_reducible exact tm_load _) | (with_reducible exact tm_loadCells _ _) | (with_reducible exact tm_storeCells _ _ _) | (with_reducible exact tm_loadBytes _ _ _) | (with_reducible exact ih _ _) | (with_reducible intro _) | (with_reducible refine tame_bind ?_ ?_) | (with_reducible refine tame_map ?_ ?_) | (with_reducible refine tame_ite ?_ ?_) | split | trivial | (intro _) | (dsimp only))

theorem tm_bytesOf {P : Program} (v : Value) : Tame P TT (Extern.Bytes.bytesOf v) := by
  unfold Extern.Bytes.bytesOf
  repeat' (first | (with_reducible exact tm_pure _) | (with_reducible exact tm_stuck _) | (with_reducible exact tm_uns _) | (with_reducible exact tm_loadCells _ _) | (with_reducible exact tm_storeCells _ _ _) | (with_reducible exact tm_slice _ _ _ _ _) | (with_reducible exact tm_loadBytes _ _ _) | (with_reducible exact tm_xLoadBytes _ _ _) | (with_reducible intro _) | (with_reducible refine tame_bind ?_ ?_) | (with_reducible refine tame_map ?_ ?_) | (with_reducible refine tame_ite ?_ ?_) | split | trivial | (intro _) | (dsimp only))

theorem tm_asByte {P : Program} (v : Value) : Tame P TT (Extern.Bytes.asByte v) := by
  unfold Extern.Bytes.asByte
  repeat' (first | (with_reducible exact tm_pure _) | (with_reducible exact tm_stuck _) | (with_reducible exact tm_uns _) | (with_reducible exact tm_loadCells _ _) | (with_reducible exact tm_storeCells _ _ _) | (with_reducible intro _) | (with_reducible refine tame_bind ?_ ?_) | (with_reducible refine tame_map ?_ ?_) | (with_reducible refine tame_ite ?_ ?_) | split | trivial | (intro _) | (dsimp only))

theorem tm_xIndexByte {P : Program} (vs : Array Value) : Tame P TT (Extern.BytealgIndexByte.indexByte vs) := by
  unfold Extern.BytealgIndexByte.indexByte
  obtain ⟨l⟩ := vs
  rcases l with _ | ⟨x1, _ | ⟨x2, _ | ⟨x3, l⟩⟩⟩ <;> first | exact tm_stuck _ | skip
  refine tame_bind (tm_bytesOf _) fun b => tame_bind (tm_asByte _) fun c => ?_
  repeat' (first | (with_reducible exact tm_pure _) | (with_reducible exact tm_stuck _) | (with_reducible exact tm_uns _) | (with_reducible exact tm_loadCells _ _) | (with_reducible exact tm_storeCells _ _ _) | (with_reducible exact tm_range _ _) | (with_reducible exact tm_bytesOf _) | (with_reducible exact tm_asByte _) | (with_reducible intro _) | (with_reducible refine tame_bind ?_ ?_) | (with_reducible refine tame_map ?_ ?_) | (with_reducible refine tame_ite ?_ ?_) | split | trivial | (intro _) | (dsimp only))

theorem tm_xCount {P : Program} (vs : Array Value) : Tame P TT (Extern.BytealgCount.count vs) := by
  unfold Extern.BytealgCount.count
  obtain ⟨l⟩ := vs
  rcases l with _ | ⟨x1, _ | ⟨x2, _ | ⟨x3, l⟩⟩⟩ <;> first | exact tm_stuck _ | skip
  refine tame_bind (tm_bytesOf _) fun b => tame_bind (tm_asByte _) fun c => ?_
  repeat' (first | (with_reducible exact tm_pure _) | (with_reducible exact tm_stuck _) | (with_reducible exact tm_uns _) | (with_reducible exact tm_load _) | (with_reducible exact tm_loadCells _ _) | (with_reducible exact tm_storeCells _ _ _) | (with_reducible exact tm_slice _ _ _ _ _) | (with_reducible exact tm_up _ _ _) | (with_reducible exact tm_bytesOf _) | (with_reducible exact tm_asByte _) | (with_reducible intro _) | (with_reducible refine tame_bind ?_ ?_) | (with_reducible refine tame_map ?_ ?_) | (with_reducible refine tame_ite ?_ ?_) | split | trivial | (intro _) | (dsimp only))

theorem tm_xMaxLen {P : Program}  : Tame P TT (Extern.BytealgIndex.maxLen) := by
  unfold Extern.BytealgIndex.maxLen
  repeat' (first | (with_reducible exact tm_pure _) | (with_reducible exact tm_stuck _) | (with_reducible exact tm_uns _) | (with_reducible exact tm_load _) | (with_reducible exact tm_loadCells _ _) | (with_reducible exact tm_storeCells _ _ _) | (with_reducible exact tm_asInt _) | (with_reducible exact tm_globalAddr _) | (with_reducible intro _) | (with_reducible refine tame_bind ?_ ?_) | (with_reducible refine tame_map ?_ ?_) | (with_reducible refine tame_ite ?_ ?_) | split | trivial | (intro _) | (dsimp only))

theorem tm_xIndex {P : Program} (vs : Array Value) : Tame P TT (Extern.BytealgIndex.index vs) := by
  unfold Extern.BytealgIndex.index
  obtain ⟨l⟩ := vs
  rcases l with _ | ⟨x1, _ | ⟨x2, _ | ⟨x3, l⟩⟩⟩ <;> first | exact tm_stuck _ | skip
  refine tame_bind (tm_bytesOf _) fun b => tame_bind (tm_bytesOf _) fun c => ?_
  repeat' (first | (with_reducible exact tm_pure _) | (with_reducible exact tm_stuck _) | (with_reducible exact tm_uns _) | (with_reducible exact tm_load _) | (with_reducible exact tm_shape _) | (with_reducible exact tm_under _) | (with_reducible exact tm_sizeOf _) | (with_reducible exact tm_loadCells _ _) | (with_reducible exact tm_storeCells _ _ _) | (with_reducible exact tm_part _ _ _) | (with_reducible exact tm_bp _ _ _ _) | (with_reducible exact tm_asIntOf _) | (with_reducible exact tm_asInt _) | (with_reducible exact tm_slice _ _ _ _ _) | (with_reducible exact tm_extract _ _) | (with_reducible exact tm_index _ _ _) | (with_reducible exact tm_panicString _) | (with_reducible exact tm_get _ _) | (with_reducible exact tm_range _ _) | (with_reducible exact tm_underR _) | (with_reducible exact tm_rElem _) | (with_reducible exact tm_vmk _ _ _) | (with_reducible exact tm_vElem _ _ _ _) | (with_reducible exact tm_bytesOf _) | (with_reducible exact tm_xMaxLen) | (with_reducible intro _) | (with_reducible refine tame_bind ?_ ?_) | (with_reducible refine tame_map ?_ ?_) | (with_reducible refine tame_ite ?_ ?_) | split | trivial | (intro _) | (dsimp only))

theorem tm_xNoZero {P : Program} (ts us : Array TypeId) (vs : Array Value) : Tame P TT (Extern.BytealgMakeNoZero.makeNoZero ts us vs) := by
  unfold Extern.BytealgMakeNoZero.makeNoZero
  obtain ⟨l⟩ := vs
  rcases l with _ | ⟨x1, _ | ⟨x2, l⟩⟩ <;> first | exact tm_stuck _ | skip
  cases x1 <;> first | exact tm_stuck _ | skip
  rename_i k n
  cases k <;> first | exact tm_stuck _ | skip
  cases us[0]? with
  | none => exact tm_stuck _
  | some t =>
    refine tame_bind (tm_under t) fun d => ?_
    repeat' (first | (with_reducible exact tm_pure _) | (with_reducible exact tm_stuck _) | (with_reducible exact tm_uns _) | (with_reducible exact tm_choose _) | (with_reducible exact tm_room _) | (with_reducible exact tm_under _) | (with_reducible exact tm_loadCells _ _) | (with_reducible exact tm_storeCells _ _ _) | (with_reducible exact tm_newRow _ _) | (with_reducible exact tm_rp _) | (with_reducible exact tm_slice _ _ _ _ _) | (with_reducible exact tm_range _ _) | (with_reducible exact tm_rElem _) | (with_reducible exact tm_vElem _ _ _ _) | (with_reducible intro _) | (with_reducible refine tame_bind ?_ ?_) | (with_reducible refine tame_map ?_ ?_) | (with_reducible refine tame_ite ?_ ?_) | split | trivial | (intro _) | (dsimp only))

end Go.Proofs.Ytlglokbakmbpdaa
