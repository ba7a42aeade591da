/-
  Operators, conversions and the test for nil are tame (written by tmgen2.py). No program is named here.
-/
import Derived.Test.YtlglokbakmbpdaaTo
namespace Go.Proofs.Ytlglokbakmbpdaa
open Go Go.Conc
set_option linter.unusedVariables false
set_option linter.unusedSimpArgs false

theorem tm_unsafeAdd {P : Program} (ts : Array TypeId) (t : TypeId) (x y : Value) : Tame P TT (Builtin.unsafeAdd_ ts t #[x, y]) := by
  unfold Builtin.unsafeAdd_
  cases x
  case pointer p =>
    refine tame_bind (tm_asInt y) (fun n => ?_)
    repeat' (first | (with_reducible exact tm_pure _) | (with_reducible exact tm_stuck _) | (with_reducible exact tm_uns _) | (with_reducible exact tm_goPanic _) | (with_reducible exact tm_load _) | (with_reducible exact tm_store _ _) | (with_reducible exact tm_newObj _) | (with_reducible exact tm_shape _) | (with_reducible exact tm_freeze _ _) | (with_reducible exact tm_frozen _) | (with_reducible exact tm_getObj _) | (with_reducible exact tm_choose _) | (with_reducible exact tm_program) | (with_reducible exact tm_room _) | (with_reducible exact tm_noRoom) | (with_reducible exact tm_typeInfo _) | (with_reducible exact tm_under _) | (with_reducible exact tm_zero _) | (with_reducible exact tm_sizeOf _) | (with_reducible exact tm_isAgg _) | (with_reducible exact tm_loadCells _ _) | (with_reducible exact tm_storeCells _ _ _) | (with_reducible exact tm_loadVar _ _) | (with_reducible exact tm_storeVar _ _ _) | (with_reducible exact tm_newRow _ _) | (with_reducible exact tm_newVar _ _) | (with_reducible exact tm_elemOf _) | (with_reducible exact tm_part _ _ _) | (with_reducible exact tm_rp _) | (with_reducible exact tm_bp _ _ _ _) | (with_reducible exact tm_asIntOf _) | (with_reducible exact tm_asInt _) | (with_reducible exact tm_asBool _) | (with_reducible exact tm_asString _) | (with_reducible exact tm_asAgg _) | (with_reducible exact tm_asAddr _) | (with_reducible exact tm_viewAt _) | (with_reducible exact tm_numberAt _) | (with_reducible exact tm_asNumber _ _) | (with_reducible exact tm_behind _) | (with_reducible exact tm_sureAddr _) | (with_reducible exact tm_loadAt _ _) | (with_reducible exact tm_storeAt _ _ _) | (with_reducible exact tm_alloc _ _ _) | (with_reducible exact tm_box _ _) | (with_reducible exact tm_noView _) | (with_reducible exact tm_byteOf _) | (with_reducible exact tm_partAt _ _ _) | (with_reducible exact tm_fieldPlace _ _) | (with_reducible exact tm_fieldAt _ _ _) | (with_reducible exact tm_indexAt _ _ _) | (with_reducible exact tm_sliceBound _ _ _) | (with_reducible exact tm_sliceBounds _ _ _ _ _ _) | (with_reducible exact tm_slice _ _ _ _ _) | (with_reducible exact tm_sliceAt _ _ _ _ _) | (with_reducible exact tm_buildSlice _ _ _) | (with_reducible exact tm_makeSlice _ _ _) | (with_reducible exact tm_makeFunc _ _ _) | (with_reducible exact tm_extract _ _) | (with_reducible exact tm_field _ _ _) | (with_reducible exact tm_index _ _ _) | (with_reducible exact tm_holds _ _) | (with_reducible exact tm_share _ _ _ _ _) | (with_reducible exact tm_lenOf _) | (with_reducible exact tm_first _ _ _) | (with_reducible exact tm_append _ _ _) | (with_reducible exact tm_copy _ _ _) | (with_reducible exact tm_len _ _ _) | (with_reducible exact tm_cap _ _ _) | (with_reducible exact tm_intArith _ _ _ _) | (with_reducible exact tm_intDiv _ _ _ _) | (with_reducible exact tm_intBits _ _ _ _) | (with_reducible exact tm_intCmp _ _ _) | (with_reducible exact tm_shift _ _ _ _ _) | (with_reducible exact tm_stringOp _ _ _) | (with_reducible exact tm_unary _ _) | (with_reducible exact tm_floatCmp _ _ _ _) | (with_reducible exact tm_floatArith _ _ _ _) | (with_reducible exact tm_intToInt _ _) | (with_reducible exact tm_floatToInt _ _ _) | (with_reducible intro _) | (with_reducible refine tame_bind ?_ ?_) | (with_reducible refine tame_map ?_ ?_) | (with_reducible refine tame_ite ?_ ?_) | split | trivial | (intro _) | (dsimp only))
  all_goals exact tm_stuck _

theorem tm_moved {P : Program} (t : TypeId) (x y : Value) : Tame P TT (movedNumber t x y) := by
  unfold movedNumber
  repeat' (first | (with_reducible exact tm_pure _) | (with_reducible exact tm_stuck _) | (with_reducible exact tm_uns _) | (with_reducible exact tm_under _) | (with_reducible exact tm_loadCells _ _) | (with_reducible exact tm_storeCells _ _ _) | (with_reducible exact tm_asNumber _ _) | (with_reducible exact tm_behind _) | (with_reducible exact tm_unsafeAdd _ _ _ _) | (with_reducible intro _) | (with_reducible refine tame_bind ?_ ?_) | (with_reducible refine tame_map ?_ ?_) | (with_reducible refine tame_ite ?_ ?_) | split | trivial | (intro _) | (dsimp only))

theorem tm_movedP {P : Program} (t : TypeId) (x y : Value) : Tame P TT (movedPointer t x y) := by
  unfold movedPointer
  repeat' (first | (with_reducible exact tm_pure _) | (with_reducible exact tm_stuck _) | (with_reducible exact tm_uns _) | (with_reducible exact tm_loadCells _ _) | (with_reducible exact tm_storeCells _ _ _) | (with_reducible exact tm_numberAt _) | (with_reducible exact tm_unsafeAdd _ _ _ _) | (with_reducible intro _) | (with_reducible refine tame_bind ?_ ?_) | (with_reducible refine tame_map ?_ ?_) | (with_reducible refine tame_ite ?_ ?_) | split | trivial | (intro _) | (dsimp only))

theorem tm_f2f {P : Program} (s : FloatKind) (b : Nat) (d : FloatKind) : Tame P TT (Conv.floatToFloat s b d) := by
  unfold Conv.floatToFloat
  repeat' (first | (with_reducible exact tm_pure _) | (with_reducible exact tm_stuck _) | (with_reducible exact tm_uns _) | (with_reducible exact tm_choose _) | (with_reducible exact tm_loadCells _ _) | (with_reducible exact tm_storeCells _ _ _) | (with_reducible exact tm_unsafeAdd _ _ _ _) | (with_reducible intro _) | (with_reducible refine tame_bind ?_ ?_) | (with_reducible refine tame_map ?_ ?_) | (with_reducible refine tame_ite ?_ ?_) | split | trivial | (intro _) | (dsimp only))

theorem tm_carith {P : Program} (o : BinOp) (k : FloatKind) (x y : Nat) : Tame P TT (Op.Complex.arith o k x y) := by
  unfold Op.Complex.arith
  repeat' (first | (with_reducible exact tm_pure _) | (with_reducible exact tm_stuck _) | (with_reducible exact tm_uns _) | (with_reducible exact tm_loadCells _ _) | (with_reducible exact tm_storeCells _ _ _) | (with_reducible exact tm_floatArith _ _ _ _) | (with_reducible exact tm_unsafeAdd _ _ _ _) | (with_reducible intro _) | (with_reducible refine tame_bind ?_ ?_) | (with_reducible refine tame_map ?_ ?_) | (with_reducible refine tame_ite ?_ ?_) | split | trivial | (intro _) | (dsimp only))

theorem tm_ccmp {P : Program} (o : BinOp) (k : FloatKind) (x y : Nat) : Tame P TT (Op.Complex.cmp o k x y) := by
  unfold Op.Complex.cmp
  repeat' (first | (with_reducible exact tm_pure _) | (with_reducible exact tm_stuck _) | (with_reducible exact tm_uns _) | (with_reducible exact tm_loadCells _ _) | (with_reducible exact tm_storeCells _ _ _) | (with_reducible exact tm_asBool _) | (with_reducible exact tm_floatCmp _ _ _ _) | (with_reducible exact tm_unsafeAdd _ _ _ _) | (with_reducible intro _) | (with_reducible refine tame_bind ?_ ?_) | (with_reducible refine tame_map ?_ ?_) | (with_reducible refine tame_ite ?_ ?_) | split | trivial | (intro _) | (dsimp only))

theorem tm_cconv {P : Program} (k : FloatKind) (x : Nat) (d : FloatKind) : Tame P TT (Op.Complex.conv k x d) := by
  unfold Op.Complex.conv
  repeat' (first | (with_reducible exact tm_pure _) | (with_reducible exact tm_stuck _) | (with_reducible exact tm_uns _) | (with_reducible exact tm_loadCells _ _) | (with_reducible exact tm_storeCells _ _ _) | (with_reducible exact tm_unsafeAdd _ _ _ _) | (with_reducible exact tm_f2f _ _ _) | (with_reducible intro _) | (with_reducible refine tame_bind ?_ ?_) | (with_reducible refine tame_map ?_ ?_) | (with_reducible refine tame_ite ?_ ?_) | split | trivial | (intro _) | (dsimp only))

theorem tm_cadd {P : Program} (x y : Nat) : Tame P TT (Op.Complex.add x y) := tm_carith _ _ _ _
theorem tm_csub {P : Program} (x y : Nat) : Tame P TT (Op.Complex.sub x y) := tm_carith _ _ _ _
theorem tm_cmul {P : Program} (x y : Nat) : Tame P TT (Op.Complex.mul x y) := tm_carith _ _ _ _
theorem tm_cquo {P : Program} (x y : Nat) : Tame P TT (Op.Complex.quo x y) := tm_carith _ _ _ _
theorem tm_cprod {P : Program} (a b c d : Nat) : Tame P TT (Op.Complex.product a b c d) := by
  unfold Op.Complex.product
  repeat' (first | (with_reducible exact tm_pure _) | (with_reducible exact tm_stuck _) | (with_reducible exact tm_uns _) | (with_reducible exact tm_loadCells _ _) | (with_reducible exact tm_storeCells _ _ _) | (with_reducible exact tm_unsafeAdd _ _ _ _) | (with_reducible exact tm_cadd _ _) | (with_reducible exact tm_csub _ _) | (with_reducible exact tm_cmul _ _) | (with_reducible exact tm_cquo _ _) | (with_reducible intro _) | (with_reducible refine tame_bind ?_ ?_) | (with_reducible refine tame_map ?_ ?_) | (with_reducible refine tame_ite ?_ ?_) | split | trivial | (intro _) | (dsimp only))

theorem tm_ccorr {P : Program} (s a b c d : Nat) : Tame P TT (Op.Complex.corrected s a b c d) := by
  unfold Op.Complex.corrected
  repeat' (first | (with_reducible exact tm_pure _) | (with_reducible exact tm_stuck _) | (with_reducible exact tm_uns _) | (with_reducible exact tm_loadCells _ _) | (with_reducible exact tm_storeCells _ _ _) | (with_reducible exact tm_unsafeAdd _ _ _ _) | (with_reducible exact tm_cadd _ _) | (with_reducible exact tm_csub _ _) | (with_reducible exact tm_cmul _ _) | (with_reducible exact tm_cquo _ _) | (with_reducible intro _) | (with_reducible refine tame_bind ?_ ?_) | (with_reducible refine tame_map ?_ ?_) | (with_reducible refine tame_ite ?_ ?_) | split | trivial | (intro _) | (dsimp only))

set_option maxHeartbeats 4000000 in
theorem tm_cquot {P : Program} (a b c d : Nat) : Tame P TT (Op.Complex.quotient a b c d) := by
  unfold Op.Complex.quotient
  repeat' (first | (with_reducible exact tm_pure _) | (with_reducible exact tm_stuck _) | (with_reducible exact tm_uns _) | (with_reducible exact tm_loadCells _ _) | (with_reducible exact tm_storeCells _ _ _) | (with_reducible exact tm_unsafeAdd _ _ _ _) | (with_reducible exact tm_ccmp _ _ _ _) | (with_reducible exact tm_cadd _ _) | (with_reducible exact tm_csub _ _) | (with_reducible exact tm_cmul _ _) | (with_reducible exact tm_cquo _ _) | (with_reducible exact tm_ccorr _ _ _ _ _) | (with_reducible intro _) | (with_reducible refine tame_bind ?_ ?_) | (with_reducible refine tame_map ?_ ?_) | (with_reducible refine tame_ite ?_ ?_) | split | trivial | (intro _) | (dsimp only))

set_option maxHeartbeats 4000000 in
theorem tm_complexOp {P : Program} (o : BinOp) (k : FloatKind) (a b c d : Nat) : Tame P TT (Op.complexOp o k a b c d) := by
  unfold Op.complexOp
  repeat' (first | (with_reducible exact tm_pure _) | (with_reducible exact tm_stuck _) | (with_reducible exact tm_uns _) | (with_reducible exact tm_loadCells _ _) | (with_reducible exact tm_storeCells _ _ _) | (with_reducible exact tm_unsafeAdd _ _ _ _) | (with_reducible exact tm_carith _ _ _ _) | (with_reducible exact tm_ccmp _ _ _ _) | (with_reducible exact tm_cconv _ _ _) | (with_reducible exact tm_cadd _ _) | (with_reducible exact tm_csub _ _) | (with_reducible exact tm_cmul _ _) | (with_reducible exact tm_cquo _ _) | (with_reducible exact tm_cprod _ _ _ _) | (with_reducible exact tm_cquot _ _ _ _) | (with_reducible intro _) | (with_reducible refine tame_bind ?_ ?_) | (with_reducible refine tame_map ?_ ?_) | (with_reducible refine tame_ite ?_ ?_) | split | trivial | (intro _) | (dsimp only))

theorem tm_twoPlaces {P : Program} (a b : Addr) : Tame P TT (Op.twoPlaces a b) := by
  unfold Op.twoPlaces
  repeat' (first | (with_reducible exact tm_pure _) | (with_reducible exact tm_stuck _) | (with_reducible exact tm_uns _) | (with_reducible exact tm_program) | (with_reducible exact tm_loadCells _ _) | (with_reducible exact tm_storeCells _ _ _) | (with_reducible exact tm_byteOf _) | (with_reducible exact tm_unsafeAdd _ _ _ _) | (with_reducible exact tm_cadd _ _) | (with_reducible exact tm_csub _ _) | (with_reducible exact tm_cmul _ _) | (with_reducible exact tm_cquo _ _) | (with_reducible intro _) | (with_reducible refine tame_bind ?_ ?_) | (with_reducible refine tame_map ?_ ?_) | (with_reducible refine tame_ite ?_ ?_) | split | trivial | (intro _) | (dsimp only))

theorem tm_addrSub {P : Program} (k : IntKind) (a b : Addr) : Tame P TT (Op.addrSub k a b) := by
  unfold Op.addrSub
  repeat' (first | (with_reducible exact tm_pure _) | (with_reducible exact tm_stuck _) | (with_reducible exact tm_uns _) | (with_reducible exact tm_loadCells _ _) | (with_reducible exact tm_storeCells _ _ _) | (with_reducible exact tm_unsafeAdd _ _ _ _) | (with_reducible exact tm_cadd _ _) | (with_reducible exact tm_csub _ _) | (with_reducible exact tm_cmul _ _) | (with_reducible exact tm_cquo _ _) | (with_reducible exact tm_twoPlaces _ _) | (with_reducible intro _) | (with_reducible refine tame_bind ?_ ?_) | (with_reducible refine tame_map ?_ ?_) | (with_reducible refine tame_ite ?_ ?_) | split | trivial | (intro _) | (dsimp only))

theorem tm_addrCmp {P : Program} (o : BinOp) (a b : Addr) : Tame P TT (Op.addrCmp o a b) := by
  unfold Op.addrCmp
  repeat' (first | (with_reducible exact tm_pure _) | (with_reducible exact tm_stuck _) | (with_reducible exact tm_uns _) | (with_reducible exact tm_loadCells _ _) | (with_reducible exact tm_storeCells _ _ _) | (with_reducible exact tm_unsafeAdd _ _ _ _) | (with_reducible exact tm_cadd _ _) | (with_reducible exact tm_csub _ _) | (with_reducible exact tm_cmul _ _) | (with_reducible exact tm_cquo _ _) | (with_reducible exact tm_twoPlaces _ _) | (with_reducible intro _) | (with_reducible refine tame_bind ?_ ?_) | (with_reducible refine tame_map ?_ ?_) | (with_reducible refine tame_ite ?_ ?_) | split | trivial | (intro _) | (dsimp only))

theorem tm_addrMod {P : Program} (k : IntKind) (a : Addr) (n : Int) : Tame P TT (Op.addrMod k a n) := by
  unfold Op.addrMod
  repeat' (first | (with_reducible exact tm_pure _) | (with_reducible exact tm_stuck _) | (with_reducible exact tm_uns _) | (with_reducible exact tm_shape _) | (with_reducible exact tm_typeInfo _) | (with_reducible exact tm_loadCells _ _) | (with_reducible exact tm_storeCells _ _ _) | (with_reducible exact tm_byteOf _) | (with_reducible exact tm_unsafeAdd _ _ _ _) | (with_reducible exact tm_cadd _ _) | (with_reducible exact tm_csub _ _) | (with_reducible exact tm_cmul _ _) | (with_reducible exact tm_cquo _ _) | (with_reducible intro _) | (with_reducible refine tame_bind ?_ ?_) | (with_reducible refine tame_map ?_ ?_) | (with_reducible refine tame_ite ?_ ?_) | split | trivial | (intro _) | (dsimp only))

theorem tm_followBlind {P : Program} : ∀ (l : List FieldStep) (t : TypeId) (x : Option Value), Tame P TT (followBlind l t x)
  | [], _, _ => trivial
  | s :: rest, t, x => by
    have ih := fun t x => tm_followBlind (P := P) rest t x
    unfold followBlind
    repeat' (first | (with_reducible exact tm_pure _) | (with_reducible exact tm_stuck _) | (with_reducible exact tm_uns _) | (with_reducible exact tm_under _) | (with_reducible exact tm_loadCells _ _) | (with_reducible exact tm_storeCells _ _ _) | (with_reducible exact tm_part _ _ _) | (with_reducible exact tm_field _ _ _) | (with_reducible exact tm_index _ _ _) | (with_reducible exact tm_unsafeAdd _ _ _ _) | (with_reducible exact tm_cadd _ _) | (with_reducible exact tm_csub _ _) | (with_reducible exact tm_cmul _ _) | (with_reducible exact tm_cquo _ _) | (with_reducible exact ih _ _) | (with_reducible intro _) | (with_reducible refine tame_bind ?_ ?_) | (with_reducible refine tame_map ?_ ?_) | (with_reducible refine tame_ite ?_ ?_) | split | trivial | (intro _) | (dsimp only))

theorem tm_nilAhead {P : Program} : ∀ (n : Nat) (t : TypeId) (v : Value) (s : String), Tame P TT (nilAhead n t v s)
  | 0, _, _, _ => trivial
  | n + 1, t, v, s => by
    have ih := fun t v s => tm_nilAhead (P := P) n t v s
    unfold nilAhead
    repeat' (first | (with_reducible exact tm_pure _) | (with_reducible exact tm_stuck _) | (with_reducible exact tm_uns _) | (with_reducible exact tm_typeInfo _) | (with_reducible exact tm_under _) | (with_reducible exact tm_loadCells _ _) | (with_reducible exact tm_storeCells _ _ _) | (with_reducible exact tm_unsafeAdd _ _ _ _) | (with_reducible exact tm_cadd _ _) | (with_reducible exact tm_csub _ _) | (with_reducible exact tm_cmul _ _) | (with_reducible exact tm_cquo _ _) | (with_reducible exact tm_followBlind _ _ _) | (with_reducible exact ih _ _ _) | (with_reducible intro _) | (with_reducible refine tame_bind ?_ ?_) | (with_reducible refine tame_map ?_ ?_) | (with_reducible refine tame_ite ?_ ?_) | split | trivial | (intro _) | (dsimp only))

/-- A type whose values lie in one cell and bear no parts: an integer kind, bool, string, a slice. -/
def flatT (P : Program) (t : TypeId) : Bool :=
  match P.underlying t with
  | some (.int _) | some .bool | some .string | some (.slice _) => true
  | _ => false

theorem tm_eqGuardIn {P : Program} {t : TypeId} (h : flatT P t = true) (d : Nat) (x y : Value) : Tame P TT (Op.eqGuardIn d t x y) := by
  cases d with
  | zero => trivial
  | succ d =>
    unfold Op.eqGuardIn
    unfold flatT at h
    show Tame P TT ((underlying t).bind _)
    unfold underlying
    cases hu : P.underlying t with
    | none => rw [hu] at h; cases h
    | some u =>
      rw [hu] at h
      show Tame P TT ((Sem.bind (match P.underlying t with | some d => pure d | none => stuck "no such type") _))
      rw [hu]
      cases u <;> first | (cases h; done) | trivial

set_option maxHeartbeats 8000000 in
theorem tm_equalIn {P : Program} {t : TypeId} (h : flatT P t = true) (d : Nat) (x y : Value) : Tame P TT (Op.equalIn d t x y) := by
  cases d with
  | zero => trivial
  | succ d =>
    unfold Op.equalIn
    unfold flatT at h
    show Tame P TT ((underlying t).bind _)
    unfold underlying
    cases hu : P.underlying t with
    | none => rw [hu] at h; cases h
    | some u =>
      rw [hu] at h
      show Tame P TT ((Sem.bind (match P.underlying t with | some d => pure d | none => stuck "no such type") _))
      rw [hu]
      cases u <;> first | (cases h; done) | skip
      all_goals
        show Tame P TT (_ : Sem Bool)
        simp only [Sem.bind, pure]
        cases x <;> first | exact tm_stuck _ | (cases y <;> first | exact tm_stuck _ | (try dsimp only) <;> repeat' (first | (with_reducible exact tm_pure _) | (with_reducible exact tm_stuck _) | (with_reducible exact tm_uns _) | (with_reducible exact tm_choose _) | (with_reducible exact tm_program) | (with_reducible exact tm_typeInfo _) | (with_reducible exact tm_under _) | (with_reducible exact tm_sizeOf _) | (with_reducible exact tm_loadCells _ _) | (with_reducible exact tm_storeCells _ _ _) | (with_reducible exact tm_part _ _ _) | (with_reducible exact tm_rp _) | (with_reducible exact tm_behind _) | (with_reducible exact tm_byteOf _) | (with_reducible exact tm_slice _ _ _ _ _) | (with_reducible exact tm_unsafeAdd _ _ _ _) | (with_reducible exact tm_cadd _ _) | (with_reducible exact tm_csub _ _) | (with_reducible exact tm_cmul _ _) | (with_reducible exact tm_cquo _ _) | (with_reducible exact tm_followBlind _ _ _) | (with_reducible exact tm_nilAhead _ _ _ _) | (with_reducible intro _) | (with_reducible refine tame_bind ?_ ?_) | (with_reducible refine tame_map ?_ ?_) | (with_reducible refine tame_ite ?_ ?_) | split | trivial | (intro _) | (dsimp only)))

theorem tm_eqGuard {P : Program} {t : TypeId} (h : flatT P t = true) (o : BinOp) (x y : Operand) (a b : Value) : Tame P TT (eqGuard o t x y a b) := by
  unfold eqGuard
  repeat' (first | (with_reducible exact tm_pure _) | (with_reducible exact tm_stuck _) | (with_reducible exact tm_uns _) | (with_reducible exact tm_program) | (with_reducible exact tm_loadCells _ _) | (with_reducible exact tm_storeCells _ _ _) | (with_reducible exact tm_part _ _ _) | (with_reducible exact tm_unsafeAdd _ _ _ _) | (with_reducible exact tm_cadd _ _) | (with_reducible exact tm_csub _ _) | (with_reducible exact tm_cmul _ _) | (with_reducible exact tm_cquo _ _) | (with_reducible exact tm_followBlind _ _ _) | (with_reducible exact tm_nilAhead _ _ _ _) | (with_reducible exact tm_eqGuardIn h _ _ _) | (with_reducible intro _) | (with_reducible refine tame_bind ?_ ?_) | (with_reducible refine tame_map ?_ ?_) | (with_reducible refine tame_ite ?_ ?_) | split | trivial | (intro _) | (dsimp only))
theorem tm_equal {P : Program} {t : TypeId} (h : flatT P t = true) (x y : Value) : Tame P TT (Op.equal t x y) := tm_equalIn h _ _ _

set_option maxHeartbeats 4000000 in
theorem tm_binOp {P : Program} {t : TypeId} (h : flatT P t = true) (o : BinOp) (x y : Value) : Tame P TT (binOp o t x y) := by
  unfold binOp
  repeat' (first | (with_reducible exact tm_pure _) | (with_reducible exact tm_stuck _) | (with_reducible exact tm_uns _) | (with_reducible exact tm_under _) | (with_reducible exact tm_loadCells _ _) | (with_reducible exact tm_storeCells _ _ _) | (with_reducible exact tm_behind _) | (with_reducible exact tm_intArith _ _ _ _) | (with_reducible exact tm_intDiv _ _ _ _) | (with_reducible exact tm_intBits _ _ _ _) | (with_reducible exact tm_intCmp _ _ _) | (with_reducible exact tm_shift _ _ _ _ _) | (with_reducible exact tm_stringOp _ _ _) | (with_reducible exact tm_floatCmp _ _ _ _) | (with_reducible exact tm_floatArith _ _ _ _) | (with_reducible exact tm_unsafeAdd _ _ _ _) | (with_reducible exact tm_moved _ _ _) | (with_reducible exact tm_movedP _ _ _) | (with_reducible exact tm_cadd _ _) | (with_reducible exact tm_csub _ _) | (with_reducible exact tm_cmul _ _) | (with_reducible exact tm_cquo _ _) | (with_reducible exact tm_complexOp _ _ _ _ _ _) | (with_reducible exact tm_addrSub _ _ _) | (with_reducible exact tm_addrCmp _ _ _) | (with_reducible exact tm_addrMod _ _ _) | (with_reducible exact tm_followBlind _ _ _) | (with_reducible exact tm_nilAhead _ _ _ _) | (with_reducible exact tm_equal h _ _) | (with_reducible intro _) | (with_reducible refine tame_bind ?_ ?_) | (with_reducible refine tame_map ?_ ?_) | (with_reducible refine tame_ite ?_ ?_) | split | trivial | (intro _) | (dsimp only))

end Go.Proofs.Ytlglokbakmbpdaa
