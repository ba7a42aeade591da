/-
  Plain texts: functions whose operations are tame, whose calls are of plain functions, and that defer nothing, start nothing, communicate nothing. No program is named here.
-/
import Derived.Test.YtlglokbakmbpdabTp
import Derived.Laws.Sem
namespace Go.Proofs.Ytlglokbakmbpdab
open Go Go.Conc
set_option linter.unusedVariables false
set_option linter.unusedSimpArgs false

def okNext (ok : FuncId → Bool) : Next → Prop
  | .value _ => True
  | .skip => True
  | .enter f _ => ok f = true
  | _ => False

def okBI : Builtin → Bool
  | .append | .cap | .copy | .len => true
  | _ => false

def intT (P : Program) (t : TypeId) : Bool :=
  match P.underlying t with
  | some (.int _) => true
  | _ => false

def okOp (P : Program) (ok : FuncId → Bool) : Op → Bool
  | .move _ | .assign _ | .pick .. | .alloc _ | .box .. | .buildSlice .. | .load .. | .store .. | .nilCheck _ | .unOp .. | .makeFunc .. | .makeSlice .. | .slice .. | .fieldAddr .. | .field .. | .indexAddr .. | .index .. | .extract .. | .panic _ => true
  | .binOp _ t _ _ _ => flatT P t
  | .convert a b _ => intT P a && intT P b
  | .call { callee := .builtin b, .. } => okBI b
  | .call { callee := .value (.func f), .. } => ok f
  | _ => false

def okC (P : Program) (ok : FuncId → Bool) : Code → Bool
  | .skip | .ret | .exit _ => true
  | .seq a b => okC P ok a && okC P ok b
  | .cond _ a b => okC P ok a && okC P ok b
  | .block _ c => okC P ok c
  | .loop c => okC P ok c
  | .region _ ops _ => ops.all fun o => okOp P ok o.op
  | _ => false

def tmpR : ResultVar → Bool
  | .tmp _ => true
  | .cell .. => false

def okFn (P : Program) (ok : FuncId → Bool) (fn : Func) : Bool :=
  fn.name != "runtime.NumGoroutine" && fn.results.all tmpR && (match fn.body with | some c => okC P ok c | none => false)

/-- Whoever is named is plain. -/
def okFns (P : Program) (ok : FuncId → Bool) : Prop := ∀ f, ok f = true → ∃ fn, P.funcs[f]? = some fn ∧ okFn P ok fn = true

theorem okFns_of {P : Program} {ok : FuncId → Bool} (n : Nat) (h : (List.range n).all (fun f => !ok f || (match P.funcs[f]? with | some fn => okFn P ok fn | none => false)) = true) (hn : ∀ f, n ≤ f → ok f = false) : okFns P ok := by
  intro f hf
  have hlt : f < n := by
    apply Classical.byContradiction
    intro hc
    rw [hn f (Nat.le_of_not_lt hc)] at hf; cases hf
  have := List.all_eq_true.1 h f (List.mem_range.2 hlt)
  rw [hf] at this
  cases hg : P.funcs[f]? with
  | none => rw [hg] at this; cases this
  | some fn => rw [hg] at this; exact ⟨fn, rfl, by simpa using this⟩

theorem tm_rpL {P : Program} {α : Type} {L : α → Prop} (e : RuntimeError) : Tame P L (runtimePanic e : Sem α) := by
  unfold runtimePanic
  refine tame_bind tm_program fun p => ?_
  cases e <;> first | trivial | (exact tame_bind (tm_elemOf _) fun _ => tame_bind (tm_newVar _ _) fun _ => trivial) | skip

theorem tm_panicnil {P : Program} : Tame P TT Instr.panicnil := by
  unfold Instr.panicnil sys
  refine ⟨rfl, fun r => ?_⟩
  cases r <;> first | exact tm_stuck _ | trivial

theorem tm_panic {P : Program} (x : Value) : Tame P TT (Instr.panic x) := by
  unfold Instr.panic
  cases x <;> first | exact tm_stuck _ | exact tm_goPanic _ | skip
  refine tame_bind tm_panicnil fun n => ?_
  exact tame_ite (tm_goPanic _) (tm_rp _)

theorem tm_convert {P : Program} {s d : TypeId} (hs : intT P s = true) (hd : intT P d = true) (x : Value) : Tame P TT (convert s d x) := by
  unfold intT at hs hd
  cases h1 : P.underlying s with
  | none => rw [h1] at hs; cases hs
  | some u =>
    cases h2 : P.underlying d with
    | none => rw [h2] at hd; cases hd
    | some v =>
      rw [h1] at hs; rw [h2] at hd
      cases u <;> first | (cases hs; done) | skip
      cases v <;> first | (cases hd; done) | skip
      unfold convert underlying
      show Tame P TT (Sem.bind (match P.underlying s with | some d => pure d | none => stuck "no such type") _)
      rw [h1]
      show Tame P TT (Sem.bind (match P.underlying d with | some d => pure d | none => stuck "no such type") _)
      rw [h2]
      cases x <;> first | exact tm_uns _ | exact tm_intToInt _ _ | exact tm_floatToInt _ _ _ | skip
      rename_i a
      cases a <;> exact tm_uns _

theorem tm_pick {P : Program} {ok : FuncId → Bool} {s : Sem Value} (h : Tame P TT s) : Tame P (okNext ok) (do pure (.value (← s))) := tame_bind h fun _ => trivial
theorem tm_unit {P : Program} {ok : FuncId → Bool} {s : Sem Unit} (h : Tame P TT s) : Tame P (okNext ok) (do s; pure .skip) := tame_bind h fun _ => trivial

theorem tame_exec {P : Program} {ok : FuncId → Bool} (hok : okFns P ok) {ρ : Operand → Value} (hρ : ∀ f, ρ (.func f) = .func (.func f) #[] #[]) (o : Oper) (h : okOp P ok o.op = true) : Tame P (okNext ok) (execOp ρ o) := by
  unfold execOp
  cases ho : o.op with
  | move x => trivial
  | assign x => trivial
  | pick c a b => exact tame_bind (tm_asBool _) fun _ => trivial
  | alloc e => exact tm_pick (tm_alloc _ _ _)
  | box e x => exact tm_pick (tm_box _ _)
  | buildSlice t n ps => exact tm_pick (tm_buildSlice _ _ _)
  | load t a => exact tm_pick (tm_loadAt _ _)
  | store t a x => exact tm_unit (tm_storeAt _ _ _)
  | nilCheck x =>
    dsimp only
    split
    · exact tm_rpL _
    · exact tm_rpL _
    · exact tm_rpL _
    · split
      · exact tm_rpL _
      · refine tame_bind tm_program fun p => tame_bind (tm_nilAhead _ _ _ _) fun r => ?_
        exact tame_ite (tame_bind (tm_uns _) fun _ => trivial) trivial
      · trivial
    · trivial
  | unOp op t x => exact tm_pick (tm_unary _ _)
  | makeFunc f a b => exact tm_pick (tm_makeFunc _ _ _)
  | makeSlice t a b => exact tm_pick (tm_makeSlice _ _ _)
  | slice t x a b c => exact tm_pick (tm_sliceAt _ _ _ _ _)
  | fieldAddr s x f => exact tm_pick (tm_fieldAt _ _ _)
  | field s x f => exact tm_pick (tm_field _ _ _)
  | indexAddr t x i => exact tm_pick (tm_indexAt _ _ _)
  | index t x i => exact tm_pick (tm_index _ _ _)
  | extract t i => exact tm_pick (tm_extract _ _)
  | panic x => exact tm_pick (tm_panic _)
  | binOp op t x y z =>
    rw [ho] at h
    exact tm_pick (tame_bind (tm_eqGuard h _ _ _ _ _) fun _ => tm_binOp h _ _ _)
  | convert a b x =>
    rw [ho] at h
    simp only [okOp, Bool.and_eq_true] at h
    exact tm_pick (tm_convert h.1 h.2 _)
  | call c =>
    rw [ho] at h
    obtain ⟨callee, args, tys⟩ := c
    cases callee with
    | builtin b =>
      simp only [okOp] at h
      unfold resolve
      dsimp only
      show Tame P (okNext ok) (invoke (.builtin _ _ _ _) _)
      unfold invoke
      dsimp only
      unfold builtin
      cases b <;> first | (cases h; done) | skip
      · exact tm_pick (tm_append _ _ _)
      · exact tm_pick (tm_cap _ _ _)
      · exact tm_pick (tm_copy _ _ _)
      · exact tm_pick (tm_len _ _ _)
    | value x =>
      cases x <;> first | (cases h; done) | skip
      rename_i f
      simp only [okOp] at h
      unfold resolve
      simp only [hρ]
      show Tame P (okNext ok) (invoke (.fn (.func f) #[]) _)
      unfold invoke
      dsimp only
      unfold callFunc
      obtain ⟨fn, hfn, hg⟩ := hok f h
      show Tame P (okNext ok) (match P.funcs[f]? with | none => _ | some fn => _)
      rw [hfn]
      dsimp only
      simp only [okFn, Bool.and_eq_true, bne_iff_ne, ne_eq] at hg
      obtain ⟨⟨g1, _⟩, g3⟩ := hg
      have g1' : (fn.name == "runtime.NumGoroutine") = false := by simpa using g1
      have g3' : fn.body.isNone = false := by cases hb : fn.body <;> simp_all
      rw [g1', g3']
      exact h
    | invoke _ _ => cases h
  | _ => rw [ho] at h; cases h

end Go.Proofs.Ytlglokbakmbpdab
