/-
  Plain texts: functions whose operations are tame, whose calls are of plain functions, and that defer nothing, start nothing, communicate nothing. No program is named here.
-/
import Derived.Test.YtlglokbakmbpdaaVo
import Derived.KernelRfl
import Derived.Laws.Sem
namespace Go.Proofs.Ytlglokbakmbpdaa
open Go Go.Conc
set_option linter.unusedVariables false
set_option linter.unusedSimpArgs false

theorem tm_stuck' {P : Program} {α : Type} {L : α → Prop} (s : String) : Tame P L (stuck s : Sem α) := trivial

def okNext (ok : FuncId → Bool) : Next → Prop
  | .value _ => True
  | .skip => True
  | .enter f _ => ok f = true
  | _ => False

def okBI : Builtin → Bool
  | .append | .cap | .copy | .len | .min | .max | .unsafeString | .unsafeSliceData => true
  | _ => false

/-- Entries of the library that have no body, and that are tame. -/
def xNames : List String := ["internal/abi.NoEscape", "internal/bytealg.IndexByteString", "internal/bytealg.IndexString", "internal/bytealg.CountString", "internal/bytealg.MakeNoZero", "internal/reflectlite.ValueOf", "(internal/reflectlite.Value).Type", "(internal/reflectlite.Value).IsNil", "internal/reflectlite.TypeOf", "(internal/reflectlite.Value).Elem", "(internal/reflectlite.Value).Set", "(*internal/abi.Type).Kind", "(internal/reflectlite.rtype).Elem", "(internal/reflectlite.rtype).Implements", "(internal/reflectlite.rtype).AssignableTo", "(internal/reflectlite.Value).Kind"]
def xFn (P : Program) (f : FuncId) : Bool :=
  match P.funcs[f]? with
  | some fn => fn.name != "runtime.NumGoroutine" && fn.body.isNone && fn.origin == "" && xNames.contains fn.name
  | none => false
/-- Entries that the model does not have: a call of one ends the run. -/
def nFn (P : Program) (f : FuncId) : Bool :=
  match P.funcs[f]? with
  | some fn => fn.name != "runtime.NumGoroutine" && fn.body.isNone && (Extern.findNext fn).isNone && (Extern.find fn).isNone
  | none => false
def okF (P : Program) (ok : FuncId → Bool) (f : FuncId) : Bool := ok f || xFn P f || nFn P f
/-- Whoever bears a method of this name is plain. -/
def okM (P : Program) (ok : FuncId → Bool) (m : String) : Bool :=
  P.types.all fun i => i.methods.all fun mm => mm.name != m || (match mm.func with | some (f, _) => okF P ok f | none => true)

def okOp (P : Program) (ok : FuncId → Bool) : Op → Bool
  | .move _ | .assign _ | .pick .. | .alloc _ | .box .. | .build .. | .makeInterface .. | .buildSlice .. | .load .. | .store .. | .nilCheck _ | .unOp .. | .makeFunc .. | .makeSlice .. | .slice .. | .fieldAddr .. | .field .. | .indexAddr .. | .index .. | .extract .. | .panic _ | .binOp .. | .convert .. | .typeAssert .. | .range .. | .next .. => true
  | .call { callee := .builtin b, .. } => okBI b
  | .call { callee := .value (.func f), .. } => okF P ok f
  | .call { callee := .invoke _ m, .. } => okM P ok m
  | _ => false

def okC (P : Program) (ok : FuncId → Bool) : Code → Bool
  | .skip | .ret | .exit _ | .refuse _ => true
  | .seq a b => okC P ok a && okC P ok b
  | .cond _ a b => okC P ok a && okC P ok b
  | .block _ c => okC P ok c
  | .loop c => okC P ok c
  | .region _ ops _ => ops.all fun o => okOp P ok o.op
  | _ => false

def tmpR : ResultVar → Bool
  | .tmp _ => true
  | .cell .. => false

def okFn (P : Program) (ok : FuncId → Bool) (fn : Func) : Bool :=
  fn.name != "runtime.NumGoroutine" && (match fn.body with | some c => okC P ok c | none => false)

/-- Whoever is named is plain. -/
def okFns (P : Program) (ok : FuncId → Bool) : Prop := ∀ f, ok f = true → ∃ fn, P.funcs[f]? = some fn ∧ okFn P ok fn = true

theorem okFns_of {P : Program} {ok : FuncId → Bool} (n : Nat) (h : (List.range n).all (fun f => !ok f || (match P.funcs[f]? with | some fn => okFn P ok fn | none => false)) = true) (hn : ∀ f, n ≤ f → ok f = false) : okFns P ok := by
  intro f hf
  have hlt : f < n := by
    apply Classical.byContradiction
    intro hc
    rw [hn f (Nat.le_of_not_lt hc)] at hf; cases hf
  have := List.all_eq_true.1 h f (List.mem_range.2 hlt)
  rw [hf] at this
  cases hg : P.funcs[f]? with
  | none => rw [hg] at this; cases this
  | some fn => rw [hg] at this; exact ⟨fn, rfl, by simpa using this⟩

theorem tm_rpL {P : Program} {α : Type} {L : α → Prop} (e : RuntimeError) : Tame P L (runtimePanic e : Sem α) := by
  unfold runtimePanic
  refine tame_bind tm_program fun p => ?_
  cases e <;> first | trivial | (exact tame_bind (tm_elemOf _) fun _ => tame_bind (tm_newVar _ _) fun _ => trivial) | skip

theorem tm_panicnil {P : Program} : Tame P TT Instr.panicnil := by
  unfold Instr.panicnil sys
  refine ⟨rfl, fun r => ?_⟩
  cases r <;> first | exact tm_stuck _ | trivial

theorem tm_panic {P : Program} (x : Value) : Tame P TT (Instr.panic x) := by
  unfold Instr.panic
  cases x <;> first | exact tm_stuck _ | exact tm_goPanic _ | skip
  refine tame_bind tm_panicnil fun n => ?_
  exact tame_ite (tm_goPanic _) (tm_rp _)

theorem tm_pick {P : Program} {ok : FuncId → Bool} {s : Sem Value} (h : Tame P TT s) : Tame P (okNext ok) (do pure (.value (← s))) := tame_bind h fun _ => trivial
theorem tm_unit {P : Program} {ok : FuncId → Bool} {s : Sem Unit} (h : Tame P TT s) : Tame P (okNext ok) (do s; pure .skip) := tame_bind h fun _ => trivial

theorem tame_mapL {P : Program} {α β : Type} {f : α → Sem β} (hf : ∀ x, Tame P TT (f x)) : ∀ l : List α, Tame P TT (l.mapM f)
  | [] => by rw [List.mapM_nil]; exact tm_pure _
  | a :: l => by
    rw [List.mapM_cons]
    exact tame_bind (hf a) fun b => tame_bind (tame_mapL hf l) fun bs => tm_pure _
theorem tame_mapA {P : Program} {α β : Type} {f : α → Sem β} (hf : ∀ x, Tame P TT (f x)) (zs : Array α) : Tame P TT (zs.mapM f) := by
  rw [Array.mapM_eq_mapM_toList]
  exact tame_map (tame_mapL hf _) fun _ => trivial
theorem tm_makeInterface {P : Program} (t : TypeId) (x : Value) : Tame P TT (Instr.makeInterface t x) := by
  unfold Instr.makeInterface
  refine tame_bind (tm_under _) fun u => ?_
  split
  · exact tm_stuck _
  · exact tm_pure _
theorem tm_build {P : Program} (t : TypeId) (ps : Array (Nat × Value)) : Tame P TT (Instr.build t ps) := by
  unfold Instr.build
  refine tame_bind (tm_zero _) fun z => tame_bind (tm_under _) fun u => ?_
  split
  · refine tame_bind (tame_mapA (fun f => tame_bind (tm_sizeOf _) fun _ => tm_pure _) _) fun p => ?_
    split
    · exact tm_pure _
    · exact tm_stuck _
  · refine tame_bind (tm_sizeOf _) fun p => ?_
    split
    · exact tm_pure _
    · exact tm_stuck _
  · exact tm_stuck _

def NoM (o : Option TypeInfo) : Prop := ∀ i, o = some i → i.methods = #[]
theorem noM_none : NoM none := fun i h => by cases h
theorem noM_some {x : TypeInfo} (h : x.methods = #[]) : NoM (some x) := fun i e => by cases e; exact h
theorem noM_bind {α : Type} {x : Option α} {f : α → Option TypeInfo} (h : ∀ a, NoM (f a)) : NoM (x >>= f) := fun i e => by
  cases x with
  | none => cases e
  | some a => exact h a i e
theorem made_methods {T : Tables} : ∀ (f : Nat) (t : TypeId) (i : TypeInfo), Made.infoAt T f t = some i → i ∈ T.types ∨ i.methods = #[] := by
  have hst : ∀ (info : TypeId → Option TypeInfo) (fs : Array Field), NoM (Made.reckonStruct info fs) := by
    intro info fs
    unfold Made.reckonStruct
    refine noM_bind fun r => ?_
    repeat' (first | exact noM_none | exact noM_some rfl | (refine noM_bind fun _ => ?_) | split | dsimp only)
  have hre : ∀ (info : TypeId → Option TypeInfo) (d : TypeDesc), NoM (Made.reckon info d) := by
    intro info d
    unfold Made.reckon
    cases d <;> (repeat' (first | exact hst _ _ | exact noM_none | exact noM_some rfl | (refine noM_bind fun _ => ?_) | split | dsimp only))
  intro f t i h
  cases f with
  | zero => cases h
  | succ f =>
    unfold Made.infoAt at h
    split at h
    · exact .inl (Array.mem_of_getElem? h)
    · obtain ⟨d, _, hd⟩ := Option.bind_eq_some_iff.1 h
      exact .inr (hre _ _ _ hd)
theorem info_methods {P : Program} {t : TypeId} {i : TypeInfo} (h : P.info? t = some i) : i ∈ P.types ∨ i.methods = #[] := by
  unfold Tables.info? at h
  split at h
  · exact .inl (Array.mem_of_getElem? h)
  · exact made_methods _ _ _ h

theorem tm_method {P : Program} {ok : FuncId → Bool} {m : String} (hm : okM P ok m = true) : ∀ (n : Nat) (t : TypeId) (v : Value), Tame P (fun r => okF P ok r.1 = true) (method n t v m)
  | 0, _, _ => trivial
  | n + 1, t, v => by
    have ih := fun t v => tm_method hm n t v
    unfold method
    have h0 : Tame P (fun i : TypeInfo => i ∈ P.types ∨ i.methods = #[]) (typeInfo t) := by
      unfold typeInfo
      show Tame P _ (match P.info? t with | some i => pure i | none => stuck "no such type")
      cases h : P.info? t with
      | none => exact tm_stuck' _
      | some i => exact info_methods h
    refine tame_bindL h0 fun i hi => ?_
    cases hf : i.methods.find? (·.name == m) with
    | none => exact tm_stuck' _
    | some mm =>
      have hmem := Array.mem_of_find?_eq_some hf
      have hname : mm.name = m := by have := Array.find?_some hf; simpa using this
      have hi' : i ∈ P.types := by
        rcases hi with hi | hi
        · exact hi
        · rw [hi] at hmem; simp at hmem
      refine tame_bind (tm_follow _ _ _) fun x => ?_
      cases hfn : mm.func with
      | none =>
        refine tame_bind (tm_get _ _) fun v' => ?_
        cases v' <;> first | exact ih _ _ | exact tm_stuck' _ | exact tm_rpL _
      | some q =>
        obtain ⟨f, pr⟩ := q
        have hok : okF P ok f = true := by
          have h1 := (Array.all_eq_true_iff_forall_mem.1 hm) i hi'
          have h2 := (Array.all_eq_true_iff_forall_mem.1 h1) mm hmem
          simpa [hname, hfn] using h2
        exact tame_bind (tm_receiverAt _ _ _ _) fun r => hok

theorem tm_xrow {P : Program} {ok : FuncId → Bool} {f : FuncId} {fn : Func} {n : String} {e : Array Value → Sem Value} (hf : P.funcs[f]? = some fn) (hn : fn.name = n) (ho : fn.origin = "") (hb : fn.body.isNone = true) (hng : ¬ (fn.name == "runtime.NumGoroutine") = true)
    (h1 : Extern.allNextRows.lookup n = none) (h2 : Extern.allGenericRows.lookup n = none) (h3 : Extern.allTypedRows.lookup n = none) (h4 : Extern.allRows.lookup n = some e) (he : ∀ vs, Tame P TT (e vs)) (args : Array Value) : Tame P (okNext ok) (callFunc f args) := by
  have h0 : Extern.allNextRows.lookup "" = none := by kernel_rfl
  have e1 : Extern.findNext fn = none := by unfold Extern.findNext; simp only [hn, ho, h1, h0]; rfl
  have e2 : Extern.find fn = some e := by unfold Extern.find; simp only [hn, h2, h3, h4]; rfl
  unfold callFunc
  show Tame P (okNext ok) (match P.funcs[f]? with | none => _ | some fn => _)
  rw [hf]
  dsimp only
  rw [if_neg hng, if_pos hb]
  refine tame_bind (tm_mark _ (by simp) (by simp)) fun _ => ?_
  rw [e1, e2]
  exact tm_pick (he _)

theorem tm_xFn {P : Program} {ok : FuncId → Bool} {f : FuncId} (h : xFn P f = true) (args : Array Value) : Tame P (okNext ok) (callFunc f args) := by
  unfold xFn at h
  cases hf : P.funcs[f]? with
  | none => rw [hf] at h; cases h
  | some fn =>
    rw [hf] at h
    simp only [Bool.and_eq_true, bne_iff_ne, ne_eq, beq_iff_eq] at h
    obtain ⟨⟨⟨hng, hb⟩, ho⟩, hx⟩ := h
    have hx' : fn.name ∈ xNames := by simpa using hx
    have hng' : ¬ (fn.name == "runtime.NumGoroutine") = true := by simpa using hng
    simp only [xNames, List.mem_cons, List.not_mem_nil, or_false] at hx'
    rcases hx' with hn | hn | hn | hn | hn | hn | hn | hn | hn | hn | hn | hn | hn | hn | hn | hn
    · exact tm_xrow hf hn ho hb hng' (by kernel_rfl) (by kernel_rfl) (by kernel_rfl) (e := Extern.AbiNoEscape.same) (by kernel_rfl) (fun vs => tm_noEscape vs) args
    · exact tm_xrow hf hn ho hb hng' (by kernel_rfl) (by kernel_rfl) (by kernel_rfl) (e := Extern.BytealgIndexByte.indexByte) (by kernel_rfl) (fun vs => tm_xIndexByte vs) args
    · exact tm_xrow hf hn ho hb hng' (by kernel_rfl) (by kernel_rfl) (by kernel_rfl) (e := Extern.BytealgIndex.index) (by kernel_rfl) (fun vs => tm_xIndex vs) args
    · exact tm_xrow hf hn ho hb hng' (by kernel_rfl) (by kernel_rfl) (by kernel_rfl) (e := Extern.BytealgCount.count) (by kernel_rfl) (fun vs => tm_xCount vs) args
    · have h0 : Extern.allNextRows.lookup "" = none := by kernel_rfl
      have h1 : Extern.allNextRows.lookup "internal/bytealg.MakeNoZero" = none := by kernel_rfl
      have h2 : Extern.allGenericRows.lookup "internal/bytealg.MakeNoZero" = none := by kernel_rfl
      have h3 : Extern.allTypedRows.lookup "internal/bytealg.MakeNoZero" = some Extern.BytealgMakeNoZero.makeNoZero := by kernel_rfl
      have e1 : Extern.findNext fn = none := by unfold Extern.findNext; simp only [hn, ho, h1, h0]; rfl
      have e2 : Extern.find fn = some (Extern.BytealgMakeNoZero.makeNoZero fn.params fn.resultTypes) := by unfold Extern.find; simp only [hn, h2, h3]; rfl
      unfold callFunc
      show Tame P (okNext ok) (match P.funcs[f]? with | none => _ | some fn => _)
      rw [hf]
      dsimp only
      rw [if_neg hng', if_pos hb]
      refine tame_bind (tm_mark _ (by simp) (by simp)) fun _ => ?_
      rw [e1, e2]
      exact tm_pick (tm_xNoZero _ _ _)
    · exact tm_xrow hf hn ho hb hng' (by kernel_rfl) (by kernel_rfl) (by kernel_rfl) (e := fun args => Extern.ReflectliteValue.unpack (args.getD 0 (.tuple #[]))) (by kernel_rfl) (fun vs => tm_unpack _) args
    · exact tm_xrow hf hn ho hb hng' (by kernel_rfl) (by kernel_rfl) (by kernel_rfl) (e := Extern.ReflectliteValue.methodAny (Extern.ReflectliteValue.valueError "reflectlite.Value.Type" 0) fun t _ _ _ => Extern.ReflectliteType.toType t) (by kernel_rfl) (fun vs => tm_vMethodAny (tm_valueError _ _) (fun _ _ _ _ => tm_toType _) vs) args
    · exact tm_xrow hf hn ho hb hng' (by kernel_rfl) (by kernel_rfl) (by kernel_rfl) (e := Extern.ReflectliteValue.method (Extern.ReflectliteValue.valueError "reflectlite.Value.IsNil" 0) Extern.ReflectliteValue.isNil) (by kernel_rfl) (fun vs => tm_vMethod (tm_valueError _ _) (fun _ _ _ _ => tm_vIsNil _ _ _ _) vs) args
    · exact tm_xrow hf hn ho hb hng' (by kernel_rfl) (by kernel_rfl) (by kernel_rfl) (e := Extern.ReflectliteType.typeOf) (by kernel_rfl) (fun vs => tm_rTypeOf vs) args
    · exact tm_xrow hf hn ho hb hng' (by kernel_rfl) (by kernel_rfl) (by kernel_rfl) (e := Extern.ReflectliteValue.method (Extern.ReflectliteValue.valueError "reflectlite.Value.Elem" 0) Extern.ReflectliteValue.elem) (by kernel_rfl) (fun vs => tm_vMethod (tm_valueError _ _) (fun _ _ _ _ => tm_vElem _ _ _ _) vs) args
    · exact tm_xrow hf hn ho hb hng' (by kernel_rfl) (by kernel_rfl) (by kernel_rfl) (e := Extern.ReflectliteValue.set) (by kernel_rfl) (fun vs => tm_vSet vs) args
    · exact tm_xrow hf hn ho hb hng' (by kernel_rfl) (by kernel_rfl) (by kernel_rfl) (e := Extern.ReflectliteType.abiMethod fun t => do pure (.int .u8 (← Extern.Rtype.kind t))) (by kernel_rfl) (fun vs => tm_rAbi (fun t => tame_bind (tm_kind t) fun _ => tm_pure _) vs) args
    · exact tm_xrow hf hn ho hb hng' (by kernel_rfl) (by kernel_rfl) (by kernel_rfl) (e := Extern.ReflectliteType.method Extern.ReflectliteType.elem) (by kernel_rfl) (fun vs => tm_rMethod (fun t => tm_rElem t) vs) args
    · exact tm_xrow hf hn ho hb hng' (by kernel_rfl) (by kernel_rfl) (by kernel_rfl) (e := Extern.ReflectliteType.relation "Implements" Extern.ReflectliteType.implements_) (by kernel_rfl) (fun vs => tm_rRel (fun t u => tm_rImpl t u) _ vs) args
    · exact tm_xrow hf hn ho hb hng' (by kernel_rfl) (by kernel_rfl) (by kernel_rfl) (e := Extern.ReflectliteType.relation "AssignableTo" Extern.ReflectliteType.assignableTo) (by kernel_rfl) (fun vs => tm_rRel (fun t u => tm_rAss t u) _ vs) args
    · exact tm_xrow hf hn ho hb hng' (by kernel_rfl) (by kernel_rfl) (by kernel_rfl) (e := Extern.ReflectliteValue.method (pure (.int .u8 0)) fun _ _ _ k => pure (.int .u8 (Int.ofNat k))) (by kernel_rfl) (fun vs => tm_vMethod (tm_pure _) (fun _ _ _ _ => tm_pure _) vs) args

theorem tm_nFn {P : Program} {ok : FuncId → Bool} {f : FuncId} (h : nFn P f = true) (args : Array Value) : Tame P (okNext ok) (callFunc f args) := by
  unfold nFn at h
  cases hf : P.funcs[f]? with
  | none => rw [hf] at h; cases h
  | some fn =>
    rw [hf] at h
    simp only [Bool.and_eq_true, bne_iff_ne, ne_eq, Option.isNone_iff_eq_none] at h
    obtain ⟨⟨⟨hng, hb⟩, h1⟩, h2⟩ := h
    have hng' : ¬ (fn.name == "runtime.NumGoroutine") = true := by simpa using hng
    unfold callFunc
    show Tame P (okNext ok) (match P.funcs[f]? with | none => _ | some fn => _)
    rw [hf]
    dsimp only
    rw [if_neg hng', if_pos (by rw [hb]; rfl)]
    refine tame_bind (tm_mark _ (by simp) (by simp)) fun _ => ?_
    rw [h1, h2]
    dsimp only
    split <;> trivial

theorem tm_callF {P : Program} {ok : FuncId → Bool} (hok : okFns P ok) {f : FuncId} (h : okF P ok f = true) (args : Array Value) : Tame P (okNext ok) (callFunc f args) := by
  simp only [okF, Bool.or_eq_true] at h
  rcases h with (h | h) | h
  · unfold callFunc
    obtain ⟨fn, hfn, hg⟩ := hok f h
    show Tame P (okNext ok) (match P.funcs[f]? with | none => _ | some fn => _)
    rw [hfn]
    dsimp only
    simp only [okFn, Bool.and_eq_true, bne_iff_ne, ne_eq] at hg
    obtain ⟨g1, g3⟩ := hg
    have g1' : (fn.name == "runtime.NumGoroutine") = false := by simpa using g1
    have g3' : fn.body.isNone = false := by cases hb : fn.body <;> simp_all
    rw [g1', g3']
    exact h
  · exact tm_xFn h args
  · exact tm_nFn h args

theorem tame_exec {P : Program} {ok : FuncId → Bool} (hok : okFns P ok) {ρ : Operand → Value} (hρ : ∀ f, ρ (.func f) = .func (.func f) #[] #[]) (o : Oper) (h : okOp P ok o.op = true) : Tame P (okNext ok) (execOp ρ o) := by
  unfold execOp
  cases ho : o.op with
  | move x => trivial
  | assign x => trivial
  | pick c a b => exact tame_bind (tm_asBool _) fun _ => trivial
  | alloc e => exact tm_pick (tm_alloc _ _ _)
  | box e x => exact tm_pick (tm_box _ _)
  | buildSlice t n ps => exact tm_pick (tm_buildSlice _ _ _)
  | build t ps => exact tm_pick (tm_build _ _)
  | makeInterface t x => exact tm_pick (tm_makeInterface _ _)
  | load t a => exact tm_pick (tm_loadAt _ _)
  | store t a x => exact tm_unit (tm_storeAt _ _ _)
  | nilCheck x =>
    dsimp only
    split
    · exact tm_rpL _
    · exact tm_rpL _
    · exact tm_rpL _
    · split
      · exact tm_rpL _
      · refine tame_bind tm_program fun p => tame_bind (tm_nilAhead _ _ _ _) fun r => ?_
        exact tame_ite (tame_bind (tm_uns _) fun _ => trivial) trivial
      · trivial
    · trivial
  | unOp op t x => exact tm_pick (tm_unary _ _)
  | makeFunc f a b => exact tm_pick (tm_makeFunc _ _ _)
  | makeSlice t a b => exact tm_pick (tm_makeSlice _ _ _)
  | slice t x a b c => exact tm_pick (tm_sliceAt _ _ _ _ _)
  | fieldAddr s x f => exact tm_pick (tm_fieldAt _ _ _)
  | field s x f => exact tm_pick (tm_field _ _ _)
  | indexAddr t x i => exact tm_pick (tm_indexAt _ _ _)
  | index t x i => exact tm_pick (tm_index _ _ _)
  | extract t i => exact tm_pick (tm_extract _ _)
  | panic x => exact tm_pick (tm_panic _)
  | binOp op t x y z =>
    exact tm_pick (tame_bind (tm_eqGuardA _ _ _ _ _ _) fun _ => tm_binOpA _ _ _ _)
  | convert a b x =>
    exact tm_pick (tm_convertA _ _ _)
  | typeAssert x a b c => exact tm_pick (tm_typeAssert _ _ _ _)
  | range t x => exact tm_pick (tm_range _ _)
  | next x b => exact tm_pick (tm_next _ _ _)
  | call c =>
    rw [ho] at h
    obtain ⟨callee, args, tys⟩ := c
    cases callee with
    | builtin b =>
      simp only [okOp] at h
      unfold resolve
      dsimp only
      show Tame P (okNext ok) (invoke (.builtin _ _ _ _) _)
      unfold invoke
      dsimp only
      unfold builtin
      cases b <;> first | (cases h; done) | skip
      · exact tm_pick (tm_append _ _ _)
      · exact tm_pick (tm_cap _ _ _)
      · exact tm_pick (tm_copy _ _ _)
      · exact tm_pick (tm_len _ _ _)
      · exact tm_pick (tm_max _ _ _)
      · exact tm_pick (tm_min _ _ _)
      · exact tm_pick (tm_uSliceData _ _ _)
      · exact tm_pick (tm_uString _ _ _)
    | value x =>
      cases x <;> first | (cases h; done) | skip
      rename_i f
      simp only [okOp] at h
      unfold resolve
      simp only [hρ]
      show Tame P (okNext ok) (invoke (.fn (.func f) #[]) _)
      unfold invoke
      dsimp only
      exact tm_callF hok h _
    | invoke recv m =>
      simp only [okOp] at h
      show Tame P (okNext ok) (invoke (.fn (.method m) #[]) (#[ρ recv] ++ args.map ρ))
      unfold invoke
      have e0 : (#[ρ recv] ++ args.map ρ)[0]? = some (ρ recv) := (Array.getElem?_append_left (by simp)).trans rfl
      dsimp only
      rw [e0]
      dsimp only
      unfold callMethod
      cases ρ recv <;> first | exact tm_stuck' _ | exact tm_rpL _ | skip
      refine (show Tame P (okNext ok) (method (P.types.size + Made.depth) _ _ m >>= _) from ?_)
      exact tame_bindL (tm_method h _ _ _) fun r hr => tm_callF hok hr _
  | _ => rw [ho] at h; cases h

end Go.Proofs.Ytlglokbakmbpdaa
