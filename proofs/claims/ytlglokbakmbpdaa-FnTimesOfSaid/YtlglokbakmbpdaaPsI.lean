/-
  The sender of products: its loops, its close, its leaving (rows of I; written by sendgen.py).
-/
import Derived.Test.YtlglokbakmbpdaaPm1
import Derived.Test.YtlglokbakmbpdaaChecked
namespace Go.Proofs.Ytlglokbakmbpdaa
open Go Go.Conc
set_option linter.unusedVariables false
set_option linter.unusedSimpArgs false

namespace SndI
def bF : Frame := { (default : Frame) with fn := 81, kind := .deferred }
noncomputable def body : Code := Try.f81.body.getD .skip
noncomputable def LO : Code := match body with | .seq _ (.seq _ (.block _ (.loop c))) => c | _ => .skip
noncomputable def RO : Code := match LO with | .seq _ (.seq _ (.seq _ r)) => r | _ => .skip
noncomputable def LI : Code := match LO with | .seq _ (.seq _ (.seq (.block _ (.seq _ (.seq _ (.block _ (.loop c))))) _)) => c | _ => .skip
/-- The deferred close. -/
def dcl (N : Nat) : Deferred := { target := .builtin .close #[74] 0 #[false], args := #[.chan (some (N + 2))] }
noncomputable def bot : Frame := { (default : Frame) with fn := Try.prog.funcs.size, defers := [], mode := .panicking [goexitEntry] }

theorem array32 (T : Array Value) (h : T.size = 32) : ∃ v0 v1 v2 v3 v4 v5 v6 v7 v8 v9 v10 v11 v12 v13 v14 v15 v16 v17 v18 v19 v20 v21 v22 v23 v24 v25 v26 v27 v28 v29 v30 v31 : Value, T = #[v0, v1, v2, v3, v4, v5, v6, v7, v8, v9, v10, v11, v12, v13, v14, v15, v16, v17, v18, v19, v20, v21, v22, v23, v24, v25, v26, v27, v28, v29, v30, v31] := by
  obtain ⟨l⟩ := T
  simp only [List.size_toArray] at h
  rcases l with _ | ⟨v0, l⟩
  · simp at h
  rcases l with _ | ⟨v1, l⟩
  · simp at h
  rcases l with _ | ⟨v2, l⟩
  · simp at h
  rcases l with _ | ⟨v3, l⟩
  · simp at h
  rcases l with _ | ⟨v4, l⟩
  · simp at h
  rcases l with _ | ⟨v5, l⟩
  · simp at h
  rcases l with _ | ⟨v6, l⟩
  · simp at h
  rcases l with _ | ⟨v7, l⟩
  · simp at h
  rcases l with _ | ⟨v8, l⟩
  · simp at h
  rcases l with _ | ⟨v9, l⟩
  · simp at h
  rcases l with _ | ⟨v10, l⟩
  · simp at h
  rcases l with _ | ⟨v11, l⟩
  · simp at h
  rcases l with _ | ⟨v12, l⟩
  · simp at h
  rcases l with _ | ⟨v13, l⟩
  · simp at h
  rcases l with _ | ⟨v14, l⟩
  · simp at h
  rcases l with _ | ⟨v15, l⟩
  · simp at h
  rcases l with _ | ⟨v16, l⟩
  · simp at h
  rcases l with _ | ⟨v17, l⟩
  · simp at h
  rcases l with _ | ⟨v18, l⟩
  · simp at h
  rcases l with _ | ⟨v19, l⟩
  · simp at h
  rcases l with _ | ⟨v20, l⟩
  · simp at h
  rcases l with _ | ⟨v21, l⟩
  · simp at h
  rcases l with _ | ⟨v22, l⟩
  · simp at h
  rcases l with _ | ⟨v23, l⟩
  · simp at h
  rcases l with _ | ⟨v24, l⟩
  · simp at h
  rcases l with _ | ⟨v25, l⟩
  · simp at h
  rcases l with _ | ⟨v26, l⟩
  · simp at h
  rcases l with _ | ⟨v27, l⟩
  · simp at h
  rcases l with _ | ⟨v28, l⟩
  · simp at h
  rcases l with _ | ⟨v29, l⟩
  · simp at h
  rcases l with _ | ⟨v30, l⟩
  · simp at h
  rcases l with _ | ⟨v31, l⟩
  · simp at h
  rcases l with _ | ⟨x, l⟩
  · exact ⟨v0, v1, v2, v3, v4, v5, v6, v7, v8, v9, v10, v11, v12, v13, v14, v15, v16, v17, v18, v19, v20, v21, v22, v23, v24, v25, v26, v27, v28, v29, v30, v31, rfl⟩
  · simp at h

section
variable (N sb : Nat) (a0 b0 : Option Addr) (n m ca cb : Nat) (xs ys : List Int)

/-- The head of the outer loop: i rows are sent. -/
def AnchO (i : Nat) (g : Goroutine) : Prop :=
  ∃ T : Array Value, g = G (bF.at ⟨T, [dcl N]⟩ [.code LO, .inLoop LO, .inBlock 0]) [bot] ∧ T.size = 32 ∧ T[0]? = some (.pointer (some ⟨N + 3, 0, none⟩)) ∧ T[1]? = some (.pointer (some ⟨N, 0, none⟩)) ∧ T[2]? = some (.pointer (some ⟨N + 1, 0, none⟩)) ∧
    T[8]? = some (.slice a0 n ca) ∧ T[9]? = some (.int .i64 n) ∧ T[10]? = some (.int .i64 i)

/-- The head of the inner loop: j of row i are sent. -/
def AnchI (i j : Nat) (g : Goroutine) : Prop :=
  ∃ T : Array Value, g = G (bF.at ⟨T, [dcl N]⟩ [.code LI, .inLoop LI, .inBlock 2, .inBlock 1, .code RO, .inLoop LO, .inBlock 0]) [bot] ∧ T.size = 32 ∧ T[0]? = some (.pointer (some ⟨N + 3, 0, none⟩)) ∧ T[1]? = some (.pointer (some ⟨N, 0, none⟩)) ∧ T[2]? = some (.pointer (some ⟨N + 1, 0, none⟩)) ∧
    T[3]? = some (.int .i64 i) ∧ T[4]? = some (.int .i64 (ix xs i)) ∧ T[8]? = some (.slice a0 n ca) ∧ T[9]? = some (.int .i64 n) ∧ T[10]? = some (.int .i64 i) ∧ T[15]? = some (.slice b0 m cb) ∧ T[16]? = some (.int .i64 m) ∧ T[17]? = some (.int .i64 j)

/-- Behind the close it only leaves. -/
theorem quits (T : Array Value) : QuitsIn Try.prog 3 (G { bF.at ⟨T, []⟩ [] with mode := .returning } [bot]) := by
  refine .inr ⟨rfl, G bot [], fun w => ?_, ?_⟩
  · simp [G, stepG, unwind, doReturn, results, Frame.at, bF, bot, Try.func81, Try.f81, seen, GStep.after, goexitEntry]
  refine .inr ⟨rfl, { G bot [] with status := .finished }, fun w => ?_, .inl rfl⟩
  simp [G, stepG, unwind, bot, goexitEntry, Frame.catches]
  rfl

theorem at_close (T : Array Value) : AtCloseB Try.prog (N + 2) (Shd .i64 N a0 b0 n m ca cb xs ys) (MineP N sb) (G { bF.at ⟨T, [dcl N]⟩ [] with mode := .returning } [bot]) := by
  refine ⟨rfl, by simp [mayWake, G, Frame.at], G { bF.at ⟨T, []⟩ [] with mode := .returning } [bot], #[⟨.obj (N + 2), false, true⟩], 3, fun w cap buf s r tm _ hc => ?_, fun e he => ?_, quits T⟩
  · have hr := run_close_open (P := Try.prog) #[74] 0 hc
    have he := events_close_open (P := Try.prog) (es := #[]) #[74] 0 hc
    have hl : (Try.prog.funcs[bF.fn]?).any (·.norace) = false := by kernel_rfl
    have hT : (invoke (dcl N).target (dcl N).args).runT Try.prog w #[] = (.ok (.value (.tuple #[])) (w.setChan (N + 2) cap buf true s r tm), #[⟨.obj (N + 2), false, true⟩, ⟨.obj (N + 2), true, true⟩]) := by
      refine Prod.ext ?_ ?_
      · rw [Sem.runT_fst]
        simp [dcl, invoke, builtin, Sem.run_bind, hr, World.setChan]
      · show (invoke (dcl N).target (dcl N).args).events Try.prog w #[] = _
        simp [dcl, invoke, builtin, Sem.events_bind, hr, he]
    have hs : seen Try.prog bF.fn #[⟨.obj (N + 2), false, true⟩, ⟨.obj (N + 2), true, true⟩] = #[⟨.obj (N + 2), false, true⟩, ⟨.obj (N + 2), true, true⟩] := seen_eq hl (by simp)
    have e1 : stepG Try.prog false (G { bF.at ⟨T, [dcl N]⟩ [] with mode := .returning } [bot]) w = callDeferred Try.prog { bF.at ⟨T, []⟩ [] with mode := .returning } [bot] none (dcl N) w := rfl
    have hm : ((dcl N).target matches .nil) = false := rfl
    have hfn : (Frame.at bF ⟨T, []⟩ []).fn = bF.fn := rfl
    rw [e1]
    unfold callDeferred
    simp only [hm, Bool.false_and, Bool.false_eq_true, if_false, hT, hfn, hs, GStep.after]
    rfl
  · simp at he
    subst he
    exact ⟨fun m => by simp, rfl, fun ⟨a, h, _⟩ => by cases h⟩

/-- What is sent. -/
def fv (i j : Nat) : Value := pv (IntKind.i64.wrap ((i : Int) + (j : Int))) (IntKind.i64.wrap (ix xs i * ix ys j))

set_option maxRecDepth 100000 in
set_option maxHeartbeats 4000000 in
/-- The inner loop. -/
theorem sends_in (hn : n ≤ 1048576) (hm : m ≤ 1048576) (hb : ∀ ad, b0 = some ad → 0 < m → ad.block < N ∧ ad.block ≠ sb) (hbs : 0 < m → ∃ ad, b0 = some ad) (hsb : sb < N) (i : Nat) (hi : i < n) (rest : List Value)
    (ho : ∃ n', ∀ (g : Goroutine) (w : World), AnchO N a0 n ca (i + 1) g → (Goes Try.prog false (fun _ w₁ => Shd .i64 N a0 b0 n m ca cb xs ys w₁) (DB (MineP N sb))) (StopS Try.prog (N + 2) (Shd .i64 N a0 b0 n m ca cb xs ys) (MineP N sb) rest) n' g w) : ∀ (k j : Nat), j + k = m →
    ∃ n', ∀ (g : Goroutine) (w : World), AnchI N a0 b0 n m ca cb xs i j g → (Goes Try.prog false (fun _ w₁ => Shd .i64 N a0 b0 n m ca cb xs ys w₁) (DB (MineP N sb))) (StopS Try.prog (N + 2) (Shd .i64 N a0 b0 n m ca cb xs ys) (MineP N sb) (valsR (fv xs ys) i j k ++ rest)) n' g w := by
  intro k
  induction k with
  | zero =>
    intro j hj
    obtain rfl : j = m := by omega
    obtain ⟨n₁, h₁⟩ := ho
    refine ⟨n₁ + 13, ?_⟩
    rintro g w ⟨T, rfl, hT, t0, t1, t2, t3, t4, t8, t9, t10, t15, t16, t17⟩
    obtain ⟨v0, v1, v2, v3, v4, v5, v6, v7, v8, v9, v10, v11, v12, v13, v14, v15, v16, v17, v18, v19, v20, v21, v22, v23, v24, v25, v26, v27, v28, v29, v30, v31, rfl⟩ := array32 T hT
    simp only [List.getElem?_toArray, List.getElem?_cons_succ, List.getElem?_cons_zero, Option.some.injEq] at t0 t1 t2 t3 t4 t8 t9 t10 t15 t16 t17
    subst t0 t1 t2 t3 t4 t8 t9 t10 t15 t16 t17
    simp only [LI, RO, LO, body, Try.f81, Option.getD_some] at h₁ ⊢
    have hwr : IntKind.i64.wrap ((i : Int) + 1) = ((i + 1 : Nat) : Int) := by rw [IntKind.wrap_i64]; omega
    repeat (first | b_ctl | b_op [Shd.ch h₁] (evB_cellP _ _ (by first | (simp [addr_block]; done) | (simp only [addr_block]; omega)) (by first | (simp only [addr_block]; omega) | omega)))
    b_cond false
    b_exit
    repeat (first | b_ctl | b_op [Shd.ch h₁] (evB_cellP _ _ (by first | (simp [addr_block]; done) | (simp only [addr_block]; omega)) (by first | (simp only [addr_block]; omega) | omega)))
    exact h₁ _ _ ⟨_, rfl, by simp, by simp, by simp, by simp, by simp, by simp, by simp⟩
  | succ k ih =>
    intro j hj
    obtain ⟨n₁, h₁⟩ := ih (j + 1) (by omega)
    obtain ⟨ad, rfl⟩ := hbs (by omega)
    obtain ⟨hb1, hb2⟩ := hb ad rfl (by omega)
    refine ⟨0 + 100, ?_⟩
    rintro g w ⟨T, rfl, hT, t0, t1, t2, t3, t4, t8, t9, t10, t15, t16, t17⟩
    obtain ⟨v0, v1, v2, v3, v4, v5, v6, v7, v8, v9, v10, v11, v12, v13, v14, v15, v16, v17, v18, v19, v20, v21, v22, v23, v24, v25, v26, v27, v28, v29, v30, v31, rfl⟩ := array32 T hT
    simp only [List.getElem?_toArray, List.getElem?_cons_succ, List.getElem?_cons_zero, Option.some.injEq] at t0 t1 t2 t3 t4 t8 t9 t10 t15 t16 t17
    subst t0 t1 t2 t3 t4 t8 t9 t10 t15 t16 t17
    simp only [LI, RO, LO, body, Try.f81, Option.getD_some] at h₁ ⊢
    have hjm : j < m := by omega
    repeat (first | b_ctl | b_op [Shd.ch h₁, Shd.eb h₁ j ad hjm rfl] (evB_cellP _ _ (by first | (simp [addr_block]; done) | (simp only [addr_block]; omega)) (by first | (simp only [addr_block]; omega) | omega)))
    b_cond true
    repeat (first | b_ctl | b_op [Shd.ch h₁, Shd.eb h₁ j ad hjm rfl] (evB_cellP _ _ (by first | (simp [addr_block]; done) | (simp only [addr_block]; omega)) (by first | (simp only [addr_block]; omega) | omega)))
    refine Goes.stop fun _ _ => ?_
    show AtSend _ _ _ _ (fv xs ys i j) (SendsB _ _ _ _ (valsR (fv xs ys) i (j + 1) k ++ rest)) _
    refine atSend_of rfl rfl (by decide) rfl rfl (by simp [Act.eval, fv, pv]) ?_
    refine (sendsB_iff ..).2 ⟨n₁ + 7, ?_⟩
    walk_nrm
    have hwr : IntKind.i64.wrap ((j : Int) + 1) = ((j + 1 : Nat) : Int) := by rw [IntKind.wrap_i64]; omega
    repeat (first | b_ctl | b_op [Shd.ch h₁] (evB_cellP _ _ (by first | (simp [addr_block]; done) | (simp only [addr_block]; omega)) (by first | (simp only [addr_block]; omega) | omega)))
    exact h₁ _ _ ⟨_, rfl, by simp, by simp, by simp, by simp, by simp, by simp, by simp, by simp, by simp, by simp, by simp, by simp⟩

set_option maxRecDepth 100000 in
set_option maxHeartbeats 4000000 in
/-- The outer loop. -/
theorem sends_out (hn : n ≤ 1048576) (hm : m ≤ 1048576) (ha : ∀ ad, a0 = some ad → 0 < n → ad.block < N ∧ ad.block ≠ sb) (has : 0 < n → ∃ ad, a0 = some ad) (hb : ∀ ad, b0 = some ad → 0 < m → ad.block < N ∧ ad.block ≠ sb) (hbs : 0 < m → ∃ ad, b0 = some ad) (hsb : sb < N) : ∀ (r i : Nat), i + r = n →
    ∃ n', ∀ (g : Goroutine) (w : World), AnchO N a0 n ca i g → (Goes Try.prog false (fun _ w₁ => Shd .i64 N a0 b0 n m ca cb xs ys w₁) (DB (MineP N sb))) (StopS Try.prog (N + 2) (Shd .i64 N a0 b0 n m ca cb xs ys) (MineP N sb) (valsA (fv xs ys) m i r)) n' g w := by
  intro r
  induction r with
  | zero =>
    intro i hi
    obtain rfl : i = n := by omega
    refine ⟨0 + 20, ?_⟩
    rintro g w ⟨T, rfl, hT, t0, t1, t2, t8, t9, t10⟩
    obtain ⟨v0, v1, v2, v3, v4, v5, v6, v7, v8, v9, v10, v11, v12, v13, v14, v15, v16, v17, v18, v19, v20, v21, v22, v23, v24, v25, v26, v27, v28, v29, v30, v31, rfl⟩ := array32 T hT
    simp only [List.getElem?_toArray, List.getElem?_cons_succ, List.getElem?_cons_zero, Option.some.injEq] at t0 t1 t2 t8 t9 t10
    subst t0 t1 t2 t8 t9 t10
    simp only [LO, body, Try.f81, Option.getD_some]
    repeat (first | b_ctl | b_op [Shd.ch h₁] (evB_cellP _ _ (by first | (simp [addr_block]; done) | (simp only [addr_block]; omega)) (by first | (simp only [addr_block]; omega) | omega)))
    b_cond false
    b_exit
    refine Goes.step rfl (fun _ _ => ?_)
    rw [stepG_end]
    simp only [goes_go]
    refine ⟨⟨rfl, by simp⟩, ?_⟩
    exact Goes.stop fun _ _ => at_close N sb a0 b0 i m ca cb xs ys _
  | succ r ih =>
    intro i hi
    obtain ⟨ad, rfl⟩ := has (by omega)
    obtain ⟨ha1, ha2⟩ := ha ad rfl (by omega)
    have him : i < n := by omega
    obtain ⟨n₁, h₁⟩ := sends_in N sb (some ad) b0 n m ca cb xs ys hn hm hb hbs hsb i him (valsA (fv xs ys) m (i + 1) r) (ih (i + 1) (by omega)) m 0 (by omega)
    refine ⟨n₁ + 25, ?_⟩
    rintro g w ⟨T, rfl, hT, t0, t1, t2, t8, t9, t10⟩
    obtain ⟨v0, v1, v2, v3, v4, v5, v6, v7, v8, v9, v10, v11, v12, v13, v14, v15, v16, v17, v18, v19, v20, v21, v22, v23, v24, v25, v26, v27, v28, v29, v30, v31, rfl⟩ := array32 T hT
    simp only [List.getElem?_toArray, List.getElem?_cons_succ, List.getElem?_cons_zero, Option.some.injEq] at t0 t1 t2 t8 t9 t10
    subst t0 t1 t2 t8 t9 t10
    simp only [LI, RO, LO, body, Try.f81, Option.getD_some] at h₁ ⊢
    repeat (first | b_ctl | b_op [Shd.bb h₁, Shd.ea h₁ i ad him rfl] (evB_cellP _ _ (by first | (simp [addr_block]; done) | (simp only [addr_block]; omega)) (by first | (simp only [addr_block]; omega) | omega)))
    b_cond true
    repeat (first | b_ctl | b_op [Shd.bb h₁, Shd.ea h₁ i ad him rfl] (evB_cellP _ _ (by first | (simp [addr_block]; done) | (simp only [addr_block]; omega)) (by first | (simp only [addr_block]; omega) | omega)))
    exact h₁ _ _ ⟨_, rfl, by simp, by simp, by simp, by simp, by simp, by simp, by simp, by simp, by simp, by simp, by simp, by simp⟩

/-- The call that the go statement holds. -/
def call (N : Nat) : Deferred := { target := .fn (.func 81) #[.pointer (some ⟨N + 3, 0, none⟩), .pointer (some ⟨N, 0, none⟩), .pointer (some ⟨N + 1, 0, none⟩)], args := #[] }

theorem born_step (N : Nat) (w : World) : stepG Try.prog false (born Try.prog (call N)) w =
    .go (G (bF.at ⟨#[.pointer (some ⟨N + 3, 0, none⟩), .pointer (some ⟨N, 0, none⟩), .pointer (some ⟨N + 1, 0, none⟩)] ++ Array.replicate 29 undef, []⟩ [.code body]) [bot]) w #[] := by
  simp [born, call, stepG, unwind, callDeferred, invoke, callFunc, Try.func81, Try.f81, seen, GStep.after, G, Frame.enter, Frame.at, bF, bot, body]

set_option maxRecDepth 100000 in
set_option maxHeartbeats 4000000 in
/-- THE SENDER, WHOLE. -/
theorem sends_all (hn : n ≤ 1048576) (hm : m ≤ 1048576) (ha : ∀ ad, a0 = some ad → 0 < n → ad.block < N ∧ ad.block ≠ sb) (has : 0 < n → ∃ ad, a0 = some ad) (hb : ∀ ad, b0 = some ad → 0 < m → ad.block < N ∧ ad.block ≠ sb) (hbs : 0 < m → ∃ ad, b0 = some ad) (hsb : sb < N) :
    SendsB Try.prog (N + 2) (Shd .i64 N a0 b0 n m ca cb xs ys) (MineP N sb) (valsA (fv xs ys) m 0 n) (born Try.prog (call N)) := by
  obtain ⟨n₁, h₁⟩ := sends_out N sb a0 b0 n m ca cb xs ys hn hm ha has hb hbs hsb n 0 (by omega)
  refine (sendsB_iff ..).2 ⟨n₁ + 13 + 1, Goes.step rfl fun w₁ _ => ?_⟩
  rw [born_step]
  refine ⟨⟨rfl, by simp⟩, ?_⟩
  simp only [LO, body, Try.f81, Option.getD_some, Array.replicate_succ, Array.replicate_zero, List.push_toArray, List.append_toArray, List.nil_append, List.cons_append] at h₁ ⊢
  b_ctl
  b_ctl
  b_op [Shd.ch h₁] (evB_cellP _ _ (by first | (simp [addr_block]; done) | (simp only [addr_block]; omega)) (by first | (simp only [addr_block]; omega) | omega))
  refine Goes.step rfl (fun w₁ h₁ => ?_)
  rw [stepG_deferD (d := dcl N) rfl rfl (by decide) (by simp [go_sem, execOp, resolve, dcl, Act.eval]) (by simp [go_sem, execOp, resolve])]
  refine ⟨⟨rfl, by simp⟩, ?_⟩
  clear h₁
  walk_nrm
  repeat (first | b_ctl | b_op [Shd.ba h₁] (evB_cellP _ _ (by first | (simp [addr_block]; done) | (simp only [addr_block]; omega)) (by first | (simp only [addr_block]; omega) | omega)))
  exact h₁ _ _ ⟨_, rfl, by simp, by simp, by simp, by simp, by simp, by simp, by simp⟩
end
end SndI
end Go.Proofs.Ytlglokbakmbpdaa
