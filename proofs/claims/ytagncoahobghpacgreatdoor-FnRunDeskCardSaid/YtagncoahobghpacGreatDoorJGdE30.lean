/-
  Joined texts: DkB, PtD, EnB.
-/
import Derived.Test.YtagncoahobghpacGreatDoorJGdEDkA
import Derived.Test.YtagncoahobghpacGreatDoorJGdE22
import Derived.Test.YtagncoahobghpacGreatDoorJGdE24
import Derived.Test.YtagncoahobghpacGreatDoorJGdE29
import Derived.Test.YtagncoahobghpacGreatDoorT1
namespace Go.Proofs.YtagncoahobghpacGreatDoor
open Go Go.Conc Go.RowKit
set_option linter.unusedVariables false

/-- It gives x, and nothing old is turned. -/
def BGives (x : Value) (B : Nat) (w : World) (v : Value) (w' : World) : Prop := v = x ∧ Below B w w'
theorem bgives_blind (x : Value) (B : Nat) : Blind fun w v w' => BGives x B w v w' := by
  rintro v w w1 τ d τ' d' d2 ⟨h1, h2⟩
  exact ⟨h1, below_blind h2⟩
section
variable {f : FuncId} {fn : Func} {c : Code} {args : Array Value} {w : World}
theorem bgives_of {x : Value} {B : Nat} {l : List FuncId} (hok : okFns Tryz.prog fun g => l.contains g)
    (hf : Tryz.prog.funcs[f]? = some fn) (hb : fn.body = some c) (hc : okC Tryz.prog (fun g => l.contains g) c = true)
    (h : ∀ τ d, Calls Tryz.prog f args (reT w τ d) fun e w' => e = .returned x ∧ Below B (reT w τ d) w') : BCalls Tryz.prog f args w (BGives x B w) :=
  bcalls_of noinit hok hf hb hc (fun w v w' => BGives x B w v w') (bgives_blind x B) fun τ d => (h τ d).mono fun e w' ⟨h1, h2⟩ => ⟨_, h1, rfl, h2⟩
theorem bmade_any {E : Nat} {xs : List Int} {l : List FuncId} (hok : okFns Tryz.prog fun g => l.contains g)
    (hf : Tryz.prog.funcs[f]? = some fn) (hb : fn.body = some c) (hc : okC Tryz.prog (fun g => l.contains g) c = true)
    (h : ∀ τ d, Calls Tryz.prog f args (reT w τ d) (Made E (reT w τ d) xs)) : BCalls Tryz.prog f args w (BMade E w xs) :=
  bcalls_of noinit hok hf hb hc (fun w v w' => BMade E w xs v w') (bmade_blind E xs) fun τ d => (h τ d).mono fun e w' ⟨v, h1, h2, h3⟩ => ⟨v, h1, h2, h3⟩
end
theorem below_drewN (B : Nat) (w : World) (n : Nat) : Below B w (w.drewN n) := ⟨rfl, rfl, rfl, Nat.le_refl _, fun _ _ => rfl⟩

/-- The two halves of a line. -/
def cutP (s : ByteArray) : ByteArray × ByteArray := (bs (Lib.cut s.data.toList [32]).1, bs (Lib.cut s.data.toList [32]).2.1)
def cutO (s : ByteArray) : Bool := (Lib.cut s.data.toList [32]).2.2

set_option maxRecDepth 100000 in
theorem cut_b (s : ByteArray) (w : World) (h : Dsk w) (hs : s.size ≤ 1048576) : BCalls Tryz.prog 42 #[.string s, .string ⟨#[32]⟩] w (BGives (.tuple #[.string (cutP s).1, .string (cutP s).2, .bool (cutO s)]) w.heap.size w) :=
  bgives_of (callees [42, 61, 83, 103, 105, 106, 132] (by kernel_rfl)) Tryz.func42 rfl (by kernel_rfl) fun τ d => by
    obtain ⟨m, hm⟩ := h.ml
    exact (strings_Cut s ⟨#[32]⟩ m (reT w τ d) (by omega) hm).mono fun e w' ⟨h1, n, h2⟩ => ⟨h1, by rw [h2]; exact below_drewN _ _ _⟩

set_option maxRecDepth 100000 in
theorem count_b (s : ByteArray) (w : World) : BCalls Tryz.prog 44 #[.string s, .string ⟨#[32]⟩] w (BGives (.int .i64 (Lib.countByte s.data.toList 32)) w.heap.size w) :=
  bgives_of (callees [44, 68, 70, 83, 103, 105, 106, 132] (by kernel_rfl)) Tryz.func44 rfl (by kernel_rfl) fun τ d => (strings_Count_one s 32 (reT w τ d)).mono fun e w' ⟨h1, h2⟩ => ⟨h1, by rw [h2]; exact Below.refl _ _⟩

set_option maxRecDepth 100000 in
theorem functionOf_b (s : ByteArray) (w : World) : BCalls Tryz.prog 43 #[.string s] w (BGives (wordF s) w.heap.size w) :=
  bgives_of (callees [43] (by kernel_rfl)) Tryz.func43 rfl (by kernel_rfl) fun τ d => (functionOf_any s (reT w τ d)).mono fun e w' ⟨h1, h2⟩ => ⟨h1, by rw [h2]; exact Below.refl _ _⟩

set_option maxRecDepth 100000 in
theorem listOf_b (v : Value) (xs : List Int) (w : World) (hr : Rd w v xs) (h : Dsk w) (hl : xs.length ≤ 1048576) (hw : ∀ n ∈ xs, -9223372036854775808 ≤ n ∧ n ≤ 9223372036854775807) (hj : (Lib.join (xs.map Lib.itoa) [44]).length ≤ 140737488355328) : BCalls Tryz.prog 28 #[v] w (BGives (.string (listT xs)) w.heap.size w) :=
  bgives_of (callees [20, 23, 26, 28, 46, 47, 74, 75, 101, 102, 126, 127, 128, 129, 142, 143, 144, 145, 146, 151, 152] (by kernel_rfl)) Tryz.func28 rfl (by kernel_rfl) fun τ d => listOf_any v xs (reT w τ d) hr (dsk_tape h τ d) hl hw hj

set_option maxRecDepth 100000 in
theorem asHit_b (s : ByteArray) (t : Addr) (old : Value) (w : World) (h : Dsk w) (ht0 : w.cell? t = some old) (hf0 : w.frozen? t = false) : BCalls Tryz.prog 29 #[.iface 56 (.agg #[.string s]), .iface 58 (.pointer (some t))] w (BGives (.bool true) t.block w) :=
  bgives_of (callees [29, 51, 192] (by kernel_rfl)) Tryz.func29 rfl (by kernel_rfl) fun τ d => as_hit s t old (reT w τ d) h.ety ht0 hf0

set_option maxRecDepth 100000 in
theorem asMiss_b (b : Addr) (t : Addr) (old : Value) (w : World) (h : Dsk w) (ht0 : w.cell? t = some old) (hf0 : w.frozen? t = false) : BCalls Tryz.prog 29 #[.iface 179 (.pointer (some b)), .iface 58 (.pointer (some t))] w (BGives (.bool false) w.heap.size w) :=
  bgives_of (callees [29, 51, 192] (by kernel_rfl)) Tryz.func29 rfl (by kernel_rfl) fun τ d => as_miss b t old (reT w τ d) h.ety ht0 hf0

set_option maxRecDepth 100000 in
theorem implWaveOf_b (v : Value) (xs : List Int) (w : World) (h : Rd w v xs) (hl : xs.length ≤ maxLen) : BCalls Tryz.prog 64 #[v] w (BMade 3 w (waveF xs)) :=
  bmade_any (callees [64, 89, 90, 91, 92, 93, 94, 111, 112, 113, 114] (by kernel_rfl)) Tryz.func64 rfl (by kernel_rfl) fun τ d => implWaveOf_any v xs (reT w τ d) h hl

set_option maxRecDepth 100000 in
theorem implHalveOf_b (v : Value) (xs : List Int) (w : World) (h : Rd w v xs) (hl : xs.length ≤ maxLen) : BCalls Tryz.prog 65 #[v] w (BMade 3 w (halF xs)) :=
  bmade_any (callees [65, 73, 95, 96, 108, 115, 116, 135, 136, 188, 189] (by kernel_rfl)) Tryz.func65 rfl (by kernel_rfl) fun τ d => implHalveOf_any v xs (reT w τ d) h hl

set_option maxRecDepth 100000 in
theorem implLeapOf_b (v : Value) (xs : List Int) (w : World) (h : Rd w v xs) (hl : xs.length ≤ maxLen) : BCalls Tryz.prog 66 #[v] w (BMade 3 w (lepF xs)) :=
  bmade_any (callees [66, 73, 95, 96, 108, 115, 116, 135, 136, 188, 189] (by kernel_rfl)) Tryz.func66 rfl (by kernel_rfl) fun τ d => implLeapOf_any v xs (reT w τ d) h hl

set_option maxRecDepth 100000 in
theorem rowOf_b (s : ByteArray) (w : World) (h : Dsk w) (hs : s.size ≤ 1048576) : BCalls Tryz.prog 45 #[.string s] w (fun v w' => ∃ v1 er, v = .tuple #[v1, er] ∧ RowRet w s v1 er w') :=
  bcalls_of noinit (callees [44, 45, 46, 68, 70, 71, 72, 73, 74, 83, 98, 99, 100, 101, 103, 105, 106, 120, 121, 122, 123, 124, 125, 126, 127, 128, 129, 132, 138, 139, 140, 141, 142, 143, 144, 145, 146, 148, 149, 150, 151, 152] (by kernel_rfl)) Tryz.func45 rfl (by kernel_rfl) (fun w v w' => ∃ v1 er, v = .tuple #[v1, er] ∧ RowRet w s v1 er w') (by
    rintro v w w1 τ d τ' d' d2 ⟨v1, er, rfl, h1, h2⟩
    exact ⟨v1, er, rfl, below_blind h1, h2⟩) fun τ d => (rowOf_any s (reT w τ d) (dsk_tape h τ d) hs).mono fun e w' ⟨v1, er, h1, h2⟩ => ⟨_, h1, v1, er, rfl, h2⟩

set_option maxRecDepth 100000 in
theorem bString_b (B b : Nat) (l : List UInt8) (w : World) (h : Lib.IsBuilderF 42 5 B b (Lib.byteCells l) w) (hBw : B ≤ w.heap.size) : BCalls Tryz.prog 23 #[.pointer (some ⟨b, 0, none⟩)] w (fun v w' => v = .string ⟨l.toArray⟩ ∧ Lib.IsBuilderF 42 5 B b (Lib.byteCells l) w' ∧ Below B w w') :=
  bcalls_of noinit (callees [23] (by kernel_rfl)) Tryz.func23 rfl (by kernel_rfl) (fun w v w' => v = .string ⟨l.toArray⟩ ∧ Lib.IsBuilderF 42 5 B b (Lib.byteCells l) w' ∧ Below B w w') (by
    rintro v w w1 τ d τ' d' d2 ⟨rfl, h1, h2⟩
    exact ⟨rfl, h1, below_blind h2⟩) fun τ d => (Builder_String_any_f B b l (reT w τ d) h hBw).mono fun e w' ⟨h1, h2⟩ => ⟨_, h1, rfl, h2⟩

set_option maxRecDepth 100000 in
theorem bWriteString_b (B b : Nat) (bs : List Value) (s : ByteArray) (w : World) (h : Lib.IsBuilderF 42 5 B b bs w) (hlen : bs.length + s.size ≤ 140737488355328) (hBw : B ≤ w.heap.size) : BCalls Tryz.prog 20 #[.pointer (some ⟨b, 0, none⟩), .string s] w (fun v w' => v = .tuple #[.int .i64 s.size, .nilIface] ∧ Lib.BuilderAtF 42 5 B b (.pointer (some ⟨b, 0, none⟩)) (bs ++ Lib.strCells s) w' ∧ Below B w w') :=
  bcalls_of noinit (callees [20, 26] (by kernel_rfl)) Tryz.func20 rfl (by kernel_rfl) (fun w v w' => v = .tuple #[.int .i64 s.size, .nilIface] ∧ Lib.BuilderAtF 42 5 B b (.pointer (some ⟨b, 0, none⟩)) (bs ++ Lib.strCells s) w' ∧ Below B w w') (by
    rintro v w w1 τ d τ' d' d2 ⟨rfl, h1, h2⟩
    exact ⟨rfl, h1, below_blind h2⟩) fun τ d => (Builder_WriteString_f B b bs s (reT w τ d) h hlen hBw).mono fun e w' ⟨h1, h2⟩ => ⟨_, h1, rfl, h2⟩

set_option maxRecDepth 100000 in
theorem bWriteByte_b (B b : Nat) (bs : List Value) (c : Int) (w : World) (h : Lib.IsBuilderF 42 5 B b bs w) (hlen : bs.length + 1 ≤ 140737488355328) (hBw : B ≤ w.heap.size) : BCalls Tryz.prog 22 #[.pointer (some ⟨b, 0, none⟩), .int .u8 c] w (fun v w' => v = .nilIface ∧ Lib.BuilderAtF 42 5 B b (.pointer (some ⟨b, 0, none⟩)) (bs ++ [.int .u8 c]) w' ∧ Below B w w') :=
  bcalls_of noinit (callees [22, 26] (by kernel_rfl)) Tryz.func22 rfl (by kernel_rfl) (fun w v w' => v = .nilIface ∧ Lib.BuilderAtF 42 5 B b (.pointer (some ⟨b, 0, none⟩)) (bs ++ [.int .u8 c]) w' ∧ Below B w w') (by
    rintro v w w1 τ d τ' d' d2 ⟨rfl, h1, h2⟩
    exact ⟨rfl, h1, below_blind h2⟩) fun τ d => (Builder_WriteByte_f B b bs c (reT w τ d) h hlen hBw).mono fun e w' ⟨h1, h2, h3, _⟩ => ⟨_, h1, rfl, h2, h3⟩

end Go.Proofs.YtagncoahobghpacGreatDoor

namespace Go.Proofs.YtagncoahobghpacGreatDoor
open Go Go.Conc Go.RowKit
set_option linter.unusedVariables false

theorem leave1 {P : Program} {f : FuncId} {fn : Func} {t : Tmp} (hf : P.funcs[f]? = some fn) (hr : fn.results = #[.tmp t]) {T : Array Value} {k : List Item} {cs : List Frame} {w' : World} {R : Value → World → Prop} (h : R (T.getD t undef) w') :
    ∃ fr v, G { (base f).at ⟨T, []⟩ k with mode := .returning } cs = G fr cs ∧ fr.fn = f ∧ fr.leaving P w' (.returned v) ∧ R v w' :=
  ⟨_, _, rfl, rfl, ⟨rfl, rfl, rfl, fn, hf, _root_.Go.results_tmp hr _ _ _⟩, h⟩

section
variable {w w₁ w' : World} {v : Value}
theorem Rd.sm {xs : List Int} (h : Rd w v xs) (hs : Sm w w₁) : Rd w₁ v xs := by
  obtain ⟨d, rfl⟩ := hs
  exact h
theorem Own.sm {E B : Nat} {xs : List Int} (h : Own E B w v xs) (hs : Sm w w₁) : Own E B w₁ v xs := by
  obtain ⟨d, rfl⟩ := hs
  exact h
theorem _root_.Go.RowKit.Below.sm {B : Nat} {a w w₁ : World} (h : Below B a w) (hs : Sm w w₁) : Below B a w₁ := by
  obtain ⟨d, rfl⟩ := hs
  exact ⟨h.os, h.tape, h.output, h.size, h.block⟩
theorem _root_.Go.RowKit.Below.smL {B : Nat} {a b w : World} (h : Below B b w) (hs : Sm a b) : Below B a w := by
  obtain ⟨d, rfl⟩ := hs
  exact ⟨h.os, h.tape, h.output, h.size, h.block⟩
theorem bmade_sm {f : FuncId} {args : Array Value} {E : Nat} {xs : List Int} (hs : Sm w w₁) (h : BCalls Tryz.prog f args w₁ (BMade E w₁ xs)) : BCalls Tryz.prog f args w₁ (BMade E w xs) :=
  h.mono fun v w' q => ⟨by have := q.1; rw [hs.heap] at this; exact this, by have := q.2; rw [hs.heap] at this; exact this.smL hs⟩
theorem bsays_sm {f : FuncId} {args : Array Value} {b : Bool} (hs : Sm w w₁) (h : BCalls Tryz.prog f args w₁ (BSays b w₁)) : BCalls Tryz.prog f args w₁ (BSays b w) :=
  h.mono fun v w' q => ⟨q.1, by have := q.2; rw [hs.heap] at this; exact this.smL hs⟩
theorem btells_sm {f : FuncId} {args : Array Value} {z : Int} (hs : Sm w w₁) (h : BCalls Tryz.prog f args w₁ (BTells z w₁)) : BCalls Tryz.prog f args w₁ (BTells z w) :=
  h.mono fun v w' q => ⟨q.1, by have := q.2; rw [hs.heap] at this; exact this.smL hs⟩
end

end Go.Proofs.YtagncoahobghpacGreatDoor

namespace Go.Proofs.YtagncoahobghpacGreatDoor
open Go Go.Conc Go.RowKit
set_option linter.unusedVariables false

section
variable {P : Program}

/-- What is told hangs on the heap alone. -/
theorem results_at {fn : Func} {tmps : Array Value} {w : World} {v : Value} (h : (results fn tmps).run P w = .ok v w) (d : Nat) : (results fn tmps).run P (w.at d) = .ok v (w.at d) := by
  obtain ⟨R, es, c, h1, h2, h3⟩ := tame_run (tm_results (P := P) fn tmps) w w.tape w.drawn #[]
  have e1 := h3 w.tape w.drawn (fun _ _ => rfl)
  rw [reT_self, Sem.runT_eq] at e1
  have f1 := congrArg Prod.fst e1
  simp only [h] at f1
  cases R with
  | halt hh w2 => cases f1
  | ok a w2 =>
    simp only [Rre, Result.ok.injEq] at f1
    obtain ⟨rfl, f2⟩ := f1
    have ec : w.drawn = w.drawn + c := by
      have := congrArg (fun q : World => q.drawn) f2
      simpa [reT] using this
    obtain rfl : c = 0 := by omega
    have e2 := h3 w.tape d (fun j hj => by omega)
    rw [Sem.runT_eq] at e2
    have g2 := congrArg Prod.fst e2
    simp only [Rre] at g2
    have e3 : reT w2 w.tape (d + 0) = w.at d := by
      have : reT w w.tape d = reT (reT w2 w.tape (w.drawn + 0)) w.tape d := by rw [← f2]
      rw [reT_reT] at this
      exact this.symm
    rw [e3] at g2
    exact g2

theorem leaving_at {fr : Frame} {w : World} {v : Value} (h : fr.leaving P w (.returned v)) (d : Nat) : fr.leaving P (w.at d) (.returned v) := by
  obtain ⟨k1, k2, k3, fn, k4, k5⟩ := h
  exact ⟨k1, k2, k3, fn, k4, results_at k5 d⟩

theorem leaving_step_any {main : Bool} {fr c : Frame} {cs : List Frame} {w : World} {v : Value} (h : fr.leaving P w (.returned v)) :
    ∃ es, stillA es ∧ stepG P main (G fr (c :: cs)) w = .go (G (c.finish v) cs) w es := by
  obtain ⟨hm, hd, hk, fn, hf, hv⟩ := h
  refine ⟨seen P fr.fn ((results fn fr.tmps).events P w #[]), fun e he => still_events (tm_results fn fr.tmps) w e (seen_sub he), ?_⟩
  simp [stepG, unwind, doReturn, hm, hd, hk, hf, hv, GStep.after, G]

theorem run_call_value {a : Act} {w : World} {o : Oper} {f : FuncId} {fn : Func} {x : Operand} {caps : Array Value} {args : Array Operand} {ats : Array TypeId} (hop : o.op = .call { callee := .value x, args, argTypes := ats }) (hx : a.eval x = .func (.func f) caps #[])
    (hf : P.funcs[f]? = some fn) (hname : (fn.name == "runtime.NumGoroutine") = false) (hb : fn.body.isNone = false) : (execOp a.eval o).run P w = .ok (.enter f (caps ++ args.map a.eval)) w := by
  have h1 : ¬ fn.name = "runtime.NumGoroutine" := by simpa using hname
  have h2 : ¬ fn.body = none := by cases hx : fn.body <;> simp_all
  unfold execOp
  simp [hop, resolve, hx, Deferred.ofValue, invoke, callFunc, hf, h1, h2]
theorem events_call_value {a : Act} {w : World} {o : Oper} {f : FuncId} {fn : Func} {x : Operand} {caps : Array Value} {args : Array Operand} {ats : Array TypeId} (hop : o.op = .call { callee := .value x, args, argTypes := ats }) (hx : a.eval x = .func (.func f) caps #[])
    (hf : P.funcs[f]? = some fn) (hname : (fn.name == "runtime.NumGoroutine") = false) (hb : fn.body.isNone = false) (es : Array Event) : (execOp a.eval o).events P w es = es := by
  have h1 : ¬ fn.name = "runtime.NumGoroutine" := by simpa using hname
  have h2 : ¬ fn.body = none := by cases hx : fn.body <;> simp_all
  unfold execOp
  simp [hop, resolve, hx, Deferred.ofValue, invoke, callFunc, hf, h1, h2]

/-- THROUGH A CALL of a function value; the results may lie in cells. -/
theorem beside_call_any {b : Frame} {a : Act} {k : List Item} {cs : List Frame} {w : World} {ops : Array Oper} {i : Nat} {rest : List Nat} {o : Oper} {f : FuncId} {fn : Func} {x : Operand} {caps : Array Value} {args : Array Operand} {ats : Array TypeId} {R : Value → World → Prop} {Q : Goroutine → World → Prop}
    (ho : ops[i]? = some o) (hw : Region.wanted o (yielded ops a.tmps) = true) (hk : b.kind ≠ .early) (hop : o.op = .call { callee := .value x, args, argTypes := ats }) (hx : a.eval x = .func (.func f) caps #[])
    (hf : P.funcs[f]? = some fn) (hname : (fn.name == "runtime.NumGoroutine") = false) (hb : fn.body.isNone = false) {vals : Array Value} (has : caps ++ args.map a.eval = vals) (hC : ∀ d, BCalls P f vals (w.at d) R)
    (next : ∀ v w', R v w' → Beside P (G (b.at (a.put o.dst v) (.inRegion ops rest :: k)) cs) w' Q) : Beside P (G (b.at a (.inRegion ops (i :: rest) :: k)) cs) w Q := by
  have hfin : ∀ v, (b.at a (.inRegion ops (i :: rest) :: k)).finish v = b.at (a.put o.dst v) (.inRegion ops rest :: k) := fun v => by rw [Frame.finish_at, ho]; rfl
  subst has
  refine .step rfl fun d => ⟨_, _, _, stepG_enter ho hw hk (run_call_value hop hx hf hname hb), ?_, ?_⟩
  · have e : listed P b.fn a o (w.at d) = #[] := by
      unfold listed
      rw [events_call_value hop hx hf hname hb]
      exact seen_none P _
    rw [e]
    exact D0.nil (w := w) (w' := w)
  · refine (hC d _).trans fun a1 w1 hq => ?_
    obtain ⟨fr, v, rfl, h1, h2, h3⟩ := hq
    refine .step rfl fun d1 => ?_
    obtain ⟨es, hes, hst⟩ := leaving_step_any (main := true) (c := b.at a (.inRegion ops (i :: rest) :: k)) (cs := cs) (leaving_at h2 d1)
    refine ⟨_, _, _, hst, hes, ?_⟩
    rw [hfin]
    exact (next v w1 h3).at d1
end

theorem sq_noughtsE (xs : List Int) (h : xs.length ≤ 16) : sq (ix xs) 16 = sq (ix xs) xs.length :=
  sumN_more h fun i h1 _ => by rw [show ix xs i = 0 by simp [ix, List.getD, List.getElem?_eq_none h1]]; rfl

theorem uponK_of_list {P : Program} {o : Oper} {a : Act} {w : World} {K : Act → World → Prop} (hg : o.guard = none) (hk : okOp P (fun _ => false) o.op = true)
    (h : wpList P #[] (fun e a' w' => e = .normal ∧ K a' w') [o] a w) : uponK o a K ((execOp a.eval o).run P w) := by
  obtain ⟨R, es, c, h1, h2, h3⟩ := tame_run (tame_exec (okFns_none P) (ρ := a.eval) (fun _ => rfl) o hk) w w.tape w.drawn #[]
  have e1 := h3 w.tape w.drawn (fun _ _ => rfl)
  rw [reT_self, Sem.runT_eq] at e1
  have f1 : (execOp a.eval o).run P w = Rre w.tape (w.drawn + c) R := congrArg Prod.fst e1
  simp only [wpList, Region.wanted, hg, if_true] at h
  rcases h with h | ⟨_, h⟩
  · unfold Oper.wp at h
    rw [f1] at h ⊢
    cases R with
    | ok x w' =>
      cases x <;> first | exact h.2 | (exact h2.elim) | (cases h2; done)
    | halt hh w' => cases hh <;> first | (exact absurd h.1 (by simp)) | (exact h2.elim) | (cases h.1; done) | (exact h.elim)
  · exact absurd h (by simp [LetsOut])
theorem goes_of_eq {s s' : GStep} {K : Goroutine → World → Array Event → Prop} (h : s = s') (h2 : s'.goes K) : s.goes K := h ▸ h2

set_option maxRecDepth 100000 in
set_option maxHeartbeats 8000000 in
theorem cellsOf_b (v : Value) (xs : List Int) (w : World) (h : Rd w v xs) (hl : xs.length ≤ 16) :
    BCalls Tryz.prog 86 #[v] w fun r w' => r = .agg (arr (ix xs)) ∧ Below w.heap.size w w' := by
  intro cs
  obtain ⟨a, cap, rfl, h⟩ := h
  rw [enter_at _ Tryz.func86 rfl]
  simp only [Tryz.f86, List.size_toArray, List.length_cons, List.length_nil, Nat.reduceAdd, Nat.reduceSub, Array.replicate_succ, Array.replicate_zero, List.push_toArray, List.append_toArray, List.nil_append, List.cons_append]
  have hF : Sm w w := Sm.refl w
  obtain ⟨g, hg⟩ : ∃ g, g = w.heap.size := ⟨_, rfl⟩
  have HG := Lib.hid hg
  clear hg
  refine beside_by (n := 400) ?_
  repeat a_ctl hF Sm.trans D0.nil
  (refine Goes.step rfl (fun _ h₁ => ?_); replace hF := Sm.trans hF h₁; clear h₁; refine goes_oper_k rfl rfl (by decide) (fun K hK => ?_); go_simp; refine hK _ _ ⟨still_listed rfl, ?_⟩; clear hK K)
  refine Goes.stop fun w₁ h₁ => ?_
  obtain ⟨d0, rfl⟩ := hF
  obtain ⟨d1, rfl⟩ := h₁
  rw [zero16_lit, show (w.at d0).heap.size = g from HG.out.symm]
  have B1 : Below w.heap.size w (((w.at d0).alloc (.cells zero16.toArray 110)).at d1) := ((Below.refl w.heap.size w).alloc (Nat.le_refl _) (.cells zero16.toArray 110)).sm ⟨d1, rfl⟩
  have E1 : (((w.at d0).alloc (.cells zero16.toArray 110)).at d1).heap[g]? = some (.cells zero16.toArray 110 (0, 0)) := by rw [HG.out]; exact heap_alloc_last w _
  have S1 : (((w.at d0).alloc (.cells zero16.toArray 110)).at d1).heap.size = g + 1 := by rw [HG.out]; exact size_one w _
  generalize ((w.at d0).alloc (.cells zero16.toArray 110)).at d1 = w1 at B1 E1 S1 ⊢
  have hF := Sm.refl w1
  try walk_nrm
  refine beside_by (n := 400) ?_
  repeat a_ctl hF Sm.trans D0.nil
  (refine Goes.step rfl (fun _ h₁ => ?_); replace hF := Sm.trans hF h₁; clear h₁; refine goes_oper_k rfl rfl (by decide) (fun K hK => ?_); go_simp; refine hK _ _ ⟨still_listed rfl, ?_⟩; clear hK K)
  refine Goes.stop fun w₁ h₁ => ?_
  obtain ⟨d2, rfl⟩ := hF
  obtain ⟨d3, rfl⟩ := h₁
  rw [zero16_lit, show (w1.at d2).heap.size = g + 1 from S1]
  have B2 : Below w.heap.size w (((w1.at d2).alloc (.cells zero16.toArray 110)).at d3) := (B1.alloc B1.size (.cells zero16.toArray 110)).sm ⟨d3, rfl⟩
  have E2 : (((w1.at d2).alloc (.cells zero16.toArray 110)).at d3).heap[g]? = some (.cells zero16.toArray 110 (0, 0)) := (Below.heap_alloc w1 _ g (by omega)).trans E1
  have E3 : (((w1.at d2).alloc (.cells zero16.toArray 110)).at d3).heap[g + 1]? = some (.cells zero16.toArray 110 (0, 0)) := by rw [← S1]; exact heap_alloc_last w1 _
  generalize ((w1.at d2).alloc (.cells zero16.toArray 110)).at d3 = w2 at B2 E2 E3 ⊢
  clear B1 E1 S1
  have hF := Sm.refl w2
  try walk_nrm
  refine beside_by (n := 400) ?_
  repeat a_ctl hF Sm.trans D0.nil
  (refine Goes.step rfl (fun _ h₁ => ?_); replace hF := Sm.trans hF h₁; clear h₁; refine goes_oper_k rfl rfl (by decide) (fun K hK => ?_); go_simp; refine hK _ _ ⟨still_listed rfl, ?_⟩; clear hK K)
  (refine Goes.step rfl (fun _ h₁ => ?_); replace hF := Sm.trans hF h₁; clear h₁; refine goes_oper_k rfl rfl (by decide) (fun K hK => ?_); go_simp; refine hK _ _ ⟨still_listed rfl, ?_⟩; clear hK K)
  refine Goes.step rfl (fun _ h₁ => ?_)
  replace hF := Sm.trans hF h₁
  clear h₁
  obtain ⟨dx, rfl⟩ := hF
  refine goes_oper_k rfl rfl (by decide) (fun K hK => ?_)
  refine uponK_of_list rfl rfl ?_
  refine wpList_copy_splice rfl (.tmp 4) (.tmp 5) 35 35 rfl 3 Tryz.underlying35 ?k0 _ _ _ _ _ _ rfl rfl (g + 1) 0 zero16 110 ?kh (xs.map (Value.int .i64)) ?k1 ?k2 ?k3 ?k4 (g + 1) (w2.at dx) (Below.refl _ _) (Nat.le_refl _) ?_
  case k0 => kernel_rfl
  case kh => exact E3
  case k1 => simp only [List.length_map]; exact (Nat.min_eq_left hl).symm
  case k2 =>
    intro hpos
    rcases h with rfl | ⟨b, off, rfl, hb, hc⟩
    · simp at hpos
    · refine ⟨rfl, ⟨b, off, none⟩, rfl, fun j u hj => ?_⟩
      have hlt := (List.getElem?_eq_some_iff.1 hj).1
      rw [show (⟨b, off, none⟩ : Addr).add j = ⟨b, off + j, none⟩ by simp [Addr.add], show (w2.at dx).cell? ⟨b, off + j, none⟩ = w2.cell? ⟨b, off + j, none⟩ from rfl, B2.cell (p := ⟨b, off + j, none⟩) hb, hc j (by simpa using hlt)]
      rw [getElem?_map_int xs j (by simpa using hlt)] at hj
      exact hj
  case k3 => simp [zero16]; omega
  case k4 => exact ints_oneCell _ _
  intro w3 hH3 hB3
  refine ⟨rfl, hK _ _ ⟨still_listed rfl, ?_⟩⟩
  clear hK K
  refine Goes.stop fun w₁ h₁ => ?_
  obtain ⟨d4, rfl⟩ := h₁
  have E4 : (w3.at d4).heap[g + 1]? = some (.cells (arr (ix xs)) 110 (0, 0)) := by
    have := hH3.out
    rw [zero16, splice_row xs hl] at this
    exact this
  have E5 : (w3.at d4).heap[g]? = some (.cells zero16.toArray 110 (0, 0)) := (hB3.block g (by omega)).trans E2
  have B4 : Below w.heap.size w (w3.at d4) := (B2.trans (Below.sm (show Below w.heap.size w2 w3 from ⟨hB3.os, hB3.tape, hB3.output, hB3.size, fun k hk => hB3.block k (by have := HG.out; omega)⟩) ⟨d4, rfl⟩))
  generalize w3.at d4 = w4 at E4 E5 B4 ⊢
  clear hH3 hB3 E2 E3 B2 h
  have hF := Sm.refl w4
  try walk_nrm
  refine beside_by (n := 400) ?_
  repeat a_ctl hF Sm.trans D0.nil
  refine Goes.step rfl (fun _ h₁ => ?_)
  replace hF := Sm.trans hF h₁
  clear h₁
  obtain ⟨dx, rfl⟩ := hF
  refine goes_oper_k rfl rfl (by decide) (fun K hK => ?_)
  refine uponK_of_list rfl rfl ?_
  refine wpList_loadv rfl (.tmp 3) 110 rfl _ rfl _ (load_arr E4) ?_
  refine ⟨rfl, hK _ _ ⟨still_listed rfl, ?_⟩⟩
  clear hK K
  have B5 : Below w.heap.size w (w4.at dx) := B4.sm ⟨dx, rfl⟩
  have E6 : (w4.at dx).heap[g]? = some (.cells zero16.toArray 110 (0, 0)) := E5
  generalize w4.at dx = w5 at B5 E6 ⊢
  clear E4 E5 B4
  have hF := Sm.refl w5
  refine Goes.step rfl (fun _ h₁ => ?_)
  replace hF := Sm.trans hF h₁
  clear h₁
  obtain ⟨dx, rfl⟩ := hF
  refine goes_oper_k rfl rfl (by decide) (fun K hK => ?_)
  refine uponK_of_list rfl rfl ?_
  refine wpList_storev rfl (.tmp 2) (.tmp 7) 110 rfl _ rfl _ rfl (store_arr (F := ix xs) E6 (by simp [zero16])) ?_
  refine ⟨rfl, hK _ _ ⟨still_listed rfl, ?_⟩⟩
  clear hK K
  refine Goes.stop fun w₁ h₁ => ?_
  obtain ⟨d5, rfl⟩ := h₁
  have E7 : (((w5.at dx).setRow g (arr (ix xs))).at d5).heap[g]? = some (.cells (arr (ix xs)) 110 (0, 0)) := setRow_heap w5 g _ _ _ _ E6
  have B7 : Below w.heap.size w (((w5.at dx).setRow g (arr (ix xs))).at d5) := (below_setRow (B5.sm ⟨dx, rfl⟩) (by rw [HG.out]; exact Nat.le_refl _) _).sm ⟨d5, rfl⟩
  generalize ((w5.at dx).setRow g (arr (ix xs))).at d5 = w6 at E7 B7 ⊢
  clear B5 E6
  have hF := Sm.refl w6
  try walk_nrm
  refine beside_by (n := 400) ?_
  repeat a_ctl hF Sm.trans D0.nil
  refine Goes.step rfl (fun _ h₁ => ?_)
  rw [stepG_ret']
  simp only [goes_go]
  refine ⟨D0.nil, ?_⟩
  refine Goes.stop fun w₁ h₂ => .at0 fun d => ?_
  have hF := (Sm.trans hF h₁).trans (h₂.trans ⟨d, rfl⟩)
  obtain ⟨dd, he⟩ := hF
  rw [he]
  exact ⟨_, _, rfl, rfl, ⟨rfl, rfl, rfl, _, Tryz.func86, results_cell_one rfl _ _ _ _ _ rfl (load_arr (show (w6.at dd).heap[g]? = _ from E7))⟩, rfl, B7.sm ⟨dd, rfl⟩⟩

end Go.Proofs.YtagncoahobghpacGreatDoor
