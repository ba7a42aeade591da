/-
  EnergyOf in company.
-/
import Derived.Test.YtagncoahobghpacT1
import Derived.Test.YtagncoahobghpacSgI
import Derived.Test.YtagncoahobghpacPtD
namespace Go.Proofs.Ytagncoahobghpac
open Go Go.Conc Go.RowKit
set_option linter.unusedVariables false

section
variable {P : Program}

/-- What is told hangs on the heap alone. -/
theorem results_at {fn : Func} {tmps : Array Value} {w : World} {v : Value} (h : (results fn tmps).run P w = .ok v w) (d : Nat) : (results fn tmps).run P (w.at d) = .ok v (w.at d) := by
  obtain ⟨R, es, c, h1, h2, h3⟩ := tame_run (tm_results (P := P) fn tmps) w w.tape w.drawn #[]
  have e1 := h3 w.tape w.drawn (fun _ _ => rfl)
  rw [reT_self, Sem.runT_eq] at e1
  have f1 := congrArg Prod.fst e1
  simp only [h] at f1
  cases R with
  | halt hh w2 => cases f1
  | ok a w2 =>
    simp only [Rre, Result.ok.injEq] at f1
    obtain ⟨rfl, f2⟩ := f1
    have ec : w.drawn = w.drawn + c := by
      have := congrArg (fun q : World => q.drawn) f2
      simpa [reT] using this
    obtain rfl : c = 0 := by omega
    have e2 := h3 w.tape d (fun j hj => by omega)
    rw [Sem.runT_eq] at e2
    have g2 := congrArg Prod.fst e2
    simp only [Rre] at g2
    have e3 : reT w2 w.tape (d + 0) = w.at d := by
      have : reT w w.tape d = reT (reT w2 w.tape (w.drawn + 0)) w.tape d := by rw [← f2]
      rw [reT_reT] at this
      exact this.symm
    rw [e3] at g2
    exact g2

theorem leaving_at {fr : Frame} {w : World} {v : Value} (h : fr.leaving P w (.returned v)) (d : Nat) : fr.leaving P (w.at d) (.returned v) := by
  obtain ⟨k1, k2, k3, fn, k4, k5⟩ := h
  exact ⟨k1, k2, k3, fn, k4, results_at k5 d⟩

theorem leaving_step_any {main : Bool} {fr c : Frame} {cs : List Frame} {w : World} {v : Value} (h : fr.leaving P w (.returned v)) :
    ∃ es, stillA es ∧ stepG P main (G fr (c :: cs)) w = .go (G (c.finish v) cs) w es := by
  obtain ⟨hm, hd, hk, fn, hf, hv⟩ := h
  refine ⟨seen P fr.fn ((results fn fr.tmps).events P w #[]), fun e he => still_events (tm_results fn fr.tmps) w e (seen_sub he), ?_⟩
  simp [stepG, unwind, doReturn, hm, hd, hk, hf, hv, GStep.after, G]

theorem run_call_value {a : Act} {w : World} {o : Oper} {f : FuncId} {fn : Func} {x : Operand} {caps : Array Value} {args : Array Operand} {ats : Array TypeId} (hop : o.op = .call { callee := .value x, args, argTypes := ats }) (hx : a.eval x = .func (.func f) caps #[])
    (hf : P.funcs[f]? = some fn) (hname : (fn.name == "runtime.NumGoroutine") = false) (hb : fn.body.isNone = false) : (execOp a.eval o).run P w = .ok (.enter f (caps ++ args.map a.eval)) w := by
  have h1 : ¬ fn.name = "runtime.NumGoroutine" := by simpa using hname
  have h2 : ¬ fn.body = none := by cases hx : fn.body <;> simp_all
  unfold execOp
  simp [hop, resolve, hx, Deferred.ofValue, invoke, callFunc, hf, h1, h2]
theorem events_call_value {a : Act} {w : World} {o : Oper} {f : FuncId} {fn : Func} {x : Operand} {caps : Array Value} {args : Array Operand} {ats : Array TypeId} (hop : o.op = .call { callee := .value x, args, argTypes := ats }) (hx : a.eval x = .func (.func f) caps #[])
    (hf : P.funcs[f]? = some fn) (hname : (fn.name == "runtime.NumGoroutine") = false) (hb : fn.body.isNone = false) (es : Array Event) : (execOp a.eval o).events P w es = es := by
  have h1 : ¬ fn.name = "runtime.NumGoroutine" := by simpa using hname
  have h2 : ¬ fn.body = none := by cases hx : fn.body <;> simp_all
  unfold execOp
  simp [hop, resolve, hx, Deferred.ofValue, invoke, callFunc, hf, h1, h2]

/-- THROUGH A CALL of a function value; the results may lie in cells. -/
theorem beside_call_any {b : Frame} {a : Act} {k : List Item} {cs : List Frame} {w : World} {ops : Array Oper} {i : Nat} {rest : List Nat} {o : Oper} {f : FuncId} {fn : Func} {x : Operand} {caps : Array Value} {args : Array Operand} {ats : Array TypeId} {R : Value → World → Prop} {Q : Goroutine → World → Prop}
    (ho : ops[i]? = some o) (hw : Region.wanted o (yielded ops a.tmps) = true) (hk : b.kind ≠ .early) (hop : o.op = .call { callee := .value x, args, argTypes := ats }) (hx : a.eval x = .func (.func f) caps #[])
    (hf : P.funcs[f]? = some fn) (hname : (fn.name == "runtime.NumGoroutine") = false) (hb : fn.body.isNone = false) {vals : Array Value} (has : caps ++ args.map a.eval = vals) (hC : ∀ d, BCalls P f vals (w.at d) R)
    (next : ∀ v w', R v w' → Beside P (G (b.at (a.put o.dst v) (.inRegion ops rest :: k)) cs) w' Q) : Beside P (G (b.at a (.inRegion ops (i :: rest) :: k)) cs) w Q := by
  have hfin : ∀ v, (b.at a (.inRegion ops (i :: rest) :: k)).finish v = b.at (a.put o.dst v) (.inRegion ops rest :: k) := fun v => by rw [Frame.finish_at, ho]; rfl
  subst has
  refine .step rfl fun d => ⟨_, _, _, stepG_enter ho hw hk (run_call_value hop hx hf hname hb), ?_, ?_⟩
  · have e : listed P b.fn a o (w.at d) = #[] := by
      unfold listed
      rw [events_call_value hop hx hf hname hb]
      exact seen_none P _
    rw [e]
    exact D0.nil (w := w) (w' := w)
  · refine (hC d _).trans fun a1 w1 hq => ?_
    obtain ⟨fr, v, rfl, h1, h2, h3⟩ := hq
    refine .step rfl fun d1 => ?_
    obtain ⟨es, hes, hst⟩ := leaving_step_any (main := true) (c := b.at a (.inRegion ops (i :: rest) :: k)) (cs := cs) (leaving_at h2 d1)
    refine ⟨_, _, _, hst, hes, ?_⟩
    rw [hfin]
    exact (next v w1 h3).at d1
end

theorem sq_noughtsE (xs : List Int) (h : xs.length ≤ 16) : sq (ix xs) 16 = sq (ix xs) xs.length :=
  sumN_more h fun i h1 _ => by rw [show ix xs i = 0 by simp [ix, List.getD, List.getElem?_eq_none h1]]; rfl

theorem uponK_of_list {P : Program} {o : Oper} {a : Act} {w : World} {K : Act → World → Prop} (hg : o.guard = none) (hk : okOp P (fun _ => false) o.op = true)
    (h : wpList P #[] (fun e a' w' => e = .normal ∧ K a' w') [o] a w) : uponK o a K ((execOp a.eval o).run P w) := by
  obtain ⟨R, es, c, h1, h2, h3⟩ := tame_run (tame_exec (okFns_none P) (ρ := a.eval) (fun _ => rfl) o hk) w w.tape w.drawn #[]
  have e1 := h3 w.tape w.drawn (fun _ _ => rfl)
  rw [reT_self, Sem.runT_eq] at e1
  have f1 : (execOp a.eval o).run P w = Rre w.tape (w.drawn + c) R := congrArg Prod.fst e1
  simp only [wpList, Region.wanted, hg, if_true] at h
  rcases h with h | ⟨_, h⟩
  · unfold Oper.wp at h
    rw [f1] at h ⊢
    cases R with
    | ok x w' =>
      cases x <;> first | exact h.2 | (exact h2.elim) | (cases h2; done)
    | halt hh w' => cases hh <;> first | (exact absurd h.1 (by simp)) | (exact h2.elim) | (cases h.1; done) | (exact h.elim)
  · exact absurd h (by simp [LetsOut])
theorem goes_of_eq {s s' : GStep} {K : Goroutine → World → Array Event → Prop} (h : s = s') (h2 : s'.goes K) : s.goes K := h ▸ h2

set_option maxRecDepth 100000 in
set_option maxHeartbeats 8000000 in
theorem cellsOf_b (v : Value) (xs : List Int) (w : World) (h : Rd w v xs) (hl : xs.length ≤ 16) :
    BCalls Try.prog 33 #[v] w fun r w' => r = .agg (arr (ix xs)) ∧ Below w.heap.size w w' := by
  intro cs
  obtain ⟨a, cap, rfl, h⟩ := h
  rw [enter_at _ Try.func33 rfl]
  simp only [Try.f33, List.size_toArray, List.length_cons, List.length_nil, Nat.reduceAdd, Nat.reduceSub, Array.replicate_succ, Array.replicate_zero, List.push_toArray, List.append_toArray, List.nil_append, List.cons_append]
  have hF : Sm w w := Sm.refl w
  obtain ⟨g, hg⟩ : ∃ g, g = w.heap.size := ⟨_, rfl⟩
  have HG := Lib.hid hg
  clear hg
  refine beside_by (n := 400) ?_
  repeat a_ctl hF Sm.trans D0.nil
  (refine Goes.step rfl (fun _ h₁ => ?_); replace hF := Sm.trans hF h₁; clear h₁; refine goes_oper_k rfl rfl (by decide) (fun K hK => ?_); go_simp; refine hK _ _ ⟨still_listed rfl, ?_⟩; clear hK K)
  refine Goes.stop fun w₁ h₁ => ?_
  obtain ⟨d0, rfl⟩ := hF
  obtain ⟨d1, rfl⟩ := h₁
  rw [zero16_lit, show (w.at d0).heap.size = g from HG.out.symm]
  have B1 : Below w.heap.size w (((w.at d0).alloc (.cells zero16.toArray 45)).at d1) := ((Below.refl w.heap.size w).alloc (Nat.le_refl _) (.cells zero16.toArray 45)).sm ⟨d1, rfl⟩
  have E1 : (((w.at d0).alloc (.cells zero16.toArray 45)).at d1).heap[g]? = some (.cells zero16.toArray 45 (0, 0)) := by rw [HG.out]; exact heap_alloc_last w _
  have S1 : (((w.at d0).alloc (.cells zero16.toArray 45)).at d1).heap.size = g + 1 := by rw [HG.out]; exact size_one w _
  generalize ((w.at d0).alloc (.cells zero16.toArray 45)).at d1 = w1 at B1 E1 S1 ⊢
  have hF := Sm.refl w1
  try walk_nrm
  refine beside_by (n := 400) ?_
  repeat a_ctl hF Sm.trans D0.nil
  (refine Goes.step rfl (fun _ h₁ => ?_); replace hF := Sm.trans hF h₁; clear h₁; refine goes_oper_k rfl rfl (by decide) (fun K hK => ?_); go_simp; refine hK _ _ ⟨still_listed rfl, ?_⟩; clear hK K)
  refine Goes.stop fun w₁ h₁ => ?_
  obtain ⟨d2, rfl⟩ := hF
  obtain ⟨d3, rfl⟩ := h₁
  rw [zero16_lit, show (w1.at d2).heap.size = g + 1 from S1]
  have B2 : Below w.heap.size w (((w1.at d2).alloc (.cells zero16.toArray 45)).at d3) := (B1.alloc B1.size (.cells zero16.toArray 45)).sm ⟨d3, rfl⟩
  have E2 : (((w1.at d2).alloc (.cells zero16.toArray 45)).at d3).heap[g]? = some (.cells zero16.toArray 45 (0, 0)) := (Below.heap_alloc w1 _ g (by omega)).trans E1
  have E3 : (((w1.at d2).alloc (.cells zero16.toArray 45)).at d3).heap[g + 1]? = some (.cells zero16.toArray 45 (0, 0)) := by rw [← S1]; exact heap_alloc_last w1 _
  generalize ((w1.at d2).alloc (.cells zero16.toArray 45)).at d3 = w2 at B2 E2 E3 ⊢
  clear B1 E1 S1
  have hF := Sm.refl w2
  try walk_nrm
  refine beside_by (n := 400) ?_
  repeat a_ctl hF Sm.trans D0.nil
  (refine Goes.step rfl (fun _ h₁ => ?_); replace hF := Sm.trans hF h₁; clear h₁; refine goes_oper_k rfl rfl (by decide) (fun K hK => ?_); go_simp; refine hK _ _ ⟨still_listed rfl, ?_⟩; clear hK K)
  (refine Goes.step rfl (fun _ h₁ => ?_); replace hF := Sm.trans hF h₁; clear h₁; refine goes_oper_k rfl rfl (by decide) (fun K hK => ?_); go_simp; refine hK _ _ ⟨still_listed rfl, ?_⟩; clear hK K)
  refine Goes.step rfl (fun _ h₁ => ?_)
  replace hF := Sm.trans hF h₁
  clear h₁
  obtain ⟨dx, rfl⟩ := hF
  refine goes_oper_k rfl rfl (by decide) (fun K hK => ?_)
  refine uponK_of_list rfl rfl ?_
  refine wpList_copy_splice rfl (.tmp 4) (.tmp 5) 23 23 rfl 3 Try.underlying23 ?k0 _ _ _ _ _ _ rfl rfl (g + 1) 0 zero16 45 ?kh (xs.map (Value.int .i64)) ?k1 ?k2 ?k3 ?k4 (g + 1) (w2.at dx) (Below.refl _ _) (Nat.le_refl _) ?_
  case k0 => kernel_rfl
  case kh => exact E3
  case k1 => simp only [List.length_map]; exact (Nat.min_eq_left hl).symm
  case k2 =>
    intro hpos
    rcases h with rfl | ⟨b, off, rfl, hb, hc⟩
    · simp at hpos
    · refine ⟨rfl, ⟨b, off, none⟩, rfl, fun j u hj => ?_⟩
      have hlt := (List.getElem?_eq_some_iff.1 hj).1
      rw [show (⟨b, off, none⟩ : Addr).add j = ⟨b, off + j, none⟩ by simp [Addr.add], show (w2.at dx).cell? ⟨b, off + j, none⟩ = w2.cell? ⟨b, off + j, none⟩ from rfl, B2.cell (p := ⟨b, off + j, none⟩) hb, hc j (by simpa using hlt)]
      rw [getElem?_map_int xs j (by simpa using hlt)] at hj
      exact hj
  case k3 => simp [zero16]; omega
  case k4 => exact ints_oneCell _ _
  intro w3 hH3 hB3
  refine ⟨rfl, hK _ _ ⟨still_listed rfl, ?_⟩⟩
  clear hK K
  refine Goes.stop fun w₁ h₁ => ?_
  obtain ⟨d4, rfl⟩ := h₁
  have E4 : (w3.at d4).heap[g + 1]? = some (.cells (arr (ix xs)) 45 (0, 0)) := by
    have := hH3.out
    rw [zero16, splice_row xs hl] at this
    exact this
  have E5 : (w3.at d4).heap[g]? = some (.cells zero16.toArray 45 (0, 0)) := (hB3.block g (by omega)).trans E2
  have B4 : Below w.heap.size w (w3.at d4) := (B2.trans (Below.sm (show Below w.heap.size w2 w3 from ⟨hB3.os, hB3.tape, hB3.output, hB3.size, fun k hk => hB3.block k (by have := HG.out; omega)⟩) ⟨d4, rfl⟩))
  generalize w3.at d4 = w4 at E4 E5 B4 ⊢
  clear hH3 hB3 E2 E3 B2 h
  have hF := Sm.refl w4
  try walk_nrm
  refine beside_by (n := 400) ?_
  repeat a_ctl hF Sm.trans D0.nil
  refine Goes.step rfl (fun _ h₁ => ?_)
  replace hF := Sm.trans hF h₁
  clear h₁
  obtain ⟨dx, rfl⟩ := hF
  refine goes_oper_k rfl rfl (by decide) (fun K hK => ?_)
  refine uponK_of_list rfl rfl ?_
  refine wpList_loadv rfl (.tmp 3) 45 rfl _ rfl _ (load_arr E4) ?_
  refine ⟨rfl, hK _ _ ⟨still_listed rfl, ?_⟩⟩
  clear hK K
  have B5 : Below w.heap.size w (w4.at dx) := B4.sm ⟨dx, rfl⟩
  have E6 : (w4.at dx).heap[g]? = some (.cells zero16.toArray 45 (0, 0)) := E5
  generalize w4.at dx = w5 at B5 E6 ⊢
  clear E4 E5 B4
  have hF := Sm.refl w5
  refine Goes.step rfl (fun _ h₁ => ?_)
  replace hF := Sm.trans hF h₁
  clear h₁
  obtain ⟨dx, rfl⟩ := hF
  refine goes_oper_k rfl rfl (by decide) (fun K hK => ?_)
  refine uponK_of_list rfl rfl ?_
  refine wpList_storev rfl (.tmp 2) (.tmp 7) 45 rfl _ rfl _ rfl (store_arr (F := ix xs) E6 (by simp [zero16])) ?_
  refine ⟨rfl, hK _ _ ⟨still_listed rfl, ?_⟩⟩
  clear hK K
  refine Goes.stop fun w₁ h₁ => ?_
  obtain ⟨d5, rfl⟩ := h₁
  have E7 : (((w5.at dx).setRow g (arr (ix xs))).at d5).heap[g]? = some (.cells (arr (ix xs)) 45 (0, 0)) := setRow_heap w5 g _ _ _ _ E6
  have B7 : Below w.heap.size w (((w5.at dx).setRow g (arr (ix xs))).at d5) := (below_setRow (B5.sm ⟨dx, rfl⟩) (by rw [HG.out]; exact Nat.le_refl _) _).sm ⟨d5, rfl⟩
  generalize ((w5.at dx).setRow g (arr (ix xs))).at d5 = w6 at E7 B7 ⊢
  clear B5 E6
  have hF := Sm.refl w6
  try walk_nrm
  refine beside_by (n := 400) ?_
  repeat a_ctl hF Sm.trans D0.nil
  refine Goes.step rfl (fun _ h₁ => ?_)
  rw [stepG_ret']
  simp only [goes_go]
  refine ⟨D0.nil, ?_⟩
  refine Goes.stop fun w₁ h₂ => .at0 fun d => ?_
  have hF := (Sm.trans hF h₁).trans (h₂.trans ⟨d, rfl⟩)
  obtain ⟨dd, he⟩ := hF
  rw [he]
  exact ⟨_, _, rfl, rfl, ⟨rfl, rfl, rfl, _, Try.func33, results_cell_one rfl _ _ _ _ _ rfl (load_arr (show (w6.at dd).heap[g]? = _ from E7))⟩, rfl, B7.sm ⟨dd, rfl⟩⟩

theorem cellAt_b (x : Nat) (F : Nat → Int) (w : World) (hx : x < 16) : BCalls Try.prog 35 #[.agg (arr F), .int .i64 x] w (BTells (F x) w) :=
  btells_of [35] (by kernel_rfl) Try.func35 rfl (by kernel_rfl) (by kernel_rfl) fun τ d => cellAt_any x F (reT w τ d) hx

set_option maxRecDepth 100000 in
set_option maxHeartbeats 8000000 in
theorem weighAt_b (F : Nat → Int) (w : World) :
    BCalls Try.prog 34 #[.agg (arr F), .func (.func 35) #[.agg (arr F)] #[]] w (BTells (wrap64 (sq F 16)) w) := by
  intro cs
  have HS := arr_size F
  rw [enter_at _ Try.func34 rfl]
  simp only [Try.f34, List.size_toArray, List.length_cons, List.length_nil, Nat.reduceAdd, Nat.reduceSub, Array.replicate_succ, Array.replicate_zero, List.push_toArray, List.append_toArray, List.nil_append, List.cons_append]
  have hF : Sm w w := Sm.refl w
  obtain ⟨g, hg⟩ : ∃ g, g = w.heap.size := ⟨_, rfl⟩
  have HG := Lib.hid hg
  clear hg
  refine beside_by (n := 400) ?_
  repeat a_ctl hF Sm.trans D0.nil
  (refine Goes.step rfl (fun _ h₁ => ?_); replace hF := Sm.trans hF h₁; clear h₁; refine goes_oper_k rfl rfl (by decide) (fun K hK => ?_); go_simp; refine hK _ _ ⟨still_listed rfl, ?_⟩; clear hK K)
  refine Goes.stop fun w₁ h₁ => ?_
  obtain ⟨d0, rfl⟩ := hF
  obtain ⟨d1, rfl⟩ := h₁
  rw [show (w.at d0).heap.size = g from HG.out.symm]
  have B1 : Below w.heap.size w (((w.at d0).alloc (.cells (arr F) 45)).at d1) := ((Below.refl w.heap.size w).alloc (Nat.le_refl _) (.cells (arr F) 45)).sm ⟨d1, rfl⟩
  have E1 : (((w.at d0).alloc (.cells (arr F) 45)).at d1).heap[g]? = some (.cells (arr F) 45 (0, 0)) := by rw [HG.out]; exact heap_alloc_last w _
  generalize ((w.at d0).alloc (.cells (arr F) 45)).at d1 = w1 at B1 E1 ⊢
  have hF := Sm.refl w1
  try walk_nrm
  refine beside_by (n := 400) ?_
  repeat a_ctl hF Sm.trans D0.nil
  (refine Goes.step rfl (fun _ h₁ => ?_); replace hF := Sm.trans hF h₁; clear h₁; refine goes_oper_k rfl rfl (by decide) (fun K hK => ?_); go_simp; refine hK _ _ ⟨still_listed rfl, ?_⟩; clear hK K)
  repeat a_ctl hF Sm.trans D0.nil
  (refine Goes.step rfl (fun _ h₁ => ?_); replace hF := Sm.trans hF h₁; clear h₁; refine goes_oper_k rfl rfl (by decide) (fun K hK => ?_); go_simp; refine hK _ _ ⟨still_listed rfl, ?_⟩; clear hK K)
  repeat a_ctl hF Sm.trans D0.nil
  refine Goes.step rfl (fun _ h₁ => ?_)
  replace hF := Sm.trans hF h₁
  clear h₁
  obtain ⟨dx, rfl⟩ := hF
  refine goes_oper_k rfl rfl (by decide) (fun K hK => ?_)
  refine uponK_of_list rfl rfl ?_
  refine wpList_loadv rfl (.tmp 2) 45 rfl _ rfl _ (load_arr (show (w1.at dx).heap[g]? = _ from E1)) ?_
  refine ⟨rfl, hK _ _ ⟨still_listed rfl, ?_⟩⟩
  clear hK K
  have hF := Sm.refl (w1.at dx)
  walk_nrm
  (refine Goes.step rfl (fun _ h₁ => ?_); replace hF := Sm.trans hF h₁; clear h₁; refine goes_oper_k rfl rfl (by decide) (fun K hK => ?_); go_simp; refine hK _ _ ⟨still_listed rfl, ?_⟩; clear hK K)
  repeat a_ctl hF Sm.trans D0.nil
  refine Goes.stop fun w₁ h₁ => ?_
  have B2 : Below w.heap.size w w₁ := (B1.sm ⟨dx, rfl⟩).sm (hF.trans h₁)
  clear hF h₁ B1 E1
  refine (?_ : ∀ (n k : Nat) (v5 v9 v6 v7 v10 v11 v12 v13 v14 v15 v16 v17 v18 v19 v20 : Value) (w' : World), k + n = 16 → v5 = .int .i64 (wrap64 (sumN (fun x => F x * F x) k)) → v9 = .int .i64 (k : Int) → Below w.heap.size w w' → Beside _ (G (Frame.at _ ⟨#[.agg (arr F), .func (.func 35) #[.agg (arr F)] #[], .pointer (some ⟨g, 0, none⟩), undef, .int .i64 0, v5, v6, v7, .agg (arr F), v9, v10, v11, v12, v13, v14, v15, v16, v17, v18, v19, v20, undef], []⟩ _) cs) w' _) 16 0 _ _ _ _ _ _ _ _ _ _ _ _ _ _ _ _ rfl (by simp [sumN, wrap64]) rfl B2
  clear B2
  intro n
  induction n with
  | zero =>
    intro k v5 v9 v6 v7 v10 v11 v12 v13 v14 v15 v16 v17 v18 v19 v20 w2 hk h5 h9 B2
    obtain rfl : k = 16 := by omega
    subst h5 h9
    have hF := Sm.refl w2
    have i1 : ¬ (((16 : Nat) : Int) < 16) := by omega
    refine beside_by (n := 400) ?_
    repeat (first | a_ctl hF Sm.trans D0.nil | (refine Goes.step rfl (fun _ h₁ => ?_); replace hF := Sm.trans hF h₁; clear h₁; refine goes_oper_k rfl rfl (by decide) (fun K hK => ?_); go_simp; refine hK _ _ ⟨still_listed rfl, ?_⟩; clear hK K) | (refine Goes.step rfl (fun _ h₁ => ?_); rw [stepG_unwanted rfl rfl]; simp only [goes_go]; refine ⟨D0.nil, ?_⟩; replace hF := Sm.trans hF h₁; clear h₁; walk_nrm))
    a_cond false hF Sm.trans D0.nil
    refine Goes.step rfl (fun _ h₁ => ?_)
    refine goes_of_eq (stepG_exit rfl) ?_
    simp only [goes_go]
    refine ⟨D0.nil, ?_⟩
    replace hF := Sm.trans hF h₁
    clear h₁
    repeat (first | a_ctl hF Sm.trans D0.nil | (refine Goes.step rfl (fun _ h₁ => ?_); replace hF := Sm.trans hF h₁; clear h₁; refine goes_oper_k rfl rfl (by decide) (fun K hK => ?_); go_simp; refine hK _ _ ⟨still_listed rfl, ?_⟩; clear hK K) | (refine Goes.step rfl (fun _ h₁ => ?_); rw [stepG_unwanted rfl rfl]; simp only [goes_go]; refine ⟨D0.nil, ?_⟩; replace hF := Sm.trans hF h₁; clear h₁; walk_nrm))
    refine Goes.step rfl (fun _ h₁ => ?_)
    rw [stepG_ret']
    simp only [goes_go]
    refine ⟨D0.nil, ?_⟩
    refine Goes.stop fun w₁ h₂ => .at0 fun d => ?_
    have hF := (Sm.trans hF h₁).trans (h₂.trans ⟨d, rfl⟩)
    exact leave1 Try.func34 rfl (R := BTells (wrap64 (sq F 16)) w) ⟨rfl, B2.sm hF⟩
  | succ n ih =>
    intro k v5 v9 v6 v7 v10 v11 v12 v13 v14 v15 v16 v17 v18 v19 v20 w2 hk h5 h9 B2
    have hlt : k < 16 := by omega
    subst h5 h9
    have hF := Sm.refl w2
    have i1 : (k : Int) < 16 := by omega
    have HA := arr_get F k hlt
    have HI := index_arr F k hlt
    refine beside_by (n := 400) ?_
    repeat (first | a_ctl hF Sm.trans D0.nil | (refine Goes.step rfl (fun _ h₁ => ?_); replace hF := Sm.trans hF h₁; clear h₁; refine goes_oper_k rfl rfl (by decide) (fun K hK => ?_); go_simp; refine hK _ _ ⟨still_listed rfl, ?_⟩; clear hK K) | (refine Goes.step rfl (fun _ h₁ => ?_); rw [stepG_unwanted rfl rfl]; simp only [goes_go]; refine ⟨D0.nil, ?_⟩; replace hF := Sm.trans hF h₁; clear h₁; walk_nrm))
    a_cond true hF Sm.trans D0.nil
    repeat (first | a_ctl hF Sm.trans D0.nil | (refine Goes.step rfl (fun _ h₁ => ?_); replace hF := Sm.trans hF h₁; clear h₁; refine goes_oper_k rfl rfl (by decide) (fun K hK => ?_); go_simp; refine hK _ _ ⟨still_listed rfl, ?_⟩; clear hK K) | (refine Goes.step rfl (fun _ h₁ => ?_); rw [stepG_unwanted rfl rfl]; simp only [goes_go]; refine ⟨D0.nil, ?_⟩; replace hF := Sm.trans hF h₁; clear h₁; walk_nrm))
    refine Goes.stop fun w₁ h₁ => ?_
    replace hF := Sm.trans hF h₁
    clear h₁
    refine beside_call_any rfl rfl (by decide) rfl (caps := #[.agg (arr F)]) rfl Try.func35 rfl rfl (vals := #[.agg (arr F), .int .i64 k]) (by simp [Act.eval]) (fun d => btells_sm (hF.trans ⟨d, rfl⟩) (cellAt_b k F _ hlt)) ?_
    rintro r w3 ⟨rfl, b3⟩
    have B3 := bel_nxt B2 b3
    clear hF b3 B2
    obtain ⟨z, hz⟩ : ∃ z, z = F k := ⟨_, rfl⟩
    obtain ⟨s, hs⟩ : ∃ s, s = wrap64 (sumN (fun x => F x * F x) k) := ⟨_, rfl⟩
    obtain ⟨q, hq⟩ : ∃ q, q = wrap64 (z * z) := ⟨_, rfl⟩
    obtain ⟨y, hy⟩ : ∃ y, y = wrap64 (s + q) := ⟨_, rfl⟩
    have HY : Hid (y = wrap64 (sumN (fun x => F x * F x) (k + 1))) := Lib.hid (by rw [hy, hs, hq, hz, w64_add, sumN])
    have e1 : IntKind.i64.wrap (z * z) = q := by rw [hq, IntKind.wrap_i64]; unfold wrap64; rfl
    have e2 : IntKind.i64.wrap (s + q) = y := by rw [hy, IntKind.wrap_i64]; unfold wrap64; rfl
    have e3 : IntKind.i64.wrap ((k : Int) + 1) = (k : Int) + 1 := IntWalk.i64_in _ (by omega)
    rw [← hz, ← hs]
    clear hz hs hq hy HA HI
    have hF := Sm.refl w3
    try walk_nrm
    refine beside_by (n := 400) ?_
    (refine Goes.step rfl (fun _ h₁ => ?_); replace hF := Sm.trans hF h₁; clear h₁; refine goes_oper_k rfl rfl (by decide) (fun K hK => ?_); go_simp; refine hK _ _ ⟨still_listed rfl, ?_⟩; clear hK K)
    (refine Goes.step rfl (fun _ h₁ => ?_); replace hF := Sm.trans hF h₁; clear h₁; refine goes_oper_k rfl rfl (by decide) (fun K hK => ?_); go_simp; refine hK _ _ ⟨still_listed rfl, ?_⟩; clear hK K)
    (refine Goes.step rfl (fun _ h₁ => ?_); replace hF := Sm.trans hF h₁; clear h₁; refine goes_oper_k rfl rfl (by decide) (fun K hK => ?_); go_simp; refine hK _ _ ⟨still_listed rfl, ?_⟩; clear hK K)
    (refine Goes.step rfl (fun _ h₁ => ?_); replace hF := Sm.trans hF h₁; clear h₁; refine goes_oper_k rfl rfl (by decide) (fun K hK => ?_); go_simp; refine hK _ _ ⟨still_listed rfl, ?_⟩; clear hK K)
    repeat a_ctl hF Sm.trans D0.nil
    (refine Goes.step rfl (fun _ h₁ => ?_); replace hF := Sm.trans hF h₁; clear h₁; refine goes_oper_k rfl rfl (by decide) (fun K hK => ?_); go_simp; refine hK _ _ ⟨still_listed rfl, ?_⟩; clear hK K)
    (refine Goes.step rfl (fun _ h₁ => ?_); replace hF := Sm.trans hF h₁; clear h₁; refine goes_oper_k rfl rfl (by decide) (fun K hK => ?_); go_simp; refine hK _ _ ⟨still_listed rfl, ?_⟩; clear hK K)
    repeat a_ctl hF Sm.trans D0.nil
    refine Goes.stop fun w₁ h₁ => ?_
    exact ih (k + 1) _ _ _ _ _ _ _ _ _ _ _ _ _ _ _ _ (by omega) (by rw [HY.out]) (by simp) (B3.sm (Sm.trans hF h₁))

set_option maxRecDepth 100000 in
set_option maxHeartbeats 8000000 in
theorem implEnergyOf_b (v : Value) (xs : List Int) (w : World) (h : Rd w v xs) (hl : xs.length ≤ maxLen) :
    BCalls Try.prog 16 #[v] w (BTells (energyF xs) w) := by
  intro cs
  obtain ⟨a, cap, hv, -⟩ := id h
  rw [enter_at _ Try.func16 rfl]
  simp only [Try.f16, List.size_toArray, List.length_cons, List.length_nil, Nat.reduceAdd, Nat.reduceSub, Array.replicate_succ, Array.replicate_zero, List.push_toArray, List.append_toArray, List.nil_append, List.cons_append]
  have hF : Sm w w := Sm.refl w
  subst hv
  refine beside_by (n := 400) ?_
  repeat (first | a_ctl hF Sm.trans D0.nil | (refine Goes.step rfl (fun _ h₁ => ?_); replace hF := Sm.trans hF h₁; clear h₁; refine goes_oper_k rfl rfl (by decide) (fun K hK => ?_); go_simp; refine hK _ _ ⟨still_listed rfl, ?_⟩; clear hK K) | (refine Goes.step rfl (fun _ h₁ => ?_); rw [stepG_unwanted rfl rfl]; simp only [goes_go]; refine ⟨D0.nil, ?_⟩; replace hF := Sm.trans hF h₁; clear h₁; walk_nrm))
  refine Goes.stop fun w₁ h₁ => ?_
  replace hF := Sm.trans hF h₁
  clear h₁
  refine beside_call rfl rfl (by decide) rfl Try.func10 rfl rfl (by kernel_rfl) (show _ = (#[.slice a xs.length cap] : Array Value) from by walk_nrm) (fun d => bsays_sm (hF.trans ⟨d, rfl⟩) (implValid_b _ xs _ (h.sm (hF.trans ⟨d, rfl⟩)) hl)) ?_
  rintro r w1 ⟨rfl, b1⟩
  clear hF
  have h := h.below b1 (Nat.le_refl _)
  have hF := Sm.refl w1
  walk_nrm
  cases hb : vrB xs with
  | false =>
    have hE : Hid (energyF xs = -1) := by show energyF xs = _; unfold energyF; exact if_neg (by simp [hb])
    clear hb
    refine beside_by (n := 400) ?_
    repeat (first | a_ctl hF Sm.trans D0.nil | (refine Goes.step rfl (fun _ h₁ => ?_); replace hF := Sm.trans hF h₁; clear h₁; refine goes_oper_k rfl rfl (by decide) (fun K hK => ?_); go_simp; refine hK _ _ ⟨still_listed rfl, ?_⟩; clear hK K) | (refine Goes.step rfl (fun _ h₁ => ?_); rw [stepG_unwanted rfl rfl]; simp only [goes_go]; refine ⟨D0.nil, ?_⟩; replace hF := Sm.trans hF h₁; clear h₁; walk_nrm))
    a_cond true hF Sm.trans D0.nil
    repeat (first | a_ctl hF Sm.trans D0.nil | (refine Goes.step rfl (fun _ h₁ => ?_); replace hF := Sm.trans hF h₁; clear h₁; refine goes_oper_k rfl rfl (by decide) (fun K hK => ?_); go_simp; refine hK _ _ ⟨still_listed rfl, ?_⟩; clear hK K) | (refine Goes.step rfl (fun _ h₁ => ?_); rw [stepG_unwanted rfl rfl]; simp only [goes_go]; refine ⟨D0.nil, ?_⟩; replace hF := Sm.trans hF h₁; clear h₁; walk_nrm))
    refine Goes.step rfl (fun _ h₁ => ?_)
    rw [stepG_ret']
    simp only [goes_go]
    refine ⟨D0.nil, ?_⟩
    refine Goes.stop fun w₁ h₂ => .at0 fun d => ?_
    have hF := (Sm.trans hF h₁).trans (h₂.trans ⟨d, rfl⟩)
    exact leave1 Try.func16 rfl (R := BTells (energyF xs) w) ⟨by rw [hE.out]; rfl, b1.sm hF⟩
  | true =>
    have hle := (vrB_of hb).1
    have hE : Hid (energyF xs = wrap64 (sq (ix xs) 16)) := by show energyF xs = _; rw [sq_noughtsE xs hle]; unfold energyF; exact if_pos hb
    obtain ⟨F, hFF⟩ : ∃ F, F = ix xs := ⟨_, rfl⟩
    rw [← hFF] at hE
    clear hb
    refine beside_by (n := 400) ?_
    repeat (first | a_ctl hF Sm.trans D0.nil | (refine Goes.step rfl (fun _ h₁ => ?_); replace hF := Sm.trans hF h₁; clear h₁; refine goes_oper_k rfl rfl (by decide) (fun K hK => ?_); go_simp; refine hK _ _ ⟨still_listed rfl, ?_⟩; clear hK K) | (refine Goes.step rfl (fun _ h₁ => ?_); rw [stepG_unwanted rfl rfl]; simp only [goes_go]; refine ⟨D0.nil, ?_⟩; replace hF := Sm.trans hF h₁; clear h₁; walk_nrm))
    a_cond false hF Sm.trans D0.nil
    repeat (first | a_ctl hF Sm.trans D0.nil | (refine Goes.step rfl (fun _ h₁ => ?_); replace hF := Sm.trans hF h₁; clear h₁; refine goes_oper_k rfl rfl (by decide) (fun K hK => ?_); go_simp; refine hK _ _ ⟨still_listed rfl, ?_⟩; clear hK K) | (refine Goes.step rfl (fun _ h₁ => ?_); rw [stepG_unwanted rfl rfl]; simp only [goes_go]; refine ⟨D0.nil, ?_⟩; replace hF := Sm.trans hF h₁; clear h₁; walk_nrm))
    refine Goes.stop fun w₁ h₁ => ?_
    replace hF := Sm.trans hF h₁
    clear h₁
    refine beside_call_any rfl rfl (by decide) rfl (caps := #[]) rfl Try.func33 rfl rfl (vals := #[.slice a xs.length cap]) (by simp [Act.eval]) (R := fun r w' => r = .agg (arr F) ∧ Below w1.heap.size w1 w') (fun d => ?_) ?_
    · obtain ⟨dd, he⟩ := (hF.trans ⟨d, rfl⟩)
      rw [he]
      refine (cellsOf_b _ xs _ (show Rd (w1.at dd) _ xs from h) hle).mono fun r w' q => ⟨by rw [hFF]; exact q.1, ?_⟩
      exact ⟨q.2.os, q.2.tape, q.2.output, q.2.size, q.2.block⟩
    rintro r w2 ⟨rfl, b2⟩
    have bb := bel_nxt b1 b2
    clear hF b2 b1 h hFF
    have HS := arr_size F
    obtain ⟨g, hg⟩ : ∃ g, g = w2.heap.size := ⟨_, rfl⟩
    have HG := Lib.hid hg
    clear hg
    have hF := Sm.refl w2
    try walk_nrm
    refine beside_by (n := 400) ?_
    (refine Goes.step rfl (fun _ h₁ => ?_); replace hF := Sm.trans hF h₁; clear h₁; refine goes_oper_k rfl rfl (by decide) (fun K hK => ?_); go_simp; refine hK _ _ ⟨still_listed rfl, ?_⟩; clear hK K)
    refine Goes.stop fun w₁ h₁ => ?_
    obtain ⟨d0, rfl⟩ := hF
    obtain ⟨d1, rfl⟩ := h₁
    rw [zero16_lit, show (w2.at d0).heap.size = g from HG.out.symm]
    have B1 : Below w.heap.size w (((w2.at d0).alloc (.cells zero16.toArray 45)).at d1) := (bb.alloc bb.size (.cells zero16.toArray 45)).sm ⟨d1, rfl⟩
    have E1 : (((w2.at d0).alloc (.cells zero16.toArray 45)).at d1).heap[g]? = some (.cells zero16.toArray 45 (0, 0)) := by rw [HG.out]; exact heap_alloc_last w2 _
    have hgw : w.heap.size ≤ g := by rw [HG.out]; exact bb.size
    generalize ((w2.at d0).alloc (.cells zero16.toArray 45)).at d1 = w3 at B1 E1 ⊢
    clear bb
    have hF := Sm.refl w3
    try walk_nrm
    refine beside_by (n := 400) ?_
    refine Goes.step rfl (fun _ h₁ => ?_)
    replace hF := Sm.trans hF h₁
    clear h₁
    obtain ⟨dx, rfl⟩ := hF
    refine goes_oper_k rfl rfl (by decide) (fun K hK => ?_)
    refine uponK_of_list rfl rfl ?_
    refine wpList_storev rfl (.tmp 3) (.tmp 8) 45 rfl _ rfl _ rfl (store_arr (F := F) (show (w3.at dx).heap[g]? = _ from E1) (by simp [zero16])) ?_
    refine ⟨rfl, hK _ _ ⟨still_listed rfl, ?_⟩⟩
    clear hK K
    refine Goes.stop fun w₁ h₁ => ?_
    obtain ⟨d5, rfl⟩ := h₁
    have E2 : (((w3.at dx).setRow g (arr F)).at d5).heap[g]? = some (.cells (arr F) 45 (0, 0)) := setRow_heap w3 g _ _ _ _ E1
    have B2 : Below w.heap.size w (((w3.at dx).setRow g (arr F)).at d5) := (below_setRow (B1.sm ⟨dx, rfl⟩) hgw _).sm ⟨d5, rfl⟩
    generalize ((w3.at dx).setRow g (arr F)).at d5 = w4 at E2 B2 ⊢
    clear B1 E1
    have hF := Sm.refl w4
    try walk_nrm
    refine beside_by (n := 400) ?_
    repeat a_ctl hF Sm.trans D0.nil
    refine Goes.step rfl (fun _ h₁ => ?_)
    replace hF := Sm.trans hF h₁
    clear h₁
    obtain ⟨dx, rfl⟩ := hF
    refine goes_oper_k rfl rfl (by decide) (fun K hK => ?_)
    refine uponK_of_list rfl rfl ?_
    refine wpList_loadv rfl (.tmp 3) 45 rfl _ rfl _ (load_arr (show (w4.at dx).heap[g]? = _ from E2)) ?_
    refine ⟨rfl, hK _ _ ⟨still_listed rfl, ?_⟩⟩
    clear hK K
    have hF := Sm.refl (w4.at dx)
    walk_nrm
    refine Goes.step rfl (fun _ h₁ => ?_)
    replace hF := Sm.trans hF h₁
    clear h₁
    obtain ⟨dy, rfl⟩ := hF
    refine goes_oper_k rfl rfl (by decide) (fun K hK => ?_)
    refine uponK_of_list rfl rfl ?_
    refine wpList_loadv rfl (.tmp 3) 45 rfl _ rfl _ (load_arr (show ((w4.at dx).at dy).heap[g]? = _ from E2)) ?_
    refine ⟨rfl, hK _ _ ⟨still_listed rfl, ?_⟩⟩
    clear hK K
    have hF : Sm w4 ((w4.at dx).at dy) := ⟨dy, rfl⟩
    walk_nrm
    (refine Goes.step rfl (fun _ h₁ => ?_); replace hF := Sm.trans hF h₁; clear h₁; refine goes_oper_k rfl rfl (by decide) (fun K hK => ?_); go_simp; refine hK _ _ ⟨still_listed rfl, ?_⟩; clear hK K)
    refine Goes.stop fun w₁ h₁ => ?_
    replace hF := Sm.trans hF h₁
    clear h₁
    refine beside_call_any rfl rfl (by decide) rfl (caps := #[]) rfl Try.func34 rfl rfl (vals := #[.agg (arr F), .func (.func 35) #[.agg (arr F)] #[]]) (by simp [Act.eval]) (fun d => btells_sm (hF.trans ⟨d, rfl⟩) (weighAt_b F _)) ?_
    rintro r w5 ⟨rfl, b5⟩
    have bb := bel_nxt B2 b5
    clear hF b5 B2 E2
    have hF := Sm.refl w5
    try walk_nrm
    refine beside_by (n := 400) ?_
    repeat (first | a_ctl hF Sm.trans D0.nil | (refine Goes.step rfl (fun _ h₁ => ?_); replace hF := Sm.trans hF h₁; clear h₁; refine goes_oper_k rfl rfl (by decide) (fun K hK => ?_); go_simp; refine hK _ _ ⟨still_listed rfl, ?_⟩; clear hK K) | (refine Goes.step rfl (fun _ h₁ => ?_); rw [stepG_unwanted rfl rfl]; simp only [goes_go]; refine ⟨D0.nil, ?_⟩; replace hF := Sm.trans hF h₁; clear h₁; walk_nrm))
    refine Goes.step rfl (fun _ h₁ => ?_)
    rw [stepG_ret']
    simp only [goes_go]
    refine ⟨D0.nil, ?_⟩
    refine Goes.stop fun w₁ h₂ => .at0 fun d => ?_
    have hF := (Sm.trans hF h₁).trans (h₂.trans ⟨d, rfl⟩)
    exact leave1 Try.func16 rfl (R := BTells (energyF xs) w) ⟨by rw [hE.out]; rfl, bb.sm hF⟩
end Go.Proofs.Ytagncoahobghpac
