/-
  The function times beside leavers: ahead of the go statement, the go statement, behind the last receive (rows of I; written by timesgen.py).
-/
import Derived.Test.YtlglokbakmbpdaaPm1
import Derived.Test.YtlglokbakmbpdaaPrI
import Derived.Test.YtlglokbakmbpdaaInfo
import Derived.Conc.SmallLaws
import Derived.Conc.AppendWalk
import Derived.Conc.Own4
namespace Go.Proofs.Ytlglokbakmbpdaa
open Go Go.Conc Go.RowKit
set_option linter.unusedVariables false
set_option linter.unusedSimpArgs false

namespace TmsI
open RcvI
theorem goes_sm {P : Program} {Stop : Goroutine → World → Prop} {k : Nat} {g : Goroutine} {X w : World} (h : Sm X w) (f : ∀ w', Sm X w' → Goes P true Sm D0 Stop k g w') : Goes P true Sm D0 Stop k g w := f w h
noncomputable def bodyP : Code := Try.f72.body.getD .skip
noncomputable def ops2 : Array Oper := match bodyP with | .seq _ (.seq _ (.seq (.region _ ops _) _)) => ops | _ => #[]
noncomputable def RP2 : Code := match bodyP with | .seq _ (.seq _ (.seq _ r)) => r | _ => .skip
noncomputable def ops4 : Array Oper := match tail4 with | .seq (.region _ ops _) _ => ops | _ => #[]
noncomputable def BT : Code := match tail4 with | .seq _ r => r | _ => .skip

theorem cellV {L : Nat} {W : World} {va vb : Value} {w : World} (h : Sm (((((W.alloc (Obj.cells (Array.replicate L (Value.int .i64 0)) 3)).alloc (Obj.cells #[va] 43)).alloc (Obj.cells #[vb] 43)).alloc (Obj.chan 16 #[] false 0 0 false)).alloc (Obj.cells #[.chan none] 74)) w) :
    w.cell? ⟨W.heap.size + 1 + 1 + 1 + 1, 0, none⟩ = some (.chan none) ∧ w.frozen? ⟨W.heap.size + 1 + 1 + 1 + 1, 0, none⟩ = false := by
  rw [h.cell, h.frozen]
  have e : W.heap.size + 1 + 1 + 1 + 1 = ((((W.alloc (Obj.cells (Array.replicate L (Value.int .i64 0)) 3)).alloc (Obj.cells #[va] 43)).alloc (Obj.cells #[vb] 43)).alloc (Obj.chan 16 #[] false 0 0 false)).heap.size := by simp
  unfold World.cell? World.frozen?
  dsimp only
  rw [e, heap_alloc_new]
  exact ⟨rfl, rfl⟩

theorem mkS (L : Nat) (hL : L ≤ 2097152) (w : World) : (Instr.makeSlice 23 (.int .i64 (L : Int)) (.int .i64 (L : Int))).run Try.prog w = .ok (.slice (some ⟨w.heap.size, 0, none⟩) L L) (w.alloc (.cells (Array.replicate L (Value.int .i64 0)) 3)) := by
  obtain ⟨i0, hi, hz0, hz1, hz2⟩ := info_parts infoInt
  have h := run_makeSlice (P := Try.prog) w 23 3 i0 (.int .i64 0) Try.underlying23 hi hz0 .i64 .i64 (L : Int) (L : Int) (by omega) (by omega) (by rw [hz1]; omega) (by rw [hz2]; omega) (by omega)
  rw [h, hz1]
  have e : madeCells (Value.int .i64 0).cells (L * 1) = Array.replicate L (Value.int .i64 0) := by
    apply Array.toList_inj.1
    rw [Nat.mul_one]
    show (madeCells #[Value.int .i64 0] L).toList = _
    rw [toList_madeCells_one, Array.toList_replicate]
  rw [show ((L : Int)).toNat = L by omega, e]
theorem evS (L : Nat) (hL : L ≤ 2097152) (w : World) (es : Array Event) : (Instr.makeSlice 23 (.int .i64 (L : Int)) (.int .i64 (L : Int))).events Try.prog w es = es := by
  obtain ⟨i0, hi, hz0, hz1, hz2⟩ := info_parts infoInt
  exact events_make w _ _ _ _ Try.underlying23 hi hz0 .i64 .i64 (L : Int) (L : Int) (by omega) (by omega) (by rw [hz2]; omega) (by omega) (by rw [hz2]; omega) es
theorem bytesP : ∃ i, Try.prog.info? 67 = some i ∧ i.bytes = 16 := by
  have h : (Try.prog.info? 67).map (·.bytes) = some 16 := by kernel_rfl
  obtain ⟨i, hi, hb⟩ := Option.map_eq_some_iff.1 h
  exact ⟨i, hi, hb⟩
theorem mkC (w : World) : (Instr.makeChan 74 (.int .i64 16)).run Try.prog w = .ok (.chan (some w.heap.size)) (w.alloc (.chan 16 #[] false 0 0 false)) := by
  obtain ⟨i, hi, hb⟩ := bytesP
  simpa using run_makeChan (P := Try.prog) (w := w) Try.underlying74 hi .i64 16 (by omega) (by rw [hb]; omega)
theorem evC (w : World) (es : Array Event) : (Instr.makeChan 74 (.int .i64 16)).events Try.prog w es = es := by
  obtain ⟨i, hi, hb⟩ := bytesP
  simpa using events_makeChan (P := Try.prog) (w := w) Try.underlying74 hi .i64 16 (by omega) (by rw [hb]; omega) es

theorem array9 (T : Array Value) (h : T.size = 9) : ∃ v0 v1 v2 v3 v4 v5 v6 v7 v8 : Value, T = #[v0, v1, v2, v3, v4, v5, v6, v7, v8] := by
  obtain ⟨l⟩ := T
  simp only [List.size_toArray] at h
  rcases l with _ | ⟨v0, l⟩
  · simp at h
  rcases l with _ | ⟨v1, l⟩
  · simp at h
  rcases l with _ | ⟨v2, l⟩
  · simp at h
  rcases l with _ | ⟨v3, l⟩
  · simp at h
  rcases l with _ | ⟨v4, l⟩
  · simp at h
  rcases l with _ | ⟨v5, l⟩
  · simp at h
  rcases l with _ | ⟨v6, l⟩
  · simp at h
  rcases l with _ | ⟨v7, l⟩
  · simp at h
  rcases l with _ | ⟨v8, l⟩
  · simp at h
  rcases l with _ | ⟨x, l⟩
  · exact ⟨v0, v1, v2, v3, v4, v5, v6, v7, v8, rfl⟩
  · simp at h

section
variable (sb L : Nat) (W : World) (cs : List Frame)

/-- What times leaves. -/
def Left (N : Nat) (ZS : List Int) (g : Goroutine) (w : World) : Prop :=
  ∃ T k, g = G { bT.at ⟨T, []⟩ k with mode := .returning } cs ∧ T.getD 4 undef = .slice (some ⟨sb, 0, none⟩) L L ∧ RF N sb W ZS w

set_option maxRecDepth 100000 in
set_option maxHeartbeats 4000000 in
theorem behind (N : Nat) (ZS : List Int) (g : Goroutine) (w : World) (h : FinP N sb L W cs ZS g w) : Beside Try.prog g w (Left sb L W cs N ZS) := by
  obtain ⟨T, rfl, ⟨k0, k5, k24⟩, h25, hF⟩ := h
  obtain ⟨v0, v1, v2, v3, v4, v5, v6, v7, v8, v9, v10, v11, v12, v13, v14, v15, v16, v17, v18, v19, v20, v21, v22, v23, v24, v25, v26, v27, v28, v29, v30, v31, v32, v33, v34, v35, v36, v37, rfl⟩ := array38 T k0
  simp only [List.getElem?_toArray, List.getElem?_cons_succ, List.getElem?_cons_zero, Option.some.injEq] at k5 k24 h25
  subst k5 k24 h25
  simp only [atR, ops5, LB, RcvI.LT, RcvI.RT, tail4, body, Try.f45, Option.getD_some]
  refine beside_goes (n := 40) ?_
  repeat (first | a_ctl hF RF.sm D0.nil | a_op hF RF.sm [RF.chv hF] D0.evs ⟨by simp, by simp⟩)
  a_cond false hF RF.sm D0.nil
  a_exit hF RF.sm D0.nil
  repeat (first | a_ctl hF RF.sm D0.nil | a_op hF RF.sm [RF.chv hF] D0.evs ⟨by simp, by simp⟩)
  refine Goes.step rfl (fun _ h₁ => ?_)
  rw [stepG_ret']
  simp only [goes_go]
  refine ⟨D0.nil, ?_⟩
  replace hF := RF.sm hF h₁
  exact Goes.stop fun w₁ h₁ => ⟨_, _, rfl, rfl, hF.sm h₁⟩
end

section
variable (L : Nat) (W : World) (a0 b0 : Option Addr) (n m ca cb : Nat) (xs ys : List Int) (cs : List Frame)

/-- It stands at the go statement. -/
def AtGo (g : Goroutine) (w : World) : Prop :=
  ∃ T U : Array Value, g = G ((base 72).at ⟨T, []⟩ [.inRegion ops2 [1], .code RP2]) (bT.at ⟨U, []⟩ [.inRegion ops4 [2], .code BT, .code RcvI.RT] :: cs) ∧
    T.size = 9 ∧ T[7]? = some (.func (.func 81) #[] #[.pointer (some ⟨W.heap.size + 1 + 3, 0, none⟩), .pointer (some ⟨W.heap.size + 1, 0, none⟩), .pointer (some ⟨W.heap.size + 1 + 1, 0, none⟩)]) ∧ T[5]? = some (.pointer (some ⟨W.heap.size + 1 + 3, 0, none⟩)) ∧
    U.size = 38 ∧ U[5]? = some (.slice (some ⟨W.heap.size, 0, none⟩) L L) ∧ Sm (wprod 43 (.slice a0 n ca) (.slice b0 m cb) (wsum L W)) w

set_option maxRecDepth 100000 in
set_option maxHeartbeats 4000000 in
theorem ahead (hn : 0 < n) (hm : 0 < m) (hn2 : n ≤ 1048576) (hm2 : m ≤ 1048576) (hL : L = n + m - 1) : Beside Try.prog (G (Frame.enter Try.prog 45 #[.slice a0 n ca, .slice b0 m cb] .normal) cs) W (AtGo L W a0 b0 n m ca cb cs) := by
  have h1 : IntKind.i64.wrap ((n : Int) + (m : Int)) = (n : Int) + (m : Int) := by rw [IntKind.wrap_i64]; omega
  have h2 : IntKind.i64.wrap ((n : Int) + (m : Int) - 1) = (L : Int) := by rw [IntKind.wrap_i64]; omega
  have h3 : ((n : Int) == 0) = false := by simp; omega
  have h4 : ((m : Int) == 0) = false := by simp; omega
  have hmS := mkS L (by omega)
  have heS := evS L (by omega)
  have hmC := mkC
  have heC := evC
  clear hn hm hn2 hm2 hL
  rw [enter_at _ Try.func45 rfl]
  simp only [Try.f45, List.size_toArray, List.length_cons, List.length_nil, Nat.reduceAdd, Nat.reduceSub, Array.replicate_succ, Array.replicate_zero, List.push_toArray, List.append_toArray, List.nil_append, List.cons_append]
  have hF : Sm W W := Sm.refl W
  refine beside_goes (n := 120) ?_
  repeat (first | a_ctl hF Sm.trans D0.nil | a_op hF Sm.trans [] D0.evs ⟨by simp, by simp⟩)
  a_cond false hF Sm.trans D0.nil
  repeat (first | a_ctl hF Sm.trans D0.nil | a_op hF Sm.trans [] D0.evs ⟨by simp, by simp⟩)
  simp only [Sm.heap hF]
  refine goes_sm (Sm.alloc hF (Obj.cells (Array.replicate L (Value.int .i64 0)) 3)) fun w hF => ?_
  repeat (first | a_ctl hF Sm.trans D0.nil | a_op hF Sm.trans [] D0.evs ⟨by simp, by simp⟩)
  refine Goes.step rfl (fun _ h₁ => ?_)
  refine goes_call rfl rfl (by decide) rfl Try.func72 rfl rfl ⟨D0.nil, ?_⟩
  replace hF := Sm.trans hF h₁
  clear h₁
  walk_nrmf Try.f72
  repeat (first | a_ctl hF Sm.trans D0.nil | a_op hF Sm.trans [] D0.evs ⟨by simp, by simp⟩)
  simp only [Sm.heap hF]
  refine goes_sm (Sm.alloc hF ((Obj.cells #[.slice a0 n ca] 43))) fun w hF => ?_
  repeat (first | a_ctl hF Sm.trans D0.nil | a_op hF Sm.trans [] D0.evs ⟨by simp, by simp⟩)
  simp only [Sm.heap hF]
  refine goes_sm (Sm.alloc hF ((Obj.cells #[.slice b0 m cb] 43))) fun w hF => ?_
  repeat (first | a_ctl hF Sm.trans D0.nil | a_op hF Sm.trans [] D0.evs ⟨by simp, by simp⟩)
  simp only [Sm.heap hF]
  refine goes_sm (Sm.alloc hF ((Obj.chan 16 #[] false 0 0 false))) fun w hF => ?_
  repeat (first | a_ctl hF Sm.trans D0.nil | a_op hF Sm.trans [] D0.evs ⟨by simp, by simp⟩)
  simp only [Sm.heap hF]
  refine goes_sm (Sm.alloc hF ((Obj.cells #[.chan none] 74))) fun w hF => ?_
  repeat (first | a_ctl hF Sm.trans D0.nil | a_op hF Sm.trans [] D0.evs ⟨by simp, by simp⟩)
  have hsz : ((((W.alloc (Obj.cells (Array.replicate L (Value.int .i64 0)) 3)).alloc (Obj.cells #[.slice a0 n ca] 43)).alloc (Obj.cells #[.slice b0 m cb] 43)).alloc (Obj.chan 16 #[] false 0 0 false)).heap.size = W.heap.size + 1 + 1 + 1 + 1 := by simp
  simp only [hsz]
  clear hsz
  a_op hF Sm.trans [(cellV hF).1, (cellV hF).2] D0.evs ⟨by simp, by simp⟩
  refine goes_sm (Sm.setCell hF _ _) fun w hF => ?_
  repeat (first | a_ctl hF Sm.trans D0.nil | a_op hF Sm.trans [] D0.evs ⟨by simp, by simp⟩)
  have hW : wprod 43 (.slice a0 n ca) (.slice b0 m cb) (wsum L W) = (((((W.alloc (Obj.cells (Array.replicate L (Value.int .i64 0)) 3)).alloc (Obj.cells #[.slice a0 n ca] 43)).alloc (Obj.cells #[.slice b0 m cb] 43)).alloc (Obj.chan 16 #[] false 0 0 false)).alloc (Obj.cells #[.chan none] 74)).setCell ⟨W.heap.size + 1 + 1 + 1 + 1, 0, none⟩ (.chan (some (W.heap.size + 1 + 1 + 1))) := by
    unfold wprod wsum
    rw [World.size_alloc]
  rw [← hW] at hF
  exact Goes.stop fun w₁ h₁ => ⟨_, _, rfl, rfl, rfl, rfl, rfl, rfl, Sm.trans hF h₁⟩

theorem go_step (N : Nat) (T : Array Value) (hT : T.size = 9) (h7 : T[7]? = some (.func (.func 81) #[] #[.pointer (some ⟨N + 3, 0, none⟩), .pointer (some ⟨N, 0, none⟩), .pointer (some ⟨N + 1, 0, none⟩)])) (w : World) :
    stepG Try.prog true (G ((base 72).at ⟨T, []⟩ [.inRegion ops2 [1], .code RP2]) cs) w = .spawn (G ((base 72).at ⟨T, []⟩ [.inRegion ops2 [], .code RP2]) cs) (born Try.prog (SndI.call N)) w #[] := by
  obtain ⟨v0, v1, v2, v3, v4, v5, v6, v7, v8, rfl⟩ := array9 T hT
  simp only [List.getElem?_toArray, List.getElem?_cons_succ, List.getElem?_cons_zero, Option.some.injEq] at h7
  subst h7
  simp only [ops2, RP2, bodyP, Try.f72, Option.getD_some]
  rw [stepG_spawn (d := SndI.call N) (w' := w) (f := .func 81) (c := #[.pointer (some ⟨N + 3, 0, none⟩), .pointer (some ⟨N, 0, none⟩), .pointer (some ⟨N + 1, 0, none⟩)]) rfl rfl (by decide) (by simp [go_sem, execOp, resolve, SndI.call, Act.eval, Deferred.ofValue]) rfl]
  congr 1

set_option maxRecDepth 100000 in
set_option maxHeartbeats 4000000 in
theorem recv_start (N sb : Nat) (hsb : sb < N) (ZS : List Int) (Stop : Goroutine → World → Prop) (n₀ : Nat) (T U : Array Value) (hT : T.size = 9) (h5 : T[5]? = some (.pointer (some ⟨N + 3, 0, none⟩))) (hU : U.size = 38) (k5 : U[5]? = some (.slice (some ⟨sb, 0, none⟩) L L)) (w : World) (hF : RF N sb W ZS w)
    (next : ∀ T' w', Slots N sb L T' → RF N sb W ZS w' → Goes Try.prog true (Aside (N + 2)) (DA (N + 2) (Shd .i64 N a0 b0 n m ca cb xs ys) (MineP N sb)) Stop n₀ (atR cs T' [0, 1]) w') :
    Goes Try.prog true (Aside (N + 2)) (DA (N + 2) (Shd .i64 N a0 b0 n m ca cb xs ys) (MineP N sb)) Stop (n₀ + 30) (G ((base 72).at ⟨T, []⟩ [.inRegion ops2 [], .code RP2]) (bT.at ⟨U, []⟩ [.inRegion ops4 [2], .code BT, .code RcvI.RT] :: cs)) w := by
  obtain ⟨u0, u1, u2, u3, u4, u5, u6, u7, u8, rfl⟩ := array9 T hT
  obtain ⟨v0, v1, v2, v3, v4, v5, v6, v7, v8, v9, v10, v11, v12, v13, v14, v15, v16, v17, v18, v19, v20, v21, v22, v23, v24, v25, v26, v27, v28, v29, v30, v31, v32, v33, v34, v35, v36, v37, rfl⟩ := array38 U hU
  simp only [List.getElem?_toArray, List.getElem?_cons_succ, List.getElem?_cons_zero, Option.some.injEq] at h5 k5
  subst h5 k5
  simp only [ops2, RP2, bodyP, Try.f72, atR, ops4, ops5, BT, LB, RcvI.LT, RcvI.RT, tail4, body, Try.f45, Option.getD_some] at next ⊢
  repeat (first | a_ctl hF (RF.aside hsb) DA_still | a_op hF (RF.aside hsb) [RF.chv hF] DA_evs (evA_read _ _ (by simp)))
  refine Goes.step rfl (fun _ h₁ => ?_)
  rw [stepG_ret']
  simp only [goes_go]
  refine ⟨DA_still, ?_⟩
  replace hF := RF.aside hsb hF h₁
  clear h₁
  refine Goes.step rfl (fun _ h₁ => ?_)
  refine goes_leave1 rfl rfl Try.func72 rfl ⟨DA_still, ?_⟩
  replace hF := RF.aside hsb hF h₁
  clear h₁
  walk_nrm
  repeat (first | a_ctl hF (RF.aside hsb) DA_still)
  exact Goes.mono (next _ _ ⟨rfl, rfl, rfl⟩ hF) (by omega)

/-- One product, by its place and its amount. -/
def fp (i j : Nat) : Nat × Int := (i + j, IntKind.i64.wrap (ix xs i * ix ys j))

theorem fv_fp (i j : Nat) (hi : i < 1048576) (hj : j < 1048576) : SndI.fv xs ys i j = pv (fp xs ys i j).1 (fp xs ys i j).2 := by
  unfold SndI.fv fp
  rw [show IntKind.i64.wrap ((i : Int) + (j : Int)) = ((i + j : Nat) : Int) by rw [IntKind.wrap_i64]; omega]

/-- THE FUNCTION times, WHOLE. -/
theorem runs (hn : 0 < n) (hm : 0 < m) (hn2 : n ≤ 1048576) (hm2 : m ≤ 1048576) (hL : L = n + m - 1) (ha : ∀ ad, a0 = some ad → 0 < n → ad.block < W.heap.size) (has : ∃ ad, a0 = some ad) (hb : ∀ ad, b0 = some ad → 0 < m → ad.block < W.heap.size) (hbs : ∃ ad, b0 = some ad)
    (ea : ∀ j ad, j < n → a0 = some ad → W.cell? (ad.add j) = some (.int .i64 (ix xs j))) (eb : ∀ j ad, j < m → b0 = some ad → W.cell? (ad.add j) = some (.int .i64 (ix ys j))) :
    Beside Try.prog (G (Frame.enter Try.prog 45 #[.slice a0 n ca, .slice b0 m cb] .normal) cs) W (Left W.heap.size L W cs (W.heap.size + 1) ((prA (fp xs ys) m 0 n).foldl addP (List.replicate L 0))) := by
  have hsb : W.heap.size < W.heap.size + 1 := by omega
  have ha' : ∀ ad, a0 = some ad → 0 < n → ad.block < W.heap.size + 1 ∧ ad.block ≠ W.heap.size := fun ad h1 h2 => by have := ha ad h1 h2; omega
  have hb' : ∀ ad, b0 = some ad → 0 < m → ad.block < W.heap.size + 1 ∧ ad.block ≠ W.heap.size := fun ad h1 h2 => by have := hb ad h1 h2; omega
  refine (ahead L W a0 b0 n m ca cb cs hn hm hn2 hm2 hL).trans fun g w hg => ?_
  obtain ⟨T, U, rfl, hT, h7, h5, hU, k5, hs⟩ := hg
  refine Beside.trans ?_ fun g w hg => behind W.heap.size L W cs (W.heap.size + 1) _ g w hg
  obtain ⟨d, rfl⟩ := hs
  have hF := (wprod_RF (L := L) (ta := 43) (va := .slice a0 n ca) (vb := .slice b0 m cb) (w := W)).sm ⟨d, rfl⟩
  have hS0 : Shd .i64 (W.heap.size + 1) a0 b0 n m ca cb xs ys ((wprod 43 (.slice a0 n ca) (.slice b0 m cb) (wsum L W)).at d) := by
    have h := wprod_shd (L := L) (ta := 43) (ca := ca) (cb := cb) ha hb ea eb
    exact ⟨h.ba, h.bb, h.ch, h.ea, h.eb⟩
  refine beside_spawn (c := W.heap.size + 1 + 2) (S := Shd .i64 (W.heap.size + 1) a0 b0 n m ca cb xs ys) (Mine := MineP (W.heap.size + 1) W.heap.size) (z := zP) (cap := 16) (tm := false) (s := 0) (r := 0) (ys := valsA (SndI.fv xs ys) m 0 n) rfl (fun e => go_step _ (W.heap.size + 1) T hT h7 _) wprod_chan
    (fun w w' h1 h2 => Shd.aside (fun ad e1 e2 => (ha' ad e1 e2).1) (fun ad e1 e2 => (hb' ad e1 e2).1) h1 h2) (fun ⟨a, h, _⟩ => by cases h) (by omega) hS0 ⟨0 + 30, ?_⟩ (SndI.sends_all (W.heap.size + 1) W.heap.size a0 b0 n m ca cb xs ys hn2 hm2 ha' (fun _ => has) hb' (fun _ => hbs) hsb)
  refine recv_start L a0 b0 n m ca cb xs ys cs (W := W) (W.heap.size + 1) W.heap.size hsb (List.replicate L 0) _ 0 T U hT h5 hU k5 _ hF fun T' w' hT' hF' => Goes.stop fun w₁ h₁ => ?_
  rw [← valsA_map (f := fp xs ys) (g := SndI.fv xs ys) (m := m) n 0 fun i j hi hj => fv_fp xs ys i j (by omega) (by omega)]
  exact stop_at (W.heap.size + 1) W.heap.size L W a0 b0 n m ca cb xs ys cs hsb ha' hb' (prA (fp xs ys) m 0 n) (List.replicate L 0) T' w₁ (prA_lt n 0 fun i j hi hj => by show i + j < L; omega) (by simp) hT' (hF'.aside hsb h₁)
end
end TmsI
end Go.Proofs.Ytlglokbakmbpdaa
