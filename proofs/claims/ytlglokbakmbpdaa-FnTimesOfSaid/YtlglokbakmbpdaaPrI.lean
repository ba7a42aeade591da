/-
  The receiver of products: the loop of times (rows of I; written by recvgen.py).
-/
import Derived.Test.YtlglokbakmbpdaaPm1
import Derived.Test.YtlglokbakmbpdaaPsI
namespace Go.Proofs.Ytlglokbakmbpdaa
open Go Go.Conc Go.RowKit
set_option linter.unusedVariables false
set_option linter.unusedSimpArgs false

namespace RcvI
def bT : Frame := { (default : Frame) with fn := 45, kind := .normal }
noncomputable def body : Code := Try.f45.body.getD .skip
noncomputable def tail4 : Code := match body with | .seq _ (.seq _ (.seq _ (.seq c _))) => c | _ => .skip
noncomputable def RT : Code := match body with | .seq _ (.seq _ (.seq _ (.seq _ r))) => r | _ => .skip
noncomputable def LT : Code := match tail4 with | .seq _ (.block _ (.loop c)) => c | _ => .skip
noncomputable def ops5 : Array Oper := match LT with | .seq (.region _ ops _) _ => ops | _ => #[]
noncomputable def LB : Code := match LT with | .seq _ r => r | _ => .skip

theorem array38 (T : Array Value) (h : T.size = 38) : ∃ v0 v1 v2 v3 v4 v5 v6 v7 v8 v9 v10 v11 v12 v13 v14 v15 v16 v17 v18 v19 v20 v21 v22 v23 v24 v25 v26 v27 v28 v29 v30 v31 v32 v33 v34 v35 v36 v37 : Value, T = #[v0, v1, v2, v3, v4, v5, v6, v7, v8, v9, v10, v11, v12, v13, v14, v15, v16, v17, v18, v19, v20, v21, v22, v23, v24, v25, v26, v27, v28, v29, v30, v31, v32, v33, v34, v35, v36, v37] := by
  obtain ⟨l⟩ := T
  simp only [List.size_toArray] at h
  rcases l with _ | ⟨v0, l⟩
  · simp at h
  rcases l with _ | ⟨v1, l⟩
  · simp at h
  rcases l with _ | ⟨v2, l⟩
  · simp at h
  rcases l with _ | ⟨v3, l⟩
  · simp at h
  rcases l with _ | ⟨v4, l⟩
  · simp at h
  rcases l with _ | ⟨v5, l⟩
  · simp at h
  rcases l with _ | ⟨v6, l⟩
  · simp at h
  rcases l with _ | ⟨v7, l⟩
  · simp at h
  rcases l with _ | ⟨v8, l⟩
  · simp at h
  rcases l with _ | ⟨v9, l⟩
  · simp at h
  rcases l with _ | ⟨v10, l⟩
  · simp at h
  rcases l with _ | ⟨v11, l⟩
  · simp at h
  rcases l with _ | ⟨v12, l⟩
  · simp at h
  rcases l with _ | ⟨v13, l⟩
  · simp at h
  rcases l with _ | ⟨v14, l⟩
  · simp at h
  rcases l with _ | ⟨v15, l⟩
  · simp at h
  rcases l with _ | ⟨v16, l⟩
  · simp at h
  rcases l with _ | ⟨v17, l⟩
  · simp at h
  rcases l with _ | ⟨v18, l⟩
  · simp at h
  rcases l with _ | ⟨v19, l⟩
  · simp at h
  rcases l with _ | ⟨v20, l⟩
  · simp at h
  rcases l with _ | ⟨v21, l⟩
  · simp at h
  rcases l with _ | ⟨v22, l⟩
  · simp at h
  rcases l with _ | ⟨v23, l⟩
  · simp at h
  rcases l with _ | ⟨v24, l⟩
  · simp at h
  rcases l with _ | ⟨v25, l⟩
  · simp at h
  rcases l with _ | ⟨v26, l⟩
  · simp at h
  rcases l with _ | ⟨v27, l⟩
  · simp at h
  rcases l with _ | ⟨v28, l⟩
  · simp at h
  rcases l with _ | ⟨v29, l⟩
  · simp at h
  rcases l with _ | ⟨v30, l⟩
  · simp at h
  rcases l with _ | ⟨v31, l⟩
  · simp at h
  rcases l with _ | ⟨v32, l⟩
  · simp at h
  rcases l with _ | ⟨v33, l⟩
  · simp at h
  rcases l with _ | ⟨v34, l⟩
  · simp at h
  rcases l with _ | ⟨v35, l⟩
  · simp at h
  rcases l with _ | ⟨v36, l⟩
  · simp at h
  rcases l with _ | ⟨v37, l⟩
  · simp at h
  rcases l with _ | ⟨x, l⟩
  · exact ⟨v0, v1, v2, v3, v4, v5, v6, v7, v8, v9, v10, v11, v12, v13, v14, v15, v16, v17, v18, v19, v20, v21, v22, v23, v24, v25, v26, v27, v28, v29, v30, v31, v32, v33, v34, v35, v36, v37, rfl⟩
  · simp at h

section
variable (N sb L : Nat) (W : World) (a0 b0 : Option Addr) (n m ca cb : Nat) (xs ys : List Int) (cs : List Frame)

/-- At the receive ('rest' = [0, 1]); behind it ('rest' = [1]). -/
noncomputable def atR (T : Array Value) (rest : List Nat) : Goroutine := G (bT.at ⟨T, []⟩ [.inRegion ops5 rest, .code LB, .inLoop LT, .inBlock 0, .code RT]) cs

structure Slots (T : Array Value) : Prop where
  size : T.size = 38
  s5 : T[5]? = some (.slice (some ⟨sb, 0, none⟩) L L)
  s24 : T[24]? = some (.chan (some (N + 2)))

set_option maxRecDepth 100000 in
set_option maxHeartbeats 4000000 in
/-- ONE ROUND. -/
theorem round (hsb : sb < N) (ha : ∀ ad, a0 = some ad → 0 < n → ad.block < N ∧ ad.block ≠ sb) (hb : ∀ ad, b0 = some ad → 0 < m → ad.block < N ∧ ad.block ≠ sb) (Stop : Goroutine → World → Prop) (n₀ : Nat) (T : Array Value) (zs : List Int) (hL : zs.length = L) (p : Nat) (hp : p < L) (x : Int) (w : World)
    (hT : Slots N sb L T) (h25 : T[25]? = some (.tuple #[pv p x, .bool true])) (hF : RF N sb W zs w)
    (next : ∀ T' w', Slots N sb L T' → RF N sb W (zs.set p (wrap64 (ix zs p + x))) w' → (Goes Try.prog true (Aside (N + 2)) (DA (N + 2) (Shd .i64 N a0 b0 n m ca cb xs ys) (MineP N sb))) Stop n₀ (atR cs T' [0, 1]) w') : (Goes Try.prog true (Aside (N + 2)) (DA (N + 2) (Shd .i64 N a0 b0 n m ca cb xs ys) (MineP N sb))) Stop (n₀ + 100) (atR cs T [1]) w := by
  obtain ⟨k0, k5, k24⟩ := hT
  obtain ⟨v0, v1, v2, v3, v4, v5, v6, v7, v8, v9, v10, v11, v12, v13, v14, v15, v16, v17, v18, v19, v20, v21, v22, v23, v24, v25, v26, v27, v28, v29, v30, v31, v32, v33, v34, v35, v36, v37, rfl⟩ := array38 T k0
  simp only [List.getElem?_toArray, List.getElem?_cons_succ, List.getElem?_cons_zero, Option.some.injEq] at k5 k24 h25
  subst k5 k24 h25
  simp only [pv, atR, ops5, LB, LT, RT, tail4, body, Try.f45, Option.getD_some] at next ⊢
  repeat (first | a_ctl hF (RF.aside hsb) DA_still | a_op hF (RF.aside hsb) [RF.chv hF] DA_evs (evA_read _ _ (by simp)))
  a_cond true hF (RF.aside hsb) DA_still
  repeat (first | a_ctl hF (RF.aside hsb) DA_still | a_op hF (RF.aside hsb) [RF.chv hF] DA_evs (evA_read _ _ (by simp)))
  refine Goes.step rfl (fun w₁ h₁ => ?_)
  replace hF := RF.aside hsb hF h₁
  clear h₁
  refine goes_oper_k rfl rfl (by decide) (fun K hK => ?_)
  go_simp
  refine hK _ _ ⟨DA_own ha hb hsb (fun k hk _ => Below.heap_alloc _ _ _ (by have := hF.size; omega)) (fun e he => ?_), ?_⟩
  · have hm := mem_listed he
    simp [go_sem] at hm
  clear hK K
  have hP := RP.made hsb hF
  generalize w₁.heap.size = B at hP ⊢
  clear hF
  refine Goes.step rfl (fun w₂ h₂ => ?_)
  replace hP := RP.aside hsb hP h₂
  clear h₂
  have c0 := hP.c0
  have c1 := hP.c1
  have f0 := hP.f0
  have f1 := hP.f1
  refine goes_oper_k rfl rfl (by decide) (fun K hK => ?_)
  go_simp
  refine hK _ _ ⟨DA_own ha hb hsb (fun k hk _ => by have := hP.lo; rw [Below.heap_setCell _ _ _ _ (by simp; omega), Below.heap_setCell _ _ _ _ (by simp; omega)]) (fun e he => ?_), ?_⟩
  · have hm := mem_listed he
    simp [go_sem, *] at hm
    rcases hm with rfl | rfl <;> exact evA_write _ _ (.inl hP.lo)
  clear hK K c0 c1 f0 f1
  replace hP := hP.set hsb p x
  generalize ((w₂.setCell ⟨B, 0, none⟩ (.int .i64 (p : Int))).setCell ⟨B, 1, none⟩ (.int .i64 x)) = w₃ at hP ⊢
  repeat (first | a_ctl hP (RP.aside hsb) DA_still)
  -- the region that draws its order
  have hSR : ∀ a b : World, (∃ zs', zs'.length = L ∧ RP N sb W zs' B p x a) → Aside (N + 2) a b → ∃ zs', zs'.length = L ∧ RP N sb W zs' B p x b := fun a b ⟨zs', h1, h2⟩ h => ⟨zs', h1, h2.aside hsb h⟩
  have hQR : ∀ (a : Act) (y z : World), (fun (e : Exit) (a' : Act) (w' : World) => e = .normal ∧ ∃ T', a' = ⟨T', []⟩ ∧ Slots N sb L T' ∧ RF N sb W (zs.set p (wrap64 (ix zs p + x))) w') .normal a y → Aside (N + 2) y z → (fun (e : Exit) (a' : Act) (w' : World) => e = .normal ∧ ∃ T', a' = ⟨T', []⟩ ∧ Slots N sb L T' ∧ RF N sb W (zs.set p (wrap64 (ix zs p + x))) w') .normal a z :=
    fun a y z ⟨h1, T', h2, h3, h4⟩ h => ⟨h1, T', h2, h3, h4.aside hsb h⟩
  refine Goes.mono (wpC_region_held (fn := 45) termsA (drawA ha hb hsb) (S := fun w => ∃ zs', zs'.length = L ∧ RP N sb W zs' B p x w) (Q := fun (e : Exit) (a' : Act) (w' : World) => e = .normal ∧ ∃ T', a' = ⟨T', []⟩ ∧ Slots N sb L T' ∧ RF N sb W (zs.set p (wrap64 (ix zs p + x))) w') (by kernel_rfl) ?_ _ _ _ _ (n₀ + 4) rfl (by decide) fun e a' w' hq => ?_) (by simp only [List.size_toArray, List.length_cons, List.length_nil]; omega)
  · intro w₄ h₄
    replace hP : RP N sb W zs B p x { w₄ with drawn := w₄.drawn + 1 } := (hP.aside hsb h₄).aside hsb (Aside.at (N + 2) w₄ (w₄.drawn + 1))
    generalize { w₄ with drawn := w₄.drawn + 1 } = w₅ at hP ⊢
    clear h₄
    simp only [List.size_toArray, List.length_cons, List.length_nil, Nat.reduceAdd, Nat.zero_add]
    refine anyCH_take termsA hSR hQR (i := 0) (v := .slice (some ⟨sb, 0, none⟩) L L) rfl (by kernel_rfl) (by kernel_rfl) (by kernel_rfl) (.inl ⟨by rfl, fun w hw => ⟨run_eq_of fun K hK => ?_, ?_⟩⟩) ⟨zs, hL, hP⟩ ?_
    · obtain ⟨zs', hl', hw⟩ := hw
      skip
      go_simp
      exact hK
    · obtain ⟨zs', hl', hw⟩ := hw
      skip
      refine DA_evs fun e he => ?_
      have hm := mem_listed he
      simp [go_sem] at hm
    walk_nrm
    refine anyCH_take termsA hSR hQR (i := 1) (v := .pointer (some ⟨B, 0, none⟩)) rfl (by kernel_rfl) (by kernel_rfl) (by kernel_rfl) (.inl ⟨by rfl, fun w hw => ⟨run_eq_of fun K hK => ?_, ?_⟩⟩) ⟨zs, hL, hP⟩ ?_
    · obtain ⟨zs', hl', hw⟩ := hw
      skip
      go_simp
      exact hK
    · obtain ⟨zs', hl', hw⟩ := hw
      skip
      refine DA_evs fun e he => ?_
      have hm := mem_listed he
      simp [go_sem, *] at hm
      try (subst hm; exact evA_read _ _ (by simp))
    walk_nrm
    refine anyCH_take termsA hSR hQR (i := 2) (v := .int .i64 (p : Int)) rfl (by kernel_rfl) (by kernel_rfl) (by kernel_rfl) (.inl ⟨by rfl, fun w hw => ⟨run_eq_of fun K hK => ?_, ?_⟩⟩) ⟨zs, hL, hP⟩ ?_
    · obtain ⟨zs', hl', hw⟩ := hw
      have c0 := hw.c0
      go_simp
      exact hK
    · obtain ⟨zs', hl', hw⟩ := hw
      have c0 := hw.c0
      refine DA_evs fun e he => ?_
      have hm := mem_listed he
      simp [go_sem, *] at hm
      try (subst hm; exact evA_read _ _ (by simp))
    walk_nrm
    refine anyCH_take termsA hSR hQR (i := 3) (v := .pointer (some ⟨sb, p, none⟩)) rfl (by kernel_rfl) (by kernel_rfl) (by kernel_rfl) (.inl ⟨by rfl, fun w hw => ⟨run_eq_of fun K hK => ?_, ?_⟩⟩) ⟨zs, hL, hP⟩ ?_
    · obtain ⟨zs', hl', hw⟩ := hw
      have hpI : (p : Int) < (L : Int) := by omega
      go_simp
      exact hK
    · obtain ⟨zs', hl', hw⟩ := hw
      have hpI : (p : Int) < (L : Int) := by omega
      refine DA_evs fun e he => ?_
      have hm := mem_listed he
      simp [go_sem, *] at hm
      try (subst hm; exact evA_read _ _ (by simp))
    walk_nrm
    refine anyCH_take termsA hSR hQR (i := 5) (v := .pointer (some ⟨B, 1, none⟩)) rfl (by kernel_rfl) (by kernel_rfl) (by kernel_rfl) (.inl ⟨by rfl, fun w hw => ⟨run_eq_of fun K hK => ?_, ?_⟩⟩) ⟨zs, hL, hP⟩ ?_
    · obtain ⟨zs', hl', hw⟩ := hw
      skip
      go_simp
      exact hK
    · obtain ⟨zs', hl', hw⟩ := hw
      skip
      refine DA_evs fun e he => ?_
      have hm := mem_listed he
      simp [go_sem, *] at hm
      try (subst hm; exact evA_read _ _ (by simp))
    walk_nrm
    refine anyCH_take termsA hSR hQR (i := 6) (v := .int .i64 x) rfl (by kernel_rfl) (by kernel_rfl) (by kernel_rfl) (.inl ⟨by rfl, fun w hw => ⟨run_eq_of fun K hK => ?_, ?_⟩⟩) ⟨zs, hL, hP⟩ ?_
    · obtain ⟨zs', hl', hw⟩ := hw
      have c1 := hw.c1
      go_simp
      exact hK
    · obtain ⟨zs', hl', hw⟩ := hw
      have c1 := hw.c1
      refine DA_evs fun e he => ?_
      have hm := mem_listed he
      simp [go_sem, *] at hm
      try (subst hm; exact evA_read _ _ (by simp))
    walk_nrm
    refine anyCH_all (rs := [4]) (by kernel_rfl) (by simp) (list1 (opC_do rfl (by rfl) fun w₁ h₁ K hK => ?_))
    have hP1 := hP.aside hsb h₁
    clear h₁ hP
    have cs0 := hP1.rf.s (p := p) (by omega)
    go_simp
    refine hK _ _ ⟨DA_evs fun e he => ?_, ⟨zs, hL, hP1⟩, ?_⟩
    · have hm := mem_listed he
      simp [go_sem, *] at hm
      try (subst hm; exact evA_read _ _ (by simp))
    clear hK K cs0
    walk_nrm
    refine anyCH_all (rs := [7]) (by kernel_rfl) (by simp) (list1 (opC_do rfl (by rfl) fun w₁ h₁ K hK => ?_))
    have hP2 := hP1.aside hsb h₁
    clear h₁ hP1
    go_simp
    refine hK _ _ ⟨DA_evs fun e he => ?_, ⟨zs, hL, hP2⟩, ?_⟩
    · have hm := mem_listed he
      simp [go_sem, *] at hm
    clear hK K
    walk_nrm
    refine anyCH_all (rs := [8]) (by kernel_rfl) (by simp) (list1 (opC_do rfl (by rfl) fun w₁ h₁ K hK => ?_))
    have hP3 := hP2.aside hsb h₁
    clear h₁ hP2
    have hpI : (p : Int) < (L : Int) := by omega
    go_simp
    refine hK _ _ ⟨DA_evs fun e he => ?_, ⟨zs, hL, hP3⟩, ?_⟩
    · have hm := mem_listed he
      simp [go_sem, *] at hm
    clear hK K
    walk_nrm
    refine anyCH_all (rs := [9]) (by kernel_rfl) (by simp) (list1 (opC_do rfl (by rfl) fun w₁ h₁ K hK => ?_))
    have hP4 := hP3.aside hsb h₁
    clear h₁ hP3
    have cs0 := hP4.rf.s (p := p) (by omega)
    have cf0 := hP4.rf.sf p
    go_simp
    refine hK _ _ ⟨DA_own ha hb hsb (fun k hk hne => by rw [Below.heap_setCell _ _ _ _ (by simpa using hne)]) (fun e he => ?_), ⟨_, by simpa using hL, hP4.store hsb p _⟩, ?_⟩
    · have hm := mem_listed he
      simp [go_sem, *] at hm
      subst hm
      exact evA_write _ _ (.inr rfl)
    clear hK K cs0 cf0
    walk_nrm
    refine anyCH_done (by kernel_rfl) ?_ _
    refine ⟨rfl, _, rfl, ⟨by simp, by simp, by simp⟩, ?_⟩
    have hq := (hP4.store hsb p (IntKind.i64.wrap (ix zs p + x))).rf
    rw [show wrap64 (ix zs p + x) = IntKind.i64.wrap (ix zs p + x) by rw [IntKind.wrap_i64]; unfold wrap64; rfl]
    exact hq
  · obtain ⟨rfl, T', rfl, hT', hF'⟩ := hq
    have nx := next T' w' hT' hF'
    show Goes _ _ _ _ _ _ (G (bT.at ⟨T', []⟩ [.inBlock 1, .inLoop _, .inBlock 0, .code _]) cs) w'
    repeat (first | a_ctl hF' (RF.aside hsb) DA_still)
    exact next T' _ hT' hF'

/-- The zero that is handed out at the closed channel. -/
def zP : Value := .agg #[.int .i64 0, .int .i64 0]

theorem atR_comm (T : Array Value) (hT : Slots N sb L T) (w : World) : stepG Try.prog true (atR cs T [0, 1]) w = .comm (core (atR cs T [0, 1])) #[rcase (N + 2) zP] true (.recv true) w #[] := by
  obtain ⟨k0, k5, k24⟩ := hT
  obtain ⟨v0, v1, v2, v3, v4, v5, v6, v7, v8, v9, v10, v11, v12, v13, v14, v15, v16, v17, v18, v19, v20, v21, v22, v23, v24, v25, v26, v27, v28, v29, v30, v31, v32, v33, v34, v35, v36, v37, rfl⟩ := array38 T k0
  simp only [List.getElem?_toArray, List.getElem?_cons_succ, List.getElem?_cons_zero, Option.some.injEq] at k5 k24
  subst k5 k24
  simp only [atR, ops5, LT, tail4, body, Try.f45, Option.getD_some, core_G]
  rw [stepG_comm (cases := #[rcase (N + 2) zP]) (blocking := true) (shape := .recv true) (w' := w) rfl rfl (by decide) (by simp [go_sem, rcase, zP])]
  simp [listed, go_sem, seen]

theorem served_atR (T : Array Value) (v : Value) : Go.Conc.served (core (atR cs T [0, 1])) v = atR cs (T.setIfInBounds 25 v) [1] := by
  simp only [atR, ops5, LT, tail4, body, Try.f45, Option.getD_some, core_G, served_G]
  rfl

theorem slots_set (T : Array Value) (v : Value) (h : Slots N sb L T) : Slots N sb L (T.setIfInBounds 25 v) ∧ (T.setIfInBounds 25 v)[25]? = some v := by
  obtain ⟨k0, k5, k24⟩ := h
  refine ⟨⟨by simpa using k0, ?_, ?_⟩, ?_⟩
  · rw [Array.getElem?_setIfInBounds_ne (by omega)]; exact k5
  · rw [Array.getElem?_setIfInBounds_ne (by omega)]; exact k24
  · rw [Array.getElem?_setIfInBounds_self_of_lt (by omega)]

/-- Behind the last receive. -/
def FinP (ZS : List Int) (g : Goroutine) (w : World) : Prop := ∃ T, g = atR cs T [1] ∧ Slots N sb L T ∧ T[25]? = some (.tuple #[zP, .bool false]) ∧ RF N sb W ZS w

/-- THE RECEIVER's SCRIPT, AT THE RECEIVE. -/
theorem stop_at (hsb : sb < N) (ha : ∀ ad, a0 = some ad → 0 < n → ad.block < N ∧ ad.block ≠ sb) (hb : ∀ ad, b0 = some ad → 0 < m → ad.block < N ∧ ad.block ≠ sb) : ∀ (l : List (Nat × Int)) (zs : List Int) (T : Array Value) (w : World), (∀ e ∈ l, e.1 < L) → zs.length = L → Slots N sb L T → RF N sb W zs w →
    StopA Try.prog (N + 2) (Shd .i64 N a0 b0 n m ca cb xs ys) (MineP N sb) zP (FinP N sb L W cs (l.foldl addP zs)) (l.map fun e => pv e.1 e.2) (atR cs T [0, 1]) w := by
  intro l
  induction l with
  | nil =>
    intro zs T w _ hL hT hF
    refine ⟨rfl, #[], atR_comm N sb L cs T hT w, by simp, fun w₂ h₂ => ?_⟩
    show FinP N sb L W cs _ (Go.Conc.served (core (atR cs T [0, 1])) _) w₂
    rw [served_atR]
    exact ⟨_, rfl, (slots_set N sb L T _ hT).1, (slots_set N sb L T _ hT).2, hF.aside hsb h₂⟩
  | cons e l ih =>
    intro zs T w hl hL hT hF
    refine ⟨rfl, #[], atR_comm N sb L cs T hT w, by simp, fun w₂ h₂ => ?_⟩
    simp only [served_atR]
    refine (recvs_iff ..).2 ⟨0 + 100, round N sb L W a0 b0 n m ca cb xs ys cs hsb ha hb _ 0 _ zs hL e.1 (hl e (by simp)) e.2 w₂ (slots_set N sb L T _ hT).1 (slots_set N sb L T _ hT).2 (hF.aside hsb h₂) fun T' w' hT' hF' => Goes.stop fun w₁ h₁ => ?_⟩
    exact ih (addP zs e) T' w₁ (fun e' he' => hl e' (by simp [he'])) (by simp [addP, hL]) hT' (hF'.aside hsb h₁)
end
end RcvI
end Go.Proofs.Ytlglokbakmbpdaa
