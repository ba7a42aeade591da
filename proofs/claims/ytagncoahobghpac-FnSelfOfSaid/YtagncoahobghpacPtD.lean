/-
  impl.TimesOf in company (written by ch5co.py).
-/
import Derived.Test.YtagncoahobghpacPtC
namespace Go.Proofs.Ytagncoahobghpac
open Go Go.Conc Go.RowKit
set_option linter.unusedVariables false

theorem leave1 {P : Program} {f : FuncId} {fn : Func} {t : Tmp} (hf : P.funcs[f]? = some fn) (hr : fn.results = #[.tmp t]) {T : Array Value} {k : List Item} {cs : List Frame} {w' : World} {R : Value → World → Prop} (h : R (T.getD t undef) w') :
    ∃ fr v, G { (base f).at ⟨T, []⟩ k with mode := .returning } cs = G fr cs ∧ fr.fn = f ∧ fr.leaving P w' (.returned v) ∧ R v w' :=
  ⟨_, _, rfl, rfl, ⟨rfl, rfl, rfl, fn, hf, _root_.Go.results_tmp hr _ _ _⟩, h⟩

section
variable {w w₁ w' : World} {v : Value}
theorem Rd.sm {xs : List Int} (h : Rd w v xs) (hs : Sm w w₁) : Rd w₁ v xs := by
  obtain ⟨d, rfl⟩ := hs
  exact h
theorem Own.sm {E B : Nat} {xs : List Int} (h : Own E B w v xs) (hs : Sm w w₁) : Own E B w₁ v xs := by
  obtain ⟨d, rfl⟩ := hs
  exact h
theorem _root_.Go.RowKit.Below.sm {B : Nat} {a w w₁ : World} (h : Below B a w) (hs : Sm w w₁) : Below B a w₁ := by
  obtain ⟨d, rfl⟩ := hs
  exact ⟨h.os, h.tape, h.output, h.size, h.block⟩
theorem _root_.Go.RowKit.Below.smL {B : Nat} {a b w : World} (h : Below B b w) (hs : Sm a b) : Below B a w := by
  obtain ⟨d, rfl⟩ := hs
  exact ⟨h.os, h.tape, h.output, h.size, h.block⟩
theorem bmade_sm {f : FuncId} {args : Array Value} {E : Nat} {xs : List Int} (hs : Sm w w₁) (h : BCalls Try.prog f args w₁ (BMade E w₁ xs)) : BCalls Try.prog f args w₁ (BMade E w xs) :=
  h.mono fun v w' q => ⟨by have := q.1; rw [hs.heap] at this; exact this, by have := q.2; rw [hs.heap] at this; exact this.smL hs⟩
theorem bsays_sm {f : FuncId} {args : Array Value} {b : Bool} (hs : Sm w w₁) (h : BCalls Try.prog f args w₁ (BSays b w₁)) : BCalls Try.prog f args w₁ (BSays b w) :=
  h.mono fun v w' q => ⟨q.1, by have := q.2; rw [hs.heap] at this; exact this.smL hs⟩
theorem btells_sm {f : FuncId} {args : Array Value} {z : Int} (hs : Sm w w₁) (h : BCalls Try.prog f args w₁ (BTells z w₁)) : BCalls Try.prog f args w₁ (BTells z w) :=
  h.mono fun v w' q => ⟨q.1, by have := q.2; rw [hs.heap] at this; exact this.smL hs⟩
end

set_option maxRecDepth 100000 in
set_option maxHeartbeats 8000000 in
theorem implTimesOf_b (u v : Value) (xs ys : List Int) (w : World) (hx : Rd w u xs) (hy : Rd w v ys) (hl1 : xs.length ≤ 1048576) (hl2 : ys.length ≤ 1048576) :
    BCalls Try.prog 11 #[u, v] w (BMade 3 w (timF xs ys)) := by
  intro cs
  have hm1 : xs.length ≤ maxLen := by unfold maxLen; omega
  have hm2 : ys.length ≤ maxLen := by unfold maxLen; omega
  rw [enter_at _ Try.func11 rfl]
  simp only [Try.f11, List.size_toArray, List.length_cons, List.length_nil, Nat.reduceAdd, Nat.reduceSub, Array.replicate_succ, Array.replicate_zero, List.push_toArray, List.append_toArray, List.nil_append, List.cons_append]
  have hF : Sm w w := Sm.refl w
  refine beside_by (n := 400) ?_
  repeat (first | a_ctl hF Sm.trans D0.nil | a_op hF Sm.trans [] D0.evs ⟨by simp, by simp⟩ | (refine Goes.step rfl (fun _ h₁ => ?_); rw [stepG_unwanted rfl rfl]; simp only [goes_go]; refine ⟨D0.nil, ?_⟩; replace hF := Sm.trans hF h₁; clear h₁; walk_nrm))
  refine Goes.stop fun w₁ h₁ => ?_
  replace hF := Sm.trans hF h₁
  clear h₁
  refine beside_call rfl rfl (by decide) rfl Try.func10 rfl rfl (by kernel_rfl) (show _ = (#[u] : Array Value) from by walk_nrm) (fun d => bsays_sm (hF.trans ⟨d, rfl⟩) (implValid_b _ xs _ (hx.sm (hF.trans ⟨d, rfl⟩)) hm1)) ?_
  rintro r w2 ⟨rfl, b1⟩
  clear hF
  have hx := hx.below b1 (Nat.le_refl _)
  have hy := hy.below b1 (Nat.le_refl _)
  have hF := Sm.refl w2
  walk_nrm
  cases hvx : vrB xs with
  | false =>
    rw [timF_no (by rw [hvx]; simp)]
    clear hx hy hvx
    refine beside_by (n := 400) ?_
    repeat (first | a_ctl hF Sm.trans D0.nil | a_op hF Sm.trans [] D0.evs ⟨by simp, by simp⟩ | (refine Goes.step rfl (fun _ h₁ => ?_); rw [stepG_unwanted rfl rfl]; simp only [goes_go]; refine ⟨D0.nil, ?_⟩; replace hF := Sm.trans hF h₁; clear h₁; walk_nrm))
    a_cond true hF Sm.trans D0.nil
    repeat (first | a_ctl hF Sm.trans D0.nil | a_op hF Sm.trans [] D0.evs ⟨by simp, by simp⟩ | (refine Goes.step rfl (fun _ h₁ => ?_); rw [stepG_unwanted rfl rfl]; simp only [goes_go]; refine ⟨D0.nil, ?_⟩; replace hF := Sm.trans hF h₁; clear h₁; walk_nrm))
    refine Goes.step rfl (fun _ h₁ => ?_)
    rw [stepG_ret']
    simp only [goes_go]
    refine ⟨D0.nil, ?_⟩
    refine Goes.stop fun w₁ h₂ => .at0 fun d => ?_
    have hF := (Sm.trans hF h₁).trans (h₂.trans ⟨d, rfl⟩)
    exact leave1 Try.func11 rfl (R := BMade 3 w []) ⟨⟨rfl, .inl ⟨rfl, rfl⟩⟩, b1.sm hF⟩
  | true =>
    refine beside_by (n := 400) ?_
    repeat (first | a_ctl hF Sm.trans D0.nil | a_op hF Sm.trans [] D0.evs ⟨by simp, by simp⟩ | (refine Goes.step rfl (fun _ h₁ => ?_); rw [stepG_unwanted rfl rfl]; simp only [goes_go]; refine ⟨D0.nil, ?_⟩; replace hF := Sm.trans hF h₁; clear h₁; walk_nrm))
    refine Goes.stop fun w₁ h₁ => ?_
    replace hF := Sm.trans hF h₁
    clear h₁
    refine beside_call rfl rfl (by decide) rfl Try.func10 rfl rfl (by kernel_rfl) (show _ = (#[v] : Array Value) from by walk_nrm) (fun d => bsays_sm (hF.trans ⟨d, rfl⟩) (implValid_b _ ys _ (hy.sm (hF.trans ⟨d, rfl⟩)) hm2)) ?_
    rintro r w2 ⟨rfl, b2⟩
    clear hF
    have hx := hx.below b2 (Nat.le_refl _)
    have hy := hy.below b2 (Nat.le_refl _)
    have b1 := bel_nxt b1 b2
    have hF := Sm.refl w2
    walk_nrm
    cases hvy : vrB ys with
    | false =>
      rw [timF_no (by rw [hvy]; simp)]
      clear hx hy hvx hvy
      refine beside_by (n := 400) ?_
      repeat (first | a_ctl hF Sm.trans D0.nil | a_op hF Sm.trans [] D0.evs ⟨by simp, by simp⟩ | (refine Goes.step rfl (fun _ h₁ => ?_); rw [stepG_unwanted rfl rfl]; simp only [goes_go]; refine ⟨D0.nil, ?_⟩; replace hF := Sm.trans hF h₁; clear h₁; walk_nrm))
      a_cond true hF Sm.trans D0.nil
      repeat (first | a_ctl hF Sm.trans D0.nil | a_op hF Sm.trans [] D0.evs ⟨by simp, by simp⟩ | (refine Goes.step rfl (fun _ h₁ => ?_); rw [stepG_unwanted rfl rfl]; simp only [goes_go]; refine ⟨D0.nil, ?_⟩; replace hF := Sm.trans hF h₁; clear h₁; walk_nrm))
      refine Goes.step rfl (fun _ h₁ => ?_)
      rw [stepG_ret']
      simp only [goes_go]
      refine ⟨D0.nil, ?_⟩
      refine Goes.stop fun w₁ h₂ => .at0 fun d => ?_
      have hF := (Sm.trans hF h₁).trans (h₂.trans ⟨d, rfl⟩)
      exact leave1 Try.func11 rfl (R := BMade 3 w []) ⟨⟨rfl, .inl ⟨rfl, rfl⟩⟩, b1.sm hF⟩
    | true =>
      rw [timF_yes hvx hvy]
      clear hvx hvy
      refine beside_by (n := 400) ?_
      repeat (first | a_ctl hF Sm.trans D0.nil | a_op hF Sm.trans [] D0.evs ⟨by simp, by simp⟩ | (refine Goes.step rfl (fun _ h₁ => ?_); rw [stepG_unwanted rfl rfl]; simp only [goes_go]; refine ⟨D0.nil, ?_⟩; replace hF := Sm.trans hF h₁; clear h₁; walk_nrm))
      a_cond false hF Sm.trans D0.nil
      repeat (first | a_ctl hF Sm.trans D0.nil | a_op hF Sm.trans [] D0.evs ⟨by simp, by simp⟩ | (refine Goes.step rfl (fun _ h₁ => ?_); rw [stepG_unwanted rfl rfl]; simp only [goes_go]; refine ⟨D0.nil, ?_⟩; replace hF := Sm.trans hF h₁; clear h₁; walk_nrm))
      refine Goes.stop fun w₁ h₁ => ?_
      replace hF := Sm.trans hF h₁
      clear h₁
      refine beside_call rfl rfl (by decide) rfl Try.func30 rfl rfl (by kernel_rfl) (show _ = (#[u, v] : Array Value) from by walk_nrm) (fun d => bmade_sm (hF.trans ⟨d, rfl⟩) (timesI_all _ _ xs ys _ (hx.sm (hF.trans ⟨d, rfl⟩)) (hy.sm (hF.trans ⟨d, rfl⟩)) hl1 hl2)) ?_
      rintro r w2 ⟨o3, b3⟩
      clear hF
      have hF := Sm.refl w2
      walk_nrm
      clear hx hy
      refine beside_by (n := 400) ?_
      repeat (first | a_ctl hF Sm.trans D0.nil | a_op hF Sm.trans [] D0.evs ⟨by simp, by simp⟩ | (refine Goes.step rfl (fun _ h₁ => ?_); rw [stepG_unwanted rfl rfl]; simp only [goes_go]; refine ⟨D0.nil, ?_⟩; replace hF := Sm.trans hF h₁; clear h₁; walk_nrm))
      refine Goes.step rfl (fun _ h₁ => ?_)
      rw [stepG_ret']
      simp only [goes_go]
      refine ⟨D0.nil, ?_⟩
      refine Goes.stop fun w₁ h₂ => .at0 fun d => ?_
      have hF := (Sm.trans hF h₁).trans (h₂.trans ⟨d, rfl⟩)
      exact leave1 Try.func11 rfl (R := BMade 3 w _) ⟨(Own.mono o3 b1.size).sm hF, (bel_nxt b1 b3).sm hF⟩

end Go.Proofs.Ytagncoahobghpac
