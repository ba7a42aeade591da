/-
  workOut of the desk in company.
-/
import Derived.Test.YtagncoahobghpacGreatDoorJGdE37
import Derived.Test.YtagncoahobghpacGreatDoorTy
namespace Go.Proofs.YtagncoahobghpacGreatDoor
open Go Go.Conc Go.RowKit
set_option linter.unusedVariables false
set_option maxRecDepth 100000

theorem leave2 {P : Program} {f : FuncId} {fn : Func} {t1 t2 : Tmp} (hf : P.funcs[f]? = some fn) (hr : fn.results = #[.tmp t1, .tmp t2]) {T : Array Value} {k : List Item} {cs : List Frame} {w' : World} {R : Value → World → Prop} (h : R (.tuple #[T.getD t1 undef, T.getD t2 undef]) w') :
    ∃ fr v, G { (base f).at ⟨T, []⟩ k with mode := .returning } cs = G fr cs ∧ fr.fn = f ∧ fr.leaving P w' (.returned v) ∧ R v w' :=
  ⟨_, _, rfl, rfl, ⟨rfl, rfl, rfl, fn, hf, _root_.Go.results_tmp2 hr _ _ _⟩, h⟩
theorem Dsk.sm {w w1 : World} (h : Dsk w) (hs : Sm w w1) : Dsk w1 := by
  obtain ⟨d, rfl⟩ := hs
  exact ⟨h.ml, h.tab, h.syn, h.rng, h.unk, h.ety, h.lo⟩
theorem bgives_sm {x : Value} {f : FuncId} {args : Array Value} {w w1 : World} (hs : Sm w w1) (h : BCalls Tryz.prog f args w1 (BGives x w1.heap.size w1)) : BCalls Tryz.prog f args w1 (BGives x w.heap.size w) := by
  obtain ⟨d, rfl⟩ := hs
  exact h.mono fun v w' ⟨h1, h2⟩ => ⟨h1, ⟨h2.os, h2.tape, h2.output, h2.size, h2.block⟩⟩
theorem rowOf_sm {s : ByteArray} {w w1 : World} (h : Dsk w) (hl : s.size ≤ 1048576) (hs : Sm w w1) : BCalls Tryz.prog 45 #[.string s] w1 (fun v w' => ∃ v1 er, v = .tuple #[v1, er] ∧ RowRet w s v1 er w') := by
  obtain ⟨d, rfl⟩ := hs
  refine (rowOf_b s _ (h.sm ⟨d, rfl⟩) hl).mono fun v w' ⟨v1, er, h1, h2, h3⟩ => ⟨v1, er, h1, ⟨h2.os, h2.tape, h2.output, h2.size, h2.block⟩, h3⟩
theorem cut_size (s : ByteArray) : (cutP s).1.size ≤ s.size ∧ (cutP s).2.size ≤ s.size := by
  have e1 : ∀ l, (bs l).size = l.length := fun l => by show l.toArray.size = _; rw [List.size_toArray]
  have e2 : s.size = s.data.toList.length := by show s.data.size = _; rw [Array.length_toList]
  unfold cutP
  dsimp only
  rw [e1, e1, e2]
  generalize s.data.toList = l
  unfold Lib.cut
  split
  · simp only [List.length_take, List.length_drop]
    exact ⟨by omega, by omega⟩
  · exact ⟨Nat.le_refl _, Nat.zero_le _⟩

/-- What workOut hands back. -/
def WorkRet (line : ByteArray) (w : World) (v : Value) (w' : World) : Prop :=
  ∃ vs er, v = .tuple #[vs, er] ∧ Below w.heap.size w w' ∧ match workP line with
    | .what => ∃ b, er = .iface 179 (.pointer (some b))
    | .wrong => ∃ s, er = .iface 56 (.agg #[.string s])
    | .row xs => Rd w' vs xs ∧ er = .nilIface
theorem workP_what {line : ByteArray} (h : ¬ (knW (cutP line).1 = true ∧ Lib.countByte line.data.toList 32 = 1)) : workP line = .what := if_neg h
theorem workP_yes {line : ByteArray} (h1 : knW (cutP line).1 = true) (h2 : Lib.countByte line.data.toList 32 = 1) : workP line = (match rowT (cutP line).2 with | none => .wrong | some xs => if wordL (cutP line).1 xs = [] then .wrong else .row (wordL (cutP line).1 xs)) := if_pos ⟨h1, h2⟩

set_option maxHeartbeats 8000000 in
theorem workOut_b (line : ByteArray) (w : World) (h : Dsk w) (hs : line.size ≤ 1048576) : BCalls Tryz.prog 27 #[.string line] w (WorkRet line w) := by
  intro cs
  rw [enter_at _ Tryz.func27 rfl]
  simp only [Tryz.f27, List.size_toArray, List.length_cons, List.length_nil, Nat.reduceAdd, Nat.reduceSub, Array.replicate_succ, Array.replicate_zero, List.push_toArray, List.append_toArray, List.nil_append, List.cons_append]
  have hF : Sm w w := Sm.refl w
  refine beside_by (n := 400) ?_
  repeat (first | a_ctl hF Sm.trans D0.nil | (refine Goes.step rfl (fun _ h₁ => ?_); replace hF := Sm.trans hF h₁; clear h₁; refine goes_oper_k rfl rfl (by decide) (fun K hK => ?_); go_simp; refine hK _ _ ⟨still_listed rfl, ?_⟩; clear hK K) | (refine Goes.step rfl (fun _ h₁ => ?_); rw [stepG_unwanted rfl rfl]; simp only [goes_go]; refine ⟨D0.nil, ?_⟩; replace hF := Sm.trans hF h₁; clear h₁; walk_nrm))
  refine Goes.stop fun w₁ h₁ => ?_
  replace hF := Sm.trans hF h₁
  clear h₁
  refine beside_call rfl rfl (by decide) rfl Tryz.func42 rfl rfl (by kernel_rfl) (show _ = (#[.string line, .string ⟨#[32]⟩] : Array Value) from by walk_nrm) (fun d => bgives_sm (hF.trans ⟨d, rfl⟩) (cut_b line _ (h.sm (hF.trans ⟨d, rfl⟩)) hs)) ?_
  rintro r w1 ⟨rfl, b⟩
  have h := h.below b
  have hqs : (cutP line).2.size ≤ 1048576 := Nat.le_trans (cut_size line).2 hs
  obtain ⟨p, hp⟩ : ∃ p, p = (cutP line).1 := ⟨_, rfl⟩
  obtain ⟨q, hq⟩ : ∃ q, q = (cutP line).2 := ⟨_, rfl⟩
  have HWN := Lib.hid (workP_what (line := line))
  have HWY := Lib.hid (workP_yes (line := line))
  rw [← hp] at HWN HWY
  rw [← hq] at HWY hqs
  rw [← hp, ← hq]
  obtain ⟨c, hc⟩ : ∃ c, c = Lib.countByte line.data.toList 32 := ⟨_, rfl⟩
  have HC := Lib.hid fun w => count_b line w
  rw [← hc] at HWN HWY
  simp only [← hc] at HC
  clear hp hq hc hs hF
  have hF := Sm.refl w1
  walk_nrm
  refine beside_by (n := 400) ?_
  repeat (first | a_ctl hF Sm.trans D0.nil | (refine Goes.step rfl (fun _ h₁ => ?_); replace hF := Sm.trans hF h₁; clear h₁; refine goes_oper_k rfl rfl (by decide) (fun K hK => ?_); go_simp; refine hK _ _ ⟨still_listed rfl, ?_⟩; clear hK K) | (refine Goes.step rfl (fun _ h₁ => ?_); rw [stepG_unwanted rfl rfl]; simp only [goes_go]; refine ⟨D0.nil, ?_⟩; replace hF := Sm.trans hF h₁; clear h₁; walk_nrm))
  refine Goes.stop fun w₁ h₁ => ?_
  replace hF := Sm.trans hF h₁
  clear h₁
  refine beside_call rfl rfl (by decide) rfl Tryz.func43 rfl rfl (by kernel_rfl) (show _ = (#[.string p] : Array Value) from by walk_nrm) (fun d => bgives_sm (hF.trans ⟨d, rfl⟩) (functionOf_b p _)) ?_
  rintro r w2 ⟨rfl, b2⟩
  have h := h.below b2
  have b := bel_nxt b b2
  clear hF b2
  cases hk : knW p with
  | false =>
    have HW := Lib.hid (HWN.out (by rw [hk]; simp))
    rw [wordF_no hk]
    clear HWN HWY HC hk hqs
    have hF := Sm.refl w2
    walk_nrm
    refine beside_by (n := 400) ?_
    repeat (first | a_ctl hF Sm.trans D0.nil | (refine Goes.step rfl (fun _ h₁ => ?_); replace hF := Sm.trans hF h₁; clear h₁; refine goes_oper_k rfl rfl (by decide) (fun K hK => ?_); go_simp; refine hK _ _ ⟨still_listed rfl, ?_⟩; clear hK K) | (refine Goes.step rfl (fun _ h₁ => ?_); rw [stepG_unwanted rfl rfl]; simp only [goes_go]; refine ⟨D0.nil, ?_⟩; replace hF := Sm.trans hF h₁; clear h₁; walk_nrm))
    a_cond true hF Sm.trans D0.nil
    repeat a_ctl hF Sm.trans D0.nil
    refine Goes.stop fun w₁ h₁ => ?_
    obtain ⟨dq, rfl⟩ := hF.trans h₁
    obtain ⟨be, hbe⟩ := h.unk
    refine beside_region (S := fun W => Sm w2 W) (by kernel_rfl) (by decide) (fun d => ?_) (fun _ _ q => q)
    have hs4 : Sm w2 ((w2.at dq).at d) := ⟨d, rfl⟩
    clear hF h₁
    refine anyB_take 0 _ (.iface 179 (.pointer (some be))) (fun _ _ h => Sm.trans h ⟨_, rfl⟩) rfl (by kernel_rfl) (by kernel_rfl) (by kernel_rfl) (.inl ⟨by rfl, fun W' hS' => ⟨run_eq_of (by intro K hK; obtain ⟨dd, rfl⟩ := hS'; have c := (show (w2.at dd).cell? ⟨0, 0, none⟩ = _ from hbe); go_simp; exact hK), still_listed rfl⟩⟩) hs4 ?_
    walk_nrm
    refine anyB_take 1 _ (.slice none 0 0) (fun _ _ h => Sm.trans h ⟨_, rfl⟩) rfl (by kernel_rfl) (by kernel_rfl) (by kernel_rfl) (.inl ⟨by rfl, fun W' hS' => ⟨run_eq_of (by intro K hK; go_simp; exact hK), still_listed rfl⟩⟩) hs4 ?_
    walk_nrm
    refine anyB_take 2 _ (.iface 179 (.pointer (some be))) (fun _ _ h => Sm.trans h ⟨_, rfl⟩) rfl (by kernel_rfl) (by kernel_rfl) (by kernel_rfl) (.inl ⟨by rfl, fun W' hS' => ⟨run_eq_of (by intro K hK; go_simp; exact hK), still_listed rfl⟩⟩) hs4 ?_
    walk_nrm
    refine anyB_done (by kernel_rfl) (fun d2 => ?_) _
    have hF : Sm w2 (((w2.at dq).at d).at d2) := ⟨d2, rfl⟩
    refine beside_by (n := 400) ?_
    repeat a_ctl hF Sm.trans D0.nil
    refine Goes.step rfl (fun _ h₁ => ?_)
    rw [stepG_ret']
    simp only [goes_go]
    refine ⟨D0.nil, ?_⟩
    refine Goes.stop fun w₁ h₂ => .at0 fun d => ?_
    have hF := (Sm.trans hF h₁).trans (h₂.trans ⟨d, rfl⟩)
    exact leave2 Tryz.func27 rfl (R := WorkRet line w) ⟨_, _, rfl, b.sm hF, by rw [HW.out]; exact ⟨_, rfl⟩⟩
  | true =>
    obtain ⟨f, fn, e1, e2, e3, e4, e5⟩ := wordF_yes hk
    have E2 := Lib.hid e2
    rw [e1]
    clear e1 e2
    have hF := Sm.refl w2
    walk_nrm
    refine beside_by (n := 400) ?_
    repeat (first | a_ctl hF Sm.trans D0.nil | (refine Goes.step rfl (fun _ h₁ => ?_); replace hF := Sm.trans hF h₁; clear h₁; refine goes_oper_k rfl rfl (by decide) (fun K hK => ?_); go_simp; refine hK _ _ ⟨still_listed rfl, ?_⟩; clear hK K) | (refine Goes.step rfl (fun _ h₁ => ?_); rw [stepG_unwanted rfl rfl]; simp only [goes_go]; refine ⟨D0.nil, ?_⟩; replace hF := Sm.trans hF h₁; clear h₁; walk_nrm))
    refine Goes.stop fun w₁ h₁ => ?_
    replace hF := Sm.trans hF h₁
    clear h₁
    refine beside_call rfl rfl (by decide) rfl Tryz.func44 rfl rfl (by kernel_rfl) (show _ = (#[.string line, .string ⟨#[32]⟩] : Array Value) from by walk_nrm) (fun d => bgives_sm (hF.trans ⟨d, rfl⟩) (HC.out _)) ?_
    rintro r w3 ⟨rfl, b3⟩
    have h := h.below b3
    have b := bel_nxt b b3
    clear hF b3 HC
    have hF := Sm.refl w3
    walk_nrm
    by_cases hc1 : c = 1
    · have HW := Lib.hid (HWY.out hk hc1)
      subst hc1
      clear HWN HWY hk
      refine beside_by (n := 400) ?_
      repeat (first | a_ctl hF Sm.trans D0.nil | (refine Goes.step rfl (fun _ h₁ => ?_); replace hF := Sm.trans hF h₁; clear h₁; refine goes_oper_k rfl rfl (by decide) (fun K hK => ?_); go_simp; refine hK _ _ ⟨still_listed rfl, ?_⟩; clear hK K) | (refine Goes.step rfl (fun _ h₁ => ?_); rw [stepG_unwanted rfl rfl]; simp only [goes_go]; refine ⟨D0.nil, ?_⟩; replace hF := Sm.trans hF h₁; clear h₁; walk_nrm))
      a_cond false hF Sm.trans D0.nil
      repeat (first | a_ctl hF Sm.trans D0.nil | (refine Goes.step rfl (fun _ h₁ => ?_); replace hF := Sm.trans hF h₁; clear h₁; refine goes_oper_k rfl rfl (by decide) (fun K hK => ?_); go_simp; refine hK _ _ ⟨still_listed rfl, ?_⟩; clear hK K) | (refine Goes.step rfl (fun _ h₁ => ?_); rw [stepG_unwanted rfl rfl]; simp only [goes_go]; refine ⟨D0.nil, ?_⟩; replace hF := Sm.trans hF h₁; clear h₁; walk_nrm))
      refine Goes.stop fun w₁ h₁ => ?_
      replace hF := Sm.trans hF h₁
      clear h₁
      refine beside_call rfl rfl (by decide) rfl Tryz.func45 rfl rfl (by kernel_rfl) (show _ = (#[.string q] : Array Value) from by walk_nrm) (fun d => rowOf_sm h hqs (hF.trans ⟨d, rfl⟩)) ?_
      rintro r w4 ⟨v1, er, rfl, b4, hm⟩
      have h := h.below b4
      have b := bel_nxt b b4
      clear hF b4
      cases hr : rowT q with
      | none =>
        rw [hr] at hm
        obtain ⟨rfl, rfl⟩ := hm
        have HW : Hid (workP line = .wrong) := Lib.hid (by rw [HW.out, hr])
        clear hr
        have hF := Sm.refl w4
        walk_nrm
        refine beside_by (n := 400) ?_
        repeat (first | a_ctl hF Sm.trans D0.nil | (refine Goes.step rfl (fun _ h₁ => ?_); replace hF := Sm.trans hF h₁; clear h₁; refine goes_oper_k rfl rfl (by decide) (fun K hK => ?_); go_simp; refine hK _ _ ⟨still_listed rfl, ?_⟩; clear hK K) | (refine Goes.step rfl (fun _ h₁ => ?_); rw [stepG_unwanted rfl rfl]; simp only [goes_go]; refine ⟨D0.nil, ?_⟩; replace hF := Sm.trans hF h₁; clear h₁; walk_nrm))
        a_cond true hF Sm.trans D0.nil
        repeat (first | a_ctl hF Sm.trans D0.nil | (refine Goes.step rfl (fun _ h₁ => ?_); replace hF := Sm.trans hF h₁; clear h₁; refine goes_oper_k rfl rfl (by decide) (fun K hK => ?_); go_simp; refine hK _ _ ⟨still_listed rfl, ?_⟩; clear hK K) | (refine Goes.step rfl (fun _ h₁ => ?_); rw [stepG_unwanted rfl rfl]; simp only [goes_go]; refine ⟨D0.nil, ?_⟩; replace hF := Sm.trans hF h₁; clear h₁; walk_nrm))
        refine Goes.step rfl (fun _ h₁ => ?_)
        rw [stepG_ret']
        simp only [goes_go]
        refine ⟨D0.nil, ?_⟩
        refine Goes.stop fun w₁ h₂ => .at0 fun d => ?_
        have hF := (Sm.trans hF h₁).trans (h₂.trans ⟨d, rfl⟩)
        exact leave2 Tryz.func27 rfl (R := WorkRet line w) ⟨_, _, rfl, b.sm hF, by rw [HW.out]; exact ⟨_, rfl⟩⟩
      | some xs =>
        rw [hr] at hm
        obtain ⟨own, rfl⟩ := hm
        have hrd := own.rd
        have hvr := rowT_vr hr
        obtain ⟨ys, hys⟩ : ∃ ys, ys = wordL p xs := ⟨_, rfl⟩
        have HW : Hid (workP line = if ys = [] then .wrong else .row ys) := Lib.hid (by rw [HW.out, hr, hys])
        have HYS := Lib.hid hys
        clear hr hys own
        have hF := Sm.refl w4
        walk_nrm
        refine beside_by (n := 400) ?_
        repeat (first | a_ctl hF Sm.trans D0.nil | (refine Goes.step rfl (fun _ h₁ => ?_); replace hF := Sm.trans hF h₁; clear h₁; refine goes_oper_k rfl rfl (by decide) (fun K hK => ?_); go_simp; refine hK _ _ ⟨still_listed rfl, ?_⟩; clear hK K) | (refine Goes.step rfl (fun _ h₁ => ?_); rw [stepG_unwanted rfl rfl]; simp only [goes_go]; refine ⟨D0.nil, ?_⟩; replace hF := Sm.trans hF h₁; clear h₁; walk_nrm))
        a_cond false hF Sm.trans D0.nil
        repeat (first | a_ctl hF Sm.trans D0.nil | (refine Goes.step rfl (fun _ h₁ => ?_); replace hF := Sm.trans hF h₁; clear h₁; refine goes_oper_k rfl rfl (by decide) (fun K hK => ?_); go_simp; refine hK _ _ ⟨still_listed rfl, ?_⟩; clear hK K) | (refine Goes.step rfl (fun _ h₁ => ?_); rw [stepG_unwanted rfl rfl]; simp only [goes_go]; refine ⟨D0.nil, ?_⟩; replace hF := Sm.trans hF h₁; clear h₁; walk_nrm))
        refine Goes.stop fun w₁ h₁ => ?_
        replace hF := Sm.trans hF h₁
        clear h₁
        refine beside_call_any rfl rfl (by decide) rfl (caps := #[]) rfl E2.out e3 e4 (vals := #[v1]) (by simp [Act.eval]) (fun d => wordC_sm e5 hrd hvr (hF.trans ⟨d, rfl⟩)) ?_
        rintro r w5 ⟨rd5, b5⟩
        rw [← HYS.out] at rd5
        obtain ⟨ar, cr, hv5, -⟩ := id rd5
        subst hv5
        have b := bel_nxt b b5
        clear hF b5 hrd hvr
        obtain ⟨n, hn⟩ : ∃ n, n = ys.length := ⟨_, rfl⟩
        have HN := Lib.hid hn
        have RD := Lib.hid rd5
        rw [← hn] at RD ⊢
        clear rd5 hn
        have hF := Sm.refl w5
        walk_nrm
        by_cases hn0 : n = 0
        · subst hn0
          have HW : Hid (workP line = .wrong) := Lib.hid (by rw [HW.out, if_pos (List.eq_nil_of_length_eq_zero HN.out.symm)])
          refine beside_by (n := 400) ?_
          repeat (first | a_ctl hF Sm.trans D0.nil | (refine Goes.step rfl (fun _ h₁ => ?_); replace hF := Sm.trans hF h₁; clear h₁; refine goes_oper_k rfl rfl (by decide) (fun K hK => ?_); go_simp; refine hK _ _ ⟨still_listed rfl, ?_⟩; clear hK K) | (refine Goes.step rfl (fun _ h₁ => ?_); rw [stepG_unwanted rfl rfl]; simp only [goes_go]; refine ⟨D0.nil, ?_⟩; replace hF := Sm.trans hF h₁; clear h₁; walk_nrm))
          a_cond true hF Sm.trans D0.nil
          repeat (first | a_ctl hF Sm.trans D0.nil | (refine Goes.step rfl (fun _ h₁ => ?_); replace hF := Sm.trans hF h₁; clear h₁; refine goes_oper_k rfl rfl (by decide) (fun K hK => ?_); go_simp; refine hK _ _ ⟨still_listed rfl, ?_⟩; clear hK K) | (refine Goes.step rfl (fun _ h₁ => ?_); rw [stepG_unwanted rfl rfl]; simp only [goes_go]; refine ⟨D0.nil, ?_⟩; replace hF := Sm.trans hF h₁; clear h₁; walk_nrm))
          refine Goes.step rfl (fun _ h₁ => ?_)
          rw [stepG_ret']
          simp only [goes_go]
          refine ⟨D0.nil, ?_⟩
          refine Goes.stop fun w₁ h₂ => .at0 fun d => ?_
          have hF := (Sm.trans hF h₁).trans (h₂.trans ⟨d, rfl⟩)
          exact leave2 Tryz.func27 rfl (R := WorkRet line w) ⟨_, _, rfl, b.sm hF, by rw [HW.out]; exact ⟨_, rfl⟩⟩
        · have i2 : ((n : Int) == 0) = false := beq_eq_false_iff_ne.2 (by omega)
          have HW : Hid (workP line = .row ys) := Lib.hid (by rw [HW.out, if_neg (fun e => hn0 (by rw [HN.out, e]; rfl))])
          refine beside_by (n := 400) ?_
          repeat (first | a_ctl hF Sm.trans D0.nil | (refine Goes.step rfl (fun _ h₁ => ?_); replace hF := Sm.trans hF h₁; clear h₁; refine goes_oper_k rfl rfl (by decide) (fun K hK => ?_); go_simp; refine hK _ _ ⟨still_listed rfl, ?_⟩; clear hK K) | (refine Goes.step rfl (fun _ h₁ => ?_); rw [stepG_unwanted rfl rfl]; simp only [goes_go]; refine ⟨D0.nil, ?_⟩; replace hF := Sm.trans hF h₁; clear h₁; walk_nrm))
          a_cond false hF Sm.trans D0.nil
          repeat (first | a_ctl hF Sm.trans D0.nil | (refine Goes.step rfl (fun _ h₁ => ?_); replace hF := Sm.trans hF h₁; clear h₁; refine goes_oper_k rfl rfl (by decide) (fun K hK => ?_); go_simp; refine hK _ _ ⟨still_listed rfl, ?_⟩; clear hK K) | (refine Goes.step rfl (fun _ h₁ => ?_); rw [stepG_unwanted rfl rfl]; simp only [goes_go]; refine ⟨D0.nil, ?_⟩; replace hF := Sm.trans hF h₁; clear h₁; walk_nrm))
          refine Goes.step rfl (fun _ h₁ => ?_)
          rw [stepG_ret']
          simp only [goes_go]
          refine ⟨D0.nil, ?_⟩
          refine Goes.stop fun w₁ h₂ => .at0 fun d => ?_
          have hF := (Sm.trans hF h₁).trans (h₂.trans ⟨d, rfl⟩)
          exact leave2 Tryz.func27 rfl (R := WorkRet line w) ⟨_, _, rfl, b.sm hF, by rw [HW.out]; exact ⟨RD.out.sm hF, rfl⟩⟩
    · have HW := Lib.hid (HWN.out (by rw [hk]; simp [hc1]))
      have i1 : ((c : Int) != 1) = true := bne_iff_ne.2 (by omega)
      clear HWN HWY hk hqs
      refine beside_by (n := 400) ?_
      repeat (first | a_ctl hF Sm.trans D0.nil | (refine Goes.step rfl (fun _ h₁ => ?_); replace hF := Sm.trans hF h₁; clear h₁; refine goes_oper_k rfl rfl (by decide) (fun K hK => ?_); go_simp; refine hK _ _ ⟨still_listed rfl, ?_⟩; clear hK K) | (refine Goes.step rfl (fun _ h₁ => ?_); rw [stepG_unwanted rfl rfl]; simp only [goes_go]; refine ⟨D0.nil, ?_⟩; replace hF := Sm.trans hF h₁; clear h₁; walk_nrm))
      a_cond true hF Sm.trans D0.nil
      repeat a_ctl hF Sm.trans D0.nil
      refine Goes.stop fun w₁ h₁ => ?_
      obtain ⟨dq, rfl⟩ := hF.trans h₁
      obtain ⟨be, hbe⟩ := h.unk
      refine beside_region (S := fun W => Sm w3 W) (by kernel_rfl) (by decide) (fun d => ?_) (fun _ _ q => q)
      have hs4 : Sm w3 ((w3.at dq).at d) := ⟨d, rfl⟩
      clear hF h₁
      refine anyB_take 0 _ (.iface 179 (.pointer (some be))) (fun _ _ h => Sm.trans h ⟨_, rfl⟩) rfl (by kernel_rfl) (by kernel_rfl) (by kernel_rfl) (.inl ⟨by rfl, fun W' hS' => ⟨run_eq_of (by intro K hK; obtain ⟨dd, rfl⟩ := hS'; have c := (show (w3.at dd).cell? ⟨0, 0, none⟩ = _ from hbe); go_simp; exact hK), still_listed rfl⟩⟩) hs4 ?_
      walk_nrm
      refine anyB_take 1 _ (.slice none 0 0) (fun _ _ h => Sm.trans h ⟨_, rfl⟩) rfl (by kernel_rfl) (by kernel_rfl) (by kernel_rfl) (.inl ⟨by rfl, fun W' hS' => ⟨run_eq_of (by intro K hK; go_simp; exact hK), still_listed rfl⟩⟩) hs4 ?_
      walk_nrm
      refine anyB_take 2 _ (.iface 179 (.pointer (some be))) (fun _ _ h => Sm.trans h ⟨_, rfl⟩) rfl (by kernel_rfl) (by kernel_rfl) (by kernel_rfl) (.inl ⟨by rfl, fun W' hS' => ⟨run_eq_of (by intro K hK; go_simp; exact hK), still_listed rfl⟩⟩) hs4 ?_
      walk_nrm
      refine anyB_done (by kernel_rfl) (fun d2 => ?_) _
      have hF : Sm w3 (((w3.at dq).at d).at d2) := ⟨d2, rfl⟩
      refine beside_by (n := 400) ?_
      repeat a_ctl hF Sm.trans D0.nil
      refine Goes.step rfl (fun _ h₁ => ?_)
      rw [stepG_ret']
      simp only [goes_go]
      refine ⟨D0.nil, ?_⟩
      refine Goes.stop fun w₁ h₂ => .at0 fun d => ?_
      have hF := (Sm.trans hF h₁).trans (h₂.trans ⟨d, rfl⟩)
      exact leave2 Tryz.func27 rfl (R := WorkRet line w) ⟨_, _, rfl, b.sm hF, by rw [HW.out]; exact ⟨_, rfl⟩⟩
end Go.Proofs.YtagncoahobghpacGreatDoor
