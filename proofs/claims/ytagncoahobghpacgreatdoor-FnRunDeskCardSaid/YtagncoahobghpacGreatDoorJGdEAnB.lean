/-
  answerTo and RunDesk of the desk in company.
-/
import Derived.Test.YtagncoahobghpacGreatDoorJGdEWoB
namespace Go.Proofs.YtagncoahobghpacGreatDoor
open Go Go.Conc Go.RowKit
set_option linter.unusedVariables false
set_option maxRecDepth 100000

theorem workOut_sm {line : ByteArray} {w w1 : World} (h : Dsk w) (hl : line.size ≤ 1048576) (hs : Sm w w1) : BCalls Tryz.prog 27 #[.string line] w1 (WorkRet line w) := by
  obtain ⟨d, rfl⟩ := hs
  exact (workOut_b line _ (h.sm ⟨d, rfl⟩) hl).mono fun v w' ⟨vs, er, h1, h2, h3⟩ => ⟨vs, er, h1, ⟨h2.os, h2.tape, h2.output, h2.size, h2.block⟩, h3⟩
theorem bgivesB_sm {x : Value} {B : Nat} {f : FuncId} {args : Array Value} {w w1 : World} (hs : Sm w w1) (h : BCalls Tryz.prog f args w1 (BGives x B w1)) : BCalls Tryz.prog f args w1 (BGives x B w) := by
  obtain ⟨d, rfl⟩ := hs
  exact h.mono fun v w' ⟨h1, h2⟩ => ⟨h1, ⟨h2.os, h2.tape, h2.output, h2.size, h2.block⟩⟩

set_option maxHeartbeats 8000000 in
theorem answerTo_b (line : ByteArray) (w : World) (h : Dsk w) (hs : line.size ≤ 1048576) : BCalls Tryz.prog 21 #[.string line] w (BGives (.string (ansT (workP line))) w.heap.size w) := by
  intro cs
  rw [enter_at _ Tryz.func21 rfl]
  simp only [Tryz.f21, List.size_toArray, List.length_cons, List.length_nil, Nat.reduceAdd, Nat.reduceSub, Array.replicate_succ, Array.replicate_zero, List.push_toArray, List.append_toArray, List.nil_append, List.cons_append]
  have hF : Sm w w := Sm.refl w
  refine beside_by (n := 400) ?_
  repeat (first | a_ctl hF Sm.trans D0.nil | (refine Goes.step rfl (fun _ h₁ => ?_); replace hF := Sm.trans hF h₁; clear h₁; refine goes_oper_k rfl rfl (by decide) (fun K hK => ?_); go_simp; refine hK _ _ ⟨still_listed rfl, ?_⟩; clear hK K) | (refine Goes.step rfl (fun _ h₁ => ?_); rw [stepG_unwanted rfl rfl]; simp only [goes_go]; refine ⟨D0.nil, ?_⟩; replace hF := Sm.trans hF h₁; clear h₁; walk_nrm))
  refine Goes.stop fun w₁ h₁ => ?_
  replace hF := Sm.trans hF h₁
  clear h₁
  refine beside_call rfl rfl (by decide) rfl Tryz.func27 rfl rfl (by kernel_rfl) (show _ = (#[.string line] : Array Value) from by walk_nrm) (fun d => workOut_sm h hs (hF.trans ⟨d, rfl⟩)) ?_
  rintro r w1 ⟨vs, er, rfl, b, hm⟩
  have h := h.below b
  clear hF
  have hF := Sm.refl w1
  walk_nrm
  refine beside_by (n := 400) ?_
  (refine Goes.step rfl (fun _ h₁ => ?_); replace hF := Sm.trans hF h₁; clear h₁; refine goes_oper_k rfl rfl (by decide) (fun K hK => ?_); go_simp; refine hK _ _ ⟨still_listed rfl, ?_⟩; clear hK K)
  (refine Goes.step rfl (fun _ h₁ => ?_); replace hF := Sm.trans hF h₁; clear h₁; refine goes_oper_k rfl rfl (by decide) (fun K hK => ?_); go_simp; refine hK _ _ ⟨still_listed rfl, ?_⟩; clear hK K)
  (refine Goes.step rfl (fun _ h₁ => ?_); replace hF := Sm.trans hF h₁; clear h₁; refine goes_oper_k rfl rfl (by decide) (fun K hK => ?_); go_simp; refine hK _ _ ⟨still_listed rfl, ?_⟩; clear hK K)
  (refine Goes.step rfl (fun _ h₁ => ?_); replace hF := Sm.trans hF h₁; clear h₁; refine goes_oper_k rfl rfl (by decide) (fun K hK => ?_); go_simp; refine hK _ _ ⟨still_listed rfl, ?_⟩; clear hK K)
  (refine Goes.step rfl (fun _ h₁ => ?_); replace hF := Sm.trans hF h₁; clear h₁; refine goes_oper_k rfl rfl (by decide) (fun K hK => ?_); go_simp; refine hK _ _ ⟨still_listed rfl, ?_⟩; clear hK K)
  repeat a_ctl hF Sm.trans D0.nil
  (refine Goes.step rfl (fun _ h₁ => ?_); replace hF := Sm.trans hF h₁; clear h₁; refine goes_oper_k rfl rfl (by decide) (fun K hK => ?_); go_simp; refine hK _ _ ⟨still_listed rfl, ?_⟩; clear hK K)
  refine Goes.stop fun w₁ h₁ => ?_
  obtain ⟨d0, rfl⟩ := hF
  obtain ⟨d1, rfl⟩ := h₁
  obtain ⟨T, hT⟩ : ∃ T, T = w1.heap.size := ⟨_, rfl⟩
  rw [show (w1.at d0).heap.size = T from hT.symm]
  have bt : Below w1.heap.size w1 (((w1.at d0).alloc (.cells #[.string ⟨#[]⟩] 56)).at d1) := ((Below.refl w1.heap.size w1).alloc (Nat.le_refl _) (.cells #[.string ⟨#[]⟩] 56)).sm ⟨d1, rfl⟩
  have ct : (((w1.at d0).alloc (.cells #[.string ⟨#[]⟩] 56)).at d1).cell? ⟨T, 0, none⟩ = some (.string ⟨#[]⟩) := by rw [hT]; show (w1.alloc (.cells #[.string ⟨#[]⟩] 56)).cell? _ = _; rw [World.cell?_alloc_at _ _ _ _ rfl]; rfl
  have ft : (((w1.at d0).alloc (.cells #[.string ⟨#[]⟩] 56)).at d1).frozen? ⟨T, 0, none⟩ = false := by rw [hT]; show (w1.alloc (.cells #[.string ⟨#[]⟩] 56)).frozen? _ = _; simp
  have hTw : w.heap.size ≤ T := by rw [hT]; exact b.size
  have h := h.below bt
  have b := bel_nxt b bt
  have hl : T < (((w1.at d0).alloc (.cells #[.string ⟨#[]⟩] 56)).at d1).heap.size := by rw [hT]; show _ < (w1.alloc (.cells #[.string ⟨#[]⟩] 56)).heap.size; rw [World.size_alloc]; exact Nat.lt_succ_self _
  cases hw : workP line with
  | row xs =>
    rw [hw] at hm
    have HW := Lib.hid hw
    obtain ⟨rd, rfl⟩ := hm
    have rd2 := rd.below bt (Nat.le_refl _)
    obtain ⟨hx1, hx2⟩ := workP_row hw
    have HL := Lib.hid fun w r h => listOf_b vs xs w r h (by omega) hx2 (row_join hx1 hx2)
    clear hw rd hx1 hx2
    generalize ((w1.at d0).alloc (.cells #[.string ⟨#[]⟩] 56)).at d1 = w2 at b ct ft h hl rd2 ⊢
    clear hs hT bt
    have hF := Sm.refl w2
    try walk_nrm
    refine beside_by (n := 400) ?_
    repeat (first | a_ctl hF Sm.trans D0.nil | (refine Goes.step rfl (fun _ h₁ => ?_); replace hF := Sm.trans hF h₁; clear h₁; refine goes_oper_k rfl rfl (by decide) (fun K hK => ?_); go_simp; refine hK _ _ ⟨still_listed rfl, ?_⟩; clear hK K) | (refine Goes.step rfl (fun _ h₁ => ?_); rw [stepG_unwanted rfl rfl]; simp only [goes_go]; refine ⟨D0.nil, ?_⟩; replace hF := Sm.trans hF h₁; clear h₁; walk_nrm))
    a_cond true hF Sm.trans D0.nil
    repeat (first | a_ctl hF Sm.trans D0.nil | (refine Goes.step rfl (fun _ h₁ => ?_); replace hF := Sm.trans hF h₁; clear h₁; refine goes_oper_k rfl rfl (by decide) (fun K hK => ?_); go_simp; refine hK _ _ ⟨still_listed rfl, ?_⟩; clear hK K) | (refine Goes.step rfl (fun _ h₁ => ?_); rw [stepG_unwanted rfl rfl]; simp only [goes_go]; refine ⟨D0.nil, ?_⟩; replace hF := Sm.trans hF h₁; clear h₁; walk_nrm))
    refine Goes.stop fun w₁ h₁ => ?_
    replace hF := Sm.trans hF h₁
    clear h₁
    refine beside_call rfl rfl (by decide) rfl Tryz.func28 rfl rfl (by kernel_rfl) (show _ = (#[vs] : Array Value) from by walk_nrm) (fun d => bgives_sm (hF.trans ⟨d, rfl⟩) (HL.out _ (rd2.sm (hF.trans ⟨d, rfl⟩)) (h.sm (hF.trans ⟨d, rfl⟩)))) ?_
    rintro r w3 ⟨rfl, b3⟩
    have b := bel_nxt b b3
    clear hF b3 rd2 HL ct ft
    have hF := Sm.refl w3
    walk_nrm
    refine beside_by (n := 400) ?_
    repeat (first | a_ctl hF Sm.trans D0.nil | (refine Goes.step rfl (fun _ h₁ => ?_); replace hF := Sm.trans hF h₁; clear h₁; refine goes_oper_k rfl rfl (by decide) (fun K hK => ?_); go_simp; refine hK _ _ ⟨still_listed rfl, ?_⟩; clear hK K) | (refine Goes.step rfl (fun _ h₁ => ?_); rw [stepG_unwanted rfl rfl]; simp only [goes_go]; refine ⟨D0.nil, ?_⟩; replace hF := Sm.trans hF h₁; clear h₁; walk_nrm))
    try (refine Goes.step rfl (fun _ h₁ => ?_); refine goes_of_eq (stepG_exit rfl) ?_; simp only [goes_go]; refine ⟨D0.nil, ?_⟩; replace hF := Sm.trans hF h₁; clear h₁)
    repeat (first | a_ctl hF Sm.trans D0.nil | (refine Goes.step rfl (fun _ h₁ => ?_); replace hF := Sm.trans hF h₁; clear h₁; refine goes_oper_k rfl rfl (by decide) (fun K hK => ?_); go_simp; refine hK _ _ ⟨still_listed rfl, ?_⟩; clear hK K) | (refine Goes.step rfl (fun _ h₁ => ?_); rw [stepG_unwanted rfl rfl]; simp only [goes_go]; refine ⟨D0.nil, ?_⟩; replace hF := Sm.trans hF h₁; clear h₁; walk_nrm))
    refine Goes.step rfl (fun _ h₁ => ?_)
    rw [stepG_ret']
    simp only [goes_go]
    refine ⟨D0.nil, ?_⟩
    refine Goes.stop fun w₁ h₂ => .at0 fun d => ?_
    have hF := (Sm.trans hF h₁).trans (h₂.trans ⟨d, rfl⟩)
    exact leave1 Tryz.func21 rfl (R := BGives (.string (ansT (.row xs))) w.heap.size w) ⟨rfl, b.sm hF⟩
  | wrong =>
    rw [hw] at hm
    have HW := Lib.hid hw
    obtain ⟨s, rfl⟩ := hm
    clear hw
    generalize ((w1.at d0).alloc (.cells #[.string ⟨#[]⟩] 56)).at d1 = w2 at b ct ft h hl ⊢
    clear hs hT bt
    have hF := Sm.refl w2
    try walk_nrm
    refine beside_by (n := 400) ?_
    repeat (first | a_ctl hF Sm.trans D0.nil | (refine Goes.step rfl (fun _ h₁ => ?_); replace hF := Sm.trans hF h₁; clear h₁; refine goes_oper_k rfl rfl (by decide) (fun K hK => ?_); go_simp; refine hK _ _ ⟨still_listed rfl, ?_⟩; clear hK K) | (refine Goes.step rfl (fun _ h₁ => ?_); rw [stepG_unwanted rfl rfl]; simp only [goes_go]; refine ⟨D0.nil, ?_⟩; replace hF := Sm.trans hF h₁; clear h₁; walk_nrm))
    a_cond false hF Sm.trans D0.nil
    repeat (first | a_ctl hF Sm.trans D0.nil | (refine Goes.step rfl (fun _ h₁ => ?_); replace hF := Sm.trans hF h₁; clear h₁; refine goes_oper_k rfl rfl (by decide) (fun K hK => ?_); go_simp; refine hK _ _ ⟨still_listed rfl, ?_⟩; clear hK K) | (refine Goes.step rfl (fun _ h₁ => ?_); rw [stepG_unwanted rfl rfl]; simp only [goes_go]; refine ⟨D0.nil, ?_⟩; replace hF := Sm.trans hF h₁; clear h₁; walk_nrm))
    refine Goes.stop fun w₁ h₁ => ?_
    replace hF := Sm.trans hF h₁
    clear h₁
    refine beside_call rfl rfl (by decide) rfl Tryz.func29 rfl rfl (by kernel_rfl) (show _ = (#[.iface 56 (.agg #[.string s]), .iface 58 (.pointer (some ⟨T, 0, none⟩))] : Array Value) from by walk_nrm) (fun d => bgivesB_sm (hF.trans ⟨d, rfl⟩) (asHit_b s ⟨T, 0, none⟩ _ _ (h.sm (hF.trans ⟨d, rfl⟩)) (show _ = _ from ((hF.trans ⟨d, rfl⟩)).cell ⟨T, 0, none⟩ ▸ ct) (show _ = _ from ((hF.trans ⟨d, rfl⟩)).frozen ⟨T, 0, none⟩ ▸ ft))) ?_
    rintro r w3 ⟨rfl, b3⟩
    have b : Below w.heap.size w w3 := b.trans (b3.mono hTw)
    clear hF b3 ct ft
    have hF := Sm.refl w3
    walk_nrm
    refine beside_by (n := 400) ?_
    repeat (first | a_ctl hF Sm.trans D0.nil | (refine Goes.step rfl (fun _ h₁ => ?_); replace hF := Sm.trans hF h₁; clear h₁; refine goes_oper_k rfl rfl (by decide) (fun K hK => ?_); go_simp; refine hK _ _ ⟨still_listed rfl, ?_⟩; clear hK K) | (refine Goes.step rfl (fun _ h₁ => ?_); rw [stepG_unwanted rfl rfl]; simp only [goes_go]; refine ⟨D0.nil, ?_⟩; replace hF := Sm.trans hF h₁; clear h₁; walk_nrm))
    a_cond true hF Sm.trans D0.nil
    repeat (first | a_ctl hF Sm.trans D0.nil | (refine Goes.step rfl (fun _ h₁ => ?_); replace hF := Sm.trans hF h₁; clear h₁; refine goes_oper_k rfl rfl (by decide) (fun K hK => ?_); go_simp; refine hK _ _ ⟨still_listed rfl, ?_⟩; clear hK K) | (refine Goes.step rfl (fun _ h₁ => ?_); rw [stepG_unwanted rfl rfl]; simp only [goes_go]; refine ⟨D0.nil, ?_⟩; replace hF := Sm.trans hF h₁; clear h₁; walk_nrm))
    try (refine Goes.step rfl (fun _ h₁ => ?_); refine goes_of_eq (stepG_exit rfl) ?_; simp only [goes_go]; refine ⟨D0.nil, ?_⟩; replace hF := Sm.trans hF h₁; clear h₁)
    repeat (first | a_ctl hF Sm.trans D0.nil | (refine Goes.step rfl (fun _ h₁ => ?_); replace hF := Sm.trans hF h₁; clear h₁; refine goes_oper_k rfl rfl (by decide) (fun K hK => ?_); go_simp; refine hK _ _ ⟨still_listed rfl, ?_⟩; clear hK K) | (refine Goes.step rfl (fun _ h₁ => ?_); rw [stepG_unwanted rfl rfl]; simp only [goes_go]; refine ⟨D0.nil, ?_⟩; replace hF := Sm.trans hF h₁; clear h₁; walk_nrm))
    refine Goes.step rfl (fun _ h₁ => ?_)
    rw [stepG_ret']
    simp only [goes_go]
    refine ⟨D0.nil, ?_⟩
    refine Goes.stop fun w₁ h₂ => .at0 fun d => ?_
    have hF := (Sm.trans hF h₁).trans (h₂.trans ⟨d, rfl⟩)
    exact leave1 Tryz.func21 rfl (R := BGives (.string (ansT .wrong)) w.heap.size w) ⟨rfl, b.sm hF⟩
  | what =>
    rw [hw] at hm
    have HW := Lib.hid hw
    obtain ⟨be, rfl⟩ := hm
    clear hw
    generalize ((w1.at d0).alloc (.cells #[.string ⟨#[]⟩] 56)).at d1 = w2 at b ct ft h hl ⊢
    clear hs hT bt
    have hF := Sm.refl w2
    try walk_nrm
    refine beside_by (n := 400) ?_
    repeat (first | a_ctl hF Sm.trans D0.nil | (refine Goes.step rfl (fun _ h₁ => ?_); replace hF := Sm.trans hF h₁; clear h₁; refine goes_oper_k rfl rfl (by decide) (fun K hK => ?_); go_simp; refine hK _ _ ⟨still_listed rfl, ?_⟩; clear hK K) | (refine Goes.step rfl (fun _ h₁ => ?_); rw [stepG_unwanted rfl rfl]; simp only [goes_go]; refine ⟨D0.nil, ?_⟩; replace hF := Sm.trans hF h₁; clear h₁; walk_nrm))
    a_cond false hF Sm.trans D0.nil
    repeat (first | a_ctl hF Sm.trans D0.nil | (refine Goes.step rfl (fun _ h₁ => ?_); replace hF := Sm.trans hF h₁; clear h₁; refine goes_oper_k rfl rfl (by decide) (fun K hK => ?_); go_simp; refine hK _ _ ⟨still_listed rfl, ?_⟩; clear hK K) | (refine Goes.step rfl (fun _ h₁ => ?_); rw [stepG_unwanted rfl rfl]; simp only [goes_go]; refine ⟨D0.nil, ?_⟩; replace hF := Sm.trans hF h₁; clear h₁; walk_nrm))
    refine Goes.stop fun w₁ h₁ => ?_
    replace hF := Sm.trans hF h₁
    clear h₁
    refine beside_call rfl rfl (by decide) rfl Tryz.func29 rfl rfl (by kernel_rfl) (show _ = (#[.iface 179 (.pointer (some be)), .iface 58 (.pointer (some ⟨T, 0, none⟩))] : Array Value) from by walk_nrm) (fun d => bgives_sm (hF.trans ⟨d, rfl⟩) (asMiss_b be ⟨T, 0, none⟩ _ _ (h.sm (hF.trans ⟨d, rfl⟩)) (show _ = _ from ((hF.trans ⟨d, rfl⟩)).cell ⟨T, 0, none⟩ ▸ ct) (show _ = _ from ((hF.trans ⟨d, rfl⟩)).frozen ⟨T, 0, none⟩ ▸ ft))) ?_
    rintro r w3 ⟨rfl, b3⟩
    have b : Below w.heap.size w w3 := bel_nxt b b3
    clear hF b3 ct ft
    have hF := Sm.refl w3
    walk_nrm
    refine beside_by (n := 400) ?_
    repeat (first | a_ctl hF Sm.trans D0.nil | (refine Goes.step rfl (fun _ h₁ => ?_); replace hF := Sm.trans hF h₁; clear h₁; refine goes_oper_k rfl rfl (by decide) (fun K hK => ?_); go_simp; refine hK _ _ ⟨still_listed rfl, ?_⟩; clear hK K) | (refine Goes.step rfl (fun _ h₁ => ?_); rw [stepG_unwanted rfl rfl]; simp only [goes_go]; refine ⟨D0.nil, ?_⟩; replace hF := Sm.trans hF h₁; clear h₁; walk_nrm))
    a_cond false hF Sm.trans D0.nil
    repeat (first | a_ctl hF Sm.trans D0.nil | (refine Goes.step rfl (fun _ h₁ => ?_); replace hF := Sm.trans hF h₁; clear h₁; refine goes_oper_k rfl rfl (by decide) (fun K hK => ?_); go_simp; refine hK _ _ ⟨still_listed rfl, ?_⟩; clear hK K) | (refine Goes.step rfl (fun _ h₁ => ?_); rw [stepG_unwanted rfl rfl]; simp only [goes_go]; refine ⟨D0.nil, ?_⟩; replace hF := Sm.trans hF h₁; clear h₁; walk_nrm))
    try (refine Goes.step rfl (fun _ h₁ => ?_); refine goes_of_eq (stepG_exit rfl) ?_; simp only [goes_go]; refine ⟨D0.nil, ?_⟩; replace hF := Sm.trans hF h₁; clear h₁)
    repeat (first | a_ctl hF Sm.trans D0.nil | (refine Goes.step rfl (fun _ h₁ => ?_); replace hF := Sm.trans hF h₁; clear h₁; refine goes_oper_k rfl rfl (by decide) (fun K hK => ?_); go_simp; refine hK _ _ ⟨still_listed rfl, ?_⟩; clear hK K) | (refine Goes.step rfl (fun _ h₁ => ?_); rw [stepG_unwanted rfl rfl]; simp only [goes_go]; refine ⟨D0.nil, ?_⟩; replace hF := Sm.trans hF h₁; clear h₁; walk_nrm))
    refine Goes.step rfl (fun _ h₁ => ?_)
    rw [stepG_ret']
    simp only [goes_go]
    refine ⟨D0.nil, ?_⟩
    refine Goes.stop fun w₁ h₂ => .at0 fun d => ?_
    have hF := (Sm.trans hF h₁).trans (h₂.trans ⟨d, rfl⟩)
    exact leave1 Tryz.func21 rfl (R := BGives (.string (ansT .what)) w.heap.size w) ⟨rfl, b.sm hF⟩
end Go.Proofs.YtagncoahobghpacGreatDoor
