/-
  The law FnPartOf, in company (written by ch5part.py).
-/
import Derived.Test.YtagncoahobghpacPqB
import Derived.Test.YtagncoahobghpacPqT
import Derived.Test.YtagncoahobghpacPtD
import Derived.Test.YtagncoahobghpacT1
import Derived.StillTailTactics
namespace Go.Proofs.Ytagncoahobghpac
open Go Go.Conc Go.RowKit
set_option linter.unusedVariables false

theorem pqF_len (xs ys : List Int) : (pqF xs ys).length ≤ 17 := by
  unfold pqF
  split
  · rename_i h
    have := (vrB_of (ptB_of h).1).1
    rw [len_ptQ]; omega
  · simp
theorem prF_len (xs ys : List Int) : (prF xs ys).length ≤ 17 := by
  unfold prF
  split
  · rename_i h
    have := (vrB_of (ptB_of h).1).1
    have := (ptB_of h).2.2
    rw [len_ptR]; omega
  · simp

set_option maxRecDepth 100000 in
set_option maxHeartbeats 40000000 in
theorem lawPartOf_b (v : Value) (n : Nat) (w : World) (h : RdB w v n) :
    BCalls Try.prog 3 #[v] w (BSays true w) := by
  intro cs
  have h0 := h
  obtain ⟨ca, cap, hv, h2, -, -⟩ := h0
  rw [enter_at _ Try.func3 rfl]
  simp only [Try.f3, List.size_toArray, List.length_cons, List.length_nil, Nat.reduceAdd, Nat.reduceSub, Array.replicate_succ, Array.replicate_zero, List.push_toArray, List.append_toArray, List.nil_append, List.cons_append]
  have hF : Sm w w := Sm.refl w
  subst hv
  by_cases hb1 : n ≤ 1048576
  · have i1 : ¬ ((1048576 : Int) < (n : Int)) := by omega
    have bb := Below.refl w.heap.size w
    refine beside_by (n := 400) ?_
    repeat (first | a_ctl hF Sm.trans D0.nil | (refine Goes.step rfl (fun _ h₁ => ?_); replace hF := Sm.trans hF h₁; clear h₁; refine goes_oper_k rfl rfl (by decide) (fun K hK => ?_); go_simp; refine hK _ _ ⟨still_listed rfl, ?_⟩; clear hK K) | (refine Goes.step rfl (fun _ h₁ => ?_); rw [stepG_unwanted rfl rfl]; simp only [goes_go]; refine ⟨D0.nil, ?_⟩; replace hF := Sm.trans hF h₁; clear h₁; walk_nrm))
    a_cond false hF Sm.trans D0.nil
    refine Goes.stop fun w₁ h₁ => ?_
    replace hF := Sm.trans hF h₁
    clear h₁
    refine beside_by (n := 400) ?_
    repeat (first | a_ctl hF Sm.trans D0.nil | (refine Goes.step rfl (fun _ h₁ => ?_); replace hF := Sm.trans hF h₁; clear h₁; refine goes_oper_k rfl rfl (by decide) (fun K hK => ?_); go_simp; refine hK _ _ ⟨still_listed rfl, ?_⟩; clear hK K) | (refine Goes.step rfl (fun _ h₁ => ?_); rw [stepG_unwanted rfl rfl]; simp only [goes_go]; refine ⟨D0.nil, ?_⟩; replace hF := Sm.trans hF h₁; clear h₁; walk_nrm))
    refine Goes.stop fun w₁ h₁ => ?_
    replace hF := Sm.trans hF h₁
    clear h₁
    refine beside_call rfl rfl (by decide) rfl Try.func6 rfl rfl (by kernel_rfl) (show _ = (#[.slice ca n cap] : Array Value) from by walk_nrm) (fun d => bdrewp_sm (hF.trans ⟨d, rfl⟩) (drawPartOf_b _ n _ (h.sm (hF.trans ⟨d, rfl⟩)))) ?_
    rintro r w1 ⟨u1, u2, xs, ys, rfl, oa, ob, hl1, hl2, hw1, hw2, hG, b1⟩
    clear hF
    have bb := b1
    have ra := oa.rd
    have rb := ob.rd
    have hcp := own_capP ob
    clear oa ob hw1 hw2 b1 h
    have hm1 : xs.length ≤ maxLen := by unfold maxLen; omega
    have hm2 : ys.length ≤ maxLen := by unfold maxLen; omega
    have hb1 : xs.length ≤ 1048576 := by omega
    have hb2 : ys.length ≤ 1048576 := by omega
    obtain ⟨a2, c2, hv1, -⟩ := id ra
    obtain ⟨a3, c3, hv2, -⟩ := id rb
    subst hv1 hv2
    obtain ⟨zs, hzs⟩ : ∃ zs, zs = pqF xs ys := ⟨_, rfl⟩
    obtain ⟨rs, hrs⟩ : ∃ rs, rs = prF xs ys := ⟨_, rfl⟩
    have HZ1 := Lib.hid hzs
    have HZ2 := Lib.hid hrs
    have hz1 : zs.length ≤ 65 := by rw [hzs]; have := pqF_len xs ys; omega
    have hz2 : rs.length ≤ 65 := by rw [hrs]; have := prF_len xs ys; omega
    have hzm : zs.length ≤ maxLen := by unfold maxLen; omega
    have hrm : rs.length ≤ maxLen := by unfold maxLen; omega
    have hzb : zs.length ≤ 1048576 := by omega
    have HG := Lib.hid hG
    have HCP := Lib.hid hcp
    clear hzs hrs hG hcp
    have hF := Sm.refl w1
    walk_nrm
    cases hq : ptB xs ys with
    | false =>
      have HQ := Lib.hid hq
      clear hq
      refine beside_by (n := 400) ?_
      repeat (first | a_ctl hF Sm.trans D0.nil | (refine Goes.step rfl (fun _ h₁ => ?_); replace hF := Sm.trans hF h₁; clear h₁; refine goes_oper_k rfl rfl (by decide) (fun K hK => ?_); go_simp; refine hK _ _ ⟨still_listed rfl, ?_⟩; clear hK K) | (refine Goes.step rfl (fun _ h₁ => ?_); rw [stepG_unwanted rfl rfl]; simp only [goes_go]; refine ⟨D0.nil, ?_⟩; replace hF := Sm.trans hF h₁; clear h₁; walk_nrm))
      refine Goes.stop fun w₁ h₁ => ?_
      replace hF := Sm.trans hF h₁
      clear h₁
      refine beside_call rfl rfl (by decide) rfl Try.func7 rfl rfl (by kernel_rfl) (show _ = (#[.slice a2 xs.length c2, .slice a3 ys.length c3] : Array Value) from by walk_nrm) (fun d => bparts_sm (hF.trans ⟨d, rfl⟩) (implPartOf_b _ _ xs ys _ (ra.sm (hF.trans ⟨d, rfl⟩)) (rb.sm (hF.trans ⟨d, rfl⟩)) hb1 hb2 HCP.out HG.out)) ?_
      rintro r w2 ⟨p2, q2, rfl, op2, oq2, b2⟩
      clear hF
      have ra := ra.below b2 (Nat.le_refl _)
      have rb := rb.below b2 (Nat.le_refl _)
      have bb := bel_nxt bb b2
      have rp2 := op2.rd
      have rq2 := oq2.rd
      clear op2 oq2
      rw [← HZ1.out] at rp2
      rw [← HZ2.out] at rq2
      rw [HQ.out]
      have hF := Sm.refl w2
      walk_nrm
      refine beside_by (n := 400) ?_
      repeat (first | a_ctl hF Sm.trans D0.nil | (refine Goes.step rfl (fun _ h₁ => ?_); replace hF := Sm.trans hF h₁; clear h₁; refine goes_oper_k rfl rfl (by decide) (fun K hK => ?_); go_simp; refine hK _ _ ⟨still_listed rfl, ?_⟩; clear hK K) | (refine Goes.step rfl (fun _ h₁ => ?_); rw [stepG_unwanted rfl rfl]; simp only [goes_go]; refine ⟨D0.nil, ?_⟩; replace hF := Sm.trans hF h₁; clear h₁; walk_nrm))
      refine Goes.stop fun w₁ h₁ => ?_
      replace hF := Sm.trans hF h₁
      clear h₁
      refine beside_call rfl rfl (by decide) rfl Try.func8 rfl rfl (by kernel_rfl) (show _ = (#[.slice a2 xs.length c2, .slice a3 ys.length c3] : Array Value) from by walk_nrm) (fun d => bparts_sm (hF.trans ⟨d, rfl⟩) (specPartOf_b _ _ xs ys _ (ra.sm (hF.trans ⟨d, rfl⟩)) (rb.sm (hF.trans ⟨d, rfl⟩)) hb1 hb2 HG.out)) ?_
      rintro r w3 ⟨p3, q3, rfl, op3, oq3, b3⟩
      clear hF
      have ra := ra.below b3 (Nat.le_refl _)
      have rb := rb.below b3 (Nat.le_refl _)
      have rp2 := rp2.below b3 (Nat.le_refl _)
      have rq2 := rq2.below b3 (Nat.le_refl _)
      have bb := bel_nxt bb b3
      have rp3 := op3.rd
      have rq3 := oq3.rd
      clear op3 oq3
      rw [← HZ1.out] at rp3
      rw [← HZ2.out] at rq3
      rw [HQ.out]
      have hF := Sm.refl w3
      walk_nrm
      refine beside_by (n := 400) ?_
      repeat (first | a_ctl hF Sm.trans D0.nil | (refine Goes.step rfl (fun _ h₁ => ?_); replace hF := Sm.trans hF h₁; clear h₁; refine goes_oper_k rfl rfl (by decide) (fun K hK => ?_); go_simp; refine hK _ _ ⟨still_listed rfl, ?_⟩; clear hK K) | (refine Goes.step rfl (fun _ h₁ => ?_); rw [stepG_unwanted rfl rfl]; simp only [goes_go]; refine ⟨D0.nil, ?_⟩; replace hF := Sm.trans hF h₁; clear h₁; walk_nrm))
      refine Goes.stop fun w₁ h₁ => ?_
      replace hF := Sm.trans hF h₁
      clear h₁
      refine beside_call rfl rfl (by decide) rfl Try.func9 rfl rfl (by kernel_rfl) (show _ = (#[p2, p3] : Array Value) from by walk_nrm) (fun d => bsays_sm (hF.trans ⟨d, rfl⟩) (equalInts_b _ _ zs zs _ (rp2.sm (hF.trans ⟨d, rfl⟩)) (rp3.sm (hF.trans ⟨d, rfl⟩)) hzm hzm)) ?_
      rintro r w4 ⟨rfl, b4⟩
      clear hF
      have ra := ra.below b4 (Nat.le_refl _)
      have rb := rb.below b4 (Nat.le_refl _)
      have rp2 := rp2.below b4 (Nat.le_refl _)
      have rq2 := rq2.below b4 (Nat.le_refl _)
      have rp3 := rp3.below b4 (Nat.le_refl _)
      have rq3 := rq3.below b4 (Nat.le_refl _)
      have bb := bel_nxt bb b4
      have hF := Sm.refl w4
      walk_nrm
      rw [eqB_self]
      refine beside_by (n := 400) ?_
      repeat (first | a_ctl hF Sm.trans D0.nil | (refine Goes.step rfl (fun _ h₁ => ?_); replace hF := Sm.trans hF h₁; clear h₁; refine goes_oper_k rfl rfl (by decide) (fun K hK => ?_); go_simp; refine hK _ _ ⟨still_listed rfl, ?_⟩; clear hK K) | (refine Goes.step rfl (fun _ h₁ => ?_); rw [stepG_unwanted rfl rfl]; simp only [goes_go]; refine ⟨D0.nil, ?_⟩; replace hF := Sm.trans hF h₁; clear h₁; walk_nrm))
      refine Goes.stop fun w₁ h₁ => ?_
      replace hF := Sm.trans hF h₁
      clear h₁
      refine beside_call rfl rfl (by decide) rfl Try.func9 rfl rfl (by kernel_rfl) (show _ = (#[q2, q3] : Array Value) from by walk_nrm) (fun d => bsays_sm (hF.trans ⟨d, rfl⟩) (equalInts_b _ _ rs rs _ (rq2.sm (hF.trans ⟨d, rfl⟩)) (rq3.sm (hF.trans ⟨d, rfl⟩)) hrm hrm)) ?_
      rintro r w5 ⟨rfl, b5⟩
      clear hF
      have ra := ra.below b5 (Nat.le_refl _)
      have rb := rb.below b5 (Nat.le_refl _)
      have rp2 := rp2.below b5 (Nat.le_refl _)
      have rq2 := rq2.below b5 (Nat.le_refl _)
      have rp3 := rp3.below b5 (Nat.le_refl _)
      have rq3 := rq3.below b5 (Nat.le_refl _)
      have bb := bel_nxt bb b5
      have hF := Sm.refl w5
      walk_nrm
      rw [eqB_self]
      refine beside_by (n := 400) ?_
      repeat (first | a_ctl hF Sm.trans D0.nil | (refine Goes.step rfl (fun _ h₁ => ?_); replace hF := Sm.trans hF h₁; clear h₁; refine goes_oper_k rfl rfl (by decide) (fun K hK => ?_); go_simp; refine hK _ _ ⟨still_listed rfl, ?_⟩; clear hK K) | (refine Goes.step rfl (fun _ h₁ => ?_); rw [stepG_unwanted rfl rfl]; simp only [goes_go]; refine ⟨D0.nil, ?_⟩; replace hF := Sm.trans hF h₁; clear h₁; walk_nrm))
      a_cond true hF Sm.trans D0.nil
      refine Goes.stop fun w₁ h₁ => ?_
      replace hF := Sm.trans hF h₁
      clear h₁
      refine beside_by (n := 400) ?_
      repeat (first | a_ctl hF Sm.trans D0.nil | (refine Goes.step rfl (fun _ h₁ => ?_); replace hF := Sm.trans hF h₁; clear h₁; refine goes_oper_k rfl rfl (by decide) (fun K hK => ?_); go_simp; refine hK _ _ ⟨still_listed rfl, ?_⟩; clear hK K) | (refine Goes.step rfl (fun _ h₁ => ?_); rw [stepG_unwanted rfl rfl]; simp only [goes_go]; refine ⟨D0.nil, ?_⟩; replace hF := Sm.trans hF h₁; clear h₁; walk_nrm))
      refine Goes.stop fun w₁ h₁ => ?_
      replace hF := Sm.trans hF h₁
      clear h₁
      refine beside_call rfl rfl (by decide) rfl Try.func9 rfl rfl (by kernel_rfl) (show _ = (#[p2, p3] : Array Value) from by walk_nrm) (fun d => bsays_sm (hF.trans ⟨d, rfl⟩) (equalInts_b _ _ zs zs _ (rp2.sm (hF.trans ⟨d, rfl⟩)) (rp3.sm (hF.trans ⟨d, rfl⟩)) hzm hzm)) ?_
      rintro r w6 ⟨rfl, b6⟩
      clear hF
      have ra := ra.below b6 (Nat.le_refl _)
      have rb := rb.below b6 (Nat.le_refl _)
      have rp2 := rp2.below b6 (Nat.le_refl _)
      have rq2 := rq2.below b6 (Nat.le_refl _)
      have rp3 := rp3.below b6 (Nat.le_refl _)
      have rq3 := rq3.below b6 (Nat.le_refl _)
      have bb := bel_nxt bb b6
      have hF := Sm.refl w6
      walk_nrm
      rw [eqB_self]
      refine beside_by (n := 400) ?_
      repeat (first | a_ctl hF Sm.trans D0.nil | (refine Goes.step rfl (fun _ h₁ => ?_); replace hF := Sm.trans hF h₁; clear h₁; refine goes_oper_k rfl rfl (by decide) (fun K hK => ?_); go_simp; refine hK _ _ ⟨still_listed rfl, ?_⟩; clear hK K) | (refine Goes.step rfl (fun _ h₁ => ?_); rw [stepG_unwanted rfl rfl]; simp only [goes_go]; refine ⟨D0.nil, ?_⟩; replace hF := Sm.trans hF h₁; clear h₁; walk_nrm))
      refine Goes.stop fun w₁ h₁ => ?_
      replace hF := Sm.trans hF h₁
      clear h₁
      refine beside_call rfl rfl (by decide) rfl Try.func9 rfl rfl (by kernel_rfl) (show _ = (#[q2, q3] : Array Value) from by walk_nrm) (fun d => bsays_sm (hF.trans ⟨d, rfl⟩) (equalInts_b _ _ rs rs _ (rq2.sm (hF.trans ⟨d, rfl⟩)) (rq3.sm (hF.trans ⟨d, rfl⟩)) hrm hrm)) ?_
      rintro r w7 ⟨rfl, b7⟩
      clear hF
      have ra := ra.below b7 (Nat.le_refl _)
      have rb := rb.below b7 (Nat.le_refl _)
      have rp2 := rp2.below b7 (Nat.le_refl _)
      have rq2 := rq2.below b7 (Nat.le_refl _)
      have rp3 := rp3.below b7 (Nat.le_refl _)
      have rq3 := rq3.below b7 (Nat.le_refl _)
      have bb := bel_nxt bb b7
      have hF := Sm.refl w7
      walk_nrm
      rw [eqB_self]
      refine beside_by (n := 400) ?_
      repeat (first | a_ctl hF Sm.trans D0.nil | (refine Goes.step rfl (fun _ h₁ => ?_); replace hF := Sm.trans hF h₁; clear h₁; refine goes_oper_k rfl rfl (by decide) (fun K hK => ?_); go_simp; refine hK _ _ ⟨still_listed rfl, ?_⟩; clear hK K) | (refine Goes.step rfl (fun _ h₁ => ?_); rw [stepG_unwanted rfl rfl]; simp only [goes_go]; refine ⟨D0.nil, ?_⟩; replace hF := Sm.trans hF h₁; clear h₁; walk_nrm))
      refine Goes.step rfl (fun _ h₁ => ?_)
      rw [stepG_ret']
      simp only [goes_go]
      refine ⟨D0.nil, ?_⟩
      refine Goes.stop fun w₁ h₂ => .at0 fun d => ?_
      have hF := (Sm.trans hF h₁).trans (h₂.trans ⟨d, rfl⟩)
      exact leave1 Try.func3 rfl (R := BSays true w) ⟨rfl, bb.sm hF⟩
    | true =>
      have HQ := Lib.hid hq
      have hp := ptB_of hq
      have hdv := divB_of hp.2.1
      have hx := vrB_of hp.1
      have hzl : zs.length = xs.length + 1 - ys.length := by rw [HZ1.out, pqF_yes hq, len_ptQ]
      have hrl : rs.length = ys.length - 1 := by rw [HZ2.out, prF_yes hq, len_ptR]
      have hz16 : zs.length ≤ 16 := by have := hx.1; have := hdv.2.1; omega
      have j1 : IntKind.i64.wrap ((xs.length : Int) - (ys.length : Int)) = (xs.length : Int) - (ys.length : Int) := IntWalk.i64_in _ (by omega)
      have j2 : IntKind.i64.wrap ((xs.length : Int) - (ys.length : Int) + 1) = (zs.length : Int) := by rw [IntWalk.i64_in _ (by omega)]; have := hp.2.2; omega
      have j3 : IntKind.i64.wrap ((ys.length : Int) - 1) = (rs.length : Int) := by rw [IntWalk.i64_in _ (by omega)]; have := hdv.2.1; omega
      have HP := Lib.hid hp
      have HDV := Lib.hid hdv
      have HX := Lib.hid hx
      have HZL := Lib.hid hzl
      have HRL := Lib.hid hrl
      have HZ16 := Lib.hid hz16
      clear hq hp hdv hx hzl hrl hz16
      refine beside_by (n := 400) ?_
      repeat (first | a_ctl hF Sm.trans D0.nil | (refine Goes.step rfl (fun _ h₁ => ?_); replace hF := Sm.trans hF h₁; clear h₁; refine goes_oper_k rfl rfl (by decide) (fun K hK => ?_); go_simp; refine hK _ _ ⟨still_listed rfl, ?_⟩; clear hK K) | (refine Goes.step rfl (fun _ h₁ => ?_); rw [stepG_unwanted rfl rfl]; simp only [goes_go]; refine ⟨D0.nil, ?_⟩; replace hF := Sm.trans hF h₁; clear h₁; walk_nrm))
      refine Goes.stop fun w₁ h₁ => ?_
      replace hF := Sm.trans hF h₁
      clear h₁
      refine beside_call rfl rfl (by decide) rfl Try.func7 rfl rfl (by kernel_rfl) (show _ = (#[.slice a2 xs.length c2, .slice a3 ys.length c3] : Array Value) from by walk_nrm) (fun d => bparts_sm (hF.trans ⟨d, rfl⟩) (implPartOf_b _ _ xs ys _ (ra.sm (hF.trans ⟨d, rfl⟩)) (rb.sm (hF.trans ⟨d, rfl⟩)) hb1 hb2 HCP.out HG.out)) ?_
      rintro r w2 ⟨p2, q2, rfl, op2, oq2, b2⟩
      clear hF
      have ra := ra.below b2 (Nat.le_refl _)
      have rb := rb.below b2 (Nat.le_refl _)
      have bb := bel_nxt bb b2
      have rp2 := op2.rd
      have rq2 := oq2.rd
      clear op2 oq2
      rw [← HZ1.out] at rp2
      rw [← HZ2.out] at rq2
      rw [HQ.out]
      have hF := Sm.refl w2
      walk_nrm
      obtain ⟨a5, c5, hv5, -⟩ := id rp2
      obtain ⟨a6, c6, hv6, -⟩ := id rq2
      subst hv5 hv6
      refine beside_by (n := 400) ?_
      repeat (first | a_ctl hF Sm.trans D0.nil | (refine Goes.step rfl (fun _ h₁ => ?_); replace hF := Sm.trans hF h₁; clear h₁; refine goes_oper_k rfl rfl (by decide) (fun K hK => ?_); go_simp; refine hK _ _ ⟨still_listed rfl, ?_⟩; clear hK K) | (refine Goes.step rfl (fun _ h₁ => ?_); rw [stepG_unwanted rfl rfl]; simp only [goes_go]; refine ⟨D0.nil, ?_⟩; replace hF := Sm.trans hF h₁; clear h₁; walk_nrm))
      refine Goes.stop fun w₁ h₁ => ?_
      replace hF := Sm.trans hF h₁
      clear h₁
      refine beside_call rfl rfl (by decide) rfl Try.func8 rfl rfl (by kernel_rfl) (show _ = (#[.slice a2 xs.length c2, .slice a3 ys.length c3] : Array Value) from by walk_nrm) (fun d => bparts_sm (hF.trans ⟨d, rfl⟩) (specPartOf_b _ _ xs ys _ (ra.sm (hF.trans ⟨d, rfl⟩)) (rb.sm (hF.trans ⟨d, rfl⟩)) hb1 hb2 HG.out)) ?_
      rintro r w3 ⟨p3, q3, rfl, op3, oq3, b3⟩
      clear hF
      have ra := ra.below b3 (Nat.le_refl _)
      have rb := rb.below b3 (Nat.le_refl _)
      have rp2 := rp2.below b3 (Nat.le_refl _)
      have rq2 := rq2.below b3 (Nat.le_refl _)
      have bb := bel_nxt bb b3
      have rp3 := op3.rd
      have rq3 := oq3.rd
      clear op3 oq3
      rw [← HZ1.out] at rp3
      rw [← HZ2.out] at rq3
      rw [HQ.out]
      have hF := Sm.refl w3
      walk_nrm
      refine beside_by (n := 400) ?_
      repeat (first | a_ctl hF Sm.trans D0.nil | (refine Goes.step rfl (fun _ h₁ => ?_); replace hF := Sm.trans hF h₁; clear h₁; refine goes_oper_k rfl rfl (by decide) (fun K hK => ?_); go_simp; refine hK _ _ ⟨still_listed rfl, ?_⟩; clear hK K) | (refine Goes.step rfl (fun _ h₁ => ?_); rw [stepG_unwanted rfl rfl]; simp only [goes_go]; refine ⟨D0.nil, ?_⟩; replace hF := Sm.trans hF h₁; clear h₁; walk_nrm))
      refine Goes.stop fun w₁ h₁ => ?_
      replace hF := Sm.trans hF h₁
      clear h₁
      refine beside_call rfl rfl (by decide) rfl Try.func9 rfl rfl (by kernel_rfl) (show _ = (#[.slice a5 zs.length c5, p3] : Array Value) from by walk_nrm) (fun d => bsays_sm (hF.trans ⟨d, rfl⟩) (equalInts_b _ _ zs zs _ (rp2.sm (hF.trans ⟨d, rfl⟩)) (rp3.sm (hF.trans ⟨d, rfl⟩)) hzm hzm)) ?_
      rintro r w4 ⟨rfl, b4⟩
      clear hF
      have ra := ra.below b4 (Nat.le_refl _)
      have rb := rb.below b4 (Nat.le_refl _)
      have rp2 := rp2.below b4 (Nat.le_refl _)
      have rq2 := rq2.below b4 (Nat.le_refl _)
      have rp3 := rp3.below b4 (Nat.le_refl _)
      have rq3 := rq3.below b4 (Nat.le_refl _)
      have bb := bel_nxt bb b4
      have hF := Sm.refl w4
      walk_nrm
      rw [eqB_self]
      refine beside_by (n := 400) ?_
      repeat (first | a_ctl hF Sm.trans D0.nil | (refine Goes.step rfl (fun _ h₁ => ?_); replace hF := Sm.trans hF h₁; clear h₁; refine goes_oper_k rfl rfl (by decide) (fun K hK => ?_); go_simp; refine hK _ _ ⟨still_listed rfl, ?_⟩; clear hK K) | (refine Goes.step rfl (fun _ h₁ => ?_); rw [stepG_unwanted rfl rfl]; simp only [goes_go]; refine ⟨D0.nil, ?_⟩; replace hF := Sm.trans hF h₁; clear h₁; walk_nrm))
      refine Goes.stop fun w₁ h₁ => ?_
      replace hF := Sm.trans hF h₁
      clear h₁
      refine beside_call rfl rfl (by decide) rfl Try.func9 rfl rfl (by kernel_rfl) (show _ = (#[.slice a6 rs.length c6, q3] : Array Value) from by walk_nrm) (fun d => bsays_sm (hF.trans ⟨d, rfl⟩) (equalInts_b _ _ rs rs _ (rq2.sm (hF.trans ⟨d, rfl⟩)) (rq3.sm (hF.trans ⟨d, rfl⟩)) hrm hrm)) ?_
      rintro r w5 ⟨rfl, b5⟩
      clear hF
      have ra := ra.below b5 (Nat.le_refl _)
      have rb := rb.below b5 (Nat.le_refl _)
      have rp2 := rp2.below b5 (Nat.le_refl _)
      have rq2 := rq2.below b5 (Nat.le_refl _)
      have rp3 := rp3.below b5 (Nat.le_refl _)
      have rq3 := rq3.below b5 (Nat.le_refl _)
      have bb := bel_nxt bb b5
      have hF := Sm.refl w5
      walk_nrm
      rw [eqB_self]
      refine beside_by (n := 400) ?_
      repeat (first | a_ctl hF Sm.trans D0.nil | (refine Goes.step rfl (fun _ h₁ => ?_); replace hF := Sm.trans hF h₁; clear h₁; refine goes_oper_k rfl rfl (by decide) (fun K hK => ?_); go_simp; refine hK _ _ ⟨still_listed rfl, ?_⟩; clear hK K) | (refine Goes.step rfl (fun _ h₁ => ?_); rw [stepG_unwanted rfl rfl]; simp only [goes_go]; refine ⟨D0.nil, ?_⟩; replace hF := Sm.trans hF h₁; clear h₁; walk_nrm))
      a_cond false hF Sm.trans D0.nil
      refine Goes.stop fun w₁ h₁ => ?_
      replace hF := Sm.trans hF h₁
      clear h₁
      cases hvz : vrB zs with
      | false =>
        have HV := Lib.hid hvz
        clear hvz
        refine beside_by (n := 400) ?_
        repeat (first | a_ctl hF Sm.trans D0.nil | (refine Goes.step rfl (fun _ h₁ => ?_); replace hF := Sm.trans hF h₁; clear h₁; refine goes_oper_k rfl rfl (by decide) (fun K hK => ?_); go_simp; refine hK _ _ ⟨still_listed rfl, ?_⟩; clear hK K) | (refine Goes.step rfl (fun _ h₁ => ?_); rw [stepG_unwanted rfl rfl]; simp only [goes_go]; refine ⟨D0.nil, ?_⟩; replace hF := Sm.trans hF h₁; clear h₁; walk_nrm))
        refine Goes.stop fun w₁ h₁ => ?_
        replace hF := Sm.trans hF h₁
        clear h₁
        refine beside_call rfl rfl (by decide) rfl Try.func10 rfl rfl (by kernel_rfl) (show _ = (#[.slice a5 zs.length c5] : Array Value) from by walk_nrm) (fun d => bsays_sm (hF.trans ⟨d, rfl⟩) (implValid_b _ zs _ (rp2.sm (hF.trans ⟨d, rfl⟩)) hzm)) ?_
        rintro r w6 ⟨rfl, b6⟩
        clear hF
        have ra := ra.below b6 (Nat.le_refl _)
        have rb := rb.below b6 (Nat.le_refl _)
        have rp2 := rp2.below b6 (Nat.le_refl _)
        have rq2 := rq2.below b6 (Nat.le_refl _)
        have rp3 := rp3.below b6 (Nat.le_refl _)
        have rq3 := rq3.below b6 (Nat.le_refl _)
        have bb := bel_nxt bb b6
        have hF := Sm.refl w6
        walk_nrm
        rw [HV.out]
        refine beside_by (n := 400) ?_
        repeat (first | a_ctl hF Sm.trans D0.nil | (refine Goes.step rfl (fun _ h₁ => ?_); replace hF := Sm.trans hF h₁; clear h₁; refine goes_oper_k rfl rfl (by decide) (fun K hK => ?_); go_simp; refine hK _ _ ⟨still_listed rfl, ?_⟩; clear hK K) | (refine Goes.step rfl (fun _ h₁ => ?_); rw [stepG_unwanted rfl rfl]; simp only [goes_go]; refine ⟨D0.nil, ?_⟩; replace hF := Sm.trans hF h₁; clear h₁; walk_nrm))
        a_cond true hF Sm.trans D0.nil
        refine Goes.stop fun w₁ h₁ => ?_
        replace hF := Sm.trans hF h₁
        clear h₁
        refine beside_by (n := 400) ?_
        repeat (first | a_ctl hF Sm.trans D0.nil | (refine Goes.step rfl (fun _ h₁ => ?_); replace hF := Sm.trans hF h₁; clear h₁; refine goes_oper_k rfl rfl (by decide) (fun K hK => ?_); go_simp; refine hK _ _ ⟨still_listed rfl, ?_⟩; clear hK K) | (refine Goes.step rfl (fun _ h₁ => ?_); rw [stepG_unwanted rfl rfl]; simp only [goes_go]; refine ⟨D0.nil, ?_⟩; replace hF := Sm.trans hF h₁; clear h₁; walk_nrm))
        refine Goes.step rfl (fun _ h₁ => ?_)
        rw [stepG_ret']
        simp only [goes_go]
        refine ⟨D0.nil, ?_⟩
        refine Goes.stop fun w₁ h₂ => .at0 fun d => ?_
        have hF := (Sm.trans hF h₁).trans (h₂.trans ⟨d, rfl⟩)
        exact leave1 Try.func3 rfl (R := BSays true w) ⟨rfl, bb.sm hF⟩
      | true =>
        have HV := Lib.hid hvz
        clear hvz
        refine beside_by (n := 400) ?_
        repeat (first | a_ctl hF Sm.trans D0.nil | (refine Goes.step rfl (fun _ h₁ => ?_); replace hF := Sm.trans hF h₁; clear h₁; refine goes_oper_k rfl rfl (by decide) (fun K hK => ?_); go_simp; refine hK _ _ ⟨still_listed rfl, ?_⟩; clear hK K) | (refine Goes.step rfl (fun _ h₁ => ?_); rw [stepG_unwanted rfl rfl]; simp only [goes_go]; refine ⟨D0.nil, ?_⟩; replace hF := Sm.trans hF h₁; clear h₁; walk_nrm))
        refine Goes.stop fun w₁ h₁ => ?_
        replace hF := Sm.trans hF h₁
        clear h₁
        refine beside_call rfl rfl (by decide) rfl Try.func10 rfl rfl (by kernel_rfl) (show _ = (#[.slice a5 zs.length c5] : Array Value) from by walk_nrm) (fun d => bsays_sm (hF.trans ⟨d, rfl⟩) (implValid_b _ zs _ (rp2.sm (hF.trans ⟨d, rfl⟩)) hzm)) ?_
        rintro r w6 ⟨rfl, b6⟩
        clear hF
        have ra := ra.below b6 (Nat.le_refl _)
        have rb := rb.below b6 (Nat.le_refl _)
        have rp2 := rp2.below b6 (Nat.le_refl _)
        have rq2 := rq2.below b6 (Nat.le_refl _)
        have rp3 := rp3.below b6 (Nat.le_refl _)
        have rq3 := rq3.below b6 (Nat.le_refl _)
        have bb := bel_nxt bb b6
        have hF := Sm.refl w6
        walk_nrm
        rw [HV.out]
        refine beside_by (n := 400) ?_
        repeat (first | a_ctl hF Sm.trans D0.nil | (refine Goes.step rfl (fun _ h₁ => ?_); replace hF := Sm.trans hF h₁; clear h₁; refine goes_oper_k rfl rfl (by decide) (fun K hK => ?_); go_simp; refine hK _ _ ⟨still_listed rfl, ?_⟩; clear hK K) | (refine Goes.step rfl (fun _ h₁ => ?_); rw [stepG_unwanted rfl rfl]; simp only [goes_go]; refine ⟨D0.nil, ?_⟩; replace hF := Sm.trans hF h₁; clear h₁; walk_nrm))
        a_cond false hF Sm.trans D0.nil
        refine Goes.stop fun w₁ h₁ => ?_
        replace hF := Sm.trans hF h₁
        clear h₁
        refine beside_by (n := 400) ?_
        repeat (first | a_ctl hF Sm.trans D0.nil | (refine Goes.step rfl (fun _ h₁ => ?_); replace hF := Sm.trans hF h₁; clear h₁; refine goes_oper_k rfl rfl (by decide) (fun K hK => ?_); go_simp; refine hK _ _ ⟨still_listed rfl, ?_⟩; clear hK K) | (refine Goes.step rfl (fun _ h₁ => ?_); rw [stepG_unwanted rfl rfl]; simp only [goes_go]; refine ⟨D0.nil, ?_⟩; replace hF := Sm.trans hF h₁; clear h₁; walk_nrm))
        refine Goes.stop fun w₁ h₁ => ?_
        replace hF := Sm.trans hF h₁
        clear h₁
        refine beside_call rfl rfl (by decide) rfl Try.func11 rfl rfl (by kernel_rfl) (show _ = (#[.slice a5 zs.length c5, .slice a3 ys.length c3] : Array Value) from by walk_nrm) (fun d => bmade_sm (hF.trans ⟨d, rfl⟩) (implTimesOf_b _ _ zs ys _ (rp2.sm (hF.trans ⟨d, rfl⟩)) (rb.sm (hF.trans ⟨d, rfl⟩)) hzb hb2)) ?_
        rintro v5 w7 ⟨o5, b7⟩
        clear hF
        have hbs := bb.size
        have bb := bel_nxt bb b7
        have UA := ra.under b7
        have UQ := rq2.under b7
        obtain ⟨ts, hts⟩ : ∃ ts, ts = timF zs ys := ⟨_, rfl⟩
        rw [← hts] at o5
        have hlt : ts.length = xs.length := by rw [hts, HZ1.out, pqF_yes HQ.out, pt_tim HQ.out (by rw [← pqF_yes HQ.out, ← HZ1.out]; exact HV.out), len_tab]
        have HLO := Lib.hid fun j (hj : j < rs.length) => show wrap64 (ix ts j + ix rs j) = ix xs j by rw [hts, HZ1.out, HZ2.out, pqF_yes HQ.out, prF_yes HQ.out]; exact pt_low HQ.out (by rw [← pqF_yes HQ.out, ← HZ1.out]; exact HV.out) (by have := HRL.out; omega)
        have HHI := Lib.hid fun j (hj : rs.length ≤ j) (hl : j < xs.length) => show ix ts j = ix xs j by rw [hts, HZ1.out, pqF_yes HQ.out]; exact pt_high HQ.out (by rw [← pqF_yes HQ.out, ← HZ1.out]; exact HV.out) (by have := HRL.out; omega) hl
        obtain ⟨g, k5, rfl, hg, hgs⟩ := o5.form (by intro e; rw [e] at hlt; have := HP.out.2.2; have := HDV.out.2.1; simp at hlt; omega)
        rw [hlt] at o5 ⊢
        have HTS := Lib.hid hts
        have HLT := Lib.hid hlt
        have hrx : rs.length ≤ xs.length := by have := HRL.out; have := HP.out.2.2; omega
        clear hts hlt ra rb rp2 rq2 rp3 rq3 b7 j1 j2 j3
        have hF := Sm.refl w7
        walk_nrm
        refine beside_by (n := 400) ?_
        (refine Goes.step rfl (fun _ h₁ => ?_); replace hF := Sm.trans hF h₁; clear h₁; refine goes_oper_k rfl rfl (by decide) (fun K hK => ?_); go_simp; refine hK _ _ ⟨still_listed rfl, ?_⟩; clear hK K)
        a_ctl hF Sm.trans D0.nil
        refine Goes.stop fun w₁ h₁ => ?_
        replace hF := Sm.trans hF h₁
        clear h₁
        refine beside_piece noinit (callees [9] (by kernel_rfl)) (by kernel_rfl) ⟨_, Try.func3, by kernel_rfl⟩ rfl rfl (fun q0 p q1 => p.1 = .ret ∧ p.2.defers = [] ∧ p.2.tmps.getD 2 undef = .bool true ∧ Below w.heap.size q0 q1) ?_ (fun τ d => ?_) (fun a' w' hc => by cases hc.1) (fun a' w' todo hc => ?_)
        · rintro p q0 q1 τ d τ' d' d2 ⟨h1, h2, h3, h4⟩
          exact ⟨h1, h2, h3, below_blind h4⟩
        · obtain ⟨d0, rfl⟩ := hF
          obtain ⟨B, hB⟩ : ∃ B, B = w6.heap.size := ⟨_, rfl⟩
          rw [← hB] at o5 UA UQ hg hbs
          have O := Lib.hid (show Own 3 B (reT (w7.at d0) τ d) (.slice (some ⟨g, 0, none⟩) xs.length k5) ts from o5)
          have UA := Lib.hid (show RdU B (reT (w7.at d0) τ d) (.slice a2 xs.length c2) xs from UA)
          have UQ := Lib.hid (show RdU B (reT (w7.at d0) τ d) (.slice a6 rs.length c6) rs from UQ)
          have hs : B ≤ (reT (w7.at d0) τ d).heap.size := by show B ≤ w7.heap.size; omega
          clear o5 hB bb
          generalize reT (w7.at d0) τ d = w0 at O UA UQ hs ⊢
          have H0 := Lib.hid (show Own 3 B w0 (.slice (some ⟨g, 0, none⟩) xs.length k5) (tab xs.length (pbF xs ts 0)) by rw [pb_zero xs ts HLT.out]; exact O.out)
          clear O hgs
          go_wp2
          go_loopw [12] (fun i wr => ∃ k : Nat, k ≤ rs.length ∧ i = .int .i64 k ∧ Own 3 B wr (.slice (some ⟨g, 0, none⟩) xs.length k5) (tab xs.length (pbF xs ts k)) ∧ Below B w0 wr) (fun i _ => rs.length - (intOf i).toNat)
          case atStart => exact ⟨0, Nat.zero_le _, rfl, H0.out, Below.refl _ _⟩
          case round =>
            obtain ⟨k, hk, rfl, o, hb⟩ := hrel
            clear H0
            by_cases hkl : k < rs.length
            · have d0 := o.cell k (by rw [len_tab]; omega)
              rw [ix_tab _ _ _ (by omega), show pbF xs ts k k = ix ts k from if_neg (by omega)] at d0
              have f0 := o.frozen k
              obtain ⟨b, off, rfl, d1⟩ := (UQ.out.below hb).cell rfl hkl
              have hv := HLO.out k hkl
              have HS := Lib.hid (show Own 3 B (wr.setCell ⟨g, k, none⟩ (.int .i64 (ix xs k))) (.slice (some ⟨g, 0, none⟩) xs.length k5) (tab xs.length (pbF xs ts (k + 1))) by
                have := o.set k (ix xs k)
                rw [tab_set, tab_congr (g := pbF xs ts (k + 1)) (fun j _ => (pb_next xs ts k j).symm)] at this
                exact this)
              have HB := Lib.hid (hb.setCell (p := ⟨g, k, none⟩) hg (.int .i64 (ix xs k)))
              obtain ⟨x, hx⟩ : ∃ x, x = ix xs k := ⟨_, rfl⟩
              obtain ⟨y, hy⟩ : ∃ y, y = ix ts k := ⟨_, rfl⟩
              obtain ⟨z, hz⟩ : ∃ z, z = ix rs k := ⟨_, rfl⟩
              rw [← hx, ← hy, ← hz] at hv
              rw [← hx] at HS HB
              rw [← hy] at d0
              rw [← hz] at d1
              have e1 : IntKind.i64.wrap (y + z) = x := by rw [← hv, IntKind.wrap_i64]; unfold wrap64; rfl
              have k0 : (k : Int) < (rs.length : Int) := by omega
              have k1 : (k : Int) < (xs.length : Int) := by omega
              clear o hb hv hx hy hz
              go_wp2
              go_still_tail 11, (by kernel_rfl)
              change wpList _ _ _ _ _ (World.drew wr)
              go_wp2
              go_roundw
              case rel => exact ⟨k + 1, by omega, by go_num, HS.out.drew, HB.out.drew⟩
              case measure => simp [intOf]; omega
            · obtain rfl : k = rs.length := by omega
              rw [pb_all xs ts rs.length (fun j h1 h2 => HHI.out j h1 h2)] at o
              have HE := Lib.hid (equalInts_any _ _ xs xs wr o.rd ((UA.out.below hb).rd (Nat.le_trans hs hb.size)) hm1 hm1)
              have HB := Lib.hid hb
              clear o hb
              go_wp2_with fail
              refine HE.out.mono ?_
              rintro e w8 ⟨rfl, b8⟩
              have HB8 := Lib.hid ((HB.out.mono hbs).trans (b8.mono (Nat.le_trans hbs (Nat.le_trans hs HB.out.size))))
              rw [eqB_self]
              clear b8 HB HE
              go_wp2
              exact HB8.out
        · obtain ⟨-, h2, h3, h4⟩ := hc
          obtain ⟨T, D⟩ := a'
          obtain rfl : D = [] := h2
          exact leave1 Try.func3 rfl (R := BSays true w) ⟨h3, (bb.sm hF).trans h4⟩
  · have i1 : ((1048576 : Int) < (n : Int)) := by omega
    refine beside_by (n := 400) ?_
    repeat (first | a_ctl hF Sm.trans D0.nil | (refine Goes.step rfl (fun _ h₁ => ?_); replace hF := Sm.trans hF h₁; clear h₁; refine goes_oper_k rfl rfl (by decide) (fun K hK => ?_); go_simp; refine hK _ _ ⟨still_listed rfl, ?_⟩; clear hK K) | (refine Goes.step rfl (fun _ h₁ => ?_); rw [stepG_unwanted rfl rfl]; simp only [goes_go]; refine ⟨D0.nil, ?_⟩; replace hF := Sm.trans hF h₁; clear h₁; walk_nrm))
    a_cond true hF Sm.trans D0.nil
    repeat (first | a_ctl hF Sm.trans D0.nil | (refine Goes.step rfl (fun _ h₁ => ?_); replace hF := Sm.trans hF h₁; clear h₁; refine goes_oper_k rfl rfl (by decide) (fun K hK => ?_); go_simp; refine hK _ _ ⟨still_listed rfl, ?_⟩; clear hK K) | (refine Goes.step rfl (fun _ h₁ => ?_); rw [stepG_unwanted rfl rfl]; simp only [goes_go]; refine ⟨D0.nil, ?_⟩; replace hF := Sm.trans hF h₁; clear h₁; walk_nrm))
    refine Goes.step rfl (fun _ h₁ => ?_)
    rw [stepG_ret']
    simp only [goes_go]
    refine ⟨D0.nil, ?_⟩
    refine Goes.stop fun w₁ h₂ => .at0 fun d => ?_
    have hF := (Sm.trans hF h₁).trans (h₂.trans ⟨d, rfl⟩)
    exact leave1 Try.func3 rfl (R := BSays true w) ⟨rfl, (Below.refl w.heap.size w).sm hF⟩

end Go.Proofs.Ytagncoahobghpac
