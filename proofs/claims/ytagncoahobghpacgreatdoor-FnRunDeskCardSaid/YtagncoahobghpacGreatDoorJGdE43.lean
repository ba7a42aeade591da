/-
  Joined texts: CoRunDesk, Crd, DkC.
-/
import Derived.Test.YtagncoahobghpacGreatDoorJGdE42
import Derived.SevenTiedAt
import Derived.Conc.LeavingOf
import Derived.Handed
import Derived.LaidSub
import Derived.LaidHandle
import Derived.Stop.LaidErr
import Derived.Lib.LaidTab
import Derived.Shelf.Vars
import Derived.Test.YtagncoahobghpacGreatDoorJGdEDkI
import Derived.Test.YtagncoahobghpacGreatDoorRows
import Derived.SliceStrings
import Derived.Lay
namespace Go.Proofs.YtagncoahobghpacGreatDoor
open Go Go.Conc Go.RowKit
set_option linter.unusedVariables false
set_option maxRecDepth 100000

theorem RdT.sm {w w1 : World} {v : Value} {ls : List ByteArray} (h : RdT w v ls) (hs : Sm w w1) : RdT w1 v ls := by
  obtain ⟨d, rfl⟩ := hs
  exact h
theorem specRunDesk_b (v : Value) (ls : List ByteArray) (w : World) (hr : RdT w v ls) (hs : ∀ k, (lineAt ls k).size ≤ 1048576) (hl : ls.length ≤ 1048576) : BCalls Tryz.prog 7 #[v] w (BGives (.string (deskT ls)) w.heap.size w) :=
  bgives_of (callees [7, 15, 24, 25, 30, 31, 32, 33, 34, 35, 36, 37, 38, 39, 40, 52, 53, 54, 55, 56, 57, 58, 59, 60, 79, 80, 81, 82] (by kernel_rfl)) Tryz.func7 rfl (by kernel_rfl) fun τ d => specRunDesk_any v ls (reT w τ d) hr hs hl
def BSz (ls : List ByteArray) (w : World) (v : Value) (w' : World) : Prop := ∃ z : Int, v = .int .i64 z ∧ Below w.heap.size w w' ∧ (0 ≤ z → ls.length ≤ 1048576 ∧ ∀ k, (lineAt ls k).size ≤ 1048576)
theorem szStringS_b (v : Value) (ls : List ByteArray) (w w1 : World) (hr : RdT w v ls) (hs : ∀ k, (lineAt ls k).size ≤ 9223372036854775807) (hl : ls.length ≤ 9223372036854775807) (hS : Sm w w1) : BCalls Tryz.prog 9 #[v, .int .i64 1048576] w1 (BSz ls w) := by
  obtain ⟨d, rfl⟩ := hS
  exact (bcalls_of noinit (callees [9] (by kernel_rfl)) Tryz.func9 rfl (by kernel_rfl) (fun w v w' => BSz ls w v w') (by
    rintro v w w1 τ d τ' d' d2 ⟨z, h1, h2, h3⟩
    exact ⟨z, h1, below_blind h2, h3⟩) (fun τ e => (szStringS_any v ls (reT (w.at d) τ e) hr hs hl).mono fun q w' ⟨z, h1, h2, h3⟩ => ⟨_, h1, z, rfl, by rw [h2]; exact Below.refl _ _, h3⟩)).mono fun r w' ⟨z, h1, h2, h3⟩ => ⟨z, h1, ⟨h2.os, h2.tape, h2.output, h2.size, h2.block⟩, h3⟩
def BTo (ls : List ByteArray) (w : World) (v : Value) (w' : World) : Prop := RdT w' v ls ∧ Below w.heap.size w w'
theorem toStringS_b (v : Value) (ls : List ByteArray) (w w1 : World) (hr : RdT w v ls) (hl : ls.length ≤ 1048576) (hS : Sm w w1) : BCalls Tryz.prog 10 #[v] w1 (BTo ls w) := by
  obtain ⟨d, rfl⟩ := hS
  exact (bcalls_of noinit (callees [10] (by kernel_rfl)) Tryz.func10 rfl (by kernel_rfl) (fun w v w' => BTo ls w v w') (by
    rintro v w w1 τ d τ' d' d2 ⟨h1, h2⟩
    exact ⟨h1, below_blind h2⟩) (fun τ e => (toStringS_any v ls (reT (w.at d) τ e) hr hl).mono fun q w' ⟨z, h1, h2, h3⟩ => ⟨_, h1, h2, h3⟩)).mono fun r w' ⟨h1, h2⟩ => ⟨h1, ⟨h2.os, h2.tape, h2.output, h2.size, h2.block⟩⟩
theorem eqStringS_b (u v : Value) (ls : List ByteArray) (w : World) (hr : RdT w u ls) (hr2 : RdT w v ls) (hl : ls.length ≤ 1048576) : BCalls Tryz.prog 11 #[u, v] w (BSays true w) :=
  bsays_of [11] (by kernel_rfl) Tryz.func11 rfl (by kernel_rfl) (by kernel_rfl) fun τ d => eqStringS_any u v ls (reT w τ d) hr hr2 hl

set_option maxHeartbeats 8000000 in
theorem exRunDesk_b (v : Value) (ls : List ByteArray) (w : World) (hr : RdT w v ls) (h : Dsk w) (hs : ∀ k, (lineAt ls k).size ≤ 9223372036854775807) (hl : ls.length ≤ 9223372036854775807) : BCalls Tryz.prog 4 #[v] w (BSays true w) := by
  intro cs
  rw [enter_at _ Tryz.func4 rfl]
  simp only [Tryz.f4, List.size_toArray, List.length_cons, List.length_nil, Nat.reduceAdd, Nat.reduceSub, Array.replicate_succ, Array.replicate_zero, List.push_toArray, List.append_toArray, List.nil_append, List.cons_append]
  have hF : Sm w w := Sm.refl w
  refine beside_by (n := 400) ?_
  repeat (first | a_ctl hF Sm.trans D0.nil | (refine Goes.step rfl (fun _ h₁ => ?_); replace hF := Sm.trans hF h₁; clear h₁; refine goes_oper_k rfl rfl (by decide) (fun K hK => ?_); go_simp; refine hK _ _ ⟨still_listed rfl, ?_⟩; clear hK K) | (refine Goes.step rfl (fun _ h₁ => ?_); rw [stepG_unwanted rfl rfl]; simp only [goes_go]; refine ⟨D0.nil, ?_⟩; replace hF := Sm.trans hF h₁; clear h₁; walk_nrm))
  refine Goes.stop fun w₁ h₁ => ?_
  replace hF := Sm.trans hF h₁
  clear h₁
  refine beside_call rfl rfl (by decide) rfl Tryz.func9 rfl rfl (by kernel_rfl) (show _ = (#[v, .int .i64 1048576] : Array Value) from by walk_nrm) (fun d => szStringS_b v ls _ _ hr hs hl (hF.trans ⟨d, rfl⟩)) ?_
  rintro r w1 ⟨z, rfl, b, hz⟩
  have hr := hr.below b
  have h := h.below b
  clear hF hs hl
  have hF := Sm.refl w1
  walk_nrm
  by_cases hz0 : z < 0
  · refine beside_by (n := 400) ?_
    repeat (first | a_ctl hF Sm.trans D0.nil | (refine Goes.step rfl (fun _ h₁ => ?_); replace hF := Sm.trans hF h₁; clear h₁; refine goes_oper_k rfl rfl (by decide) (fun K hK => ?_); go_simp; refine hK _ _ ⟨still_listed rfl, ?_⟩; clear hK K) | (refine Goes.step rfl (fun _ h₁ => ?_); rw [stepG_unwanted rfl rfl]; simp only [goes_go]; refine ⟨D0.nil, ?_⟩; replace hF := Sm.trans hF h₁; clear h₁; walk_nrm))
    a_cond true hF Sm.trans D0.nil
    repeat (first | a_ctl hF Sm.trans D0.nil | (refine Goes.step rfl (fun _ h₁ => ?_); replace hF := Sm.trans hF h₁; clear h₁; refine goes_oper_k rfl rfl (by decide) (fun K hK => ?_); go_simp; refine hK _ _ ⟨still_listed rfl, ?_⟩; clear hK K) | (refine Goes.step rfl (fun _ h₁ => ?_); rw [stepG_unwanted rfl rfl]; simp only [goes_go]; refine ⟨D0.nil, ?_⟩; replace hF := Sm.trans hF h₁; clear h₁; walk_nrm))
    refine Goes.step rfl (fun _ h₁ => ?_)
    rw [stepG_ret']
    simp only [goes_go]
    refine ⟨D0.nil, ?_⟩
    refine Goes.stop fun w₁ h₂ => .at0 fun d => ?_
    have hF := (Sm.trans hF h₁).trans (h₂.trans ⟨d, rfl⟩)
    exact leave1 Tryz.func4 rfl (R := BSays true w) ⟨rfl, b.sm hF⟩
  · obtain ⟨hl, hs⟩ := hz (by omega)
    have HS := Lib.hid hs
    clear hz hs
    refine beside_by (n := 400) ?_
    repeat (first | a_ctl hF Sm.trans D0.nil | (refine Goes.step rfl (fun _ h₁ => ?_); replace hF := Sm.trans hF h₁; clear h₁; refine goes_oper_k rfl rfl (by decide) (fun K hK => ?_); go_simp; refine hK _ _ ⟨still_listed rfl, ?_⟩; clear hK K) | (refine Goes.step rfl (fun _ h₁ => ?_); rw [stepG_unwanted rfl rfl]; simp only [goes_go]; refine ⟨D0.nil, ?_⟩; replace hF := Sm.trans hF h₁; clear h₁; walk_nrm))
    a_cond false hF Sm.trans D0.nil
    repeat (first | a_ctl hF Sm.trans D0.nil | (refine Goes.step rfl (fun _ h₁ => ?_); replace hF := Sm.trans hF h₁; clear h₁; refine goes_oper_k rfl rfl (by decide) (fun K hK => ?_); go_simp; refine hK _ _ ⟨still_listed rfl, ?_⟩; clear hK K) | (refine Goes.step rfl (fun _ h₁ => ?_); rw [stepG_unwanted rfl rfl]; simp only [goes_go]; refine ⟨D0.nil, ?_⟩; replace hF := Sm.trans hF h₁; clear h₁; walk_nrm))
    refine Goes.stop fun w₁ h₁ => ?_
    replace hF := Sm.trans hF h₁
    clear h₁
    refine beside_call rfl rfl (by decide) rfl Tryz.func10 rfl rfl (by kernel_rfl) (show _ = (#[v] : Array Value) from by walk_nrm) (fun d => toStringS_b v ls _ _ hr hl (hF.trans ⟨d, rfl⟩)) ?_
    rintro r2 w2 ⟨hr2, b2⟩
    have hr := hr.below b2
    have h := h.below b2
    have b := bel_nxt b b2
    clear hF b2
    have hF := Sm.refl w2
    walk_nrm
    refine beside_by (n := 400) ?_
    repeat (first | a_ctl hF Sm.trans D0.nil | (refine Goes.step rfl (fun _ h₁ => ?_); replace hF := Sm.trans hF h₁; clear h₁; refine goes_oper_k rfl rfl (by decide) (fun K hK => ?_); go_simp; refine hK _ _ ⟨still_listed rfl, ?_⟩; clear hK K) | (refine Goes.step rfl (fun _ h₁ => ?_); rw [stepG_unwanted rfl rfl]; simp only [goes_go]; refine ⟨D0.nil, ?_⟩; replace hF := Sm.trans hF h₁; clear h₁; walk_nrm))
    refine Goes.stop fun w₁ h₁ => ?_
    replace hF := Sm.trans hF h₁
    clear h₁
    refine beside_call rfl rfl (by decide) rfl Tryz.func7 rfl rfl (by kernel_rfl) (show _ = (#[r2] : Array Value) from by walk_nrm) (fun d => bgives_sm (hF.trans ⟨d, rfl⟩) (specRunDesk_b r2 ls _ (hr2.sm (hF.trans ⟨d, rfl⟩)) HS.out hl)) ?_
    rintro r w3 ⟨rfl, b3⟩
    have hr := hr.below b3
    have h := h.below b3
    have b := bel_nxt b b3
    clear hr2
    clear hF b3
    have hF := Sm.refl w3
    walk_nrm
    refine beside_by (n := 400) ?_
    repeat (first | a_ctl hF Sm.trans D0.nil | (refine Goes.step rfl (fun _ h₁ => ?_); replace hF := Sm.trans hF h₁; clear h₁; refine goes_oper_k rfl rfl (by decide) (fun K hK => ?_); go_simp; refine hK _ _ ⟨still_listed rfl, ?_⟩; clear hK K) | (refine Goes.step rfl (fun _ h₁ => ?_); rw [stepG_unwanted rfl rfl]; simp only [goes_go]; refine ⟨D0.nil, ?_⟩; replace hF := Sm.trans hF h₁; clear h₁; walk_nrm))
    refine Goes.stop fun w₁ h₁ => ?_
    replace hF := Sm.trans hF h₁
    clear h₁
    refine beside_call rfl rfl (by decide) rfl Tryz.func10 rfl rfl (by kernel_rfl) (show _ = (#[v] : Array Value) from by walk_nrm) (fun d => toStringS_b v ls _ _ hr hl (hF.trans ⟨d, rfl⟩)) ?_
    rintro r4 w4 ⟨hr4, b4⟩
    have hr := hr.below b4
    have h := h.below b4
    have b := bel_nxt b b4
    clear hF b4
    have hF := Sm.refl w4
    walk_nrm
    refine beside_by (n := 400) ?_
    repeat (first | a_ctl hF Sm.trans D0.nil | (refine Goes.step rfl (fun _ h₁ => ?_); replace hF := Sm.trans hF h₁; clear h₁; refine goes_oper_k rfl rfl (by decide) (fun K hK => ?_); go_simp; refine hK _ _ ⟨still_listed rfl, ?_⟩; clear hK K) | (refine Goes.step rfl (fun _ h₁ => ?_); rw [stepG_unwanted rfl rfl]; simp only [goes_go]; refine ⟨D0.nil, ?_⟩; replace hF := Sm.trans hF h₁; clear h₁; walk_nrm))
    refine Goes.stop fun w₁ h₁ => ?_
    replace hF := Sm.trans hF h₁
    clear h₁
    refine beside_call rfl rfl (by decide) rfl Tryz.func6 rfl rfl (by kernel_rfl) (show _ = (#[r4] : Array Value) from by walk_nrm) (fun d => bgives_sm (hF.trans ⟨d, rfl⟩) (runDesk_b r4 ls _ (hr4.sm (hF.trans ⟨d, rfl⟩)) (h.sm (hF.trans ⟨d, rfl⟩)) HS.out hl)) ?_
    rintro r w5 ⟨rfl, b5⟩
    have hr4 := hr4.below b5
    have hr := hr.below b5
    have h := h.below b5
    have b := bel_nxt b b5
    obtain ⟨T, hT⟩ : ∃ T, T = deskT ls := ⟨_, rfl⟩
    rw [← hT]
    clear hT
    clear hF b5
    have hF := Sm.refl w5
    walk_nrm
    refine beside_by (n := 400) ?_
    repeat (first | a_ctl hF Sm.trans D0.nil | (refine Goes.step rfl (fun _ h₁ => ?_); replace hF := Sm.trans hF h₁; clear h₁; refine goes_oper_k rfl rfl (by decide) (fun K hK => ?_); go_simp; refine hK _ _ ⟨still_listed rfl, ?_⟩; clear hK K) | (refine Goes.step rfl (fun _ h₁ => ?_); rw [stepG_unwanted rfl rfl]; simp only [goes_go]; refine ⟨D0.nil, ?_⟩; replace hF := Sm.trans hF h₁; clear h₁; walk_nrm))
    a_cond false hF Sm.trans D0.nil
    repeat (first | a_ctl hF Sm.trans D0.nil | (refine Goes.step rfl (fun _ h₁ => ?_); replace hF := Sm.trans hF h₁; clear h₁; refine goes_oper_k rfl rfl (by decide) (fun K hK => ?_); go_simp; refine hK _ _ ⟨still_listed rfl, ?_⟩; clear hK K) | (refine Goes.step rfl (fun _ h₁ => ?_); rw [stepG_unwanted rfl rfl]; simp only [goes_go]; refine ⟨D0.nil, ?_⟩; replace hF := Sm.trans hF h₁; clear h₁; walk_nrm))
    refine Goes.stop fun w₁ h₁ => ?_
    replace hF := Sm.trans hF h₁
    clear h₁
    refine beside_call rfl rfl (by decide) rfl Tryz.func10 rfl rfl (by kernel_rfl) (show _ = (#[v] : Array Value) from by walk_nrm) (fun d => toStringS_b v ls _ _ hr hl (hF.trans ⟨d, rfl⟩)) ?_
    rintro r6 w6 ⟨hr6, b6⟩
    have hr4 := hr4.below b6
    have hr := hr.below b6
    have h := h.below b6
    have b := bel_nxt b b6
    clear hF b6
    have hF := Sm.refl w6
    walk_nrm
    refine beside_by (n := 400) ?_
    repeat (first | a_ctl hF Sm.trans D0.nil | (refine Goes.step rfl (fun _ h₁ => ?_); replace hF := Sm.trans hF h₁; clear h₁; refine goes_oper_k rfl rfl (by decide) (fun K hK => ?_); go_simp; refine hK _ _ ⟨still_listed rfl, ?_⟩; clear hK K) | (refine Goes.step rfl (fun _ h₁ => ?_); rw [stepG_unwanted rfl rfl]; simp only [goes_go]; refine ⟨D0.nil, ?_⟩; replace hF := Sm.trans hF h₁; clear h₁; walk_nrm))
    refine Goes.stop fun w₁ h₁ => ?_
    replace hF := Sm.trans hF h₁
    clear h₁
    refine beside_call rfl rfl (by decide) rfl Tryz.func11 rfl rfl (by kernel_rfl) (show _ = (#[r4, r6] : Array Value) from by walk_nrm) (fun d => bsays_sm (hF.trans ⟨d, rfl⟩) (eqStringS_b r4 r6 ls _ (hr4.sm (hF.trans ⟨d, rfl⟩)) (hr6.sm (hF.trans ⟨d, rfl⟩)) hl)) ?_
    rintro r w7 ⟨rfl, b7⟩
    have hr := hr.below b7
    have h := h.below b7
    have b := bel_nxt b b7
    clear hr4 hr6
    clear hF b7
    have hF := Sm.refl w7
    walk_nrm
    refine beside_by (n := 400) ?_
    repeat (first | a_ctl hF Sm.trans D0.nil | (refine Goes.step rfl (fun _ h₁ => ?_); replace hF := Sm.trans hF h₁; clear h₁; refine goes_oper_k rfl rfl (by decide) (fun K hK => ?_); go_simp; refine hK _ _ ⟨still_listed rfl, ?_⟩; clear hK K) | (refine Goes.step rfl (fun _ h₁ => ?_); rw [stepG_unwanted rfl rfl]; simp only [goes_go]; refine ⟨D0.nil, ?_⟩; replace hF := Sm.trans hF h₁; clear h₁; walk_nrm))
    a_cond false hF Sm.trans D0.nil
    repeat (first | a_ctl hF Sm.trans D0.nil | (refine Goes.step rfl (fun _ h₁ => ?_); replace hF := Sm.trans hF h₁; clear h₁; refine goes_oper_k rfl rfl (by decide) (fun K hK => ?_); go_simp; refine hK _ _ ⟨still_listed rfl, ?_⟩; clear hK K) | (refine Goes.step rfl (fun _ h₁ => ?_); rw [stepG_unwanted rfl rfl]; simp only [goes_go]; refine ⟨D0.nil, ?_⟩; replace hF := Sm.trans hF h₁; clear h₁; walk_nrm))
    refine Goes.step rfl (fun _ h₁ => ?_)
    rw [stepG_ret']
    simp only [goes_go]
    refine ⟨D0.nil, ?_⟩
    refine Goes.stop fun w₁ h₂ => .at0 fun d => ?_
    have hF := (Sm.trans hF h₁).trans (h₂.trans ⟨d, rfl⟩)
    exact leave1 Tryz.func4 rfl (R := BSays true w) ⟨rfl, b.sm hF⟩
end Go.Proofs.YtagncoahobghpacGreatDoor

namespace Go.Proofs.YtagncoahobghpacGreatDoor
open Go

/-- A tied card without a companion, of a call that can start goroutines. -/
theorem holds_tied_goes (Lk : Looks) {p : Pinned} {s : OpenSpec} {c : OpenClaim} (kinds : List LaidKind) (tests : Bool) (har : Bool × String) (lk : Bool)
    (hc : c.holds p s) (hw : c.wfByText s = true) (htie : c.laidByTextAt Lk p kinds tests)
    (hst : c.start = .entering) (hnb : c.noBlocks = false ∧ c.again = false) (hm : p.checked.prog.mainIs = some (har.1, har.2.toList)) (hn : (!har.1 && har.2.isEmpty && !lk) = false)
    (hl : ∀ f fn, p.checked.prog.funcNamed c.func = some f → p.checked.prog.funcs[f]? = some fn → lk = p.checked.prog.looks [] ∧ ∀ (j : Nat) t, fn.params[j]? = some t → p.checked.prog.wantsStandIn t = false)
    (hg : true = c.goesBy p.checked.prog) :
    Claim7.holds p (.plain s) { stood := { row := c, standIns := [], harness := har, looks := lk }, kinds := [], alts := [], laidByText := true, laidKinds := kinds, laidTests := tests, laidLooks := Lk, goes := true } := by
  have h6 : Claim7.isSixth { stood := { row := c, standIns := [], harness := har, looks := lk }, kinds := [] } = false := by simpa [Claim7.isSixth] using hn
  have h1 := Claim7.tied_new_at Lk kinds tests (Claim7.new_of_sixth hc har lk hst hnb hm h6 hl) hw
  exact ⟨h1, (fun D hD => by cases hD), htie, (fun h => by cases h), hg⟩

section
variable {H : Type} {enc : TypeId × Value → H}
open Go.Conc
/-- From one good run from every start to the row's contract: what the row lists and the world's shape are kept. -/
theorem leaving_and {a : Assume} {C : Checked} {os : Os} {f : FuncId} {fn : Func} {s : ChangeSpec} {conds : List PathCond} {apart fresh handsOn again : Bool} {X : World → Array Value → Prop}
    (hX : ∀ (w w' : World) (args : Array Value), w.heap = w'.heap → X w args → X w' args)
    (own : ownKnob C.prog.godebug = none) (started : os.Started) (hfn : C.prog.funcs[f]? = some fn)
    (witness : ∃ (w : World) (tape : Tape) (i : Input), w.os = os ∧ (w.forCall tape i).Shaped C.prog ∧ i.vars = [] ∧ Input.okWide C.prog (w.forCall tape i) .any w.heap.size f i ∧
      ((s.pre enc C.prog fn conds apart (w.forCall tape i).memory i.args ∧ X (w.forCall tape i).memory i.args) ∧ sizedMet enc C.prog fn (OpenSpec.ofChange s) apart (w.forCall tape i).memory i.args) ∧ a.holds C.prog (lone (Frame.enter C.prog f i.args .normal) [] (w.forCall tape i)))
    (runs : ∀ (W : World) (base : Nat) (args : Array Value) (ds gs : List (DataW H)) (before : List MemPlace),
      (∀ (j : Nat) t v, fn.params[j]? = some t → args[j]? = some v → Value.okWide C.prog W .any base t v) →
      DataW.Whole enc C.prog fn.params.toList s.vars apart W args.toList ds gs before →
      (DataW.weightsEach C.prog (fn.params.toList ++ s.plain.varTypes C.prog) (ds ++ gs)).all (· ≤ reachBytes) = true →
      X W args → W.ShapedOpen C.prog →
      ∃ M last o w' t', runNT C.prog (M + 1) (solo (G (Frame.enter C.prog f args .normal) []) W) #[] = (.ended o w', t') ∧ runN C.prog M (solo (G (Frame.enter C.prog f args .normal) []) W) = .next last ∧
        step C.prog last = .ended o w' ∧ Conc.Good C.prog (fun v W' => s.post enc C.prog fn apart fresh handsOn again W args v W') last o w' t') :
    ReturnsInLeavingWide a C os f .any (fun w args => (s.pre enc C.prog fn conds apart w args ∧ X w args) ∧ sizedMet enc C.prog fn (OpenSpec.ofChange s) apart w args) (s.post enc C.prog fn apart fresh handsOn again) := by
  refine returnsInLeavingWide_of_good own started witness ?_
  intro w tape i _ hsh _ hok hpre _
  obtain ⟨_, _, _, fn', hfn', _, _, _, _, hval⟩ := hok
  have e : fn' = fn := Option.some.inj (hfn'.symm.trans hfn)
  subst e
  obtain ⟨⟨⟨ds, gs, before, hw, _⟩, hx⟩, hz⟩ := hpre
  have hw' := DataW.Whole.of_heap (w' := w.forCall tape i) (by rfl) hw
  obtain ⟨M, last, o, w', t', h1, h2, h3, h4⟩ := runs (w.forCall tape i) w.heap.size i.args ds gs before hval hw' (hz.weights hw) (hX _ _ _ (by rfl) hx) hsh
  exact ⟨M, last, o, w', t', h1, h2, h3, h4.mono fun v hp => ChangeSpec.post_blind hp⟩
end

/-- One listed variable that is no handle. -/
theorem laid_one {P : Program} {w : World} {l : List (String × DataW Unit)} {x : String × DataW Unit} (h : laidMetH P l w) (e : (l.filter fun x => x.2.handleName?.isNone).filter (fun y => y.1 == x.1) = [x]) : laidMet P [x] w := by
  have := (laidMetH_iff.1 h).1.filter fun y => y.1 == x.1
  rwa [e] at this
/-- A listed handle. -/
theorem laid_handle {P : Program} {w : World} {l : List (String × DataW Unit)} {n : String} {nm : List UInt8} {x : DataW Unit} {u ty : TypeId} {g : Nat} (h : laidMetH P l w) (hm : (n, x) ∈ l.filter fun x => x.2.handleName?.isSome) (hx : x.handleName? = some nm) (hf : x.funcsIn? = none)
    (hu : (P.cutTypes.find? (·.1 == "internal/reflectlite.rtype")).map (·.2) = some u) (hg : P.globalNamed n = some g)
    (hrow : ((List.range P.types.size).filter fun t => P.rowNamed t nm) = [ty]) : w.cell? ⟨g, 0, none⟩ = some (.iface u (.agg #[typeHandle P ty])) := by
  have h2 := (laidMetH_iff.1 h).2 _ hm
  rw [hf] at h2
  obtain ⟨name, u', t', e1, e2, e3, e4, e5⟩ := h2
  obtain rfl := Option.some.inj (hx.symm.trans e1)
  obtain rfl := Option.some.inj (hu.symm.trans e2)
  have hm : t' ∈ (List.range P.types.size).filter fun t => P.rowNamed t nm := List.mem_filter.2 ⟨List.mem_range.2 e3, e4⟩
  rw [hrow] at hm
  obtain rfl := List.mem_singleton.1 hm
  simpa using World.var?_cell hg e5 0
end Go.Proofs.YtagncoahobghpacGreatDoor

namespace Go.Proofs.YtagncoahobghpacGreatDoor
open Go Go.RowKit
set_option maxRecDepth 100000

theorem star_es : "*" ++ "errors.errorString" = "*errors.errorString" := by decide
/-- The one type of that name. -/
theorem row_es (u : TypeId) (h : Tryz.prog.typeName? 3 u = some "*errors.errorString") : u = 179 :=
  typeName_ptr_named (nm := "errors.errorString") (by rw [star_es]; kernel_rfl) (by kernel_rfl) (by decide) u (by rw [star_es]; exact h)

theorem desk_sentinel {n : String} {text : List UInt8} {W : World} {g : Nat} (h : laidMet Tryz.prog [(n, .iface "*errors.errorString" (.ptr (.agg [.lit (.string text)])))] W) (hg : Tryz.prog.globalNamed n = some g) (ht : (Tryz.prog.globals[g]?).map (·.type) = some 44) :
    ∃ a, W.cell? ⟨g, 0, none⟩ = some (.iface 179 (.pointer (some a))) := by
  obtain ⟨a, s, h1, -⟩ := laid_sentinel (ti := 44) (tp := 179) (te := 181) (ts := 9) h hg ht Tryz.underlying44 row_es Tryz.underlying179 Tryz.underlying181 rfl rfl Tryz.underlying9 (by kernel_rfl) (by kernel_rfl)
  exact ⟨a, by simpa using World.var?_cell hg h1 0⟩

theorem dsk_of {W : World} (h : laidMetH Tryz.prog Rows.fnRunDeskRow.laid W) (hs : W.ShapedOpen Tryz.prog) : Dsk W where
  ml := cell_of_shapedOpen_int (t := 3) (zero := #[.int .i64 0]) hs (of_decide_eq_true (by kernel_rfl)) (by kernel_rfl) rfl (by kernel_rfl) (by kernel_rfl) Tryz.underlying3
  tab := Lib.tabIs_of_head (g := 5) (by kernel_rfl) (t := 173) (by kernel_rfl) Tryz.underlying173 Tryz.underlying151 (by kernel_rfl) (by kernel_rfl) (laid_one (x := ("internal/strconv.uint64pow10", Lib.tabData .u64 Lib.pow10Tab)) h (by kernel_rfl))
  syn := by
    obtain ⟨a, ha⟩ := desk_sentinel (g := 3) (laid_one (x := ("strconv.ErrSyntax", Rows.laid_strconv_ErrSyntax)) h (by kernel_rfl)) (by kernel_rfl) (by kernel_rfl)
    exact ⟨_, _, ha⟩
  rng := by
    obtain ⟨a, ha⟩ := desk_sentinel (g := 4) (laid_one (x := ("strconv.ErrRange", Rows.laid_strconv_ErrRange)) h (by kernel_rfl)) (by kernel_rfl) (by kernel_rfl)
    exact ⟨_, _, ha⟩
  unk := desk_sentinel (laid_one (x := ("loop.example/wholewaves/impl.errUnknown", Rows.laid_loop_example_wholewaves_impl_errUnknown)) h (by kernel_rfl)) (by kernel_rfl) (by kernel_rfl)
  ety := by
    have := laid_handle (n := "errors.errorType") (x := Rows.laid_errors_errorType) (u := 93) (ty := 44) (g := 1) h (List.mem_filter.2 ⟨.tail _ (.tail _ (.tail _ (.tail _ (.head _)))), rfl⟩) rfl rfl (by kernel_rfl) (by kernel_rfl) (by kernel_rfl)
    have h2 : typeHandle Tryz.prog 44 = .pointer (some ⟨10, 44, none⟩) := by kernel_rfl
    rw [h2] at this
    exact this
  lo := by
    obtain ⟨o, o0, h1, -⟩ := hs.2 10 (of_decide_eq_true (by kernel_rfl)) (of_decide_eq_true (by kernel_rfl))
    have := (Array.getElem?_eq_some_iff.1 h1).1
    omega

/-- The settled world with the handle in its variable. -/
noncomputable def baseW (os : Os) : World :=
  let w0 := World.holding Tryz.prog os ⟨#[], #[], []⟩
  { w0 with heap := w0.heap.modify 1 fun
      | .cells _ t frozen => .cells #[.iface 93 (.agg #[.pointer (some ⟨10, 44, none⟩)])] t frozen
      | o => o }

/-- What is listed, less the handle. -/
noncomputable def plainL : List (String × DataW Unit) := Rows.fnRunDeskRow.laid.filter fun x => x.2.handleName?.isNone

/-- One start that fits: all that is listed is laid. -/
noncomputable def startW (os : Os) : World := (baseW os).layVars Tryz.prog plainL

theorem startW_os (os : Os) : (startW os).os = os := World.layVars_os _ _ _

theorem startW_met (os : Os) (args : Array Value) : laidMetH Tryz.prog Rows.fnRunDeskRow.laid ((startW os).forCall (fun _ _ => 0) ⟨#[], args, []⟩).memory := by
  have e1 : (plainL.filter fun x => (plainL.map (·.1)).contains x.1) = plainL := List.filter_eq_self.2 fun x hx => List.contains_iff_mem.2 (List.mem_map.2 ⟨x, hx, rfl⟩)
  have e2 : (plainL.filter fun x => !(plainL.map (·.1)).contains x.1) = [] := List.filter_eq_nil_iff.2 fun x hx => by rw [List.contains_iff_mem.2 (List.mem_map.2 ⟨x, hx, rfl⟩)]; simp
  have h : laidMet Tryz.prog plainL (startW os) := laidMet_layVars (w0 := baseW os) (plainL.map (·.1)) [] (by rw [e1]; rfl) (by rw [e1]; kernel_rfl) (by rw [e1]; kernel_rfl) (by rw [e2]; exact LaidIn.none)
  have h2 : laidMet Tryz.prog plainL ((startW os).forCall (fun _ _ => 0) ⟨#[], args, []⟩).memory := h.of_heap (by simp [World.memory, World.forCall, Input.heap])
  exact laidMetH_of_parts h2 (by kernel_rfl)

theorem startW_shaped (os : Os) (args : Array Value) : ((startW os).forCall (fun _ _ => 0) ⟨#[], args, []⟩).Shaped Tryz.prog :=
  World.shaped_of_ZipB (by kernel_rfl) (by kernel_rfl)
end Go.Proofs.YtagncoahobghpacGreatDoor
