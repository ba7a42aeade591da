/-
  Joined texts: SfI, So, DkW, DsB.
-/
import Derived.Test.YtagncoahobghpacGreatDoorJGdE35
import Derived.Test.YtagncoahobghpacGreatDoorJGdERv1
import Derived.Test.YtagncoahobghpacGreatDoorT1
import Derived.Test.YtagncoahobghpacGreatDoorJGdE30
import Derived.Test.YtagncoahobghpacGreatDoorJGdESgB
import Derived.Test.YtagncoahobghpacGreatDoorJGdEEdB
import Derived.Lib.ItoaLen
namespace Go.Proofs.YtagncoahobghpacGreatDoor
open Go Go.Conc Go.RowKit
set_option linter.unusedVariables false

theorem own_capU {E B : Nat} {w : World} {v : Value} {xs : List Int} (h : Own E B w v xs) : ∀ a n c, v = .slice a n c → n ≤ c := by
  intro a n c e
  rcases h.2 with ⟨h', h0⟩ | ⟨g', cap', cur, h', _, _, hn, _⟩
  · rw [e] at h'; simp only [Value.slice.injEq] at h'; omega
  · rw [e] at h'; simp only [Value.slice.injEq] at h'; omega
/-- It makes, in company, a slice from whatever place on. -/
def BMadeO (E : Nat) (w : World) (xs : List Int) (v : Value) (w' : World) : Prop := OwnO E w.heap.size w' v xs ∧ Below w.heap.size w w'
theorem OwnO.sm {w w₁ : World} {E B : Nat} {v : Value} {xs : List Int} (h : OwnO E B w v xs) (hs : Sm w w₁) : OwnO E B w₁ v xs := by
  obtain ⟨d, rfl⟩ := hs
  exact h
theorem BMade.oo {E : Nat} {w w' : World} {v : Value} {xs : List Int} (h : BMade E w xs v w') : BMadeO E w xs v w' := ⟨h.1.oo, h.2⟩
theorem bmadeO_sm {w w₁ : World} {f : FuncId} {args : Array Value} {E : Nat} {xs : List Int} (hs : Sm w w₁) (h : BCalls Tryz.prog f args w₁ (BMadeO E w₁ xs)) : BCalls Tryz.prog f args w₁ (BMadeO E w xs) :=
  h.mono fun v w' q => by
    obtain ⟨d, rfl⟩ := hs
    exact ⟨q.1, ⟨q.2.os, q.2.tape, q.2.output, q.2.size, q.2.block⟩⟩

set_option maxHeartbeats 1000000 in
theorem reverse_nil (w : World) : Calls Tryz.prog 118 #[.slice none 0 0] w fun e w' => e = .returned (.tuple #[]) ∧ w' = w := by
  go_enter Tryz.func118, Tryz.ntmps118
  go_wp2
  refine wp_loop_rounds 1 ?_
  rw [rounds_succ]
  go_wp2
  go_end0
  exact ⟨rfl, rfl⟩

/-- It turns what is owned round, in company. -/
def BRev (B : Nat) (w : World) (v : Value) (xs : List Int) (r : Value) (w' : World) : Prop := r = .tuple #[] ∧ Own 3 B w' v (rvL xs) ∧ w.grownBy w' v.ownBlock
def BMade' (w : World) (xs : List Int) (v : Value) (w' : World) : Prop := Own 3 w.heap.size w' v xs ∧ Below w.heap.size w w'
theorem reverse_all (B : Nat) (v : Value) (xs : List Int) (w : World) (h : Own 3 B w v xs) (hl : xs.length ≤ 1048576) : Calls Tryz.prog 118 #[v] w fun e w' => ∃ r, e = .returned r ∧ BRev B w v xs r w' := by
  rcases h.shape with ⟨rfl, rfl⟩ | ⟨g, cap, rfl, _, _⟩
  · refine (reverse_nil w).mono ?_
    rintro e w' ⟨rfl, rfl⟩
    exact ⟨_, rfl, rfl, h, World.grownBy.refl _ _⟩
  · refine (reverse_any B g cap xs w h hl).mono ?_
    rintro e w' ⟨rfl, o, g⟩
    exact ⟨_, rfl, rfl, o, g⟩
theorem brev_blind (B : Nat) (v : Value) (xs : List Int) : Blind fun w r w' => BRev B w v xs r w' := by
  rintro r w w1 τ d τ' d' d2 ⟨h1, h2, h3⟩
  exact ⟨h1, h2, ⟨h3.os, rfl, h3.output, h3.size, h3.block⟩⟩
theorem bmade_blind' (xs : List Int) : Blind fun w v w' => BMade' w xs v w' := by
  rintro v w w1 τ d τ' d' d2 ⟨h1, h2⟩
  exact ⟨h1, ⟨h2.os, rfl, h2.output, h2.size, h2.block⟩⟩
theorem reverse_b (B : Nat) (v : Value) (xs : List Int) (w : World) (h : Own 3 B w v xs) (hl : xs.length ≤ 1048576) : BCalls Tryz.prog 118 #[v] w (BRev B w v xs) :=
  bcalls_of_calls noinit (callees [118] (by kernel_rfl)) Tryz.func118 rfl (by kernel_rfl) (by kernel_rfl) (fun w r w' => BRev B w v xs r w') (brev_blind B v xs)
    fun τ d => reverse_all B v xs (reT w τ d) h hl
theorem clone_b (v : Value) (xs : List Int) (w : World) (h : Rd w v xs) (hl : xs.length ≤ 1048576) : BCalls Tryz.prog 117 #[v] w (BMade' w xs) :=
  bcalls_of_calls noinit (callees [117] (by kernel_rfl)) Tryz.func117 rfl (by kernel_rfl) (by kernel_rfl) (fun w v w' => BMade' w xs v w') (bmade_blind' xs)
    fun τ d => clone_any v xs (reT w τ d) h hl
section
variable {w w₁ : World}
theorem Rd.sm' {v : Value} {xs : List Int} (h : Rd w v xs) (hs : Sm w w₁) : Rd w₁ v xs := by
  obtain ⟨d, rfl⟩ := hs
  exact h
theorem Own.sm' {E B : Nat} {v : Value} {xs : List Int} (h : Own E B w v xs) (hs : Sm w w₁) : Own E B w₁ v xs := by
  obtain ⟨d, rfl⟩ := hs
  exact h
theorem brev_sm {f : FuncId} {args : Array Value} {B : Nat} {v : Value} {xs : List Int} (hs : Sm w w₁) (h : BCalls Tryz.prog f args w₁ (BRev B w₁ v xs)) : BCalls Tryz.prog f args w₁ (BRev B w v xs) :=
  h.mono fun r w' q => by
    obtain ⟨d, rfl⟩ := hs
    exact ⟨q.1, q.2.1, ⟨q.2.2.os, q.2.2.tape, q.2.2.output, q.2.2.size, q.2.2.block⟩⟩
theorem bmade_sm' {f : FuncId} {args : Array Value} {xs : List Int} (hs : Sm w w₁) (h : BCalls Tryz.prog f args w₁ (BMade' w₁ xs)) : BCalls Tryz.prog f args w₁ (BMade' w xs) :=
  h.mono fun v w' q => by
    obtain ⟨d, rfl⟩ := hs
    exact ⟨q.1, ⟨q.2.os, q.2.tape, q.2.output, q.2.size, q.2.block⟩⟩
theorem bel_marked' {E B : Nat} {w w1 w2 : World} {v : Value} {xs : List Int} (h : Below w.heap.size w w1) (o : Own E B w1 v xs) (g : w1.grownBy w2 v.ownBlock) (hB : w.heap.size ≤ B) : Below w.heap.size w w2 :=
  h.grown g h.size fun k hk => Nat.le_trans hB (World.ownsRow.lt o k hk).1
end

set_option maxRecDepth 100000 in
set_option maxHeartbeats 8000000 in
theorem self_b (u : Value) (xs : List Int) (w : World) (hx : Rd w u xs) (hl : xs.length ≤ 524288) :
    BCalls Tryz.prog 97 #[u] w (BMadeO 3 w (selL xs)) := by
  intro cs
  have hl1 : xs.length ≤ 1048576 := by omega
  have hl2 : (rvL xs).length ≤ 1048576 := by rw [len_rvL]; exact hl1
  have HM := Lib.hid (half_mul xs)
  have HN := Lib.hid (mul_turn_len xs)
  rw [enter_at _ Tryz.func97 rfl]
  simp only [Tryz.f97, List.size_toArray, List.length_cons, List.length_nil, Nat.reduceAdd, Nat.reduceSub, Array.replicate_succ, Array.replicate_zero, List.push_toArray, List.append_toArray, List.nil_append, List.cons_append]
  have hF : Sm w w := Sm.refl w
  refine beside_by (n := 400) ?_
  repeat (first | a_ctl hF Sm.trans D0.nil | (refine Goes.step rfl (fun _ h₁ => ?_); replace hF := Sm.trans hF h₁; clear h₁; refine goes_oper_k rfl rfl (by decide) (fun K hK => ?_); go_simp; refine hK _ _ ⟨still_listed rfl, ?_⟩; clear hK K) | (refine Goes.step rfl (fun _ h₁ => ?_); rw [stepG_unwanted rfl rfl]; simp only [goes_go]; refine ⟨D0.nil, ?_⟩; replace hF := Sm.trans hF h₁; clear h₁; walk_nrm))
  refine Goes.stop fun w₁ h₁ => ?_
  replace hF := Sm.trans hF h₁
  clear h₁
  refine beside_call rfl rfl (by decide) rfl Tryz.func117 rfl rfl (by kernel_rfl) (show _ = (#[u] : Array Value) from by walk_nrm) (fun d => bmade_sm' (hF.trans ⟨d, rfl⟩) (clone_b _ xs _ (hx.sm' (hF.trans ⟨d, rfl⟩)) hl1)) ?_
  rintro v1 w1 ⟨o1, b1⟩
  clear hF
  have hF := Sm.refl w1
  walk_nrm
  refine beside_by (n := 400) ?_
  repeat (first | a_ctl hF Sm.trans D0.nil | (refine Goes.step rfl (fun _ h₁ => ?_); replace hF := Sm.trans hF h₁; clear h₁; refine goes_oper_k rfl rfl (by decide) (fun K hK => ?_); go_simp; refine hK _ _ ⟨still_listed rfl, ?_⟩; clear hK K) | (refine Goes.step rfl (fun _ h₁ => ?_); rw [stepG_unwanted rfl rfl]; simp only [goes_go]; refine ⟨D0.nil, ?_⟩; replace hF := Sm.trans hF h₁; clear h₁; walk_nrm))
  refine Goes.stop fun w₁ h₁ => ?_
  replace hF := Sm.trans hF h₁
  clear h₁
  refine beside_call rfl rfl (by decide) rfl Tryz.func118 rfl rfl (by kernel_rfl) (show _ = (#[v1] : Array Value) from by walk_nrm) (fun d => brev_sm (hF.trans ⟨d, rfl⟩) (reverse_b _ _ xs _ (o1.sm' (hF.trans ⟨d, rfl⟩)) hl1)) ?_
  rintro r w2 ⟨rfl, o2, g2⟩
  clear hF
  have b2 := bel_marked' b1 o1 g2 (Nat.le_refl _)
  replace hx := hx.below b2 (Nat.le_refl _)
  clear o1 b1 g2
  have hF := Sm.refl w2
  walk_nrm
  refine beside_by (n := 400) ?_
  repeat (first | a_ctl hF Sm.trans D0.nil | (refine Goes.step rfl (fun _ h₁ => ?_); replace hF := Sm.trans hF h₁; clear h₁; refine goes_oper_k rfl rfl (by decide) (fun K hK => ?_); go_simp; refine hK _ _ ⟨still_listed rfl, ?_⟩; clear hK K) | (refine Goes.step rfl (fun _ h₁ => ?_); rw [stepG_unwanted rfl rfl]; simp only [goes_go]; refine ⟨D0.nil, ?_⟩; replace hF := Sm.trans hF h₁; clear h₁; walk_nrm))
  refine Goes.stop fun w₁ h₁ => ?_
  replace hF := Sm.trans hF h₁
  clear h₁
  refine beside_call rfl rfl (by decide) rfl Tryz.func119 rfl rfl (by kernel_rfl) (show _ = (#[u, v1] : Array Value) from by walk_nrm) (fun d => bmade_sm (hF.trans ⟨d, rfl⟩) (timesI_all _ _ xs (rvL xs) _ (hx.sm' (hF.trans ⟨d, rfl⟩)) (o2.rd.sm' (hF.trans ⟨d, rfl⟩)) hl1 hl2)) ?_
  rintro v3 w3 ⟨o3, b3⟩
  clear hF
  have bb := bel_nxt b2 b3
  replace o3 := Own.mono o3 b2.size
  clear o2 b2 b3 hx
  obtain ⟨ys, hys⟩ : ∃ ys, ys = mulL xs (rvL xs) := ⟨_, rfl⟩
  rw [← hys] at HM HN o3
  obtain ⟨Z, hZ⟩ : ∃ Z, Z = selL xs := ⟨_, rfl⟩
  rw [← hZ] at HM ⊢
  clear hys hZ
  rcases o3.shape with ⟨rfl, hnil⟩ | ⟨g, cap, rfl, hg, hgs⟩
  · have HO : OwnO 3 w.heap.size w3 (.slice none 0 0) Z := by
      refine .inl ⟨rfl, ?_⟩
      rw [← HM.out, hnil]; rfl
    have q2 : IntKind.i64.wrap 0 = 0 := rfl
    clear o3 hnil
    have hF := Sm.refl w3
    walk_nrm
    refine beside_by (n := 400) ?_
    repeat (first | a_ctl hF Sm.trans D0.nil | (refine Goes.step rfl (fun _ h₁ => ?_); replace hF := Sm.trans hF h₁; clear h₁; refine goes_oper_k rfl rfl (by decide) (fun K hK => ?_); go_simp; refine hK _ _ ⟨still_listed rfl, ?_⟩; clear hK K) | (refine Goes.step rfl (fun _ h₁ => ?_); rw [stepG_unwanted rfl rfl]; simp only [goes_go]; refine ⟨D0.nil, ?_⟩; replace hF := Sm.trans hF h₁; clear h₁; walk_nrm))
    refine Goes.step rfl (fun _ h₁ => ?_)
    rw [stepG_ret']
    simp only [goes_go]
    refine ⟨D0.nil, ?_⟩
    refine Goes.stop fun w₁ h₂ => .at0 fun d => ?_
    have hF := (Sm.trans hF h₁).trans (h₂.trans ⟨d, rfl⟩)
    exact leave1 Tryz.func97 rfl (R := BMadeO 3 w Z) ⟨HO.sm hF, bb.sm hF⟩
  · obtain ⟨L, hL⟩ : ∃ L, L = ys.length := ⟨_, rfl⟩
    obtain ⟨k, hk⟩ : ∃ k, k = L / 2 := ⟨_, rfl⟩
    have hcap := own_capU o3 _ _ _ rfl
    have HO : OwnO 3 w.heap.size w3 (.slice (some ⟨g, k, none⟩) (L - k) (cap - k)) Z := by
      have h := o3.part (k := k) (by omega) (cap - k)
      rw [← hL] at h
      rw [hk, hL, HM.out, ← hL, ← hk] at h
      exact h
    have hLl := HN.out
    rw [← hL] at hLl hcap ⊢
    have q1 : (L : Int).tdiv 2 = (k : Int) := by rw [Int.tdiv_eq_ediv_of_nonneg (by omega)]; omega
    have q2 : IntKind.i64.wrap (k : Int) = (k : Int) := IntWalk.i64_in _ (by omega)
    have q3 : k ≤ L := by omega
    have q3' : (k : Int) ≤ (L : Int) := by omega
    have q4 : (L : Int) ≤ (cap : Int) := by omega
    have HO2 : (if cap = k then (some ⟨g, 0, none⟩ : Option Addr) else some ⟨g, k, none⟩) = some ⟨g, k, none⟩ := by
      by_cases e : cap = k
      · rw [if_pos e, show k = 0 by omega]
      · rw [if_neg e]
    have HK := Lib.hid hk
    clear o3 hL hk hLl
    have hF := Sm.refl w3
    walk_nrm
    refine beside_by (n := 400) ?_
    repeat (first | a_ctl hF Sm.trans D0.nil | (refine Goes.step rfl (fun _ h₁ => ?_); replace hF := Sm.trans hF h₁; clear h₁; refine goes_oper_k rfl rfl (by decide) (fun K hK => ?_); go_simp; refine hK _ _ ⟨still_listed rfl, ?_⟩; clear hK K) | (refine Goes.step rfl (fun _ h₁ => ?_); rw [stepG_unwanted rfl rfl]; simp only [goes_go]; refine ⟨D0.nil, ?_⟩; replace hF := Sm.trans hF h₁; clear h₁; walk_nrm))
    refine Goes.step rfl (fun _ h₁ => ?_)
    rw [stepG_ret']
    simp only [goes_go]
    refine ⟨D0.nil, ?_⟩
    refine Goes.stop fun w₁ h₂ => .at0 fun d => ?_
    have hF := (Sm.trans hF h₁).trans (h₂.trans ⟨d, rfl⟩)
    exact leave1 Tryz.func97 rfl (R := BMadeO 3 w Z) ⟨HO.sm hF, bb.sm hF⟩

end Go.Proofs.YtagncoahobghpacGreatDoor

namespace Go.Proofs.YtagncoahobghpacGreatDoor
open Go Go.Conc Go.RowKit
set_option linter.unusedVariables false

set_option maxRecDepth 100000 in
set_option maxHeartbeats 8000000 in
theorem implSelfOf_b (u : Value) (xs : List Int) (w : World) (hx : Rd w u xs) (hl : xs.length ≤ 1048576) :
    BCalls Tryz.prog 67 #[u] w (BMadeO 3 w (selF xs)) := by
  intro cs
  have hm1 : xs.length ≤ maxLen := by unfold maxLen; omega
  rw [enter_at _ Tryz.func67 rfl]
  simp only [Tryz.f67, List.size_toArray, List.length_cons, List.length_nil, Nat.reduceAdd, Nat.reduceSub, Array.replicate_succ, Array.replicate_zero, List.push_toArray, List.append_toArray, List.nil_append, List.cons_append]
  have hF : Sm w w := Sm.refl w
  refine beside_by (n := 400) ?_
  repeat (first | a_ctl hF Sm.trans D0.nil | (refine Goes.step rfl (fun _ h₁ => ?_); replace hF := Sm.trans hF h₁; clear h₁; refine goes_oper_k rfl rfl (by decide) (fun K hK => ?_); go_simp; refine hK _ _ ⟨still_listed rfl, ?_⟩; clear hK K) | (refine Goes.step rfl (fun _ h₁ => ?_); rw [stepG_unwanted rfl rfl]; simp only [goes_go]; refine ⟨D0.nil, ?_⟩; replace hF := Sm.trans hF h₁; clear h₁; walk_nrm))
  refine Goes.stop fun w₁ h₁ => ?_
  replace hF := Sm.trans hF h₁
  clear h₁
  refine beside_call rfl rfl (by decide) rfl Tryz.func73 rfl rfl (by kernel_rfl) (show _ = (#[u] : Array Value) from by walk_nrm) (fun d => bsays_sm (hF.trans ⟨d, rfl⟩) (implValid_b _ xs _ (hx.sm (hF.trans ⟨d, rfl⟩)) hm1)) ?_
  rintro r w2 ⟨rfl, b1⟩
  clear hF
  have hx := hx.below b1 (Nat.le_refl _)
  have hF := Sm.refl w2
  walk_nrm
  cases hvx : vrB xs with
  | false =>
    rw [selF_no hvx]
    clear hx hvx
    refine beside_by (n := 400) ?_
    repeat (first | a_ctl hF Sm.trans D0.nil | (refine Goes.step rfl (fun _ h₁ => ?_); replace hF := Sm.trans hF h₁; clear h₁; refine goes_oper_k rfl rfl (by decide) (fun K hK => ?_); go_simp; refine hK _ _ ⟨still_listed rfl, ?_⟩; clear hK K) | (refine Goes.step rfl (fun _ h₁ => ?_); rw [stepG_unwanted rfl rfl]; simp only [goes_go]; refine ⟨D0.nil, ?_⟩; replace hF := Sm.trans hF h₁; clear h₁; walk_nrm))
    a_cond true hF Sm.trans D0.nil
    repeat (first | a_ctl hF Sm.trans D0.nil | (refine Goes.step rfl (fun _ h₁ => ?_); replace hF := Sm.trans hF h₁; clear h₁; refine goes_oper_k rfl rfl (by decide) (fun K hK => ?_); go_simp; refine hK _ _ ⟨still_listed rfl, ?_⟩; clear hK K) | (refine Goes.step rfl (fun _ h₁ => ?_); rw [stepG_unwanted rfl rfl]; simp only [goes_go]; refine ⟨D0.nil, ?_⟩; replace hF := Sm.trans hF h₁; clear h₁; walk_nrm))
    refine Goes.step rfl (fun _ h₁ => ?_)
    rw [stepG_ret']
    simp only [goes_go]
    refine ⟨D0.nil, ?_⟩
    refine Goes.stop fun w₁ h₂ => .at0 fun d => ?_
    have hF := (Sm.trans hF h₁).trans (h₂.trans ⟨d, rfl⟩)
    exact leave1 Tryz.func67 rfl (R := BMadeO 3 w _) ⟨.inl ⟨rfl, rfl⟩, b1.sm hF⟩
  | true =>
    rw [selF_yes hvx]
    have h16 := (vrB_of hvx).1
    have hl5 : xs.length ≤ 524288 := by omega
    clear hvx
    refine beside_by (n := 400) ?_
    repeat (first | a_ctl hF Sm.trans D0.nil | (refine Goes.step rfl (fun _ h₁ => ?_); replace hF := Sm.trans hF h₁; clear h₁; refine goes_oper_k rfl rfl (by decide) (fun K hK => ?_); go_simp; refine hK _ _ ⟨still_listed rfl, ?_⟩; clear hK K) | (refine Goes.step rfl (fun _ h₁ => ?_); rw [stepG_unwanted rfl rfl]; simp only [goes_go]; refine ⟨D0.nil, ?_⟩; replace hF := Sm.trans hF h₁; clear h₁; walk_nrm))
    a_cond false hF Sm.trans D0.nil
    repeat (first | a_ctl hF Sm.trans D0.nil | (refine Goes.step rfl (fun _ h₁ => ?_); replace hF := Sm.trans hF h₁; clear h₁; refine goes_oper_k rfl rfl (by decide) (fun K hK => ?_); go_simp; refine hK _ _ ⟨still_listed rfl, ?_⟩; clear hK K) | (refine Goes.step rfl (fun _ h₁ => ?_); rw [stepG_unwanted rfl rfl]; simp only [goes_go]; refine ⟨D0.nil, ?_⟩; replace hF := Sm.trans hF h₁; clear h₁; walk_nrm))
    refine Goes.stop fun w₁ h₁ => ?_
    replace hF := Sm.trans hF h₁
    clear h₁
    refine beside_call rfl rfl (by decide) rfl Tryz.func97 rfl rfl (by kernel_rfl) (show _ = (#[u] : Array Value) from by walk_nrm) (fun d => bmadeO_sm (hF.trans ⟨d, rfl⟩) (self_b _ xs _ (hx.sm (hF.trans ⟨d, rfl⟩)) hl5)) ?_
    rintro r w3 ⟨o3, b3⟩
    clear hF hx
    have hF := Sm.refl w3
    walk_nrm
    refine beside_by (n := 400) ?_
    repeat (first | a_ctl hF Sm.trans D0.nil | (refine Goes.step rfl (fun _ h₁ => ?_); replace hF := Sm.trans hF h₁; clear h₁; refine goes_oper_k rfl rfl (by decide) (fun K hK => ?_); go_simp; refine hK _ _ ⟨still_listed rfl, ?_⟩; clear hK K) | (refine Goes.step rfl (fun _ h₁ => ?_); rw [stepG_unwanted rfl rfl]; simp only [goes_go]; refine ⟨D0.nil, ?_⟩; replace hF := Sm.trans hF h₁; clear h₁; walk_nrm))
    refine Goes.step rfl (fun _ h₁ => ?_)
    rw [stepG_ret']
    simp only [goes_go]
    refine ⟨D0.nil, ?_⟩
    refine Goes.stop fun w₁ h₂ => .at0 fun d => ?_
    have hF := (Sm.trans hF h₁).trans (h₂.trans ⟨d, rfl⟩)
    exact leave1 Tryz.func67 rfl (R := BMadeO 3 w _) ⟨(o3.mono b1.size).sm hF, (bel_nxt b1 b3).sm hF⟩

end Go.Proofs.YtagncoahobghpacGreatDoor

namespace Go.Proofs.YtagncoahobghpacGreatDoor
open Go Go.Conc Go.RowKit
set_option linter.unusedVariables false
set_option maxRecDepth 100000

def wEdge : ByteArray := ⟨#[101, 100, 103, 101]⟩
def wSigns : ByteArray := ⟨#[115, 105, 103, 110, 115]⟩
def wWave : ByteArray := ⟨#[119, 97, 118, 101]⟩
def wHalve : ByteArray := ⟨#[104, 97, 108, 118, 101]⟩
def wLeap : ByteArray := ⟨#[108, 101, 97, 112]⟩
def wSelf : ByteArray := ⟨#[115, 101, 108, 102]⟩
/-- What a word makes of a row. -/
def wordL (s : ByteArray) (xs : List Int) : List Int :=
  if s = wEdge then edgeF xs else if s = wSigns then signsF xs else if s = wWave then waveF xs else if s = wHalve then halF xs else if s = wLeap then lepF xs else if s = wSelf then selF xs else []
def knW (s : ByteArray) : Bool := decide (s = wEdge ∨ s = wSigns ∨ s = wWave ∨ s = wHalve ∨ s = wLeap ∨ s = wSelf)
theorem wordF_no {s : ByteArray} (h : knW s = false) : wordF s = .nilFunc := by
  replace h := of_decide_eq_false h
  simp only [not_or, wEdge, wSigns, wWave, wHalve, wLeap, wSelf] at h
  obtain ⟨h0, h1, h2, h3, h4, h5⟩ := h
  unfold wordF
  rw [if_neg h0, if_neg h1, if_neg h2, if_neg h3, if_neg h4, if_neg h5]
/-- All numbers are numbers of 64 bits. -/
def In64 (xs : List Int) : Prop := ∀ n ∈ xs, -9223372036854775808 ≤ n ∧ n ≤ 9223372036854775807
theorem in64_tab {n : Nat} {f : Nat → Int} (h : ∀ j, j < n → -9223372036854775808 ≤ f j ∧ f j ≤ 9223372036854775807) : In64 (tab n f) := by
  intro z hz
  obtain ⟨j, hj, rfl⟩ := List.mem_map.1 (show z ∈ (List.range n).map f from hz)
  exact h j (List.mem_range.1 hj)
theorem in64_nil : In64 [] := fun n h => by cases h
theorem wrap_in (z : Int) : -9223372036854775808 ≤ wrap64 z ∧ wrap64 z ≤ 9223372036854775807 := by unfold wrap64; omega
theorem edge_ok (xs : List Int) (h : xs.length ≤ 16) : (edgeF xs).length ≤ 16 ∧ In64 (edgeF xs) := by
  unfold edgeF
  split
  · exact ⟨by simp [edgeL, h], in64_tab fun j _ => wrap_in _⟩
  · exact ⟨by simp, in64_nil⟩
theorem signs_ok (xs : List Int) (h : xs.length ≤ 16) : (signsF xs).length ≤ 16 ∧ In64 (signsF xs) := by
  unfold signsF
  split
  · exact ⟨by simp [signsL, h], in64_tab fun j _ => wrap_in _⟩
  · exact ⟨by simp, in64_nil⟩
theorem wave_ok (xs : List Int) (h : xs.length ≤ 16) : (waveF xs).length ≤ 16 ∧ In64 (waveF xs) := by
  unfold waveF
  split
  · exact ⟨by simp [h], in64_tab fun j _ => by omega⟩
  · exact ⟨by simp, in64_nil⟩
theorem self_ok (xs : List Int) (h : xs.length ≤ 16) : (selF xs).length ≤ 16 ∧ In64 (selF xs) := by
  unfold selF
  split
  · exact ⟨by simp [len_selL, h], in64_tab fun j _ => wrap_in _⟩
  · exact ⟨by simp, in64_nil⟩
theorem ix_at {xs : List Int} (hb : vrB xs = true) (j : Nat) : -1000 ≤ ix xs j ∧ ix xs j ≤ 1000 := by
  by_cases h : j < xs.length
  · exact (vrB_of hb).2 j h
  · have e : ix xs j = 0 := by simp [ix, List.getD, List.getElem?_eq_none (show xs.length ≤ j by omega)]
    rw [e]; omega
theorem halve_ok (xs : List Int) (h : xs.length ≤ 16) : (halF xs).length ≤ 16 ∧ In64 (halF xs) := by
  unfold halF
  split
  · rename_i he
    refine ⟨by simp [halL, h], in64_tab fun j hj => ?_⟩
    have := (hS_bound (m := xs.length / 2) (n := xs.length) (c := 1000) (by omega) (fun j _ => ix_at (evB_of he).1 j) (fun j _ => by have := ix_at (evB_of he).1 j; omega)).2 j hj
    omega
  · exact ⟨by simp, in64_nil⟩
theorem leap_ok (xs : List Int) (h : xs.length ≤ 16) : (lepF xs).length ≤ 16 ∧ In64 (lepF xs) := by
  unfold lepF
  split
  · rename_i he
    refine ⟨by simp [lepL, h], in64_tab fun j hj => ?_⟩
    have := lp_bound (n := xs.length / 2) (c := 1000) (F := ix xs) (fun j _ => ix_at (evB_of he).1 j) j (by have := (evB_of he).2; omega)
    omega
  · exact ⟨by simp, in64_nil⟩
theorem word_ok (s : ByteArray) (xs : List Int) (h : xs.length ≤ 16) : (wordL s xs).length ≤ 16 ∧ In64 (wordL s xs) := by
  unfold wordL
  split; exact edge_ok xs h
  split; exact signs_ok xs h
  split; exact wave_ok xs h
  split; exact halve_ok xs h
  split; exact leap_ok xs h
  split; exact self_ok xs h
  exact ⟨by simp, in64_nil⟩
theorem row_join {xs : List Int} (h : xs.length ≤ 16) (hi : In64 xs) : (Lib.join (xs.map Lib.itoa) [44]).length ≤ 140737488355328 := by
  have := join_len 44 (xs.map Lib.itoa) 21 (fun x hx => by
    obtain ⟨n, hn, rfl⟩ := List.mem_map.1 hx
    exact Lib.itoa_length_le n (hi n hn).1 (hi n hn).2)
  rw [List.length_map] at this
  omega
theorem row_wf {xs : List Int} (hb : vrB xs = true) : ∀ n ∈ xs, (Lit.int .i64 n).wf = true := by
  intro n hn
  obtain ⟨j, hj, rfl⟩ := List.getElem_of_mem hn
  have h1 := (vrB_of hb).2 j hj
  have h2 : ix xs j = xs[j] := by simp [ix, List.getD, List.getElem?_eq_getElem hj]
  rw [h2] at h1
  generalize xs[j] = z at h1
  simp only [Lit.wf, Bool.and_eq_true, decide_eq_true_eq]
  exact ⟨(show (-9223372036854775808 : Int) ≤ z by omega), (show z ≤ (9223372036854775807 : Int) by omega)⟩

/-- The contract of what a word stands for. -/
def WordC (s : ByteArray) (f : FuncId) : Prop :=
  ∀ v xs w, Rd w v xs → vrB xs = true → BCalls Tryz.prog f #[v] w fun r w' => Rd w' r (wordL s xs) ∧ Below w.heap.size w w'
theorem wordC_sm {s : ByteArray} {f : FuncId} (h : WordC s f) {v : Value} {xs : List Int} {w w1 : World} (hr : Rd w v xs) (hb : vrB xs = true) (hs : Sm w w1) : BCalls Tryz.prog f #[v] w1 fun r w' => Rd w' r (wordL s xs) ∧ Below w.heap.size w w' := by
  obtain ⟨d, rfl⟩ := hs
  exact (h v xs (w.at d) hr hb).mono fun r w' ⟨h1, h2⟩ => ⟨h1, ⟨h2.os, h2.tape, h2.output, h2.size, h2.block⟩⟩
theorem wordF_yes {s : ByteArray} (h : knW s = true) : ∃ f fn, wordF s = .func (.func f) #[] #[] ∧ Tryz.prog.funcs[f]? = some fn ∧ (fn.name == "runtime.NumGoroutine") = false ∧ fn.body.isNone = false ∧ WordC s f := by
  replace h := of_decide_eq_true h
  rcases h with rfl | rfl | rfl | rfl | rfl | rfl
  · exact ⟨_, _, rfl, Tryz.func62, rfl, rfl, fun v xs w hr hb => (implEdgeOf_b v xs w hr (by have := (vrB_of hb).1; unfold maxLen; omega) (row_wf hb)).mono fun r w' q => ⟨q.1.rd, q.2⟩⟩
  · exact ⟨_, _, rfl, Tryz.func63, rfl, rfl, fun v xs w hr hb => (implSignsOf_b v xs w hr (by have := (vrB_of hb).1; unfold maxLen; omega)).mono fun r w' q => ⟨q.1.rd, q.2⟩⟩
  · exact ⟨_, _, rfl, Tryz.func64, rfl, rfl, fun v xs w hr hb => (implWaveOf_b v xs w hr (by have := (vrB_of hb).1; unfold maxLen; omega)).mono fun r w' q => ⟨q.1.rd, q.2⟩⟩
  · exact ⟨_, _, rfl, Tryz.func65, rfl, rfl, fun v xs w hr hb => (implHalveOf_b v xs w hr (by have := (vrB_of hb).1; unfold maxLen; omega)).mono fun r w' q => ⟨q.1.rd, q.2⟩⟩
  · exact ⟨_, _, rfl, Tryz.func66, rfl, rfl, fun v xs w hr hb => (implLeapOf_b v xs w hr (by have := (vrB_of hb).1; unfold maxLen; omega)).mono fun r w' q => ⟨q.1.rd, q.2⟩⟩
  · exact ⟨_, _, rfl, Tryz.func67, rfl, rfl, fun v xs w hr hb => (implSelfOf_b v xs w hr (by have := (vrB_of hb).1; omega)).mono fun r w' q => ⟨q.1.rd, q.2⟩⟩

/-- What a line comes to. -/
inductive Ans where | what | wrong | row (xs : List Int)
def workP (line : ByteArray) : Ans :=
  if knW (cutP line).1 = true ∧ Lib.countByte line.data.toList 32 = 1 then
    match rowT (cutP line).2 with
    | none => .wrong
    | some xs => if wordL (cutP line).1 xs = [] then .wrong else .row (wordL (cutP line).1 xs)
  else .what
def ansT : Ans → ByteArray
  | .what => ⟨#[119, 104, 97, 116]⟩
  | .wrong => ⟨#[119, 114, 111, 110, 103]⟩
  | .row xs => listT xs
theorem rowT_vr {s : ByteArray} {xs : List Int} (h : rowT s = some xs) : vrB xs = true := by
  unfold rowT at h
  split at h
  · rename_i hq
    cases h
    exact hq.2
  · cases h
theorem workP_row {line : ByteArray} {xs : List Int} (h : workP line = .row xs) : xs.length ≤ 16 ∧ In64 xs := by
  unfold workP at h
  split at h
  · cases hr : rowT (cutP line).2 with
    | none => rw [hr] at h; cases h
    | some ys =>
      rw [hr] at h
      dsimp only at h
      split at h
      · cases h
      · cases h
        exact word_ok _ _ (vrB_of (rowT_vr hr)).1
  · cases h
end Go.Proofs.YtagncoahobghpacGreatDoor

namespace Go.Proofs.YtagncoahobghpacGreatDoor
open Go Go.RowKit
set_option linter.unusedVariables false
set_option linter.unusedSimpArgs false

/-- Numbers that are small. -/
def Sm64 (xs : List Int) : Prop := ∀ j, j < xs.length → -9223372036854775808 < ix xs j ∧ ix xs j ≤ 9223372036854775807
theorem sm_tab {n : Nat} {f : Nat → Int} (h : ∀ j, j < n → -4611686018427387904 ≤ f j ∧ f j ≤ 4611686018427387904) : Sm64 (tab n f) := by
  intro j hj
  rw [len_tab] at hj
  rw [ix_tab _ _ _ hj]
  have := h j hj
  omega
theorem wrap_same {z : Int} (h : -4611686018427387904 ≤ z ∧ z ≤ 4611686018427387904) : wrap64 z = z := by unfold wrap64; omega
theorem dif_bound {F : Nat → Int} (h : ∀ j, -1000 ≤ F j ∧ F j ≤ 1000) : ∀ (k j : Nat), -(1000 * (2 ^ k : Nat) : Int) ≤ dif F k j ∧ dif F k j ≤ (1000 * (2 ^ k : Nat) : Int)
  | 0, j => by simpa [dif] using h j
  | k + 1, j => by
    have a := dif_bound h k (j + 1)
    have b := dif_bound h k j
    have e : 2 ^ (k + 1) = 2 * 2 ^ k := by rw [Nat.pow_succ, Nat.mul_comm]
    unfold dif
    rw [e]
    generalize 2 ^ k = p at a b
    push_cast at a b ⊢
    omega
theorem sum_bound {f : Nat → Int} {c : Int} : ∀ {n : Nat}, (∀ i, i < n → -c ≤ f i ∧ f i ≤ c) → -((n : Int) * c) ≤ sumN f n ∧ sumN f n ≤ (n : Int) * c
  | 0, _ => by simp [sumN]
  | n + 1, h => by
    have a := sum_bound (n := n) fun i hi => h i (by omega)
    have b := h n (by omega)
    have e : ((n + 1 : Nat) : Int) * c = (n : Int) * c + c := by push_cast; rw [Int.add_mul, Int.one_mul]
    rw [sumN, e]
    omega
theorem mul_bound {a b : Int} {m n : Nat} (ha : a.natAbs ≤ m) (hb : b.natAbs ≤ n) : -((m * n : Nat) : Int) ≤ a * b ∧ a * b ≤ ((m * n : Nat) : Int) := by
  have h : (a * b).natAbs ≤ m * n := by rw [Int.natAbs_mul]; exact Nat.mul_le_mul ha hb
  omega
theorem edge_sm {xs : List Int} (hb : vrB xs = true) : Sm64 (edgeL xs) := by
  refine sm_tab fun k hk => ?_
  have h16 := (vrB_of hb).1
  have a := dif_bound (F := ix xs) (ix_at hb) k 0
  have p : 2 ^ k ≤ 2 ^ 16 := Nat.pow_le_pow_right (by omega) (by omega)
  have hz : -4611686018427387904 ≤ dif (ix xs) k 0 ∧ dif (ix xs) k 0 ≤ 4611686018427387904 := by
    generalize 2 ^ k = q at a p
    omega
  rw [wrap_same hz]
  exact hz
theorem sg_abs (x y : Nat) : (sg x y).natAbs ≤ 1 := by
  unfold sg
  split <;> decide
theorem signs_sm {xs : List Int} (hb : vrB xs = true) : Sm64 (signsL xs) := by
  refine sm_tab fun y hy => ?_
  have h16 := (vrB_of hb).1
  have a := sum_bound (f := fun x => sg x y * ix xs x) (c := 1000) (n := xs.length) fun i _ => by
    have := mul_bound (m := 1) (n := 1000) (sg_abs i y) (b := ix xs i) (by have := ix_at hb i; omega)
    omega
  have hz : -4611686018427387904 ≤ sgE (ix xs) xs.length y ∧ sgE (ix xs) xs.length y ≤ 4611686018427387904 := by
    unfold sgE
    omega
  rw [wrap_same hz]
  exact hz
theorem wave_sm (xs : List Int) : Sm64 (waveR xs) := sm_tab fun j _ => by omega
theorem halve_sm {xs : List Int} (hb : vrB xs = true) : Sm64 (halL xs) := by
  refine sm_tab fun j hj => ?_
  have := (hS_bound (m := xs.length / 2) (n := xs.length) (c := 1000) (by omega) (fun j _ => ix_at hb j) (fun j _ => by have := ix_at hb j; omega)).2 j hj
  omega
theorem leap_sm {xs : List Int} (hb : vrB xs = true) (he : xs.length % 2 = 0) : Sm64 (lepL xs) := by
  refine sm_tab fun j hj => ?_
  have := lp_bound (n := xs.length / 2) (c := 1000) (F := ix xs) (fun j _ => ix_at hb j) j (by omega)
  omega
theorem self_sm {xs : List Int} (hb : vrB xs = true) : Sm64 (selL xs) := by
  refine sm_tab fun d hd => ?_
  have h16 := (vrB_of hb).1
  have a := sum_bound (f := fun i => ix xs i * ix xs (i + d)) (c := 1000000) (n := xs.length - d) fun i _ => by
    have := mul_bound (m := 1000) (n := 1000) (a := ix xs i) (b := ix xs (i + d)) (by have := ix_at hb i; omega) (by have := ix_at hb (i + d); omega)
    omega
  have hz : -4611686018427387904 ≤ slf (ix xs) xs.length d ∧ slf (ix xs) xs.length d ≤ 4611686018427387904 := by
    unfold slf
    omega
  rw [wrap_same hz]
  exact hz
/-- A row of the desk has a number. -/
theorem rowT_pos {s : ByteArray} {xs : List Int} (h : rowT s = some xs) : 0 < xs.length := by
  unfold rowT at h
  split at h
  · cases h
    rw [numsP, List.length_map, parts_len]
    omega
  · cases h
end Go.Proofs.YtagncoahobghpacGreatDoor
