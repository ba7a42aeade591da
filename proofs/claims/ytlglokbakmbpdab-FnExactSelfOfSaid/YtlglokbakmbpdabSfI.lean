/-
  self of ints in company, from slices.Clone, slices.Reverse and times (written by ch5self2.py).
-/
import Derived.Test.YtlglokbakmbpdabSfM
import Derived.Test.YtlglokbakmbpdabRv1
import Derived.Test.YtlglokbakmbpdabT1
import Derived.Test.YtlglokbakmbpdabPtD
namespace Go.Proofs.Ytlglokbakmbpdab
open Go Go.Conc Go.RowKit
set_option linter.unusedVariables false

theorem own_capU {E B : Nat} {w : World} {v : Value} {xs : List Int} (h : Own E B w v xs) : ∀ a n c, v = .slice a n c → n ≤ c := by
  intro a n c e
  rcases h.2 with ⟨h', h0⟩ | ⟨g', cap', cur, h', _, _, hn, _⟩
  · rw [e] at h'; simp only [Value.slice.injEq] at h'; omega
  · rw [e] at h'; simp only [Value.slice.injEq] at h'; omega
/-- It makes, in company, a slice from whatever place on. -/
def BMadeO (E : Nat) (w : World) (xs : List Int) (v : Value) (w' : World) : Prop := OwnO E w.heap.size w' v xs ∧ Below w.heap.size w w'
theorem OwnO.sm {w w₁ : World} {E B : Nat} {v : Value} {xs : List Int} (h : OwnO E B w v xs) (hs : Sm w w₁) : OwnO E B w₁ v xs := by
  obtain ⟨d, rfl⟩ := hs
  exact h
theorem BMade.oo {E : Nat} {w w' : World} {v : Value} {xs : List Int} (h : BMade E w xs v w') : BMadeO E w xs v w' := ⟨h.1.oo, h.2⟩
theorem bmadeO_sm {w w₁ : World} {f : FuncId} {args : Array Value} {E : Nat} {xs : List Int} (hs : Sm w w₁) (h : BCalls Try.prog f args w₁ (BMadeO E w₁ xs)) : BCalls Try.prog f args w₁ (BMadeO E w xs) :=
  h.mono fun v w' q => by
    obtain ⟨d, rfl⟩ := hs
    exact ⟨q.1, ⟨q.2.os, q.2.tape, q.2.output, q.2.size, q.2.block⟩⟩

set_option maxHeartbeats 1000000 in
theorem reverse_nil (w : World) : Calls Try.prog 53 #[.slice none 0 0] w fun e w' => e = .returned (.tuple #[]) ∧ w' = w := by
  go_enter Try.func53, Try.ntmps53
  go_wp2
  refine wp_loop_rounds 1 ?_
  rw [rounds_succ]
  go_wp2
  go_end0
  exact ⟨rfl, rfl⟩

/-- It turns what is owned round, in company. -/
def BRev (B : Nat) (w : World) (v : Value) (xs : List Int) (r : Value) (w' : World) : Prop := r = .tuple #[] ∧ Own 3 B w' v (rvL xs) ∧ w.grownBy w' v.ownBlock
def BMade' (w : World) (xs : List Int) (v : Value) (w' : World) : Prop := Own 3 w.heap.size w' v xs ∧ Below w.heap.size w w'
theorem reverse_all (B : Nat) (v : Value) (xs : List Int) (w : World) (h : Own 3 B w v xs) (hl : xs.length ≤ 1048576) : Calls Try.prog 53 #[v] w fun e w' => ∃ r, e = .returned r ∧ BRev B w v xs r w' := by
  rcases h.shape with ⟨rfl, rfl⟩ | ⟨g, cap, rfl, _, _⟩
  · refine (reverse_nil w).mono ?_
    rintro e w' ⟨rfl, rfl⟩
    exact ⟨_, rfl, rfl, h, World.grownBy.refl _ _⟩
  · refine (reverse_any B g cap xs w h hl).mono ?_
    rintro e w' ⟨rfl, o, g⟩
    exact ⟨_, rfl, rfl, o, g⟩
theorem brev_blind (B : Nat) (v : Value) (xs : List Int) : Blind fun w r w' => BRev B w v xs r w' := by
  rintro r w w1 τ d τ' d' d2 ⟨h1, h2, h3⟩
  exact ⟨h1, h2, ⟨h3.os, rfl, h3.output, h3.size, h3.block⟩⟩
theorem bmade_blind' (xs : List Int) : Blind fun w v w' => BMade' w xs v w' := by
  rintro v w w1 τ d τ' d' d2 ⟨h1, h2⟩
  exact ⟨h1, ⟨h2.os, rfl, h2.output, h2.size, h2.block⟩⟩
theorem reverse_b (B : Nat) (v : Value) (xs : List Int) (w : World) (h : Own 3 B w v xs) (hl : xs.length ≤ 1048576) : BCalls Try.prog 53 #[v] w (BRev B w v xs) :=
  bcalls_of_calls noinit (callees [53] (by kernel_rfl)) Try.func53 rfl (by kernel_rfl) (by kernel_rfl) (fun w r w' => BRev B w v xs r w') (brev_blind B v xs)
    fun τ d => reverse_all B v xs (reT w τ d) h hl
theorem clone_b (v : Value) (xs : List Int) (w : World) (h : Rd w v xs) (hl : xs.length ≤ 1048576) : BCalls Try.prog 52 #[v] w (BMade' w xs) :=
  bcalls_of_calls noinit (callees [52] (by kernel_rfl)) Try.func52 rfl (by kernel_rfl) (by kernel_rfl) (fun w v w' => BMade' w xs v w') (bmade_blind' xs)
    fun τ d => clone_any v xs (reT w τ d) h hl
section
variable {w w₁ : World}
theorem Rd.sm' {v : Value} {xs : List Int} (h : Rd w v xs) (hs : Sm w w₁) : Rd w₁ v xs := by
  obtain ⟨d, rfl⟩ := hs
  exact h
theorem Own.sm' {E B : Nat} {v : Value} {xs : List Int} (h : Own E B w v xs) (hs : Sm w w₁) : Own E B w₁ v xs := by
  obtain ⟨d, rfl⟩ := hs
  exact h
theorem brev_sm {f : FuncId} {args : Array Value} {B : Nat} {v : Value} {xs : List Int} (hs : Sm w w₁) (h : BCalls Try.prog f args w₁ (BRev B w₁ v xs)) : BCalls Try.prog f args w₁ (BRev B w v xs) :=
  h.mono fun r w' q => by
    obtain ⟨d, rfl⟩ := hs
    exact ⟨q.1, q.2.1, ⟨q.2.2.os, q.2.2.tape, q.2.2.output, q.2.2.size, q.2.2.block⟩⟩
theorem bmade_sm' {f : FuncId} {args : Array Value} {xs : List Int} (hs : Sm w w₁) (h : BCalls Try.prog f args w₁ (BMade' w₁ xs)) : BCalls Try.prog f args w₁ (BMade' w xs) :=
  h.mono fun v w' q => by
    obtain ⟨d, rfl⟩ := hs
    exact ⟨q.1, ⟨q.2.os, q.2.tape, q.2.output, q.2.size, q.2.block⟩⟩
theorem bel_marked' {E B : Nat} {w w1 w2 : World} {v : Value} {xs : List Int} (h : Below w.heap.size w w1) (o : Own E B w1 v xs) (g : w1.grownBy w2 v.ownBlock) (hB : w.heap.size ≤ B) : Below w.heap.size w w2 :=
  h.grown g h.size fun k hk => Nat.le_trans hB (World.ownsRow.lt o k hk).1
end

set_option maxRecDepth 100000 in
set_option maxHeartbeats 8000000 in
theorem self_b (u : Value) (xs : List Int) (w : World) (hx : Rd w u xs) (hl : xs.length ≤ 524288) :
    BCalls Try.prog 44 #[u] w (BMadeO 3 w (selL xs)) := by
  intro cs
  have hl1 : xs.length ≤ 1048576 := by omega
  have hl2 : (rvL xs).length ≤ 1048576 := by rw [len_rvL]; exact hl1
  have HM := Lib.hid (half_mul xs)
  have HN := Lib.hid (mul_turn_len xs)
  rw [enter_at _ Try.func44 rfl]
  simp only [Try.f44, List.size_toArray, List.length_cons, List.length_nil, Nat.reduceAdd, Nat.reduceSub, Array.replicate_succ, Array.replicate_zero, List.push_toArray, List.append_toArray, List.nil_append, List.cons_append]
  have hF : Sm w w := Sm.refl w
  refine beside_by (n := 400) ?_
  repeat (first | a_ctl hF Sm.trans D0.nil | (refine Goes.step rfl (fun _ h₁ => ?_); replace hF := Sm.trans hF h₁; clear h₁; refine goes_oper_k rfl rfl (by decide) (fun K hK => ?_); go_simp; refine hK _ _ ⟨still_listed rfl, ?_⟩; clear hK K) | (refine Goes.step rfl (fun _ h₁ => ?_); rw [stepG_unwanted rfl rfl]; simp only [goes_go]; refine ⟨D0.nil, ?_⟩; replace hF := Sm.trans hF h₁; clear h₁; walk_nrm))
  refine Goes.stop fun w₁ h₁ => ?_
  replace hF := Sm.trans hF h₁
  clear h₁
  refine beside_call rfl rfl (by decide) rfl Try.func52 rfl rfl (by kernel_rfl) (show _ = (#[u] : Array Value) from by walk_nrm) (fun d => bmade_sm' (hF.trans ⟨d, rfl⟩) (clone_b _ xs _ (hx.sm' (hF.trans ⟨d, rfl⟩)) hl1)) ?_
  rintro v1 w1 ⟨o1, b1⟩
  clear hF
  have hF := Sm.refl w1
  walk_nrm
  refine beside_by (n := 400) ?_
  repeat (first | a_ctl hF Sm.trans D0.nil | (refine Goes.step rfl (fun _ h₁ => ?_); replace hF := Sm.trans hF h₁; clear h₁; refine goes_oper_k rfl rfl (by decide) (fun K hK => ?_); go_simp; refine hK _ _ ⟨still_listed rfl, ?_⟩; clear hK K) | (refine Goes.step rfl (fun _ h₁ => ?_); rw [stepG_unwanted rfl rfl]; simp only [goes_go]; refine ⟨D0.nil, ?_⟩; replace hF := Sm.trans hF h₁; clear h₁; walk_nrm))
  refine Goes.stop fun w₁ h₁ => ?_
  replace hF := Sm.trans hF h₁
  clear h₁
  refine beside_call rfl rfl (by decide) rfl Try.func53 rfl rfl (by kernel_rfl) (show _ = (#[v1] : Array Value) from by walk_nrm) (fun d => brev_sm (hF.trans ⟨d, rfl⟩) (reverse_b _ _ xs _ (o1.sm' (hF.trans ⟨d, rfl⟩)) hl1)) ?_
  rintro r w2 ⟨rfl, o2, g2⟩
  clear hF
  have b2 := bel_marked' b1 o1 g2 (Nat.le_refl _)
  replace hx := hx.below b2 (Nat.le_refl _)
  clear o1 b1 g2
  have hF := Sm.refl w2
  walk_nrm
  refine beside_by (n := 400) ?_
  repeat (first | a_ctl hF Sm.trans D0.nil | (refine Goes.step rfl (fun _ h₁ => ?_); replace hF := Sm.trans hF h₁; clear h₁; refine goes_oper_k rfl rfl (by decide) (fun K hK => ?_); go_simp; refine hK _ _ ⟨still_listed rfl, ?_⟩; clear hK K) | (refine Goes.step rfl (fun _ h₁ => ?_); rw [stepG_unwanted rfl rfl]; simp only [goes_go]; refine ⟨D0.nil, ?_⟩; replace hF := Sm.trans hF h₁; clear h₁; walk_nrm))
  refine Goes.stop fun w₁ h₁ => ?_
  replace hF := Sm.trans hF h₁
  clear h₁
  refine beside_call rfl rfl (by decide) rfl Try.func34 rfl rfl (by kernel_rfl) (show _ = (#[u, v1] : Array Value) from by walk_nrm) (fun d => bmade_sm (hF.trans ⟨d, rfl⟩) (timesI_all _ _ xs (rvL xs) _ (hx.sm' (hF.trans ⟨d, rfl⟩)) (o2.rd.sm' (hF.trans ⟨d, rfl⟩)) hl1 hl2)) ?_
  rintro v3 w3 ⟨o3, b3⟩
  clear hF
  have bb := bel_nxt b2 b3
  replace o3 := Own.mono o3 b2.size
  clear o2 b2 b3 hx
  obtain ⟨ys, hys⟩ : ∃ ys, ys = mulL xs (rvL xs) := ⟨_, rfl⟩
  rw [← hys] at HM HN o3
  obtain ⟨Z, hZ⟩ : ∃ Z, Z = selL xs := ⟨_, rfl⟩
  rw [← hZ] at HM ⊢
  clear hys hZ
  rcases o3.shape with ⟨rfl, hnil⟩ | ⟨g, cap, rfl, hg, hgs⟩
  · have HO : OwnO 3 w.heap.size w3 (.slice none 0 0) Z := by
      refine .inl ⟨rfl, ?_⟩
      rw [← HM.out, hnil]; rfl
    have q2 : IntKind.i64.wrap 0 = 0 := rfl
    clear o3 hnil
    have hF := Sm.refl w3
    walk_nrm
    refine beside_by (n := 400) ?_
    repeat (first | a_ctl hF Sm.trans D0.nil | (refine Goes.step rfl (fun _ h₁ => ?_); replace hF := Sm.trans hF h₁; clear h₁; refine goes_oper_k rfl rfl (by decide) (fun K hK => ?_); go_simp; refine hK _ _ ⟨still_listed rfl, ?_⟩; clear hK K) | (refine Goes.step rfl (fun _ h₁ => ?_); rw [stepG_unwanted rfl rfl]; simp only [goes_go]; refine ⟨D0.nil, ?_⟩; replace hF := Sm.trans hF h₁; clear h₁; walk_nrm))
    refine Goes.step rfl (fun _ h₁ => ?_)
    rw [stepG_ret']
    simp only [goes_go]
    refine ⟨D0.nil, ?_⟩
    refine Goes.stop fun w₁ h₂ => .at0 fun d => ?_
    have hF := (Sm.trans hF h₁).trans (h₂.trans ⟨d, rfl⟩)
    exact leave1 Try.func44 rfl (R := BMadeO 3 w Z) ⟨HO.sm hF, bb.sm hF⟩
  · obtain ⟨L, hL⟩ : ∃ L, L = ys.length := ⟨_, rfl⟩
    obtain ⟨k, hk⟩ : ∃ k, k = L / 2 := ⟨_, rfl⟩
    have hcap := own_capU o3 _ _ _ rfl
    have HO : OwnO 3 w.heap.size w3 (.slice (some ⟨g, k, none⟩) (L - k) (cap - k)) Z := by
      have h := o3.part (k := k) (by omega) (cap - k)
      rw [← hL] at h
      rw [hk, hL, HM.out, ← hL, ← hk] at h
      exact h
    have hLl := HN.out
    rw [← hL] at hLl hcap ⊢
    have q1 : (L : Int).tdiv 2 = (k : Int) := by rw [Int.tdiv_eq_ediv_of_nonneg (by omega)]; omega
    have q2 : IntKind.i64.wrap (k : Int) = (k : Int) := IntWalk.i64_in _ (by omega)
    have q3 : k ≤ L := by omega
    have q3' : (k : Int) ≤ (L : Int) := by omega
    have q4 : (L : Int) ≤ (cap : Int) := by omega
    have HO2 : (if cap = k then (some ⟨g, 0, none⟩ : Option Addr) else some ⟨g, k, none⟩) = some ⟨g, k, none⟩ := by
      by_cases e : cap = k
      · rw [if_pos e, show k = 0 by omega]
      · rw [if_neg e]
    have HK := Lib.hid hk
    clear o3 hL hk hLl
    have hF := Sm.refl w3
    walk_nrm
    refine beside_by (n := 400) ?_
    repeat (first | a_ctl hF Sm.trans D0.nil | (refine Goes.step rfl (fun _ h₁ => ?_); replace hF := Sm.trans hF h₁; clear h₁; refine goes_oper_k rfl rfl (by decide) (fun K hK => ?_); go_simp; refine hK _ _ ⟨still_listed rfl, ?_⟩; clear hK K) | (refine Goes.step rfl (fun _ h₁ => ?_); rw [stepG_unwanted rfl rfl]; simp only [goes_go]; refine ⟨D0.nil, ?_⟩; replace hF := Sm.trans hF h₁; clear h₁; walk_nrm))
    refine Goes.step rfl (fun _ h₁ => ?_)
    rw [stepG_ret']
    simp only [goes_go]
    refine ⟨D0.nil, ?_⟩
    refine Goes.stop fun w₁ h₂ => .at0 fun d => ?_
    have hF := (Sm.trans hF h₁).trans (h₂.trans ⟨d, rfl⟩)
    exact leave1 Try.func44 rfl (R := BMadeO 3 w Z) ⟨HO.sm hF, bb.sm hF⟩

end Go.Proofs.Ytlglokbakmbpdab
