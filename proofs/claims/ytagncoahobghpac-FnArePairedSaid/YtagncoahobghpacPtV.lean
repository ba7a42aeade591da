/-
  times of rows of units in company (written by ch5self.py).
-/
import Derived.Test.YtagncoahobghpacPtC
import Derived.Test.YtagncoahobghpacPtU
import Derived.Test.YtagncoahobghpacRv1
namespace Go.Proofs.Ytagncoahobghpac
open Go Go.Conc Go.RowKit
set_option linter.unusedVariables false

theorem w64_mul_mod (a b : Int) : (wrap64 a * wrap64 b) % 18446744073709551616 = (a * b) % 18446744073709551616 := by
  have e : ∀ q, wrap64 q % 18446744073709551616 = q % 18446744073709551616 := fun q => by unfold wrap64; omega
  rw [Int.mul_emod, e, e, ← Int.mul_emod]
theorem w64_plus_mul (z a b : Int) : wrap64 (z + wrap64 a * wrap64 b) = wrap64 (z + a * b) := by
  have e := w64_mul_mod a b
  generalize wrap64 a * wrap64 b = p at e ⊢
  generalize a * b = q at e ⊢
  unfold wrap64
  omega

theorem timesU_b (u v : Value) (xs ys : List Int) (w : World) (hx : RdU w u xs) (hy : RdU w v ys) (h1 : 0 < xs.length) (h2 : 0 < ys.length) (hl1 : xs.length ≤ 1048576) (hl2 : ys.length ≤ 1048576) :
    BCalls Try.prog 50 #[u, v] w (BMade 3 w (mulL xs ys)) := by
  intro cs
  obtain ⟨a1, c1, rfl, hx⟩ := hx
  obtain ⟨a2, c2, rfl, hy⟩ := hy
  rcases hx with rfl | ⟨b1, o1, rfl, hb1, hc1⟩
  · simp at h1
  rcases hy with rfl | ⟨b2, o2, rfl, hb2, hc2⟩
  · simp at h2
  have e : ∀ (b o j : Nat), (Addr.mk b o none).add j = ⟨b, o + j, none⟩ := fun b o j => by simp [Addr.add]
  refine (TmsU.runs (xs.length + ys.length - 1) w (some ⟨b1, o1, none⟩) (some ⟨b2, o2, none⟩) xs.length ys.length c1 c2 xs ys cs h1 h2 hl1 hl2 rfl (fun ad h _ => by cases h; exact hb1) ⟨_, rfl⟩ (fun ad h _ => by cases h; exact hb2) ⟨_, rfl⟩
    (fun j ad hj h => by cases h; rw [e]; exact hc1 j hj) (fun j ad hj h => by cases h; rw [e]; exact hc2 j hj)).mono fun a' w' hq => ?_
  obtain ⟨T, k, rfl, h4, hF⟩ := hq
  have hf : ∀ i j, (TmsU.fp xs ys i j).1 = i + j ∧ ∀ z, wrap64 (z + (TmsU.fp xs ys i j).2) = wrap64 (z + ix xs i * ix ys j) := fun i j => ⟨rfl, fun z => by
    show wrap64 (z + IntKind.i64.wrap (IntKind.i64.wrap _ * IntKind.i64.wrap _)) = _
    have e : ∀ q, IntKind.i64.wrap q = wrap64 q := fun q => by rw [IntKind.wrap_i64]; unfold wrap64; rfl
    rw [e, e, e, w64_addR, w64_plus_mul]⟩
  rw [prod_fold hf (by omega), ← mulL_some (by omega) (by omega)] at hF
  have hlen : (mulL xs ys).length = xs.length + ys.length - 1 := by rw [mulL_some (by omega) (by omega), len_tab]
  have hO := RF_own (by omega) rfl (by rw [hlen]; unfold maxLen; omega) hF
  rw [hlen] at hO
  refine ⟨_, _, rfl, rfl, ⟨rfl, rfl, rfl, _, Try.func50, _root_.Go.results_tmp rfl _ _ _⟩, ?_, hO.2⟩
  show Own _ _ _ (T.getD 4 undef) _
  rw [h4]
  exact hO.1

set_option maxRecDepth 100000 in
set_option maxHeartbeats 4000000 in
theorem timesU_nil (u v : Value) (xs ys : List Int) (w : World) (hx : RdU w u xs) (hy : RdU w v ys) (h : xs.length = 0 ∨ ys.length = 0) :
    BCalls Try.prog 50 #[u, v] w (BMade 3 w []) := by
  intro cs
  obtain ⟨a1, c1, rfl, hx⟩ := hx
  obtain ⟨a2, c2, rfl, hy⟩ := hy
  clear hx hy
  generalize xs.length = n at h ⊢
  generalize ys.length = m at h ⊢
  have key : ∀ (T : Array Value) (k : List Item) (w' : World), T[4]? = some (.slice none 0 0) → Sm w w' → ∃ fr v, G { (base 50).at ⟨T, []⟩ k with mode := .returning } cs = G fr cs ∧ fr.fn = 50 ∧ fr.leaving Try.prog w' (.returned v) ∧ BMade 3 w [] v w' := by
    intro T k w' hT hw
    obtain ⟨d, rfl⟩ := hw
    refine ⟨_, _, rfl, rfl, ⟨rfl, rfl, rfl, _, Try.func50, _root_.Go.results_tmp rfl _ _ _⟩, ?_⟩
    show BMade _ _ _ (T.getD 4 undef) _
    rw [Array.getD_eq_getD_getElem?, hT]
    exact ⟨⟨rfl, .inl ⟨rfl, rfl⟩⟩, ⟨rfl, rfl, rfl, Nat.le_refl _, fun _ _ => rfl⟩⟩
  rw [enter_at _ Try.func50 rfl]
  simp only [Try.f50, List.size_toArray, List.length_cons, List.length_nil, Nat.reduceAdd, Nat.reduceSub, Array.replicate_succ, Array.replicate_zero, List.push_toArray, List.append_toArray, List.nil_append, List.cons_append]
  have hF : Sm w w := Sm.refl w
  rcases h with rfl | rfl
  · refine beside_goes (n := 60) ?_
    repeat (first | a_ctl hF Sm.trans D0.nil | a_op hF Sm.trans [] D0.evs ⟨by simp, by simp⟩ | (refine Goes.step rfl (fun _ h₁ => ?_); rw [stepG_unwanted rfl rfl]; simp only [goes_go]; refine ⟨D0.nil, ?_⟩; replace hF := Sm.trans hF h₁; clear h₁; walk_nrm))
    a_cond true hF Sm.trans D0.nil
    repeat (first | a_ctl hF Sm.trans D0.nil | a_op hF Sm.trans [] D0.evs ⟨by simp, by simp⟩)
    refine Goes.step rfl (fun _ h₁ => ?_)
    rw [stepG_ret']
    simp only [goes_go]
    refine ⟨D0.nil, ?_⟩
    exact Goes.stop fun w₁ h₂ => key _ _ _ rfl ((Sm.trans hF h₁).trans h₂)
  · by_cases hn : n = 0
    · subst hn
      refine beside_goes (n := 60) ?_
      repeat (first | a_ctl hF Sm.trans D0.nil | a_op hF Sm.trans [] D0.evs ⟨by simp, by simp⟩ | (refine Goes.step rfl (fun _ h₁ => ?_); rw [stepG_unwanted rfl rfl]; simp only [goes_go]; refine ⟨D0.nil, ?_⟩; replace hF := Sm.trans hF h₁; clear h₁; walk_nrm))
      a_cond true hF Sm.trans D0.nil
      repeat (first | a_ctl hF Sm.trans D0.nil | a_op hF Sm.trans [] D0.evs ⟨by simp, by simp⟩)
      refine Goes.step rfl (fun _ h₁ => ?_)
      rw [stepG_ret']
      simp only [goes_go]
      refine ⟨D0.nil, ?_⟩
      exact Goes.stop fun w₁ h₂ => key _ _ _ rfl ((Sm.trans hF h₁).trans h₂)
    · have h3 : ((n : Int) == 0) = false := by simp; omega
      refine beside_goes (n := 60) ?_
      repeat (first | a_ctl hF Sm.trans D0.nil | a_op hF Sm.trans [] D0.evs ⟨by simp, by simp⟩ | (refine Goes.step rfl (fun _ h₁ => ?_); rw [stepG_unwanted rfl rfl]; simp only [goes_go]; refine ⟨D0.nil, ?_⟩; replace hF := Sm.trans hF h₁; clear h₁; walk_nrm))
      a_cond true hF Sm.trans D0.nil
      repeat (first | a_ctl hF Sm.trans D0.nil | a_op hF Sm.trans [] D0.evs ⟨by simp, by simp⟩)
      refine Goes.step rfl (fun _ h₁ => ?_)
      rw [stepG_ret']
      simp only [goes_go]
      refine ⟨D0.nil, ?_⟩
      exact Goes.stop fun w₁ h₂ => key _ _ _ rfl ((Sm.trans hF h₁).trans h₂)

theorem timesU_all (u v : Value) (xs ys : List Int) (w : World) (hx : RdU w u xs) (hy : RdU w v ys) (hl1 : xs.length ≤ 1048576) (hl2 : ys.length ≤ 1048576) :
    BCalls Try.prog 50 #[u, v] w (BMade 3 w (mulL xs ys)) := by
  by_cases h : xs.length = 0 ∨ ys.length = 0
  · rw [mulL_none h]
    exact timesU_nil u v xs ys w hx hy h
  · exact timesU_b u v xs ys w hx hy (by omega) (by omega) hl1 hl2

end Go.Proofs.Ytagncoahobghpac
