/-
  DoublePair of the program, in company (written by ch5db.py).
-/
import Derived.Test.YtlglokbakmbpdaaUr
import Derived.Test.YtlglokbakmbpdaaDbS
import Derived.Test.YtlglokbakmbpdaaGrL
import Derived.Test.YtlglokbakmbpdaaCopy
namespace Go.Proofs.Ytlglokbakmbpdaa
open Go Go.Conc Go.RowKit
set_option linter.unusedVariables false

theorem leave3 {P : Program} {f : FuncId} {fn : Func} {t1 t2 t3 : Tmp} (hf : P.funcs[f]? = some fn) (hr : fn.results = #[.tmp t1, .tmp t2, .tmp t3]) {T : Array Value} {k : List Item} {cs : List Frame} {w' : World} {R : Value → World → Prop} (h : R (.tuple #[T.getD t1 undef, T.getD t2 undef, T.getD t3 undef]) w') :
    ∃ fr v, G { (base f).at ⟨T, []⟩ k with mode := .returning } cs = G fr cs ∧ fr.fn = f ∧ fr.leaving P w' (.returned v) ∧ R v w' :=
  ⟨_, _, rfl, rfl, ⟨rfl, rfl, rfl, fn, hf, _root_.Go.results_tmp3 hr _ _ _⟩, h⟩
theorem madeT_blind (E : Nat) (xs ys : List Int) (b : Bool) : Blind fun w r w' => MadeT E w xs ys b r w' := by
  rintro r w w1 τ d τ' d' d2 ⟨u, v, h1, h2, h3, h4, h5⟩
  exact ⟨u, v, h1, h2, h3, h4, below_blind h5⟩
theorem madeT_sm {w w₁ : World} {f : FuncId} {args : Array Value} {E : Nat} {xs ys : List Int} {b : Bool} (hs : Sm w w₁) (h : BCalls Try.prog f args w₁ (MadeT E w₁ xs ys b)) : BCalls Try.prog f args w₁ (MadeT E w xs ys b) :=
  h.mono fun r w' q => by
    obtain ⟨d, rfl⟩ := hs
    obtain ⟨u, v, h1, h2, h3, h4, h5⟩ := q
    exact ⟨u, v, h1, h2, h3, h4, ⟨h5.os, h5.tape, h5.output, h5.size, h5.block⟩⟩
theorem MadeT.sm {w w₁ w' : World} {E : Nat} {xs ys : List Int} {b : Bool} {r : Value} (h : MadeT E w xs ys b r w') (hs : Sm w' w₁) : MadeT E w xs ys b r w₁ := by
  obtain ⟨d, rfl⟩ := hs
  obtain ⟨u, v, h1, h2, h3, h4, h5⟩ := h
  exact ⟨u, v, h1, h2, h3, h4, ⟨h5.os, h5.tape, h5.output, h5.size, h5.block⟩⟩
theorem madeT_nil (E : Nat) {w w' : World} {xs ys : List Int} {b : Bool} (h : b = false) (h1 : xs = []) (h2 : ys = []) (bb : Below w.heap.size w w') : MadeT E w xs ys b (.tuple #[.slice none 0 0, .slice none 0 0, .bool false]) w' := by
  subst h h1 h2
  exact ⟨_, _, rfl, Own.nil _ _ _, Own.nil _ _ _, nil_apart, bb⟩

theorem two_cellA (w : World) (u v : Value) (E : Nat) : (w.alloc (.cells #[u, v] E)).cell? ⟨w.heap.size, 0, none⟩ = some u := by
  rw [World.cell?_alloc_at _ _ _ _ rfl]; rfl
theorem two_cellB (w : World) (u v : Value) (E : Nat) : (w.alloc (.cells #[u, v] E)).cell? ⟨w.heap.size, 1, none⟩ = some v := by
  rw [World.cell?_alloc_at _ _ _ _ rfl]; rfl
/-- The first k numbers have the other sign. -/
def ngF (F : Nat → Int) (k j : Nat) : Int := if j < k then wrap64 (-(F j)) else F j

set_option maxRecDepth 100000 in
set_option maxHeartbeats 16000000 in
theorem implDoublePair_b (u v : Value) (xs ys : List Int) (w : World) (hx : Rd w u xs) (hy : Rd w v ys) (hl : xs.length ≤ maxLen) (hl' : ys.length ≤ maxLen) :
    BCalls Try.prog 41 #[u, v] w (MadeT 3 w (dp1 xs ys) (dp2 xs ys) (okD xs ys)) := by
  intro cs
  rw [enter_at _ Try.func41 rfl]
  simp only [Try.f41, List.size_toArray, List.length_cons, List.length_nil, Nat.reduceAdd, Nat.reduceSub, Array.replicate_succ, Array.replicate_zero, List.push_toArray, List.append_toArray, List.nil_append, List.cons_append]
  have hF : Sm w w := Sm.refl w
  refine beside_by (n := 400) ?_
  repeat (first | a_ctl hF Sm.trans D0.nil | (refine Goes.step rfl (fun _ h₁ => ?_); replace hF := Sm.trans hF h₁; clear h₁; refine goes_oper_k rfl rfl (by decide) (fun K hK => ?_); go_simp; refine hK _ _ ⟨still_listed rfl, ?_⟩; clear hK K) | (refine Goes.step rfl (fun _ h₁ => ?_); rw [stepG_unwanted rfl rfl]; simp only [goes_go]; refine ⟨D0.nil, ?_⟩; replace hF := Sm.trans hF h₁; clear h₁; walk_nrm))
  refine Goes.stop fun w₁ h₁ => ?_
  replace hF := Sm.trans hF h₁
  clear h₁
  refine beside_call rfl rfl (by decide) rfl Try.func38 rfl rfl (by kernel_rfl) (show _ = (#[u, v] : Array Value) from by walk_nrm) (fun d => bsays_sm (hF.trans ⟨d, rfl⟩) (implArePaired_b _ _ xs ys _ (hx.sm (hF.trans ⟨d, rfl⟩)) (hy.sm (hF.trans ⟨d, rfl⟩)) hl hl')) ?_
  rintro r w1 ⟨rfl, b1⟩
  clear hF
  replace hx := hx.below b1 (Nat.le_refl _)
  replace hy := hy.below b1 (Nat.le_refl _)
  have hF := Sm.refl w1
  walk_nrm
  by_cases hp : paB xs ys = true
  case neg =>
    have HF := Lib.hid (okD_no (xs := xs) (ys := ys) fun q => hp q.1)
    rw [show paB xs ys = false by simpa using hp]
    clear hp hx hy
    refine beside_by (n := 400) ?_
    repeat (first | a_ctl hF Sm.trans D0.nil | (refine Goes.step rfl (fun _ h₁ => ?_); replace hF := Sm.trans hF h₁; clear h₁; refine goes_oper_k rfl rfl (by decide) (fun K hK => ?_); go_simp; refine hK _ _ ⟨still_listed rfl, ?_⟩; clear hK K) | (refine Goes.step rfl (fun _ h₁ => ?_); rw [stepG_unwanted rfl rfl]; simp only [goes_go]; refine ⟨D0.nil, ?_⟩; replace hF := Sm.trans hF h₁; clear h₁; walk_nrm))
    a_cond true hF Sm.trans D0.nil
    repeat (first | a_ctl hF Sm.trans D0.nil | (refine Goes.step rfl (fun _ h₁ => ?_); replace hF := Sm.trans hF h₁; clear h₁; refine goes_oper_k rfl rfl (by decide) (fun K hK => ?_); go_simp; refine hK _ _ ⟨still_listed rfl, ?_⟩; clear hK K) | (refine Goes.step rfl (fun _ h₁ => ?_); rw [stepG_unwanted rfl rfl]; simp only [goes_go]; refine ⟨D0.nil, ?_⟩; replace hF := Sm.trans hF h₁; clear h₁; walk_nrm))
    refine Goes.step rfl (fun _ h₁ => ?_)
    rw [stepG_ret']
    simp only [goes_go]
    refine ⟨D0.nil, ?_⟩
    refine Goes.stop fun w₁ h₂ => .at0 fun d => ?_
    have hF := (Sm.trans hF h₁).trans (h₂.trans ⟨d, rfl⟩)
    exact leave3 Try.func41 rfl (R := MadeT 3 w _ _ _) (madeT_nil _ HF.out.1 HF.out.2.1 HF.out.2.2 (b1.sm hF))
  case pos =>
    rw [hp]
    have HP := Lib.hid hp
    have n1 := (vrB_of (sgnB_of (paB_of hp).1).1).1
    have hq := (paB_of hp).2.2.1
    have h0 := (paB_of hp).2.2.2.1
    obtain ⟨n, hn⟩ : ∃ n, n = xs.length := ⟨_, rfl⟩
    have HN := Lib.hid hn
    have HM : Hid (n = ys.length) := Lib.hid (by rw [hn]; exact hq)
    obtain ⟨a, ca, hu, -⟩ := id hx
    obtain ⟨a2, ca2, hv, -⟩ := id hy
    rw [← hn] at hu n1 h0
    rw [← HM.out] at hv
    subst hu hv
    have H0 := Lib.hid h0
    have i1 : IntKind.i64.wrap ((n : Int) + (n : Int)) = (n : Int) + (n : Int) := IntWalk.i64_in _ (by omega)
    clear hp hn hq h0
    by_cases h8 : n + n ≤ 16
    case neg =>
      have i2 : (16 : Int) < (n : Int) + (n : Int) := by omega
      have HF := Lib.hid (okD_no (xs := xs) (ys := ys) fun q => h8 (by have := q.2; rw [← HN.out] at this; omega))
      clear h8 hx hy
      refine beside_by (n := 400) ?_
      repeat (first | a_ctl hF Sm.trans D0.nil | (refine Goes.step rfl (fun _ h₁ => ?_); replace hF := Sm.trans hF h₁; clear h₁; refine goes_oper_k rfl rfl (by decide) (fun K hK => ?_); go_simp; refine hK _ _ ⟨still_listed rfl, ?_⟩; clear hK K) | (refine Goes.step rfl (fun _ h₁ => ?_); rw [stepG_unwanted rfl rfl]; simp only [goes_go]; refine ⟨D0.nil, ?_⟩; replace hF := Sm.trans hF h₁; clear h₁; walk_nrm))
      a_cond true hF Sm.trans D0.nil
      repeat (first | a_ctl hF Sm.trans D0.nil | (refine Goes.step rfl (fun _ h₁ => ?_); replace hF := Sm.trans hF h₁; clear h₁; refine goes_oper_k rfl rfl (by decide) (fun K hK => ?_); go_simp; refine hK _ _ ⟨still_listed rfl, ?_⟩; clear hK K) | (refine Goes.step rfl (fun _ h₁ => ?_); rw [stepG_unwanted rfl rfl]; simp only [goes_go]; refine ⟨D0.nil, ?_⟩; replace hF := Sm.trans hF h₁; clear h₁; walk_nrm))
      refine Goes.step rfl (fun _ h₁ => ?_)
      rw [stepG_ret']
      simp only [goes_go]
      refine ⟨D0.nil, ?_⟩
      refine Goes.stop fun w₁ h₂ => .at0 fun d => ?_
      have hF := (Sm.trans hF h₁).trans (h₂.trans ⟨d, rfl⟩)
      exact leave3 Try.func41 rfl (R := MadeT 3 w _ _ _) (madeT_nil _ HF.out.1 HF.out.2.1 HF.out.2.2 (b1.sm hF))
    case pos =>
      have i2 : ¬ ((16 : Int) < (n : Int) + (n : Int)) := by omega
      have HF := Lib.hid (okD_yes HP.out (by rw [← HN.out]; omega))
      refine beside_by (n := 400) ?_
      repeat (first | a_ctl hF Sm.trans D0.nil | (refine Goes.step rfl (fun _ h₁ => ?_); replace hF := Sm.trans hF h₁; clear h₁; refine goes_oper_k rfl rfl (by decide) (fun K hK => ?_); go_simp; refine hK _ _ ⟨still_listed rfl, ?_⟩; clear hK K) | (refine Goes.step rfl (fun _ h₁ => ?_); rw [stepG_unwanted rfl rfl]; simp only [goes_go]; refine ⟨D0.nil, ?_⟩; replace hF := Sm.trans hF h₁; clear h₁; walk_nrm))
      a_cond false hF Sm.trans D0.nil
      a_ctl hF Sm.trans D0.nil
      refine Goes.stop fun w₁ h₁ => ?_
      replace hF := Sm.trans hF h₁
      clear h₁
      refine beside_piece noinit (callees [51, 71, 80] (by kernel_rfl)) (by kernel_rfl) ⟨_, Try.func41, by kernel_rfl⟩ rfl rfl (fun w p w' => p.1 = .ret ∧ p.2.defers = [] ∧ MadeT 3 w (dp1 xs ys) (dp2 xs ys) (okD xs ys) (.tuple #[p.2.tmps.getD 4 undef, p.2.tmps.getD 5 undef, p.2.tmps.getD 6 undef]) w') ?_ (fun τ d => ?_) (fun a' w' hc => by cases hc.1) (fun a' w' todo hc => ?_)
      · rintro p w w1 τ d τ' d' d2 ⟨h1, h2, h3⟩
        exact ⟨h1, h2, madeT_blind _ _ _ _ _ _ _ _ _ _ _ _ h3⟩
      · obtain ⟨d0, rfl⟩ := hF
        have HX := Lib.hid (show Rd (reT (w1.at d0) τ d) (.slice a n ca) xs from hx)
        have HY := Lib.hid (show Rd (reT (w1.at d0) τ d) (.slice a2 n ca2) ys from hy)
        clear hx hy b1
        generalize reT (w1.at d0) τ d = w0 at HX HY ⊢
        have hcp := copyOf_any _ ys w0 HY.out (by rw [← HM.out]; omega)
        have HCP := Lib.hid hcp
        clear hcp h8 i1 i2
        go_wp2_with fail
        refine HCP.out.mono ?_
        rintro e w2 ⟨g, rfl, hg, o, b2⟩
        rw [← HM.out] at o ⊢
        have o : Own 3 w0.heap.size w2 (.slice (some ⟨g, 0, none⟩) n n) (tab n (ngF (ix ys) 0)) := by
          rw [tab_congr (g := ix ys) (fun j _ => by unfold ngF; rw [if_neg (Nat.not_lt_zero j)]), HM.out, tab_self, ← HM.out]; exact o
        have O := Lib.hid o
        have B2 := Lib.hid b2
        clear o b2
        go_wp2
        go_loopw [25] (fun i wr => ∃ k : Nat, k ≤ n ∧ i = .int .i64 k ∧ Own 3 w0.heap.size wr (.slice (some ⟨g, 0, none⟩) n n) (tab n (ngF (ix ys) k)) ∧ Below w0.heap.size w0 wr) (fun i _ => n - (intOf i).toNat)
        case atStart => exact ⟨0, Nat.zero_le _, rfl, O.out, B2.out⟩
        case round =>
          obtain ⟨k, hk, rfl, o, hB⟩ := hrel
          by_cases hlt : k < n
          · have k0 : (k : Int) < (n : Int) := by omega
            have d1 := o.cell k (by rw [len_tab]; exact hlt)
            rw [ix_tab _ _ _ hlt, show ngF (ix ys) k k = ix ys k by unfold ngF; rw [if_neg (Nat.lt_irrefl k)]] at d1
            have f1 := o.frozen k
            obtain ⟨y, hy⟩ : ∃ y, y = ix ys k := ⟨_, rfl⟩
            obtain ⟨z, hz⟩ : ∃ z, z = wrap64 (-y) := ⟨_, rfl⟩
            have HS := Lib.hid (show Own 3 w0.heap.size (wr.setCell ⟨g, k, none⟩ (.int .i64 z)) (.slice (some ⟨g, 0, none⟩) n n) (tab n (ngF (ix ys) (k + 1))) by
              have := o.set k z
              rw [tab_set, tab_congr (g := ngF (ix ys) (k + 1)) (fun j _ => by
                unfold ngF
                by_cases e : j = k
                · subst e; rw [if_pos rfl, if_pos (by omega), hz, hy]
                · rw [if_neg e]
                  by_cases h2 : j < k
                  · rw [if_pos h2, if_pos (by omega)]
                  · rw [if_neg h2, if_neg (by omega)])] at this
              exact this)
            have HB := Lib.hid (hB.setCell hg (p := ⟨g, k, none⟩) (.int .i64 z))
            rw [← hy] at d1
            have e1 : IntKind.i64.wrap (-y) = z := by rw [hz, IntKind.wrap_i64]; unfold wrap64; rfl
            clear o hB hy hz
            go_wp2
            go_roundw
            case rel => exact ⟨k + 1, by omega, by go_num, HS.out, HB.out⟩
            case measure => simp [intOf]; omega
          · obtain rfl : k = n := by omega
            have o : Own 3 w0.heap.size wr (.slice (some ⟨g, 0, none⟩) k k) (ngL ys) := by
              have e : ngL ys = tab k (ngF (ix ys) k) := by
                unfold ngL
                rw [← HM.out]
                exact tab_congr fun j hj => by unfold ngF; rw [if_pos hj]
              rw [e]; exact o
            have O2 := Lib.hid o
            have B3 := Lib.hid hB
            have hLx : xs.length = k := HN.out.symm
            have hLy : ys.length = k := HM.out.symm
            have HLx := Lib.hid hLx
            have HLy := Lib.hid hLy
            clear o hB O B2 hLx hLy
            go_wp2_with fail
            have bA := B3.out.alloc B3.out.size (.cells #[.slice a k ca, .slice a2 k ca2] 23)
            refine (concat_any wr.heap.size (.slice a k ca) (.slice a2 k ca2) xs ys _ (by simp) (two_cellA wr _ _ _) (two_cellB wr _ _ _) (HX.out.below bA (Nat.le_refl _)) (HY.out.below bA (Nat.le_refl _)) (by rw [HLx.out]; have := H0.out; omega) (by rw [HLx.out, HLy.out]; omega)).mono ?_
            rintro e w5 ⟨u5, rfl, o5, b5⟩
            have bC := bA.trans (b5.mono bA.size)
            have oG := ((O2.out.grow (.cells #[.slice a k ca, .slice a2 k ca2] 23)).below b5 (Nat.le_refl _))
            have O5 := Lib.hid o5
            have OG := Lib.hid oG
            have BC := Lib.hid bC
            have BA := Lib.hid bA
            clear o5 oG bC bA b5 B3 O2
            go_wp2_with fail
            have bD := BC.out.alloc BC.out.size (.cells #[.slice a k ca, .slice (some ⟨g, 0, none⟩) k k] 23)
            refine (concat_any w5.heap.size (.slice a k ca) (.slice (some ⟨g, 0, none⟩) k k) xs (ngL ys) _ (by simp) (two_cellA w5 _ _ _) (two_cellB w5 _ _ _) (HX.out.below bD (Nat.le_refl _)) ((OG.out.grow _).rd) (by rw [HLx.out]; have := H0.out; omega) (by rw [HLx.out, len_ngL, HLy.out]; omega)).mono ?_
            rintro e w6 ⟨u6, rfl, o6, b6⟩
            have hM : MadeT 3 w0 (dp1 xs ys) (dp2 xs ys) (okD xs ys) (.tuple #[u5, u6, .bool true]) w6 := by
              have o5' := (O5.out.grow (.cells #[.slice a k ca, .slice (some ⟨g, 0, none⟩) k k] 23))
              refine ⟨u5, u6, by rw [HF.out.1], ?_, ?_, Own.apart o5' o6, bD.trans (b6.mono bD.size)⟩
              · rw [HF.out.2.1]; exact (o5'.below b6 (Nat.le_refl _)).mono BA.out.size
              · rw [HF.out.2.2]; exact o6.mono bD.size
            have HMM := Lib.hid hM
            clear hM o6 b6 bD
            go_wp2
            exact HMM.out
      · obtain ⟨-, h2, h3⟩ := hc
        obtain ⟨T, D⟩ := a'
        obtain rfl : D = [] := h2
        obtain ⟨p, q, e1, e2, e3, e4, e5⟩ := h3
        have hs := (b1.sm hF).size
        exact leave3 Try.func41 rfl (R := MadeT 3 w _ _ _) ⟨p, q, e1, Own.mono e2 hs, Own.mono e3 hs, e4, bel_nxt (b1.sm hF) e5⟩

end Go.Proofs.Ytlglokbakmbpdaa
