/-
  ArePaired of the program, in company (written by ch5un.py).
-/
import Derived.Test.YtagncoahobghpacUq
namespace Go.Proofs.Ytagncoahobghpac
open Go Go.Conc Go.RowKit
set_option linter.unusedVariables false

theorem array44q (T : Array Value) (h : T.size = 44) : ∃ v0 v1 v2 v3 v4 v5 v6 v7 v8 v9 v10 v11 v12 v13 v14 v15 v16 v17 v18 v19 v20 v21 v22 v23 v24 v25 v26 v27 v28 v29 v30 v31 v32 v33 v34 v35 v36 v37 v38 v39 v40 v41 v42 v43 : Value, T = #[v0, v1, v2, v3, v4, v5, v6, v7, v8, v9, v10, v11, v12, v13, v14, v15, v16, v17, v18, v19, v20, v21, v22, v23, v24, v25, v26, v27, v28, v29, v30, v31, v32, v33, v34, v35, v36, v37, v38, v39, v40, v41, v42, v43] := by
  obtain ⟨l⟩ := T
  simp only [List.size_toArray] at h
  rcases l with _ | ⟨v0, l⟩
  · simp at h
  rcases l with _ | ⟨v1, l⟩
  · simp at h
  rcases l with _ | ⟨v2, l⟩
  · simp at h
  rcases l with _ | ⟨v3, l⟩
  · simp at h
  rcases l with _ | ⟨v4, l⟩
  · simp at h
  rcases l with _ | ⟨v5, l⟩
  · simp at h
  rcases l with _ | ⟨v6, l⟩
  · simp at h
  rcases l with _ | ⟨v7, l⟩
  · simp at h
  rcases l with _ | ⟨v8, l⟩
  · simp at h
  rcases l with _ | ⟨v9, l⟩
  · simp at h
  rcases l with _ | ⟨v10, l⟩
  · simp at h
  rcases l with _ | ⟨v11, l⟩
  · simp at h
  rcases l with _ | ⟨v12, l⟩
  · simp at h
  rcases l with _ | ⟨v13, l⟩
  · simp at h
  rcases l with _ | ⟨v14, l⟩
  · simp at h
  rcases l with _ | ⟨v15, l⟩
  · simp at h
  rcases l with _ | ⟨v16, l⟩
  · simp at h
  rcases l with _ | ⟨v17, l⟩
  · simp at h
  rcases l with _ | ⟨v18, l⟩
  · simp at h
  rcases l with _ | ⟨v19, l⟩
  · simp at h
  rcases l with _ | ⟨v20, l⟩
  · simp at h
  rcases l with _ | ⟨v21, l⟩
  · simp at h
  rcases l with _ | ⟨v22, l⟩
  · simp at h
  rcases l with _ | ⟨v23, l⟩
  · simp at h
  rcases l with _ | ⟨v24, l⟩
  · simp at h
  rcases l with _ | ⟨v25, l⟩
  · simp at h
  rcases l with _ | ⟨v26, l⟩
  · simp at h
  rcases l with _ | ⟨v27, l⟩
  · simp at h
  rcases l with _ | ⟨v28, l⟩
  · simp at h
  rcases l with _ | ⟨v29, l⟩
  · simp at h
  rcases l with _ | ⟨v30, l⟩
  · simp at h
  rcases l with _ | ⟨v31, l⟩
  · simp at h
  rcases l with _ | ⟨v32, l⟩
  · simp at h
  rcases l with _ | ⟨v33, l⟩
  · simp at h
  rcases l with _ | ⟨v34, l⟩
  · simp at h
  rcases l with _ | ⟨v35, l⟩
  · simp at h
  rcases l with _ | ⟨v36, l⟩
  · simp at h
  rcases l with _ | ⟨v37, l⟩
  · simp at h
  rcases l with _ | ⟨v38, l⟩
  · simp at h
  rcases l with _ | ⟨v39, l⟩
  · simp at h
  rcases l with _ | ⟨v40, l⟩
  · simp at h
  rcases l with _ | ⟨v41, l⟩
  · simp at h
  rcases l with _ | ⟨v42, l⟩
  · simp at h
  rcases l with _ | ⟨v43, l⟩
  · simp at h
  rcases l with _ | ⟨x, l⟩
  · exact ⟨v0, v1, v2, v3, v4, v5, v6, v7, v8, v9, v10, v11, v12, v13, v14, v15, v16, v17, v18, v19, v20, v21, v22, v23, v24, v25, v26, v27, v28, v29, v30, v31, v32, v33, v34, v35, v36, v37, v38, v39, v40, v41, v42, v43, rfl⟩
  · simp at h

set_option maxRecDepth 100000 in
set_option maxHeartbeats 16000000 in
theorem implArePaired_b (u v : Value) (xs ys : List Int) (w : World) (hx : Rd w u xs) (hy : Rd w v ys) (hl : xs.length ≤ maxLen) (hl' : ys.length ≤ maxLen) :
    BCalls Try.prog 19 #[u, v] w (BSays (paB xs ys) w) := by
  intro cs
  obtain ⟨zs, hz⟩ : ∃ zs, zs = untL xs := ⟨_, rfl⟩
  obtain ⟨rs, hr⟩ : ∃ rs, rs = untL ys := ⟨_, rfl⟩
  have HZ := Lib.hid hz
  have HR := Lib.hid hr
  have hzl : zs.length ≤ 16 := by rw [hz]; exact untL_len xs
  have hrl : rs.length ≤ 16 := by rw [hr]; exact untL_len ys
  have hz5 : zs.length ≤ 524288 := by omega
  have hr5 : rs.length ≤ 524288 := by omega
  have HT : paB xs ys = true → zs = xs ∧ rs = ys := fun h => by
    have q := paB_of h
    exact ⟨by rw [hz, untL_yes q.1], by rw [hr, untL_yes q.2.1]⟩
  have HN0 : zs.length ≠ 0 → rs.length ≠ 0 → sgnB xs = true ∧ zs = xs ∧ sgnB ys = true ∧ rs = ys := fun h1 h2 => by
    cases e1 : sgnB xs with
    | false => exact absurd (by rw [hz, untL_no e1]; rfl) h1
    | true =>
      cases e2 : sgnB ys with
      | false => exact absurd (by rw [hr, untL_no e2]; rfl) h2
      | true => exact ⟨rfl, by rw [hz, untL_yes e1], rfl, by rw [hr, untL_yes e2]⟩
  replace HT := Lib.hid HT
  replace HN0 := Lib.hid HN0
  clear hz hr
  rw [enter_at _ Try.func19 rfl]
  simp only [Try.f19, List.size_toArray, List.length_cons, List.length_nil, Nat.reduceAdd, Nat.reduceSub, Array.replicate_succ, Array.replicate_zero, List.push_toArray, List.append_toArray, List.nil_append, List.cons_append]
  have hF : Sm w w := Sm.refl w
  refine beside_by (n := 400) ?_
  repeat (first | a_ctl hF Sm.trans D0.nil | (refine Goes.step rfl (fun _ h₁ => ?_); replace hF := Sm.trans hF h₁; clear h₁; refine goes_oper_k rfl rfl (by decide) (fun K hK => ?_); go_simp; refine hK _ _ ⟨still_listed rfl, ?_⟩; clear hK K) | (refine Goes.step rfl (fun _ h₁ => ?_); rw [stepG_unwanted rfl rfl]; simp only [goes_go]; refine ⟨D0.nil, ?_⟩; replace hF := Sm.trans hF h₁; clear h₁; walk_nrm))
  refine Goes.stop fun w₁ h₁ => ?_
  replace hF := Sm.trans hF h₁
  clear h₁
  refine beside_call rfl rfl (by decide) rfl Try.func37 rfl rfl (by kernel_rfl) (show _ = (#[u] : Array Value) from by walk_nrm) (fun d => bmadeU_sm' (hF.trans ⟨d, rfl⟩) (unitsOf_b _ xs _ (hx.sm (hF.trans ⟨d, rfl⟩)) hl)) ?_
  rintro v1 w1 ⟨o1, b1⟩
  clear hF hx
  rw [← HZ.out] at o1
  have hy := hy.below b1 (Nat.le_refl _)
  have hF := Sm.refl w1
  walk_nrm
  refine beside_by (n := 400) ?_
  repeat (first | a_ctl hF Sm.trans D0.nil | (refine Goes.step rfl (fun _ h₁ => ?_); replace hF := Sm.trans hF h₁; clear h₁; refine goes_oper_k rfl rfl (by decide) (fun K hK => ?_); go_simp; refine hK _ _ ⟨still_listed rfl, ?_⟩; clear hK K) | (refine Goes.step rfl (fun _ h₁ => ?_); rw [stepG_unwanted rfl rfl]; simp only [goes_go]; refine ⟨D0.nil, ?_⟩; replace hF := Sm.trans hF h₁; clear h₁; walk_nrm))
  refine Goes.stop fun w₁ h₁ => ?_
  replace hF := Sm.trans hF h₁
  clear h₁
  refine beside_call rfl rfl (by decide) rfl Try.func37 rfl rfl (by kernel_rfl) (show _ = (#[v] : Array Value) from by walk_nrm) (fun d => bmadeU_sm' (hF.trans ⟨d, rfl⟩) (unitsOf_b _ ys _ (hy.sm (hF.trans ⟨d, rfl⟩)) hl')) ?_
  rintro v2 w2 ⟨o2, b2⟩
  clear hF hy
  rw [← HR.out] at o2
  have bb := bel_nxt b1 b2
  have r1 := o1.rd.below b2 (Nat.le_refl _)
  have r2 := o2.rd
  clear o1 o2 b1 b2
  have hF := Sm.refl w2
  obtain ⟨a1, c1, hv1, -⟩ := id r1
  obtain ⟨a2, c2, hv2, -⟩ := id r2
  subst hv1 hv2
  walk_nrm
  by_cases hq : zs.length = rs.length
  case neg =>
    have e1 : ((zs.length : Int) != (rs.length : Int)) = true := by simp; omega
    have HF : paB xs ys = false := by
      cases e : paB xs ys with
      | false => rfl
      | true =>
        obtain ⟨h1, h2⟩ := HT.out e
        have := (paB_of e).2.2.1
        rw [← h1, ← h2] at this
        exact absurd this hq
    replace HF := Lib.hid HF
    clear hq r1 r2
    refine beside_by (n := 400) ?_
    repeat (first | a_ctl hF Sm.trans D0.nil | (refine Goes.step rfl (fun _ h₁ => ?_); replace hF := Sm.trans hF h₁; clear h₁; refine goes_oper_k rfl rfl (by decide) (fun K hK => ?_); go_simp; refine hK _ _ ⟨still_listed rfl, ?_⟩; clear hK K) | (refine Goes.step rfl (fun _ h₁ => ?_); rw [stepG_unwanted rfl rfl]; simp only [goes_go]; refine ⟨D0.nil, ?_⟩; replace hF := Sm.trans hF h₁; clear h₁; walk_nrm))
    a_cond true hF Sm.trans D0.nil
    repeat (first | a_ctl hF Sm.trans D0.nil | (refine Goes.step rfl (fun _ h₁ => ?_); replace hF := Sm.trans hF h₁; clear h₁; refine goes_oper_k rfl rfl (by decide) (fun K hK => ?_); go_simp; refine hK _ _ ⟨still_listed rfl, ?_⟩; clear hK K) | (refine Goes.step rfl (fun _ h₁ => ?_); rw [stepG_unwanted rfl rfl]; simp only [goes_go]; refine ⟨D0.nil, ?_⟩; replace hF := Sm.trans hF h₁; clear h₁; walk_nrm))
    refine Goes.step rfl (fun _ h₁ => ?_)
    rw [stepG_ret']
    simp only [goes_go]
    refine ⟨D0.nil, ?_⟩
    refine Goes.stop fun w₁ h₂ => .at0 fun d => ?_
    have hF := (Sm.trans hF h₁).trans (h₂.trans ⟨d, rfl⟩)
    exact leave1 Try.func19 rfl (R := BSays (paB xs ys) w) ⟨by rw [HF.out]; rfl, bb.sm hF⟩
  case pos =>
    have e1 : ((zs.length : Int) != (zs.length : Int)) = false := by simp
    have HQ := Lib.hid hq
    rw [← hq] at hr5 ⊢
    rw [← hq] at r2
    clear hq
    refine beside_by (n := 400) ?_
    repeat (first | a_ctl hF Sm.trans D0.nil | (refine Goes.step rfl (fun _ h₁ => ?_); replace hF := Sm.trans hF h₁; clear h₁; refine goes_oper_k rfl rfl (by decide) (fun K hK => ?_); go_simp; refine hK _ _ ⟨still_listed rfl, ?_⟩; clear hK K) | (refine Goes.step rfl (fun _ h₁ => ?_); rw [stepG_unwanted rfl rfl]; simp only [goes_go]; refine ⟨D0.nil, ?_⟩; replace hF := Sm.trans hF h₁; clear h₁; walk_nrm))
    a_cond false hF Sm.trans D0.nil
    repeat (first | a_ctl hF Sm.trans D0.nil | (refine Goes.step rfl (fun _ h₁ => ?_); replace hF := Sm.trans hF h₁; clear h₁; refine goes_oper_k rfl rfl (by decide) (fun K hK => ?_); go_simp; refine hK _ _ ⟨still_listed rfl, ?_⟩; clear hK K) | (refine Goes.step rfl (fun _ h₁ => ?_); rw [stepG_unwanted rfl rfl]; simp only [goes_go]; refine ⟨D0.nil, ?_⟩; replace hF := Sm.trans hF h₁; clear h₁; walk_nrm))
    refine Goes.stop fun w₁ h₁ => ?_
    replace hF := Sm.trans hF h₁
    clear h₁
    refine beside_call rfl rfl (by decide) rfl Try.func38 rfl rfl (by kernel_rfl) (show _ = (#[.slice a2 zs.length c2] : Array Value) from by walk_nrm) (fun d => bmadeO_sm (hF.trans ⟨d, rfl⟩) (selfU_b _ rs _ (r2.sm' (hF.trans ⟨d, rfl⟩)) (by rw [← HQ.out]; exact hr5))) ?_
    rintro v3 w3 ⟨o3, b3⟩
    clear hF r2
    have r1 := r1.below b3 (Nat.le_refl _)
    have bb := bel_nxt bb b3
    have hF := Sm.refl w3
    walk_nrm
    refine beside_by (n := 400) ?_
    repeat (first | a_ctl hF Sm.trans D0.nil | (refine Goes.step rfl (fun _ h₁ => ?_); replace hF := Sm.trans hF h₁; clear h₁; refine goes_oper_k rfl rfl (by decide) (fun K hK => ?_); go_simp; refine hK _ _ ⟨still_listed rfl, ?_⟩; clear hK K) | (refine Goes.step rfl (fun _ h₁ => ?_); rw [stepG_unwanted rfl rfl]; simp only [goes_go]; refine ⟨D0.nil, ?_⟩; replace hF := Sm.trans hF h₁; clear h₁; walk_nrm))
    refine Goes.stop fun w₁ h₁ => ?_
    replace hF := Sm.trans hF h₁
    clear h₁
    refine beside_call rfl rfl (by decide) rfl Try.func38 rfl rfl (by kernel_rfl) (show _ = (#[.slice a1 zs.length c1] : Array Value) from by walk_nrm) (fun d => bmadeO_sm (hF.trans ⟨d, rfl⟩) (selfU_b _ zs _ (r1.sm' (hF.trans ⟨d, rfl⟩)) hz5)) ?_
    rintro v4 w4 ⟨o4, b4⟩
    clear hF r1
    have r3 := o3.rd.below b4 (Nat.le_refl _)
    have r4 := o4.rd
    have bb := bel_nxt bb b4
    clear o3 o4 b3 b4
    have hF := Sm.refl w4
    obtain ⟨a3, c3, hv3, hr3⟩ := id r3
    obtain ⟨a4, c4, hv4, hr4⟩ := id r4
    rw [len_selL] at hv3 hr3
    rw [len_selL] at hv4 hr4
    rw [← HQ.out] at hv3 hr3
    subst hv3 hv4
    clear r3 r4
    walk_nrm
    obtain ⟨n, hn⟩ : ∃ n, n = zs.length := ⟨_, rfl⟩
    have HN := Lib.hid hn
    have HR3 := Lib.hid hr3
    have HR4 := Lib.hid hr4
    rw [← hn] at hzl e1 ⊢
    clear hn hr3 hr4 hz5 hr5 hrl
    refine beside_by (n := 400) ?_
    (refine Goes.step rfl (fun _ h₁ => ?_); replace hF := Sm.trans hF h₁; clear h₁; refine goes_oper_k rfl rfl (by decide) (fun K hK => ?_); go_simp; refine hK _ _ ⟨still_listed rfl, ?_⟩; clear hK K)
    (refine Goes.step rfl (fun _ h₁ => ?_); replace hF := Sm.trans hF h₁; clear h₁; refine goes_oper_k rfl rfl (by decide) (fun K hK => ?_); go_simp; refine hK _ _ ⟨still_listed rfl, ?_⟩; clear hK K)
    a_ctl hF Sm.trans D0.nil
    refine Goes.stop fun w₁ h₁ => ?_
    replace hF := Sm.trans hF h₁
    clear h₁
    refine beside_piece noinit (okFns_none _) (by kernel_rfl) ⟨_, Try.func19, by kernel_rfl⟩ rfl rfl (fun w p w' => p.2.defers = [] ∧ Below w.heap.size w w' ∧ ((p.1 = .ret ∧ p.2.tmps.getD 4 undef = .bool (paB xs ys)) ∨ (p.1 = .normal ∧ p.2.tmps.size = 44 ∧ p.2.tmps[5]? = some (.slice a1 n c1) ∧ paB xs ys = decide (0 < n)))) ?_ (fun τ d => ?_) (fun a' w' hc => ?_) (fun a' w' todo hc => ?_)
    · rintro p w w1 τ d τ' d' d2 ⟨h1, h2, h3⟩
      exact ⟨h1, below_blind h2, h3⟩
    · obtain ⟨d0, rfl⟩ := hF
      have HC : ∀ j, j < n → ∃ b off, a4 = some ⟨b, off, none⟩ ∧ (reT (w4.at d0) τ d).cell? ⟨b, off + j, none⟩ = some (.int .i64 (ix (selL zs) j)) := fun j hj => by
        rcases HR4.out with h | ⟨b, off, e, _, hc⟩
        · have := congrArg List.length h; rw [len_selL, ← HN.out] at this; simp at this; omega
        · exact ⟨b, off, e, hc j (by rw [← HN.out]; exact hj)⟩
      have HD : ∀ j, j < n → ∃ b off, a3 = some ⟨b, off, none⟩ ∧ (reT (w4.at d0) τ d).cell? ⟨b, off + j, none⟩ = some (.int .i64 (ix (selL rs) j)) := fun j hj => by
        rcases HR3.out with h | ⟨b, off, e, _, hc⟩
        · have := congrArg List.length h; rw [len_selL, ← HQ.out, ← HN.out] at this; simp at this; omega
        · exact ⟨b, off, e, hc j (by rw [← HN.out]; exact hj)⟩
      replace HC := Lib.hid HC
      replace HD := Lib.hid HD
      generalize reT (w4.at d0) τ d = w0 at HC HD ⊢
      have hbl := Below.refl w0.heap.size w0
      clear bb HR3 HR4
      go_wp2
      go_loop [24] (fun i => ∃ k : Nat, k ≤ n ∧ i = .int .i64 k ∧ Hid (∀ d, d < k → 0 < d → wrap64 (ix (selL zs) d + ix (selL rs) d) = 0)) (fun i => n - (intOf i).toNat)
      case atStart => exact ⟨0, Nat.zero_le _, rfl, Lib.hid fun d h1 h2 => by omega⟩
      case round =>
        obtain ⟨k, hk, rfl, hs⟩ := hrel
        by_cases hlt : k < n
        · obtain ⟨b, off, rfl, d1⟩ := HC.out k hlt
          obtain ⟨b3, off3, rfl, d3⟩ := HD.out k hlt
          have k0 : (k : Int) < (n : Int) := by omega
          obtain ⟨z, hzz⟩ : ∃ z, ix (selL zs) k = z := ⟨_, rfl⟩
          obtain ⟨r, hrr⟩ : ∃ r, ix (selL rs) k = r := ⟨_, rfl⟩
          rw [hzz] at d1
          rw [hrr] at d3
          obtain ⟨q, hqq⟩ : ∃ q, IntKind.i64.wrap (z + r) = q := ⟨_, rfl⟩
          have HK := Lib.hid (show wrap64 (ix (selL zs) k + ix (selL rs) k) = q by rw [hzz, hrr, ← hqq, IntKind.wrap_i64]; unfold wrap64; rfl)
          clear hzz hrr
          by_cases h0 : k = 0
          · subst h0
            rw [Nat.add_zero] at d1 d3
            go_wp2
            go_round
            case rel => exact ⟨1, by omega, by go_num, Lib.hid fun d h1 h2 => by omega⟩
            case measure => simp [intOf]; omega
          · have k1 : (0 : Int) < (k : Int) := by omega
            have h0' := Lib.hid h0
            clear h0
            by_cases hz0 : q = 0
            · have z2 : (q != 0) = false := by simp [hz0]
              have HZ0 := Lib.hid hz0
              clear hz0
              go_wp2
              go_round
              case rel =>
                refine ⟨k + 1, by omega, by go_num, Lib.hid fun d h1 h2 => ?_⟩
                by_cases e : d = k
                · rw [e, HK.out]; exact HZ0.out
                · exact hs.out d (by omega) h2
              case measure => simp [intOf]; omega
            · have z2 : (q != 0) = true := by simp [hz0]
              have HF : paB xs ys = false := paB_no fun p => hz0 (by
                have hx := HN0.out (by have := HN.out; omega) (by have := HN.out; have := HQ.out; omega)
                have := p.2.2.2.2 k (by rw [← hx.2.1, ← HN.out]; exact hlt) (by omega)
                rw [← hx.2.1, ← hx.2.2.2, HK.out] at this; exact this)
              replace HF := Lib.hid HF
              clear hz0
              go_wp2
              exact HF.out
        · obtain rfl : k = n := by omega
          have HF : paB xs ys = decide (0 < k) := by
            by_cases e : k = 0
            · subst e
              rw [show decide (0 < 0) = false by simp]
              cases e : paB xs ys with
              | false => rfl
              | true =>
                have := (paB_of e).2.2.2.1
                rw [← (HT.out e).1, ← HN.out] at this
                exact absurd rfl this
            · obtain ⟨h1, h2, h3, h4⟩ := HN0.out (by rw [← HN.out]; exact e) (by rw [← HQ.out, ← HN.out]; exact e)
              rw [show decide (0 < k) = true by simp; omega]
              refine paB_yes ⟨h1, h3, by rw [← h2, ← h4]; exact HQ.out, by rw [← h2, ← HN.out]; exact e, fun d hd h0 => ?_⟩
              rw [← h2] at hd ⊢
              rw [← h4]
              exact hs.out d (by rw [HN.out]; exact hd) h0
          replace HF := Lib.hid HF
          clear hs
          go_wp2
          exact HF.out
    · obtain ⟨h1, h2, h3⟩ := hc
      rcases h3 with ⟨h4, _⟩ | ⟨_, hT, t3, hq⟩
      · cases h4
      obtain ⟨T, D⟩ := a'
      obtain rfl : D = [] := h1
      replace hT : T.size = 44 := hT
      replace t3 : T[5]? = some (.slice a1 n c1) := t3
      obtain ⟨v0, v1, v2, v3, v4, v5, v6, v7, v8, v9, v10, v11, v12, v13, v14, v15, v16, v17, v18, v19, v20, v21, v22, v23, v24, v25, v26, v27, v28, v29, v30, v31, v32, v33, v34, v35, v36, v37, v38, v39, v40, v41, v42, v43, rfl⟩ := array44q T hT
      simp only [List.getElem?_toArray, List.getElem?_cons_succ, List.getElem?_cons_zero, Option.some.injEq] at t3
      subst t3
      have bb := bel_nxt (bb.sm hF) h2
      have HQ := Lib.hid hq
      clear hF h2 hq hT
      have hF := Sm.refl w'
      refine beside_by (n := 400) ?_
      repeat (first | a_ctl hF Sm.trans D0.nil | (refine Goes.step rfl (fun _ h₁ => ?_); replace hF := Sm.trans hF h₁; clear h₁; refine goes_oper_k rfl rfl (by decide) (fun K hK => ?_); go_simp; refine hK _ _ ⟨still_listed rfl, ?_⟩; clear hK K) | (refine Goes.step rfl (fun _ h₁ => ?_); rw [stepG_unwanted rfl rfl]; simp only [goes_go]; refine ⟨D0.nil, ?_⟩; replace hF := Sm.trans hF h₁; clear h₁; walk_nrm))
      refine Goes.step rfl (fun _ h₁ => ?_)
      rw [stepG_ret']
      simp only [goes_go]
      refine ⟨D0.nil, ?_⟩
      refine Goes.stop fun w₁ h₂ => .at0 fun d => ?_
      have hF := (Sm.trans hF h₁).trans (h₂.trans ⟨d, rfl⟩)
      exact leave1 Try.func19 rfl (R := BSays (paB xs ys) w) ⟨by rw [HQ.out]; rfl, bb.sm hF⟩
    · obtain ⟨h1, h2, h3⟩ := hc
      rcases h3 with ⟨_, h3⟩ | ⟨h4, _⟩
      · obtain ⟨T, D⟩ := a'
        obtain rfl : D = [] := h1
        exact leave1 Try.func19 rfl (R := BSays (paB xs ys) w) ⟨h3, bel_nxt (bb.sm hF) h2⟩
      · cases h4

end Go.Proofs.Ytagncoahobghpac
