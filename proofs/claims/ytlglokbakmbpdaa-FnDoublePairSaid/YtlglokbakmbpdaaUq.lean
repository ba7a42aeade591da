/-
  IsQuiet of the program, in company (written by ch5un.py).
-/
import Derived.Test.YtlglokbakmbpdaaSfU
import Derived.Test.YtlglokbakmbpdaaUnS
namespace Go.Proofs.Ytlglokbakmbpdaa
open Go Go.Conc Go.RowKit
set_option linter.unusedVariables false

theorem unitsOf_b (v : Value) (xs : List Int) (w : World) (h : Rd w v xs) (hl : xs.length ≤ maxLen) : BCalls Try.prog 66 #[v] w (BMadeU' w (untL xs)) :=
  bcalls_of_calls noinit (callees [66, 20, 76] (by kernel_rfl)) Try.func66 rfl (by kernel_rfl) (by kernel_rfl) (fun w v w' => BMadeU' w (untL xs) v w') (bmadeU_blind' _)
    fun τ d => unitsOf_any v xs (reT w τ d) h hl
theorem untL_len (xs : List Int) : (untL xs).length ≤ 16 := by
  unfold untL
  split
  · rename_i h; exact (vrB_of (sgnB_of h).1).1
  · simp

theorem array30q (T : Array Value) (h : T.size = 30) : ∃ v0 v1 v2 v3 v4 v5 v6 v7 v8 v9 v10 v11 v12 v13 v14 v15 v16 v17 v18 v19 v20 v21 v22 v23 v24 v25 v26 v27 v28 v29 : Value, T = #[v0, v1, v2, v3, v4, v5, v6, v7, v8, v9, v10, v11, v12, v13, v14, v15, v16, v17, v18, v19, v20, v21, v22, v23, v24, v25, v26, v27, v28, v29] := by
  obtain ⟨l⟩ := T
  simp only [List.size_toArray] at h
  rcases l with _ | ⟨v0, l⟩
  · simp at h
  rcases l with _ | ⟨v1, l⟩
  · simp at h
  rcases l with _ | ⟨v2, l⟩
  · simp at h
  rcases l with _ | ⟨v3, l⟩
  · simp at h
  rcases l with _ | ⟨v4, l⟩
  · simp at h
  rcases l with _ | ⟨v5, l⟩
  · simp at h
  rcases l with _ | ⟨v6, l⟩
  · simp at h
  rcases l with _ | ⟨v7, l⟩
  · simp at h
  rcases l with _ | ⟨v8, l⟩
  · simp at h
  rcases l with _ | ⟨v9, l⟩
  · simp at h
  rcases l with _ | ⟨v10, l⟩
  · simp at h
  rcases l with _ | ⟨v11, l⟩
  · simp at h
  rcases l with _ | ⟨v12, l⟩
  · simp at h
  rcases l with _ | ⟨v13, l⟩
  · simp at h
  rcases l with _ | ⟨v14, l⟩
  · simp at h
  rcases l with _ | ⟨v15, l⟩
  · simp at h
  rcases l with _ | ⟨v16, l⟩
  · simp at h
  rcases l with _ | ⟨v17, l⟩
  · simp at h
  rcases l with _ | ⟨v18, l⟩
  · simp at h
  rcases l with _ | ⟨v19, l⟩
  · simp at h
  rcases l with _ | ⟨v20, l⟩
  · simp at h
  rcases l with _ | ⟨v21, l⟩
  · simp at h
  rcases l with _ | ⟨v22, l⟩
  · simp at h
  rcases l with _ | ⟨v23, l⟩
  · simp at h
  rcases l with _ | ⟨v24, l⟩
  · simp at h
  rcases l with _ | ⟨v25, l⟩
  · simp at h
  rcases l with _ | ⟨v26, l⟩
  · simp at h
  rcases l with _ | ⟨v27, l⟩
  · simp at h
  rcases l with _ | ⟨v28, l⟩
  · simp at h
  rcases l with _ | ⟨v29, l⟩
  · simp at h
  rcases l with _ | ⟨x, l⟩
  · exact ⟨v0, v1, v2, v3, v4, v5, v6, v7, v8, v9, v10, v11, v12, v13, v14, v15, v16, v17, v18, v19, v20, v21, v22, v23, v24, v25, v26, v27, v28, v29, rfl⟩
  · simp at h

set_option maxRecDepth 100000 in
set_option maxHeartbeats 8000000 in
theorem implIsQuiet_b (u : Value) (xs : List Int) (w : World) (hx : Rd w u xs) (hl : xs.length ≤ maxLen) :
    BCalls Try.prog 34 #[u] w (BSays (quB xs) w) := by
  intro cs
  obtain ⟨zs, hz⟩ : ∃ zs, zs = untL xs := ⟨_, rfl⟩
  have HZ := Lib.hid hz
  have hzl : zs.length ≤ 16 := by rw [hz]; exact untL_len xs
  have hz5 : zs.length ≤ 524288 := by omega
  clear hz
  rw [enter_at _ Try.func34 rfl]
  simp only [Try.f34, List.size_toArray, List.length_cons, List.length_nil, Nat.reduceAdd, Nat.reduceSub, Array.replicate_succ, Array.replicate_zero, List.push_toArray, List.append_toArray, List.nil_append, List.cons_append]
  have hF : Sm w w := Sm.refl w
  refine beside_by (n := 400) ?_
  repeat (first | a_ctl hF Sm.trans D0.nil | (refine Goes.step rfl (fun _ h₁ => ?_); replace hF := Sm.trans hF h₁; clear h₁; refine goes_oper_k rfl rfl (by decide) (fun K hK => ?_); go_simp; refine hK _ _ ⟨still_listed rfl, ?_⟩; clear hK K) | (refine Goes.step rfl (fun _ h₁ => ?_); rw [stepG_unwanted rfl rfl]; simp only [goes_go]; refine ⟨D0.nil, ?_⟩; replace hF := Sm.trans hF h₁; clear h₁; walk_nrm))
  refine Goes.stop fun w₁ h₁ => ?_
  replace hF := Sm.trans hF h₁
  clear h₁
  refine beside_call rfl rfl (by decide) rfl Try.func66 rfl rfl (by kernel_rfl) (show _ = (#[u] : Array Value) from by walk_nrm) (fun d => bmadeU_sm' (hF.trans ⟨d, rfl⟩) (unitsOf_b _ xs _ (hx.sm (hF.trans ⟨d, rfl⟩)) hl)) ?_
  rintro v1 w1 ⟨o1, b1⟩
  clear hF hx
  rw [← HZ.out] at o1
  have hF := Sm.refl w1
  walk_nrm
  refine beside_by (n := 400) ?_
  repeat (first | a_ctl hF Sm.trans D0.nil | (refine Goes.step rfl (fun _ h₁ => ?_); replace hF := Sm.trans hF h₁; clear h₁; refine goes_oper_k rfl rfl (by decide) (fun K hK => ?_); go_simp; refine hK _ _ ⟨still_listed rfl, ?_⟩; clear hK K) | (refine Goes.step rfl (fun _ h₁ => ?_); rw [stepG_unwanted rfl rfl]; simp only [goes_go]; refine ⟨D0.nil, ?_⟩; replace hF := Sm.trans hF h₁; clear h₁; walk_nrm))
  refine Goes.stop fun w₁ h₁ => ?_
  replace hF := Sm.trans hF h₁
  clear h₁
  refine beside_call rfl rfl (by decide) rfl Try.func67 rfl rfl (by kernel_rfl) (show _ = (#[v1] : Array Value) from by walk_nrm) (fun d => bmadeO_sm (hF.trans ⟨d, rfl⟩) (selfU_b _ zs _ (o1.rd.sm' (hF.trans ⟨d, rfl⟩)) hz5)) ?_
  rintro v2 w2 ⟨o2, b2⟩
  clear hF
  have bb := bel_nxt b1 b2
  have r2 := o2.rd
  have r1 := o1.rd
  clear o1 o2 b1 b2
  have hF := Sm.refl w2
  obtain ⟨a1, c1, hv1, -⟩ := id r1
  obtain ⟨a2, c2, hv2, hr2⟩ := id r2
  rw [len_selL] at hv2 hr2
  subst hv1 hv2
  clear r1 r2
  walk_nrm
  obtain ⟨n, hn⟩ : ∃ n, n = zs.length := ⟨_, rfl⟩
  have HN := Lib.hid hn
  have HR := Lib.hid hr2
  rw [← hn] at hzl ⊢
  clear hn hr2 hz5
  refine beside_by (n := 400) ?_
  (refine Goes.step rfl (fun _ h₁ => ?_); replace hF := Sm.trans hF h₁; clear h₁; refine goes_oper_k rfl rfl (by decide) (fun K hK => ?_); go_simp; refine hK _ _ ⟨still_listed rfl, ?_⟩; clear hK K)
  (refine Goes.step rfl (fun _ h₁ => ?_); replace hF := Sm.trans hF h₁; clear h₁; refine goes_oper_k rfl rfl (by decide) (fun K hK => ?_); go_simp; refine hK _ _ ⟨still_listed rfl, ?_⟩; clear hK K)
  a_ctl hF Sm.trans D0.nil
  refine Goes.stop fun w₁ h₁ => ?_
  replace hF := Sm.trans hF h₁
  clear h₁
  refine beside_piece noinit (okFns_none _) (by kernel_rfl) ⟨_, Try.func34, by kernel_rfl⟩ rfl rfl (fun w p w' => p.2.defers = [] ∧ Below w.heap.size w w' ∧ ((p.1 = .ret ∧ p.2.tmps.getD 2 undef = .bool (quB xs)) ∨ (p.1 = .normal ∧ p.2.tmps.size = 30 ∧ p.2.tmps[3]? = some (.slice a1 n c1) ∧ quB xs = decide (0 < n)))) ?_ (fun τ d => ?_) (fun a' w' hc => ?_) (fun a' w' todo hc => ?_)
  · rintro p w w1 τ d τ' d' d2 ⟨h1, h2, h3⟩
    exact ⟨h1, below_blind h2, h3⟩
  · obtain ⟨d0, rfl⟩ := hF
    have HC : ∀ j, j < n → ∃ b off, a2 = some ⟨b, off, none⟩ ∧ (reT (w2.at d0) τ d).cell? ⟨b, off + j, none⟩ = some (.int .i64 (ix (selL zs) j)) := fun j hj => by
      rcases HR.out with h | ⟨b, off, e, _, hc⟩
      · have := congrArg List.length h; rw [len_selL, ← HN.out] at this; simp at this; omega
      · exact ⟨b, off, e, hc j (by rw [← HN.out]; exact hj)⟩
    replace HC := Lib.hid HC
    have HX : n ≠ 0 → sgnB xs = true ∧ zs = xs := fun h => by
      cases e : sgnB xs with
      | false => exact absurd (by rw [HN.out, HZ.out, untL_no e]; rfl) h
      | true => exact ⟨rfl, by rw [HZ.out, untL_yes e]⟩
    replace HX := Lib.hid HX
    generalize reT (w2.at d0) τ d = w0 at HC ⊢
    have hbl := Below.refl w0.heap.size w0
    clear bb HR
    go_wp2
    go_loop [11] (fun i => ∃ k : Nat, k ≤ n ∧ i = .int .i64 k ∧ Hid (∀ d, d < k → 0 < d → -1 ≤ ix (selL zs) d ∧ ix (selL zs) d ≤ 1)) (fun i => n - (intOf i).toNat)
    case atStart => exact ⟨0, Nat.zero_le _, rfl, Lib.hid fun d h1 h2 => by omega⟩
    case round =>
      obtain ⟨k, hk, rfl, hs⟩ := hrel
      by_cases hlt : k < n
      · obtain ⟨b, off, rfl, d1⟩ := HC.out k hlt
        have k0 : (k : Int) < (n : Int) := by omega
        obtain ⟨z, hzz⟩ : ∃ z, ix (selL zs) k = z := ⟨_, rfl⟩
        rw [hzz] at d1
        have HK := Lib.hid hzz
        clear hzz
        by_cases h0 : k = 0
        · subst h0
          rw [Nat.add_zero] at d1
          go_wp2
          go_round
          case rel => exact ⟨1, by omega, by go_num, Lib.hid fun d h1 h2 => by omega⟩
          case measure => simp [intOf]; omega
        · have k1 : (0 : Int) < (k : Int) := by omega
          have HB : ¬ (-1 ≤ z ∧ z ≤ 1) → quB xs = false := fun hz => quB_no fun q => hz (by
            have hx := (HX.out (by omega)).2
            have := q.2.2 k (by rw [← hx, ← HN.out]; exact hlt) (by omega)
            rw [← hx, HK.out] at this; exact this)
          replace HB := Lib.hid HB
          have h0' := Lib.hid h0
          clear h0
          by_cases z1 : z < -1
          · have HF := Lib.hid (HB.out (by omega))
            go_wp2
            exact HF.out
          · by_cases z2 : 1 < z
            · have HF := Lib.hid (HB.out (by omega))
              go_wp2
              exact HF.out
            · go_wp2
              go_round
              case rel =>
                refine ⟨k + 1, by omega, by go_num, Lib.hid fun d h1 h2 => ?_⟩
                by_cases e : d = k
                · rw [e, HK.out]; omega
                · exact hs.out d (by omega) h2
              case measure => simp [intOf]; omega
      · obtain rfl : k = n := by omega
        have HF : quB xs = decide (0 < k) := by
          by_cases e : k = 0
          · subst e
            rw [show decide (0 < 0) = false by simp]
            refine quB_no fun q => q.2.1 ?_
            have := HN.out
            rw [HZ.out, untL_yes q.1] at this
            exact this.symm
          · obtain ⟨h1, h2⟩ := HX.out e
            rw [show decide (0 < k) = true by simp; omega]
            refine quB_yes h1 (by rw [← h2, ← HN.out]; exact e) fun d hd h0 => ?_
            rw [← h2] at hd ⊢
            exact hs.out d (by rw [HN.out]; exact hd) h0
        replace HF := Lib.hid HF
        clear hs
        go_wp2
        exact HF.out
  · obtain ⟨h1, h2, h3⟩ := hc
    rcases h3 with ⟨h4, _⟩ | ⟨_, hT, t3, hq⟩
    · cases h4
    obtain ⟨T, D⟩ := a'
    obtain rfl : D = [] := h1
    replace hT : T.size = 30 := hT
    replace t3 : T[3]? = some (.slice a1 n c1) := t3
    obtain ⟨v0, v1, v2, v3, v4, v5, v6, v7, v8, v9, v10, v11, v12, v13, v14, v15, v16, v17, v18, v19, v20, v21, v22, v23, v24, v25, v26, v27, v28, v29, rfl⟩ := array30q T hT
    simp only [List.getElem?_toArray, List.getElem?_cons_succ, List.getElem?_cons_zero, Option.some.injEq] at t3
    subst t3
    have bb := bel_nxt (bb.sm hF) h2
    have HQ := Lib.hid hq
    clear hF h2 hq hT
    have hF := Sm.refl w'
    refine beside_by (n := 400) ?_
    repeat (first | a_ctl hF Sm.trans D0.nil | (refine Goes.step rfl (fun _ h₁ => ?_); replace hF := Sm.trans hF h₁; clear h₁; refine goes_oper_k rfl rfl (by decide) (fun K hK => ?_); go_simp; refine hK _ _ ⟨still_listed rfl, ?_⟩; clear hK K) | (refine Goes.step rfl (fun _ h₁ => ?_); rw [stepG_unwanted rfl rfl]; simp only [goes_go]; refine ⟨D0.nil, ?_⟩; replace hF := Sm.trans hF h₁; clear h₁; walk_nrm))
    refine Goes.step rfl (fun _ h₁ => ?_)
    rw [stepG_ret']
    simp only [goes_go]
    refine ⟨D0.nil, ?_⟩
    refine Goes.stop fun w₁ h₂ => .at0 fun d => ?_
    have hF := (Sm.trans hF h₁).trans (h₂.trans ⟨d, rfl⟩)
    exact leave1 Try.func34 rfl (R := BSays (quB xs) w) ⟨by rw [HQ.out]; rfl, bb.sm hF⟩
  · obtain ⟨h1, h2, h3⟩ := hc
    rcases h3 with ⟨_, h3⟩ | ⟨h4, _⟩
    · obtain ⟨T, D⟩ := a'
      obtain rfl : D = [] := h1
      exact leave1 Try.func34 rfl (R := BSays (quB xs) w) ⟨h3, bel_nxt (bb.sm hF) h2⟩
    · cases h4

end Go.Proofs.Ytlglokbakmbpdaa
