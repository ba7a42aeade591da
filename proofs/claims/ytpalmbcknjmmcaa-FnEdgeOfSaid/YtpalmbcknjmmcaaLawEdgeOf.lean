/-
  The law FnEdgeOf, as a contract.
-/
import Derived.Test.YtpalmbcknjmmcaaFnM
import Derived.Test.YtpalmbcknjmmcaaHelpF
import Derived.Test.YtpalmbcknjmmcaaLawM
import Derived.Test.YtpalmbcknjmmcaaDrawRow
import Derived.Test.YtpalmbcknjmmcaaSEdge
import Derived.Test.YtpalmbcknjmmcaaSFrom
import Derived.Test.YtpalmbcknjmmcaaEdgeM
import Derived.Deep.RegionHeld3
namespace Go.Proofs.Ytpalmbcknjmmcaa
open Go.RowKit
set_option linter.unusedVariables false

set_option maxHeartbeats 4000000 in
theorem lawEdgeOf_any (v : Value) (n : Nat) (w : World) (h : RdB w v n) :
    Calls Try.prog 3 #[v] w (Says true w) := by
  have h0 := h
  obtain ⟨a, cap, rfl, h1, h2, -⟩ := h0
  unfold maxLen at h2
  by_cases hbig : n ≤ 1048576
  · go_enter Try.func3, Try.ntmps3
    go_wp2_with fail
    refine (drawEdgeOf_any _ n _ h).mono ?_
    rintro e w1 ⟨v, xs, rfl, o, hl, hw, bb⟩
    have hM := Own.max64 hl
    clear h
    have HI := Lib.hid fun w (v : Value) (h : Rd w v xs) => implEdgeOf_any v xs w h hM hw
    have HS := Lib.hid fun w (v : Value) (h : Rd w v xs) => specEdgeOf_any v xs w h hM hw
    have HV := Lib.hid fun w (v : Value) (h : Rd w v xs) => implValid_any v xs w h hM
    obtain ⟨ys, hys⟩ : ∃ ys, ys = edgeF xs := ⟨_, rfl⟩
    rw [← hys] at HI HS
    have hyl : ys.length ≤ 64 := by rw [hys]; unfold edgeF; split <;> simp [edgeL]; exact hl
    have hyM := Own.max64 hyl
    have HE := Lib.hid fun w (a b : Value) (h1 : Rd w a ys) (h2 : Rd w b ys) => equalInts_any a b ys ys w h1 h2 hyM hyM
    have HEX := Lib.hid fun w (a b : Value) (h1 : Rd w a xs) (h2 : Rd w b xs) => equalInts_any a b xs xs w h1 h2 hM hM
    have HVY := Lib.hid fun w (v : Value) (h : Rd w v ys) => implValid_q v ys w h hyM
    have HYS := Lib.hid hys
    clear hys
    obtain ⟨a1, c1, rfl⟩ := own_sl o
    go_wp2_with fail
    refine (HI.out _ _ o.rd).mono ?_
    rintro e w2 ⟨u, rfl, p, b2⟩
    have o := o.below b2 (Nat.le_refl _)
    have bb := bel_nxt bb b2
    obtain ⟨a2, c2, rfl⟩ := own_sl p
    go_wp2_with fail
    refine (HS.out _ _ o.rd).mono ?_
    rintro e w3 ⟨u3, rfl, p3, b3⟩
    have o := o.below b3 (Nat.le_refl _)
    have p := p.below b3 (Nat.le_refl _)
    have bb := bel_nxt bb b3
    go_wp2_with fail
    refine (HE.out _ _ _ p.rd p3.rd).mono ?_
    rintro e w4 ⟨rfl, b4⟩
    rw [eqB_self]
    have o := o.below b4 (Nat.le_refl _)
    have p := p.below b4 (Nat.le_refl _)
    have bb := bel_nxt bb b4
    go_wp2_with fail
    refine (HV.out _ _ o.rd).mono ?_
    rintro e w5 ⟨rfl, b5⟩
    have o := o.below b5 (Nat.le_refl _)
    have p := p.below b5 (Nat.le_refl _)
    have bb := bel_nxt bb b5
    clear b2 b3 b4 b5 p3
    cases hvx : vrB xs with
    | false =>
      go_wp2_with fail
      refine (HS.out _ _ o.rd).mono ?_
      rintro e w6 ⟨u6, rfl, p6, b6⟩
      have p := p.below b6 (Nat.le_refl _)
      have bb := bel_nxt bb b6
      go_wp2_with fail
      refine (HE.out _ _ _ p.rd p6.rd).mono ?_
      rintro e w7 ⟨rfl, b7⟩
      rw [eqB_self]
      have bb := bel_nxt bb b7
      go_wp2
      go_ret
      exact ⟨rfl, bb⟩
    | true =>
      have hyL : ys = edgeL xs := by rw [HYS.out, edgeF, if_pos hvx]
      have hyn : ys.length = xs.length := by rw [hyL]; simp [edgeL]
      by_cases hn0 : xs.length = 0
      · obtain rfl : xs = [] := List.eq_nil_of_length_eq_zero hn0
        have hy0 : ys = [] := by rw [hyL]; rfl
        subst hy0
        have hvy : vrB [] = true := by decide
        rw [hvy] at HVY
        have hst : fromF [] = [] := by decide
        have HST := Lib.hid fun w (v : Value) (h : Rd w v []) => implFromEdge_any v [] w h hyM (by simp)
        rw [hst] at HST
        have oD := o.drew
        have pD := p.drew
        have bbD := bb.drew
        clear hyL hyn hvx hvy hst HI HS HE HYS
        go_wp2
        refine wp_region_any (by kernel_rfl) ?_
        change wpAny _ _ _ _ _ _ _ (World.drew _)
        refine wpAny_take (i := 0) (v := ?v0) rfl (by kernel_rfl) (by kernel_rfl) (by kernel_rfl) (fun _ _ _ h => h) (Or.inl ⟨rfl, ?y0⟩) ?_
        case y0 => (intro w; go_simp; try with_reducible rfl)
        go_simp
        refine wpAny_ready (rs := [1]) (by kernel_rfl) (by simp) ?_
        refine AllReady.cons rfl (fun K hK => ?_) AllReady.nil
        go_simp
        refine (HVY.out _ _ pD.rd).mono ?_
        rintro e w6 ⟨rfl, rfl⟩
        go_simp
        refine hK _ _ ?_
        clear hK K
        refine wpAny_take (i := 2) (v := ?v2) rfl (by kernel_rfl) (by kernel_rfl) (by kernel_rfl) (fun _ _ _ h => h) (Or.inl ⟨rfl, ?y2⟩) ?_
        case y2 => (intro w; go_simp; try with_reducible rfl)
        go_simp
        refine wpAny_take (i := 3) (v := ?v3) rfl (by kernel_rfl) (by kernel_rfl) (by kernel_rfl) (fun _ _ _ h => h) (Or.inl ⟨rfl, ?y3⟩) ?_
        case y3 => (intro w; go_simp; try with_reducible rfl)
        go_simp
        refine wpAny_take (i := 4) (v := ?v4) rfl (by kernel_rfl) (by kernel_rfl) (by kernel_rfl) (fun _ _ _ h => h) (Or.inl ⟨rfl, ?y4⟩) ?_
        case y4 => (intro w; go_simp; try with_reducible rfl)
        go_simp
        refine wpAny_take (i := 6) (v := ?v6) rfl (by kernel_rfl) (by kernel_rfl) (by kernel_rfl) (fun _ _ _ h => h) (Or.inl ⟨rfl, ?y6⟩) ?_
        case y6 => (intro w; go_simp; try with_reducible rfl)
        go_simp
        refine wpAny_ready (rs := [5]) (by kernel_rfl) (by simp) ?_
        refine AllReady.cons rfl (fun K hK => ?_) AllReady.nil
        go_simp
        refine (HST.out _ _ pD.rd).mono ?_
        rintro e w7 ⟨u7, rfl, p7, b7⟩
        have oD := oD.below b7 (Nat.le_refl _)
        have bbD := bel_nxt bbD b7
        go_simp
        refine hK _ _ ?_
        clear hK K
        refine wpAny_ready (rs := [7]) (by kernel_rfl) (by simp) ?_
        refine AllReady.cons rfl (fun K hK => ?_) AllReady.nil
        go_simp
        refine (HEX.out _ _ _ p7.rd oD.rd).mono ?_
        rintro e w8 ⟨rfl, b8⟩
        rw [eqB_self]
        have bbD := bel_nxt bbD b8
        go_simp
        refine hK _ _ ?_
        clear hK K
        refine wpAny_take (i := 8) (v := ?v8) rfl (by kernel_rfl) (by kernel_rfl) (by kernel_rfl) (fun _ _ _ h => h) (Or.inl ⟨rfl, ?y8⟩) ?_
        case y8 => (intro w; go_simp; try with_reducible rfl)
        go_simp
        refine wpAny_take (i := 9) (v := ?v9) rfl (by kernel_rfl) (by kernel_rfl) (by kernel_rfl) (fun _ _ _ h => h) (Or.inl ⟨rfl, ?y9⟩) ?_
        case y9 => (intro w; go_simp; try with_reducible rfl)
        go_simp
        refine wpAny_take (i := 10) (v := ?v10) rfl (by kernel_rfl) (by kernel_rfl) (by kernel_rfl) (fun _ _ _ h => h) (Or.inl ⟨rfl, ?y10⟩) ?_
        case y10 => (intro w; go_simp; try with_reducible rfl)
        go_simp
        refine wpAny_take (i := 11) (v := ?v11) rfl (by kernel_rfl) (by kernel_rfl) (by kernel_rfl) (fun _ _ _ h => h) (Or.inl ⟨rfl, ?y11⟩) ?_
        case y11 => (intro w; go_simp; try with_reducible rfl)
        go_simp
        refine wpAny_take (i := 12) (v := ?v12) rfl (by kernel_rfl) (by kernel_rfl) (by kernel_rfl) (fun _ _ _ h => h) (Or.inl ⟨rfl, ?y12⟩) ?_
        case y12 => (intro w; go_simp; try with_reducible rfl)
        go_simp
        refine wpAny_take (i := 13) (v := ?v13) rfl (by kernel_rfl) (by kernel_rfl) (by kernel_rfl) (fun _ _ _ h => h) (Or.inl ⟨rfl, ?y13⟩) ?_
        case y13 => (intro w; go_simp; try with_reducible rfl)
        go_simp
        refine wpAny_take (i := 14) (v := ?v14) rfl (by kernel_rfl) (by kernel_rfl) (by kernel_rfl) (fun _ _ _ h => h) (Or.inl ⟨rfl, ?y14⟩) ?_
        case y14 => (intro w; go_simp; try with_reducible rfl)
        go_simp
        refine wpAny_take (i := 15) (v := ?v15) rfl (by kernel_rfl) (by kernel_rfl) (by kernel_rfl) (fun _ _ _ h => h) (Or.inl ⟨rfl, ?y15⟩) ?_
        case y15 => (intro w; go_simp; try with_reducible rfl)
        go_simp
        refine wpAny_take (i := 16) (v := ?v16) rfl (by kernel_rfl) (by kernel_rfl) (by kernel_rfl) (fun _ _ _ h => h) (Or.inl ⟨rfl, ?y16⟩) ?_
        case y16 => (intro w; go_simp; try with_reducible rfl)
        go_simp
        refine wpAny_take (i := 17) (v := ?v17) rfl (by kernel_rfl) (by kernel_rfl) (by kernel_rfl) (fun _ _ _ h => h) (Or.inl ⟨rfl, ?y17⟩) ?_
        case y17 => (intro w; go_simp; try with_reducible rfl)
        go_simp
        refine wpAny_take (i := 18) (v := ?v18) rfl (by kernel_rfl) (by kernel_rfl) (by kernel_rfl) (fun _ _ _ h => h) (Or.inl ⟨rfl, ?y18⟩) ?_
        case y18 => (intro w; go_simp; try with_reducible rfl)
        go_simp
        refine wpAny_take (i := 19) (v := ?v19) rfl (by kernel_rfl) (by kernel_rfl) (by kernel_rfl) (fun _ _ _ h => h) (Or.inl ⟨rfl, ?y19⟩) ?_
        case y19 => (intro w; go_simp; try with_reducible rfl)
        go_simp
        refine wpAny_take (i := 20) (v := ?v20) rfl (by kernel_rfl) (by kernel_rfl) (by kernel_rfl) (fun _ _ _ h => h) (Or.inl ⟨rfl, ?y20⟩) ?_
        case y20 => (intro w; go_simp; try with_reducible rfl)
        go_simp
        refine wpAny_take (i := 21) (v := undef) rfl (by kernel_rfl) (by kernel_rfl) (by kernel_rfl) (fun _ _ _ h => h) (Or.inr ⟨rfl, rfl⟩) ?_
        go_simp
        refine wpAny_take (i := 22) (v := undef) rfl (by kernel_rfl) (by kernel_rfl) (by kernel_rfl) (fun _ _ _ h => h) (Or.inr ⟨rfl, rfl⟩) ?_
        go_simp
        refine wpAny_take (i := 23) (v := undef) rfl (by kernel_rfl) (by kernel_rfl) (by kernel_rfl) (fun _ _ _ h => h) (Or.inr ⟨rfl, rfl⟩) ?_
        go_simp
        refine wpAny_take (i := 24) (v := undef) rfl (by kernel_rfl) (by kernel_rfl) (by kernel_rfl) (fun _ _ _ h => h) (Or.inr ⟨rfl, rfl⟩) ?_
        go_simp
        refine wpAny_take (i := 25) (v := undef) rfl (by kernel_rfl) (by kernel_rfl) (by kernel_rfl) (fun _ _ _ h => h) (Or.inr ⟨rfl, rfl⟩) ?_
        go_simp
        refine wpAny_take (i := 26) (v := undef) rfl (by kernel_rfl) (by kernel_rfl) (by kernel_rfl) (fun _ _ _ h => h) (Or.inr ⟨rfl, rfl⟩) ?_
        go_simp
        refine wpAny_take (i := 27) (v := undef) rfl (by kernel_rfl) (by kernel_rfl) (by kernel_rfl) (fun _ _ _ h => h) (Or.inr ⟨rfl, rfl⟩) ?_
        go_simp
        refine wpAny_take (i := 28) (v := ?v28) rfl (by kernel_rfl) (by kernel_rfl) (by kernel_rfl) (fun _ _ _ h => h) (Or.inl ⟨rfl, ?y28⟩) ?_
        case y28 => (intro w; go_simp; try with_reducible rfl)
        go_simp
        refine wpAny_take (i := 29) (v := ?v29) rfl (by kernel_rfl) (by kernel_rfl) (by kernel_rfl) (fun _ _ _ h => h) (Or.inl ⟨rfl, ?y29⟩) ?_
        case y29 => (intro w; go_simp; try with_reducible rfl)
        go_simp
        refine wpAny_take (i := 30) (v := ?v30) rfl (by kernel_rfl) (by kernel_rfl) (by kernel_rfl) (fun _ _ _ h => h) (Or.inl ⟨rfl, ?y30⟩) ?_
        case y30 => (intro w; go_simp; try with_reducible rfl)
        go_simp
        refine wpAny_done (by kernel_rfl) ?_ _
        go_wp2
        go_ret
        exact ⟨rfl, bbD⟩
      · have hz : ix ys 0 = ix xs 0 := by rw [hyL]; exact edge_zero hw (by omega)
        obtain ⟨g1, d1, hg1, -, -⟩ := o.form (by intro e; rw [e] at hn0; simp at hn0)
        obtain ⟨g2, d2, hg2, -, -⟩ := p.form (by intro e; apply hn0; rw [← hyn, e]; rfl)
        simp only [Value.slice.injEq, true_and] at hg1 hg2
        obtain ⟨rfl, rfl⟩ := hg1
        obtain ⟨rfl, rfl⟩ := hg2
        have hc1 := o.cell 0 (by omega)
        have hc2 := p.cell 0 (by omega)
        rw [hz] at hc2
        have hlx : 0 < xs.length := by omega
        have hly : 0 < ys.length := by omega
        have i1 : (0 : Int) < (xs.length : Int) := by omega
        have i2 : ((xs.length : Int) == 0) = false := by rw [beq_eq_false_iff_ne]; omega
        have Hz := Lib.hid hz
        cases hvy : vrB ys with
        | false =>
          rw [hvy] at HVY
          rw [hyn] at p ⊢
          clear hyL hyn hvx hvy hz hn0 HI HS HE HYS
          go_wp2
          go_quiet ((go_at_call 17; exact Calls.quiet_of_same ((HVY.out _ _ (p.rd.drewN _)).mono fun _ _ ⟨h1, h2⟩ => ⟨h1, h2.symm⟩)))
          go_wp2
          go_ret
          exact ⟨rfl, below_drewN bb _⟩
        | true =>
          rw [hvy] at HVY
          have hst : fromF ys = xs := by rw [hyL]; rw [hyL] at hvy; rw [fromF, if_pos hvy, from_edge hw]
          have HST := Lib.hid fun w (v : Value) (h : Rd w v ys) => implFromEdge_any v ys w h hyM (by rw [hyL]; exact tabw_wf _ _)
          rw [hst] at HST
          rw [hyn] at p ⊢
          have oD := o.drew
          have pD := p.drew
          have bbD := bb.drew
          have hc1 : _ := hc1
          clear hyL hyn hvx hvy hst hz hn0 HI HS HE HYS
          go_wp2
          first
            | (go_region_held3 (fun w' => w'.cell? ⟨g1, 0, none⟩ = some (.int .i64 (ix xs 0)) ∧ w'.cell? ⟨g2, 0, none⟩ = some (.int .i64 (ix xs 0))) (first | exact ⟨hc1, hc2⟩ | go_keep)
                (first
            | (go_at_call 17; refine (HVY.out _ _ pD.rd).mono ?_; rintro e w6 ⟨rfl, rfl⟩)
            | (go_at_call 18; refine (HST.out _ _ pD.rd).mono ?_; rintro e w7 ⟨u7, rfl, p7, b7⟩; have oD := oD.below b7 (Nat.le_refl _); have pD := pD.below b7 (Nat.le_refl _); have bbD := bel_nxt bbD b7; have hc1 := oD.cell 0 hlx; have hc2 := pD.cell 0 hly; rw [Hz.out] at hc2)
            | (go_at_call 15; refine (HEX.out _ _ _ p7.rd oD.rd).mono ?_; rintro e w8 ⟨rfl, b8⟩; rw [eqB_self]; have oD := oD.below b8 (Nat.le_refl _); have pD := pD.below b8 (Nat.le_refl _); have bbD := bel_nxt bbD b8; have hc1 := oD.cell 0 hlx; have hc2 := pD.cell 0 hly; rw [Hz.out] at hc2)))
            | fail
          all_goals go_wp2
          all_goals go_ret
          all_goals exact ⟨rfl, bbD⟩
  · clear h
    go_enter Try.func3, Try.ntmps3
    go_wp2
    go_ret
    exact ⟨rfl, Below.refl _ _⟩

end Go.Proofs.Ytpalmbcknjmmcaa
