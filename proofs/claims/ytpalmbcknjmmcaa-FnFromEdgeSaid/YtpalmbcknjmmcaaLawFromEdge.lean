/-
  The law FnFromEdge, as a contract.
-/
import Derived.Test.YtpalmbcknjmmcaaFnM
import Derived.Test.YtpalmbcknjmmcaaHelpF
import Derived.Test.YtpalmbcknjmmcaaLawM
import Derived.Test.YtpalmbcknjmmcaaDrawRow
import Derived.Test.YtpalmbcknjmmcaaSEdge
import Derived.Test.YtpalmbcknjmmcaaSFrom
import Derived.Test.YtpalmbcknjmmcaaEdgeM
import Derived.Deep.RegionHeld3
namespace Go.Proofs.Ytpalmbcknjmmcaa
open Go.RowKit
set_option linter.unusedVariables false

set_option maxHeartbeats 4000000 in
theorem lawFromEdge_any (v : Value) (n : Nat) (w : World) (h : RdB w v n) :
    Calls Try.prog 4 #[v] w (Says true w) := by
  have h0 := h
  obtain ⟨a, cap, rfl, h1, h2, -⟩ := h0
  unfold maxLen at h2
  by_cases hbig : n ≤ 1048576
  · go_enter Try.func4, Try.ntmps4
    go_wp2_with fail
    refine (drawFromEdge_any _ n _ h).mono ?_
    rintro e w1 ⟨v, xs, rfl, o, hl, hw, bb⟩
    have hM := Own.max64 hl
    clear h
    have HI := Lib.hid fun w (v : Value) (h : Rd w v xs) => implFromEdge_any v xs w h hM hw
    have HS := Lib.hid fun w (v : Value) (h : Rd w v xs) => specFromEdge_any v xs w h hM hw
    have HV := Lib.hid fun w (v : Value) (h : Rd w v xs) => implValid_any v xs w h hM
    obtain ⟨ys, hys⟩ : ∃ ys, ys = fromF xs := ⟨_, rfl⟩
    rw [← hys] at HI HS
    have hyl : ys.length ≤ 64 := by rw [hys]; unfold fromF; split <;> simp [fromL]; exact hl
    have hyM := Own.max64 hyl
    have HE := Lib.hid fun w (a b : Value) (h1 : Rd w a ys) (h2 : Rd w b ys) => equalInts_any a b ys ys w h1 h2 hyM hyM
    have HEX := Lib.hid fun w (a b : Value) (h1 : Rd w a xs) (h2 : Rd w b xs) => equalInts_any a b xs xs w h1 h2 hM hM
    have HVY := Lib.hid fun w (v : Value) (h : Rd w v ys) => implValid_any v ys w h hyM
    have HYS := Lib.hid hys
    clear hys
    obtain ⟨a1, c1, rfl⟩ := own_sl o
    go_wp2_with fail
    refine (HI.out _ _ o.rd).mono ?_
    rintro e w2 ⟨u, rfl, p, b2⟩
    have o := o.below b2 (Nat.le_refl _)
    have bb := bel_nxt bb b2
    obtain ⟨a2, c2, rfl⟩ := own_sl p
    go_wp2_with fail
    refine (HS.out _ _ o.rd).mono ?_
    rintro e w3 ⟨u3, rfl, p3, b3⟩
    have o := o.below b3 (Nat.le_refl _)
    have p := p.below b3 (Nat.le_refl _)
    have bb := bel_nxt bb b3
    go_wp2_with fail
    refine (HE.out _ _ _ p.rd p3.rd).mono ?_
    rintro e w4 ⟨rfl, b4⟩
    rw [eqB_self]
    have o := o.below b4 (Nat.le_refl _)
    have p := p.below b4 (Nat.le_refl _)
    have bb := bel_nxt bb b4
    go_wp2_with fail
    refine (HV.out _ _ o.rd).mono ?_
    rintro e w5 ⟨rfl, b5⟩
    have o := o.below b5 (Nat.le_refl _)
    have p := p.below b5 (Nat.le_refl _)
    have bb := bel_nxt bb b5
    clear b2 b3 b4 b5 p3
    cases hvx : vrB xs with
    | false =>
      go_wp2_with fail
      refine (HS.out _ _ o.rd).mono ?_
      rintro e w6 ⟨u6, rfl, p6, b6⟩
      have p := p.below b6 (Nat.le_refl _)
      have bb := bel_nxt bb b6
      go_wp2_with fail
      refine (HE.out _ _ _ p.rd p6.rd).mono ?_
      rintro e w7 ⟨rfl, b7⟩
      rw [eqB_self]
      have bb := bel_nxt bb b7
      go_wp2
      go_ret
      exact ⟨rfl, bb⟩
    | true =>
      have hyL : ys = fromL xs := by rw [HYS.out, fromF, if_pos hvx]
      have hyn : ys.length = xs.length := by rw [hyL]; simp [fromL]
      have hcap1 : xs.length ≤ c1 := by
        rcases o.2 with ⟨h', h0⟩ | ⟨g, cap, cur, h', _, _, hn, _⟩
        · omega
        · simp only [Value.slice.injEq] at h'; omega
      have hcap2 : ys.length ≤ c2 := by
        rcases p.2 with ⟨h', h0⟩ | ⟨g, cap, cur, h', _, _, hn, _⟩
        · omega
        · simp only [Value.slice.injEq] at h'; omega
      by_cases hn0 : xs.length = 0
      · obtain rfl : xs = [] := List.eq_nil_of_length_eq_zero hn0
        have hy0 : ys = [] := by rw [hyL]; rfl
        subst hy0
        have hrt : ∀ w, Rd w (.slice a1 0 c1) [] := fun w => ⟨a1, c1, rfl, .inl rfl⟩
        have hrt2 : ∀ w, Rd w (.slice a2 0 c2) [] := fun w => ⟨a2, c2, rfl, .inl rfl⟩
        have hF0 : fromF [] = [] := by decide
        have HT := Lib.hid fun w => implFromEdge_any _ [] w (hrt w) (by simp) (by simp)
        rw [hF0] at HT
        have HE2 := Lib.hid fun w (a b : Value) (h1 : Rd w a []) (h2 : Rd w b []) => equalInts_any a b [] [] w h1 h2 (by simp) (by simp)
        have HR2 := Lib.hid fun w (h : Rd w (.slice a2 0 c2) ([] : List Int)) => h
        have hst : edgeF [] = [] := by decide
        have hvy0 : vrB ([] : List Int) = true := by decide
        have HST := Lib.hid fun w (v : Value) (h : Rd w v []) => implEdgeOf_any v [] w h (by simp) (by simp)
        rw [hst] at HST
        rw [hvy0] at HVY
        simp only [List.length_nil] at o p ⊢
        clear hyL hyn hvx hn0 hF0 hst hvy0 HI HS HE HYS hl hyl hM hyM
        go_wp2_with fail
        refine (HT.out _).mono ?_
        rintro e w6 ⟨u6, rfl, p6, b6⟩
        have o := o.below b6 (Nat.le_refl _)
        have p := p.below b6 (Nat.le_refl _)
        have bb := bel_nxt bb b6
        obtain ⟨a6, c6, rfl⟩ := own_sl p6
        go_wp2_with fail
        refine (HVY.out _ _ p.rd).mono ?_
        rintro e w7 ⟨rfl, b7⟩
        have o := o.below b7 (Nat.le_refl _)
        have p := p.below b7 (Nat.le_refl _)
        have p6 := p6.below b7 (Nat.le_refl _)
        have bb := bel_nxt bb b7
        go_wp2_with fail
        refine (HST.out _ _ p.rd).mono ?_
        rintro e w8 ⟨u8, rfl, p8, b8⟩
        have o := o.below b8 (Nat.le_refl _)
        have p := p.below b8 (Nat.le_refl _)
        have p6 := p6.below b8 (Nat.le_refl _)
        have bb := bel_nxt bb b8
        go_wp2_with fail
        refine (HEX.out _ _ _ p8.rd o.rd).mono ?_
        rintro e w9 ⟨rfl, b9⟩
        rw [eqB_self]
        have p := p.below b9 (Nat.le_refl _)
        have p6 := p6.below b9 (Nat.le_refl _)
        have bb := bel_nxt bb b9
        go_wp2_with fail
        refine (HE2.out _ _ _ p6.rd (hrt2 _)).mono ?_
        rintro e w10 ⟨rfl, b10⟩
        rw [eqB_self]
        have bb := bel_nxt bb b10
        go_wp2
        go_ret
        exact ⟨rfl, bb⟩
      · obtain ⟨m, hm⟩ : ∃ m, xs.length = m + 1 := ⟨xs.length - 1, by omega⟩
        have hym : ys.length = m + 1 := by omega
        have hlt1 : (xs.take m).length = m := by rw [List.length_take]; omega
        have hlt2 : (ys.take m).length = m := by rw [List.length_take]; omega
        have HT := Lib.hid fun w (h : Rd w (.slice a1 m c1) (xs.take m)) => implFromEdge_any _ (xs.take m) w h (by rw [hlt1]; unfold maxLen; omega) (fun n hn => hw n (List.mem_of_mem_take hn))
        have hF0 : fromF (xs.take m) = ys.take m := by rw [fromF, if_pos (vrB_take m hvx), from_take (by omega), hyL]
        rw [hF0] at HT
        have HE2 := Lib.hid fun w (a b : Value) (h1 : Rd w a (ys.take m)) (h2 : Rd w b (ys.take m)) => equalInts_any a b (ys.take m) (ys.take m) w h1 h2 (by rw [hlt2]; unfold maxLen; omega) (by rw [hlt2]; unfold maxLen; omega)
        have HTK1 := Lib.hid fun w (h : Rd w (.slice a1 (m + 1) c1) xs) => h.take (k := m) (by omega)
        have HTK2 := Lib.hid fun w (h : Rd w (.slice a2 (m + 1) c2) ys) => h.take (k := m) (by omega)
        have i1 : (m : Int) ≤ (c1 : Int) := by omega
        have i2 : (m : Int) ≤ (c2 : Int) := by omega
        have i3 : m ≤ 64 := by omega
        have i4 : (0 : Int) ≤ (m : Int) := by omega
        rw [hm] at o ⊢
        rw [hym] at p ⊢
        cases hvy : vrB ys with
        | false =>
          rw [hvy] at HVY
          clear hvy
          clear hyL hyn hvx hm hym hlt1 hF0 HI HS HE HYS hn0 hl hyl hM hyM hw
          go_wp2_with fail
          refine (HT.out _ (HTK1.out _ o.rd)).mono ?_
          rintro e w6 ⟨u6, rfl, p6, b6⟩
          have o := o.below b6 (Nat.le_refl _)
          have p := p.below b6 (Nat.le_refl _)
          have bb := bel_nxt bb b6
          obtain ⟨a6, c6, rfl⟩ := own_sl p6; rw [hlt2] at p6 ⊢
          go_wp2_with fail
          refine (HVY.out _ _ p.rd).mono ?_
          rintro e w7 ⟨rfl, b7⟩
          have o := o.below b7 (Nat.le_refl _)
          have p := p.below b7 (Nat.le_refl _)
          have p6 := p6.below b7 (Nat.le_refl _)
          have bb := bel_nxt bb b7
          go_wp2_with fail
          refine (HE2.out _ _ _ p6.rd (HTK2.out _ p.rd)).mono ?_
          rintro e w10 ⟨rfl, b10⟩
          rw [eqB_self]
          have bb := bel_nxt bb b10
          go_wp2
          go_ret
          exact ⟨rfl, bb⟩
        | true =>
          rw [hvy] at HVY
          have hst : edgeF ys = xs := by rw [hyL]; rw [hyL] at hvy; rw [edgeF, if_pos hvy, edge_from hw]
          have HST := Lib.hid fun w (v : Value) (h : Rd w v ys) => implEdgeOf_any v ys w h hyM (by rw [hyL]; exact tabw_wf _ _)
          rw [hst] at HST
          clear hvy hst
          clear hyL hyn hvx hm hym hlt1 hF0 HI HS HE HYS hn0 hl hyl hM hyM hw
          go_wp2_with fail
          refine (HT.out _ (HTK1.out _ o.rd)).mono ?_
          rintro e w6 ⟨u6, rfl, p6, b6⟩
          have o := o.below b6 (Nat.le_refl _)
          have p := p.below b6 (Nat.le_refl _)
          have bb := bel_nxt bb b6
          obtain ⟨a6, c6, rfl⟩ := own_sl p6; rw [hlt2] at p6 ⊢
          go_wp2_with fail
          refine (HVY.out _ _ p.rd).mono ?_
          rintro e w7 ⟨rfl, b7⟩
          have o := o.below b7 (Nat.le_refl _)
          have p := p.below b7 (Nat.le_refl _)
          have p6 := p6.below b7 (Nat.le_refl _)
          have bb := bel_nxt bb b7
          go_wp2_with fail
          refine (HST.out _ _ p.rd).mono ?_
          rintro e w8 ⟨u8, rfl, p8, b8⟩
          have o := o.below b8 (Nat.le_refl _)
          have p := p.below b8 (Nat.le_refl _)
          have p6 := p6.below b8 (Nat.le_refl _)
          have bb := bel_nxt bb b8
          go_wp2_with fail
          refine (HEX.out _ _ _ p8.rd o.rd).mono ?_
          rintro e w9 ⟨rfl, b9⟩
          rw [eqB_self]
          have p := p.below b9 (Nat.le_refl _)
          have p6 := p6.below b9 (Nat.le_refl _)
          have bb := bel_nxt bb b9
          go_wp2_with fail
          refine (HE2.out _ _ _ p6.rd (HTK2.out _ p.rd)).mono ?_
          rintro e w10 ⟨rfl, b10⟩
          rw [eqB_self]
          have bb := bel_nxt bb b10
          go_wp2
          go_ret
          exact ⟨rfl, bb⟩
  · clear h
    go_enter Try.func4, Try.ntmps4
    go_wp2
    go_ret
    exact ⟨rfl, Below.refl _ _⟩

end Go.Proofs.Ytpalmbcknjmmcaa
