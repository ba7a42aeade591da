/-
  DropSmall of the program, by its contract.
-/
import Derived.Test.YtgafiglfmkaniaaHvG
import Derived.Test.YtgafiglfmkaniaaHvD
namespace Go.Proofs.Ytgafiglfmkaniaa
open Go.RowKit
set_option linter.unusedVariables false

set_option maxHeartbeats 4000000 in
theorem implDropSmall_any (v : Value) (xs : List Int) (e : Int) (w : World) (h : Rd w v xs) (hl : xs.length ≤ maxLen) :
    Calls Try.prog 31 #[v, .int .i64 e] w (Made 3 w (dspF xs e)) := by
  have hv := implValid_any v xs w h hl
  cases hb : vrB xs with
  | true =>
    rw [hb] at hv
    have HV := Lib.hid hv
    by_cases he : 0 ≤ e ∧ e ≤ 1000
    · obtain ⟨h16, hbd⟩ := vrB_of hb
      have HF := Lib.hid (dspF_yes hb he)
      have HCP := Lib.hid fun w1 (b : Below w.heap.size w w1) => copyOf_any v xs w1 (h.below b (Nat.le_refl _)) (by omega)
      obtain ⟨F, hF⟩ : ∃ F, F = ix xs := ⟨_, rfl⟩
      obtain ⟨L, hL⟩ : ∃ L, L = xs.length := ⟨_, rfl⟩
      have HXS := Lib.hid (show xs = tab L F by rw [hF, hL]; exact (tab_self xs).symm)
      have HR := Lib.hid (show drpL e xs = tab L (drpF L e F) by rw [hF, hL]; rfl)
      have HL := Lib.hid hL
      rw [← hF] at hbd
      rw [← hL] at hbd h16
      obtain ⟨he0, he1⟩ := he
      obtain ⟨q, hq⟩ : ∃ q, L / 2 = q := ⟨_, rfl⟩
      obtain ⟨p, hp⟩ : ∃ p, p + q = L := ⟨L - q, by omega⟩
      have HP := Lib.hid (show L - L / 2 = p by omega)
      have HC := Lib.hid fun g w => (cut_any g L p q L w (Nat.le_refl _) hq hp (by omega)).mono (R' := fun e w' => ∃ ad : Option Addr, e = .returned (.tuple #[.slice (some ⟨g, 0, none⟩) p p, .slice ad q (L - p)]) ∧ (0 < q → ad = some ⟨g, p, none⟩) ∧ ∃ k, w' = w.drewN k) (by
        rintro e w' ⟨rfl, hk⟩
        exact ⟨_, rfl, fun h0 => if_neg (by omega), hk⟩)
      obtain ⟨a, cap, rfl, -⟩ := h
      have HBD := Lib.hid hbd
      have hq2 : q ≤ p := by omega
      have hq16 : q ≤ 16 := by omega
      have HPQ := Lib.hid hp
      clear hb hF hL hv hl hbd hq hp
      go_enter Try.func31, Try.ntmps31
      go_wp2_with (first
        | (go_at_call 14; refine HV.out.mono ?_; rintro e w1 ⟨rfl, b1⟩)
        | (go_at_call 44; refine (HCP.out _ b1).mono ?_; rintro e w2 ⟨g, rfl, hg1, o1, b2⟩; rw [← HL.out])
        | (go_at_call 50; refine (HC.out _ _).mono ?_; rintro e w3 ⟨ad, rfl, had, k3, hw3⟩; have HAD := Lib.hid had; have HW := Lib.hid hw3; clear hw3 had))
      have hI : Own 3 w.heap.size w3 (.slice (some ⟨g, 0, none⟩) L L) (tab L (upto (p + 0) (drpF L e F) F)) := by
        have := o1.mono b1.size
        rw [← HL.out] at this
        rw [HW.out, Nat.add_zero, ← HP.out, drp_start, ← HXS.out]; exact this.drew
      have hJ : Below w.heap.size w w3 := by rw [HW.out]; exact below_drewN (b1.trans (b2.mono b1.size)) _
      have hg := Nat.le_trans b1.size hg1
      clear o1 b2 b1 hg1 HW
      go_loopw [30] (fun i wr => ∃ k : Nat, k ≤ q ∧ i = .int .i64 k ∧ Own 3 w.heap.size wr (.slice (some ⟨g, 0, none⟩) L L) (tab L (upto (p + k) (drpF L e F) F)) ∧ Below w.heap.size w wr) (fun i _ => q - (intOf i).toNat)
      case atStart => exact ⟨0, Nat.zero_le _, rfl, hI, hJ⟩
      case round =>
        obtain ⟨k, hk, rfl, hO, hBr⟩ := hrel
        clear hI hJ
        by_cases hlt : k < q
        · have had := HAD.out (by omega)
          subst had
          have hpq := HPQ.out
          have hc0 := hO.cell (p + k) (by rw [len_tab]; omega)
          rw [ix_tab _ _ _ (by omega), upto_at] at hc0
          have hf0 := hO.frozen (p + k)
          have b0 := HBD.out (p + k) (by omega)
          have k1 : (k : Int) < (q : Int) := by omega
          have k2 : (0 : Int) ≤ (k : Int) := by omega
          obtain ⟨x, hx⟩ : ∃ x, x = F (p + k) := ⟨_, rfl⟩
          rw [← hx] at hc0 b0
          have HXX := Lib.hid hx
          have hse := HP.out
          by_cases h1 : -e < x
          · by_cases h2 : x < e
            · have HD := Lib.hid (show drpF L e F (p + k) = 0 by unfold drpF; rw [← hx]; exact if_pos ⟨by omega, h2, h1⟩)
              have HN := Lib.hid (show Own 3 w.heap.size (wr.setCell ⟨g, p + k, none⟩ (.int .i64 0)) (.slice (some ⟨g, 0, none⟩) L L) (tab L (upto (p + (k + 1)) (drpF L e F) F)) by
                have := hO.set (p + k) 0
                rw [← HD.out, upto_set] at this
                rw [← HD.out]
                exact this)
              have HBN := Lib.hid (hBr.setCell (p := ⟨g, p + k, none⟩) hg (.int .i64 0))
              clear hO hBr hx hse hpq
              go_wp2
              go_roundw
              case rel => exact ⟨k + 1, by omega, by go_num, HN.out, HBN.out⟩
              case measure => simp [intOf]; omega
            · have HD := Lib.hid (drp_same L (p + k) e F (by unfold drpF; rw [← hx]; exact if_neg (fun q => h2 q.2.1)))
              have d2 : decide (x < e) = false := by simpa using h2
              have HN := Lib.hid (show Own 3 w.heap.size wr (.slice (some ⟨g, 0, none⟩) L L) (tab L (upto (p + (k + 1)) (drpF L e F) F)) by rw [← Nat.add_assoc, HD.out]; exact hO)
              have HBN := Lib.hid hBr
              clear hO hBr hx hse hpq
              go_wp2
              go_roundw
              case rel => exact ⟨k + 1, by omega, by go_num, HN.out, HBN.out⟩
              case measure => simp [intOf]; omega
          · have HD := Lib.hid (drp_same L (p + k) e F (by unfold drpF; rw [← hx]; exact if_neg (fun q => h1 q.2.2)))
            have d2 : decide (-e < x) = false := by simpa using h1
            have HN := Lib.hid (show Own 3 w.heap.size wr (.slice (some ⟨g, 0, none⟩) L L) (tab L (upto (p + (k + 1)) (drpF L e F) F)) by rw [← Nat.add_assoc, HD.out]; exact hO)
            have HBN := Lib.hid hBr
            clear hO hBr hx hse hpq
            go_wp2
            go_roundw
            case rel => exact ⟨k + 1, by omega, by go_num, HN.out, HBN.out⟩
            case measure => simp [intOf]; omega
        · obtain rfl : k = q := by omega
          rw [HPQ.out, upto_all, ← HR.out, ← HF.out] at hO
          have HO := Lib.hid hO
          clear hO
          go_wp2
          go_ret
          exact ⟨_, rfl, HO.out, hBr⟩
    · have HF := Lib.hid (dspF_no (xs := xs) (e := e) fun q => he q.2)
      have hee : e < 0 ∨ (¬ e < 0 ∧ 1000 < e) := by omega
      obtain ⟨a, cap, rfl, -⟩ := h
      clear hb hv hl he
      rcases hee with h1 | ⟨h1, h2⟩
      · go_enter Try.func31, Try.ntmps31
        go_wp2_with (go_at_call 14; refine HV.out.mono ?_; rintro e w1 ⟨rfl, b1⟩)
        go_ret
        exact ⟨_, rfl, by rw [HF.out]; exact Own.nil _ _ _, b1⟩
      · go_enter Try.func31, Try.ntmps31
        go_wp2_with (go_at_call 14; refine HV.out.mono ?_; rintro e w1 ⟨rfl, b1⟩)
        go_ret
        exact ⟨_, rfl, by rw [HF.out]; exact Own.nil _ _ _, b1⟩
  | false =>
    rw [hb] at hv
    have HV := Lib.hid hv
    have HF := Lib.hid (dspF_no (xs := xs) (e := e) fun q => by rw [hb] at q; cases q.1)
    obtain ⟨a, cap, rfl, -⟩ := h
    clear hb hv hl
    go_enter Try.func31, Try.ntmps31
    go_wp2_with (go_at_call 14; refine HV.out.mono ?_; rintro e w1 ⟨rfl, b1⟩)
    go_ret
    exact ⟨_, rfl, by rw [HF.out]; exact Own.nil _ _ _, b1⟩

end Go.Proofs.Ytgafiglfmkaniaa
