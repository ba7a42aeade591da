/-
  DropSmall of the model, by its contract.
-/
import Derived.Test.YtgafiglfmkaniaaHvQ
import Derived.Test.YtgafiglfmkaniaaWvH
namespace Go.Proofs.Ytgafiglfmkaniaa
open Go.RowKit
set_option linter.unusedVariables false

def dspF (xs : List Int) (e : Int) : List Int := if vrB xs = true ∧ 0 ≤ e ∧ e ≤ 1000 then drpL e xs else []
theorem dspF_yes {xs : List Int} {e : Int} (h : vrB xs = true) (h0 : 0 ≤ e ∧ e ≤ 1000) : dspF xs e = drpL e xs := by unfold dspF; exact if_pos ⟨h, h0⟩
theorem dspF_no {xs : List Int} {e : Int} (h : ¬ (vrB xs = true ∧ 0 ≤ e ∧ e ≤ 1000)) : dspF xs e = [] := by unfold dspF; exact if_neg h
theorem dspF_len (xs : List Int) (e : Int) (h : xs.length ≤ 1048576) : (dspF xs e).length ≤ 1048576 := by unfold dspF; split <;> simp [len_drpL, h]
theorem drp_start (n : Nat) (e : Int) (F : Nat → Int) : tab n (upto (n - n / 2) (drpF n e F) F) = tab n F := tab_congr fun j _ => by
  unfold upto
  split
  · next h => exact drp_low e F h
  · rfl
theorem drp_same (n k : Nat) (e : Int) (F : Nat → Int) (h : drpF n e F k = F k) : tab n (upto (k + 1) (drpF n e F) F) = tab n (upto k (drpF n e F) F) := tab_congr fun j _ => by
  unfold upto
  by_cases q : j = k
  · subst q; rw [if_pos (by omega), if_neg (by omega), h]
  · by_cases q2 : j < k
    · rw [if_pos (by omega), if_pos q2]
    · rw [if_neg (by omega), if_neg q2]

set_option maxHeartbeats 4000000 in
theorem specDropSmall_any (v : Value) (xs : List Int) (e : Int) (w : World) (h : Rd w v xs) (hl : xs.length ≤ maxLen) :
    Calls Try.prog 32 #[v, .int .i64 e] w (Made 3 w (dspF xs e)) := by
  have hv := specvalid_any v xs w h hl
  cases hb : vrB xs with
  | true =>
    rw [hb] at hv
    by_cases he : 0 ≤ e ∧ e ≤ 1000
    · have hin := inR_yes he
      obtain ⟨h16, hbd⟩ := vrB_of hb
      have HF := Lib.hid (dspF_yes hb he)
      obtain ⟨F, hF⟩ : ∃ F, F = ix xs := ⟨_, rfl⟩
      obtain ⟨L, hL⟩ : ∃ L, L = xs.length := ⟨_, rfl⟩
      have HXS := Lib.hid (show xs = tab L F by rw [hF, hL]; exact (tab_self xs).symm)
      have HR := Lib.hid (show drpL e xs = tab L (drpF L e F) by rw [hF, hL]; rfl)
      have HX := Lib.hid h
      have HL := Lib.hid hL
      rw [← hF] at hbd
      rw [← hL] at hbd h16
      obtain ⟨he0, he1⟩ := he
      obtain ⟨a, cap, rfl, -⟩ := h
      have HX := Lib.hid (show Rd w (.slice a L cap) xs by rw [hL]; exact HX.out)
      rw [← hL] at hv ⊢
      clear hb hF hL hl
      go_enter Try.func32, Try.ntmps32
      go_wp2_with fail
      refine hv.mono ?_
      rintro e' w1 ⟨rfl, b1⟩
      clear hv
      go_wp2_with fail
      refine (inRange_any _ _ _ _).mono ?_
      rintro e' w1' ⟨rfl, rfl⟩
      rw [hin]
      clear hin
      go_wp2_with (at_builtin; refine app_many rfl _ _ 23 rfl w.heap.size 3 Try.underlying23 infoInt _ _ rfl (own_empty _ _ w1 b1.size) _ xs rfl ((HX.out.below b1 (Nat.le_refl _)).alloc _) ?e1 ?e2 ?_)
      case e1 => have := HL.out; simp; omega
      case e2 => have := b1.size; simp; omega
      intro v1 w2 hO hg
      have hB := (b1.alloc b1.size (.cells #[] 3)).grown hg (by have := b1.size; simp; omega) (fun j hj => by have := b1.size; simp [Value.ownBlock] at hj; omega)
      obtain ⟨g1, c1, rfl⟩ := own_slN hO HL.out.symm
      have hB2 : Own 3 w.heap.size w2 (.slice g1 L c1) (tab L (upto (L - L / 2) (drpF L e F) F)) := by rw [drp_start, ← HXS.out]; exact hO
      clear hO hg b1
      obtain ⟨s, hs⟩ : ∃ s, s = L - L / 2 := ⟨_, rfl⟩
      rw [← hs] at hB2
      have hsL : s ≤ L := by omega
      have HS := Lib.hid hs
      have HSI := Lib.hid (show (L : Int) - (L : Int) / 2 = (s : Int) by omega)
      clear hs
      go_wp2
      rw [HSI.out]
      go_loopw [6] (fun i wr => ∃ k : Nat, s ≤ k ∧ k ≤ L ∧ i = .int .i64 k ∧ Own 3 w.heap.size wr (.slice g1 L c1) (tab L (upto k (drpF L e F) F)) ∧ Below w.heap.size w wr) (fun i _ => L - (intOf i).toNat)
      case atStart => exact ⟨s, Nat.le_refl _, hsL, rfl, hB2, hB⟩
      case round =>
        obtain ⟨k, hk0, hk, rfl, hO, hBr⟩ := hrel
        clear hB2 hB
        by_cases hlt : k < L
        · obtain ⟨g, c, hge, hgw, hgs⟩ := hO.form (by intro q; have := congrArg List.length q; rw [len_tab] at this; simp at this; omega)
          simp only [Value.slice.injEq, len_tab, true_and] at hge
          obtain ⟨rfl, rfl⟩ := hge
          have hc0 := hO.cell k (by rw [len_tab]; exact hlt)
          rw [ix_tab _ _ _ hlt, upto_at] at hc0
          have hf0 := hO.frozen k
          have b0 := hbd k hlt
          have k1 : (k : Int) < (L : Int) := by omega
          have k2 : (0 : Int) ≤ (k : Int) := by omega
          obtain ⟨x, hx⟩ : ∃ x, x = F k := ⟨_, rfl⟩
          rw [← hx] at hc0 b0
          have HXX := Lib.hid hx
          have hse := HS.out
          by_cases h1 : x < e
          · by_cases h2 : -e < x
            · have HD := Lib.hid (show drpF L e F k = 0 by unfold drpF; rw [← hx]; exact if_pos ⟨by omega, h1, h2⟩)
              have HN := Lib.hid (show Own 3 w.heap.size (wr.setCell ⟨g, k, none⟩ (.int .i64 0)) (.slice (some ⟨g, 0, none⟩) L c1) (tab L (upto (k + 1) (drpF L e F) F)) by
                have := hO.set k 0
                rw [← HD.out, upto_set] at this
                rw [← HD.out]
                exact this)
              have HBN := Lib.hid (hBr.setCell (p := ⟨g, k, none⟩) hgw (.int .i64 0))
              clear hO hBr hx hbd hse
              go_wp2
              go_roundw
              case rel => exact ⟨k + 1, by omega, by omega, by go_num, HN.out, HBN.out⟩
              case measure => simp [intOf]; omega
            · have HD := Lib.hid (drp_same L k e F (by unfold drpF; rw [← hx]; exact if_neg (fun q => h2 q.2.2)))
              have d2 : decide (-e < x) = false := by simpa using h2
              have h3 : x ≤ -e := by omega
              have HN := Lib.hid (show Own 3 w.heap.size wr (.slice (some ⟨g, 0, none⟩) L c1) (tab L (upto (k + 1) (drpF L e F) F)) by rw [HD.out]; exact hO)
              have HBN := Lib.hid hBr
              clear hO hBr hx hbd hse h2
              go_wp2
              go_roundw
              case rel => exact ⟨k + 1, by omega, by omega, by go_num, HN.out, HBN.out⟩
              case measure => simp [intOf]; omega
          · have HD := Lib.hid (drp_same L k e F (by unfold drpF; rw [← hx]; exact if_neg (fun q => h1 q.2.1)))
            have d1 : decide (x < e) = false := by simpa using h1
            have h3 : e ≤ x := by omega
            have HN := Lib.hid (show Own 3 w.heap.size wr (.slice (some ⟨g, 0, none⟩) L c1) (tab L (upto (k + 1) (drpF L e F) F)) by rw [HD.out]; exact hO)
            have HBN := Lib.hid hBr
            clear hO hBr hx hbd hse h1
            go_wp2
            go_roundw
            case rel => exact ⟨k + 1, by omega, by omega, by go_num, HN.out, HBN.out⟩
            case measure => simp [intOf]; omega
        · obtain rfl : k = L := by omega
          rw [upto_all, ← HR.out, ← HF.out] at hO
          have HO := Lib.hid hO
          clear hO hbd
          go_wp2
          go_ret
          exact ⟨_, rfl, HO.out, hBr⟩
    · have hin := inR_no he
      have HF := Lib.hid (dspF_no (xs := xs) (e := e) (fun q => he q.2))
      clear hb he
      go_enter Try.func32, Try.ntmps32
      go_wp2_with fail
      refine hv.mono ?_
      rintro e' w1 ⟨rfl, b1⟩
      go_wp2_with fail
      refine (inRange_any _ _ _ _).mono ?_
      rintro e' w1' ⟨rfl, rfl⟩
      rw [hin]
      clear hin
      go_wp2
      go_ret
      exact ⟨_, rfl, by rw [HF.out]; exact Own.nil _ _ _, b1⟩
  | false =>
    rw [hb] at hv
    have HF := Lib.hid (dspF_no (xs := xs) (e := e) (fun q => by rw [hb] at q; exact absurd q.1 (by simp)))
    clear hb
    go_enter Try.func32, Try.ntmps32
    go_wp2_with fail
    refine hv.mono ?_
    rintro e' w1 ⟨rfl, b1⟩
    go_wp2
    go_ret
    exact ⟨_, rfl, by rw [HF.out]; exact Own.nil _ _ _, b1⟩

end Go.Proofs.Ytgafiglfmkaniaa
