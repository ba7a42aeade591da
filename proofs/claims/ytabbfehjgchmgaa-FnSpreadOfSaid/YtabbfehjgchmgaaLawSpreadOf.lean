/-
  The law FnSpreadOf, as a contract.
-/
import Derived.Test.YtabbfehjgchmgaaDraw3
import Derived.Test.YtabbfehjgchmgaaWvY
namespace Go.Proofs.Ytabbfehjgchmgaa
open Go.RowKit
set_option linter.unusedVariables false

set_option maxHeartbeats 8000000 in
set_option maxRecDepth 100000 in
theorem lawSpreadOf_any (v : Value) (n : Nat) (w : World) (h : RdB w v n) :
    Calls Try.prog 10 #[v] w (Says true w) := by
  have h0 := h
  obtain ⟨a, cap, rfl, h1, h2, -⟩ := h0
  unfold maxLen at h2
  by_cases hbig : n ≤ 1048576
  · go_enter Try.func10, Try.ntmps10
    go_wp2_with fail
    refine (drawSpreadOf_any _ n _ h).mono ?_
    rintro e w1 ⟨v, xs, rfl, o, hl, hw, bb⟩
    clear h h1 h2 hbig
    have hM := Own.max64 hl
    have HI := Lib.hid fun w (v : Value) (h : Rd w v xs) => implSpreadOf_any v xs w h hM
    have HS := Lib.hid fun w (v : Value) (h : Rd w v xs) => specSpreadOf_any v xs w h hM
    have HO := Lib.hid o
    obtain ⟨c, hc⟩ : ∃ c, c = sprA xs := ⟨_, rfl⟩
    obtain ⟨d, hd⟩ : ∃ d, d = sprB xs := ⟨_, rfl⟩
    rw [← hc, ← hd] at HI HS
    have HC := Lib.hid hc
    have HD := Lib.hid hd
    clear hc hd
    have e1 : (c == c) = true := by simp
    have e2 : (c != c) = false := by simp
    have e3 : (d == d) = true := by simp
    have e4 : (d != d) = false := by simp
    obtain ⟨a1, c1, rfl⟩ := own_slD o
    go_wp2_with fail
    refine (HI.out _ _ HO.out.rd).mono ?_
    rintro e w2 ⟨rfl, b2⟩
    have HO := Lib.hid (HO.out.below b2 (Nat.le_refl _))
    have bb := bel_nxt bb b2
    clear b2 o
    go_wp2_with fail
    refine (HS.out _ _ HO.out.rd).mono ?_
    rintro e w3 ⟨rfl, b3⟩
    have bb := bel_nxt bb b3
    clear b3 HO HI HS
    by_cases hneg : c < 0
    · go_wp2
      go_ret
      exact ⟨rfl, bb⟩
    · have hc := HC.out
      have hd := HD.out
      have hb : vsB xs = true := by
        cases q : vsB xs with
        | true => rfl
        | false => unfold sprA at hc; rw [if_neg (by simp [q])] at hc; omega
      have hV := (vsB_iff xs).1 hb
      have hc1 : c = someN xs := by rw [hc]; unfold sprA; exact if_pos hb
      have hd1 : d = someN (waveR xs) := by rw [hd]; unfold sprB; exact if_pos hb
      have hcr := some_range xs
      have hdr := some_range (waveR xs)
      rw [← hc1] at hcr
      rw [len_waveR, ← hd1] at hdr
      by_cases hc0 : c = 0
      · have hd0 : d = 0 := by rw [hd1]; exact some_none (by rw [← hc1]; exact hc0)
        subst hc0
        subst hd0
        clear hc hd hc1 hd1 hcr hdr hb hV hneg
        go_wp2
        go_ret
        exact ⟨rfl, bb⟩
      · have hsp := spread_list hV (by rw [← hc1]; exact hc0)
        rw [← hc1, ← hd1] at hsp
        have f1 : (c == 0) = false := by rw [beq_eq_false_iff_ne]; exact hc0
        have hlen : xs.length ≤ 64 := hl
        have hcd1 : c * d ≤ 64 * 64 := Int.mul_le_mul (by omega) (by omega) (by omega) (by omega)
        have hcd0 : 0 ≤ c * d := Int.mul_nonneg (by omega) (by omega)
        clear hc hd hc1 hd1 hb hV hc0 hcr hdr
        go_wp2
        go_ret
        exact ⟨rfl, bb⟩
  · clear h
    go_enter Try.func10, Try.ntmps10
    go_wp2
    go_ret
    exact ⟨rfl, Below.refl _ _⟩

end Go.Proofs.Ytabbfehjgchmgaa
