/-
  The law FnSumCounts, as a contract.
-/
import Derived.Test.YtagncoahobghpaaHelpS
import Derived.Test.YtagncoahobghpaaHelpF
import Derived.Test.YtagncoahobghpaaDrawS
import Derived.Test.YtagncoahobghpaaStT
namespace Go.Proofs.Ytagncoahobghpaa
open Go.RowKit
set_option linter.unusedVariables false

theorem total_at {w w' : World} {v : Value} {xs : List Int} {B : Nat} {t : Int} (h : Rd w v xs) (b : Below B w w') (hB : w.heap.size = B) (hl : xs.length ≤ 1048576) (ht : wrap64 (sumN (ix xs) xs.length) = t) :
    Calls Try.prog 15 #[v] w' fun e w'' => e = .returned (.int .i64 t) ∧ w' = w'' := by
  rw [← ht]
  exact total_q v xs w' (h.below b (by omega)) hl

set_option maxHeartbeats 8000000 in
set_option maxRecDepth 100000 in
theorem lawSumCounts_any (v : Value) (n : Nat) (w : World) (h : RdB w v n) :
    Calls Try.prog 4 #[v] w (Says true w) := by
  have h0 := h
  obtain ⟨a, cap, rfl, h1, h2, -⟩ := h0
  unfold maxLen at h2
  by_cases hbig : n ≤ 1048576
  · go_enter Try.func4, Try.ntmps4
    go_wp2_with fail
    refine (drawSumCounts_any _ n _ h).mono ?_
    rintro e w1 ⟨y, z, rfl, hy, hz, bb⟩
    clear h h1 h2 hbig
    have HI := Lib.hid fun w => implSumCounts_any y z w
    have HS := Lib.hid fun w => specSumCounts_any y z w
    have HI2 := Lib.hid fun w => implSumSet_any y z w
    have hl := scF_len y z
    obtain ⟨cs, hcs⟩ : ∃ cs, cs = scF y z := ⟨_, rfl⟩
    rw [← hcs] at HI HS hl
    have hM : cs.length ≤ maxLen := by unfold maxLen; omega
    go_wp2_with fail
    refine (HI.out _).mono ?_
    rintro e w2 ⟨v1, rfl, o1, b2⟩
    have bb := bel_nxt bb b2
    clear b2
    go_wp2_with fail
    refine (HS.out _).mono ?_
    rintro e w3 ⟨v2, rfl, o2, b3⟩
    have o1 := o1.below b3 (Nat.le_refl _)
    have bb := bel_nxt bb b3
    clear b3
    go_wp2_with fail
    refine (equalInts_any _ _ cs cs _ o1.rd o2.rd hM hM).mono ?_
    rintro e w4 ⟨rfl, b4⟩
    have o1 := o1.below b4 (Nat.le_refl _)
    have bb := bel_nxt bb b4
    clear b4 o2
    rw [eqB_self]
    by_cases hval : seB y = true ∧ seB z = true
    · obtain ⟨p, rfl, hp⟩ := seB_of hval.1
      obtain ⟨q, rfl, hq⟩ := seB_of hval.2
      have e : scF p q = tab 13 fun z => cntP (bitS p) (bitS q) z := by
        unfold scF; rw [if_pos hval, Int.toNat_natCast, Int.toNat_natCast]
      rw [e] at hcs
      rw [ssF_nat hp hq] at HI2
      obtain ⟨m, hm⟩ : ∃ m, m = ssN (bitS p) (bitS q) := ⟨_, rfl⟩
      have hml : m < 8192 := by rw [hm]; exact ss_lt p q
      have HBIT := Lib.hid (fun x (hx : x < 13) => show bitS m x = decide (0 < cntP (bitS p) (bitS q) x) by rw [hm]; exact msk_bit hx)
      rw [← hm] at HI2
      have h13 : cs.length = 13 := by rw [hcs, len_tab]
      have htot : sumN (ix cs) 13 = cntS (bitS p) * cntS (bitS q) := by
        rw [← cntP_total, hcs]
        exact sumN_congr fun i hi => ix_tab _ _ _ hi
      rw [← onF_cnt, ← onF_cnt] at htot
      have HO1 := Lib.hid fun w => lawones_any p w hp
      have HO2 := Lib.hid fun w => lawones_any q w hq
      have l1 := onF_le 13 p
      have l2 := onF_le 13 q
      obtain ⟨c, hc⟩ : ∃ c, c = onF 13 p := ⟨_, rfl⟩
      obtain ⟨d, hd⟩ : ∃ d, d = onF 13 q := ⟨_, rfl⟩
      rw [← hc] at HO1 htot l1
      rw [← hd] at HO2 htot l2
      obtain ⟨t, ht⟩ : ∃ t : Nat, t = c * d := ⟨_, rfl⟩
      have htb : t ≤ 169 := by rw [ht]; exact Nat.le_trans (Nat.mul_le_mul l1 l2) (by decide)
      have e2 : (c : Int) * (d : Int) = (t : Int) := by rw [ht, Int.natCast_mul]
      rw [e2] at htot
      have HTOT := Lib.hid (show wrap64 (sumN (ix cs) cs.length) = (t : Int) by rw [h13, htot, w64_id (by omega)])
      have HE := Lib.hid e2
      have b1 : -1000000 ≤ (t : Int) ∧ (t : Int) ≤ 1000000 := by omega
      obtain ⟨g, cp, rfl, -, -⟩ := o1.form (by intro h; rw [h] at h13; simp at h13)
      rw [h13] at o1 ⊢
      have HCL := Lib.hid (fun j (hj : j < 13) => show w4.cell? ⟨g, j, none⟩ = some (.int .i64 (cntP (bitS p) (bitS q) j)) by rw [o1.cell j (by rw [h13]; exact hj), hcs, ix_tab _ _ _ hj])
      have hr1 : Rd w4 (.slice (some ⟨g, 0, none⟩) 13 cp) cs := o1.rd
      have hg4 := (World.ownsRow.lt o1 g rfl).2
      clear hval hy hz e hm hcs hc hd ht htb l1 l2 htot e2 hl hM o1 HI HS
      go_wp2_with fail
      refine (HI2.out _).mono ?_
      rintro e w5 ⟨rfl, b5⟩
      have bb := bel_nxt bb b5
      have HCL := Lib.hid (fun j (hj : j < 13) => show w5.cell? ⟨g, j, none⟩ = some (.int .i64 (cntP (bitS p) (bitS q) j)) by rw [b5.cell (p := ⟨g, j, none⟩) hg4]; exact HCL.out j hj)
      have HTOT := Lib.hid (total_at hr1 b5 rfl (by omega) HTOT.out)
      clear b5 hr1 h13
      go_wp2
      go_loop [7, 6] (fun i s => ∃ x : Nat, x ≤ 13 ∧ i = .int .i64 x ∧ s = .int .i64 ((m / 2 ^ x : Nat) : Int)) (fun i _ => 13 - (intOf i).toNat)
      case atStart => exact ⟨0, Nat.zero_le _, rfl, by simp⟩
      case round =>
        obtain ⟨x, hx, rfl, rfl⟩ := hrel
        by_cases hlt : x < 13
        · have hcx := HCL.out x hlt
          have hbx := HBIT.out x hlt
          have hdl : m / 2 ^ x ≤ m := Nat.div_le_self _ _
          have hnx : m / 2 ^ (x + 1) = m / 2 ^ x / 2 := by rw [Nat.pow_succ, Nat.div_div_eq_div_mul]
          have hbe : bitS m x = (m / 2 ^ x % 2 == 1) := rfl
          obtain ⟨u, hu⟩ : ∃ u, u = cntP (bitS p) (bitS q) x := ⟨_, rfl⟩
          obtain ⟨s, hs⟩ : ∃ s, s = m / 2 ^ x := ⟨_, rfl⟩
          rw [← hu] at hcx hbx
          rw [← hs] at hdl hnx hbe ⊢
          obtain ⟨B, hB⟩ : ∃ B, B = decide (0 < u) := ⟨_, rfl⟩
          have q1 : decide ((0 : Int) < u) = B := hB.symm
          have q2 : ((s : Int) % 2 == 1) = B := by
            rw [hB, ← hbx, hbe]
            rcases Nat.mod_two_eq_zero_or_one s with r | r
            · rw [r, show (s : Int) % 2 = 0 by omega]; rfl
            · rw [r, show (s : Int) % 2 = 1 by omega]; rfl
          have HN := Lib.hid hnx
          have HW := Lib.hid (show wrap64 ((s : Int) / 2) = (s : Int) / 2 from w64_id (by omega))
          have i5 : (x : Int) < 13 := by omega
          have q3 : (!(B == B)) = false := by simp
          have q4 : (B != B) = false := by simp
          clear hB hbx hbe hu hs hnx hml hdl
          go_wp2
          go_round
          case rel => exact ⟨x + 1, by omega, by go_num, by rw [HN.out]; simp [HW.out]⟩
          case measure => simp [intOf]; omega
        · obtain rfl : x = 13 := by omega
          have j1 : IntKind.i64.wrap ((c : Int) * (d : Int)) = (t : Int) := by rw [HE.out]; exact i64_sm b1
          clear b1
          go_wp2_with fail
          refine HTOT.out.mono ?_
          rintro e w6 ⟨rfl, rfl⟩
          go_wp2_with fail
          refine (HO1.out _).mono ?_
          rintro e w6 ⟨rfl, rfl⟩
          go_wp2_with fail
          refine (HO2.out _).mono ?_
          rintro e w6 ⟨rfl, rfl⟩
          go_wp2
          go_ret
          exact ⟨rfl, bb⟩
    · have h0 : cs = [] := by rw [hcs]; unfold scF; rw [if_neg hval]
      clear hcs hval hl
      subst h0
      obtain ⟨a1, c1, rfl⟩ : ∃ a1 c1, v1 = .slice a1 0 c1 := by
        obtain ⟨a1, c1, h, _⟩ := o1.rd
        exact ⟨a1, c1, h⟩
      go_wp2_with fail
      refine (HS.out _).mono ?_
      rintro e w5 ⟨v2, rfl, o2, b5⟩
      have o1 := o1.below b5 (Nat.le_refl _)
      have bb := bel_nxt bb b5
      clear b5
      go_wp2_with fail
      refine (equalInts_any _ _ [] [] _ o1.rd o2.rd hM hM).mono ?_
      rintro e w6 ⟨rfl, b6⟩
      have bb := bel_nxt bb b6
      rw [eqB_self]
      go_wp2
      go_ret
      exact ⟨rfl, bb⟩
  · clear h
    go_enter Try.func4, Try.ntmps4
    go_wp2
    go_ret
    exact ⟨rfl, Below.refl _ _⟩

end Go.Proofs.Ytagncoahobghpaa
