/-
  The law FnSquareSum, as a contract.
-/
import Derived.Test.YtabbfehjgchmgaaHelpR
import Derived.Test.YtabbfehjgchmgaaDraw3
import Derived.Test.YtabbfehjgchmgaaWvY
namespace Go.Proofs.Ytabbfehjgchmgaa
open Go.RowKit
set_option linter.unusedVariables false

set_option maxHeartbeats 8000000 in
set_option maxRecDepth 100000 in
theorem lawSquareSum_any (v : Value) (n : Nat) (w : World) (h : RdB w v n) :
    Calls Try.prog 11 #[v] w (Says true w) := by
  have h0 := h
  obtain ⟨a, cap, rfl, h1, h2, -⟩ := h0
  unfold maxLen at h2
  by_cases hbig : n ≤ 1048576
  · go_enter Try.func11, Try.ntmps11
    go_wp2_with fail
    refine (drawSquareSum_any _ n _ h).mono ?_
    rintro e w1 ⟨z, rfl, hz, bb⟩
    clear h h1 h2 hbig
    have HI := Lib.hid fun w => implSquareSum_any z w
    have HS := Lib.hid fun w => specSquareSum_any z w
    obtain ⟨c, hc⟩ : ∃ c, c = sqF z := ⟨_, rfl⟩
    rw [← hc] at HI HS
    have HC := Lib.hid hc
    clear hc
    have e1 : (c == c) = true := by simp
    have e2 : (c != c) = false := by simp
    go_wp2_with fail
    refine (HI.out _).mono ?_
    rintro e w2 ⟨rfl, b2⟩
    have bb := bel_nxt bb b2
    clear b2
    by_cases hneg : c < 0
    · go_wp2_with fail
      refine (HS.out _).mono ?_
      rintro e w3 ⟨rfl, rfl⟩
      go_wp2_with fail
      refine (HS.out _).mono ?_
      rintro e w3 ⟨rfl, rfl⟩
      go_wp2
      go_ret
      exact ⟨rfl, bb⟩
    · have hin : 0 ≤ z ∧ z ≤ 15 := by
        by_cases q : 0 ≤ z ∧ z ≤ 15
        · exact q
        · have hc := HC.out; rw [sqF_no q] at hc; omega
      obtain ⟨k, rfl⟩ : ∃ k : Nat, z = (k : Int) := ⟨z.toNat, by omega⟩
      have hk : k ≤ 15 := by omega
      have hcs : c = (sqsN k : Nat) := by rw [HC.out, sqF_yes hk]
      have hr1 : rtN 16 < 97 := by decide
      have HRT := Lib.hid fun w => implRootOf_any 16 w
      rw [show rootF 16 = ((rtN 16 : Nat) : Int) from rootF_yes (n := 16) (by decide) (by decide) (by decide)] at HRT
      have HF := Lib.hid fun h => sqs_facts k (by omega) h
      obtain ⟨s, hs⟩ : ∃ s, s = sqsN k := ⟨_, rfl⟩
      rw [← hs] at hcs HF
      have HS0 := Lib.hid hs
      obtain rfl : c = (s : Int) := hcs
      have hs97 : s ≤ 96 := by
        have : sqsN k < 97 := sqV_lt k 16
        omega
      obtain ⟨r, hr⟩ : ∃ r, r = rtN 16 := ⟨_, rfl⟩
      rw [← hr] at hr1 HRT HF
      clear hs hr hin HI
      go_wp2_with fail
      refine (HS.out _).mono ?_
      rintro e w3 ⟨rfl, rfl⟩
      by_cases hodd : k % 2 = 1
      · have hf := HF.out hodd
        obtain ⟨p, hp⟩ : ∃ p, p = pm r (4 * k) := ⟨_, rfl⟩
        have hpl := pm_lt r (4 * k)
        rw [← hp] at hf hpl
        have HR : Hid (∀ w, Calls Try.prog 15 #[.int .i64 r, .int .i64 (4 * (k : Int))] w fun e w' => e = .returned (.int .i64 (p : Nat)) ∧ w = w') := by
          intro w
          have := raised_any r (4 * k) w hr1 (by omega)
          rw [← hp, Int.natCast_mul] at this
          exact this
        have g1 : ((k : Int) % 2 == 1) = true := by rw [beq_iff_eq]; omega
        have hss : (0 : Int) ≤ (s : Int) * (s : Int) := by rw [← Int.natCast_mul]; omega
        have hss2 : (s : Int) * (s : Int) ≤ 96 * 96 := Int.mul_le_mul (by omega) (by omega) (by omega) (by omega)
        have g2 : ((s : Int) * (s : Int) % 97 == 32 * (p : Int) % 97) = true := by
          rw [beq_iff_eq, ← Int.natCast_mul]
          have q : ((s * s % 97 : Nat) : Int) = ((32 * p % 97 : Nat) : Int) := by rw [hf]
          omega
        clear hf hp hodd
        go_wp2_with fail
        refine HRT.out _ |>.mono ?_
        rintro e w4 ⟨rfl, b4⟩
        have bb := bel_nxt bb b4
        go_wp2_with fail
        refine (HR.out _).mono ?_
        rintro e w5 ⟨rfl, rfl⟩
        go_wp2
        go_ret
        exact ⟨rfl, bb⟩
      · have g1 : ((k : Int) % 2 == 1) = false := by rw [beq_eq_false_iff_ne]; omega
        by_cases hk0 : 0 < k
        · have hki : (0 : Int) < (k : Int) := by omega
          clear hodd
          go_wp2
          go_ret
          exact ⟨rfl, bb⟩
        · obtain rfl : k = 0 := by omega
          obtain rfl : s = 16 := by rw [HS0.out]; exact sqs_zero
          clear hodd
          go_wp2
          go_ret
          exact ⟨rfl, bb⟩
  · clear h
    go_enter Try.func11, Try.ntmps11
    go_wp2
    go_ret
    exact ⟨rfl, Below.refl _ _⟩

end Go.Proofs.Ytabbfehjgchmgaa
