/-
  The law FnChangesIn, as a contract.
-/
import Derived.Test.YtpalmbcknjmmcaaFnM
import Derived.Test.YtpalmbcknjmmcaaDraw2
import Derived.Test.YtpalmbcknjmmcaaSgLaw
namespace Go.Proofs.Ytpalmbcknjmmcaa
open Go.RowKit
set_option linter.unusedVariables false

set_option maxHeartbeats 4000000 in
set_option maxRecDepth 100000 in
theorem lawChangesIn_any (v : Value) (n : Nat) (w : World) (h : RdB w v n) :
    Calls Try.prog 8 #[v] w (Says true w) := by
  have h0 := h
  obtain ⟨a, cap, rfl, h1, h2, -⟩ := h0
  unfold maxLen at h2
  by_cases hbig : n ≤ 1048576
  · go_enter Try.func8, Try.ntmps8
    go_wp2_with fail
    refine (drawChangesIn_any _ n _ h).mono ?_
    rintro e w1 ⟨k, y, rfl, hk, hy, bb⟩
    clear h h1 h2 hbig
    have HI := Lib.hid fun w => implChangesIn_any k y w (by omega) (by omega)
    have HS := Lib.hid fun w => specChangesIn_any k y w
    have HO := Lib.hid fun w => implOrderOf_any k w (by omega)
    obtain ⟨c, hc⟩ : ∃ c, c = chF k y := ⟨_, rfl⟩
    rw [← hc] at HI HS
    have e0 : (c != c) = false := by simp
    have e1 : (c == c) = true := by simp
    have HC := Lib.hid hc
    clear hc hk hy
    go_wp2_with fail
    refine (HI.out _).mono ?_
    rintro e w2 ⟨rfl, rfl⟩
    by_cases hneg : c < 0
    · go_wp2_with fail
      refine (HS.out _).mono ?_
      rintro e w3 ⟨rfl, rfl⟩
      go_wp2_with fail
      refine (HS.out _).mono ?_
      rintro e w3 ⟨rfl, rfl⟩
      go_wp2
      go_ret
      exact ⟨rfl, bb⟩
    · have hin : 0 ≤ k ∧ k ≤ 4 ∧ 0 ≤ y ∧ y < ((2 ^ k.toNat : Nat) : Int) := by
        by_cases h : 0 ≤ k ∧ k ≤ 4 ∧ 0 ≤ y ∧ y < ((2 ^ k.toNat : Nat) : Int)
        · exact h
        · have := HC.out; rw [chF_no h] at this; omega
      obtain ⟨K, rfl⟩ : ∃ K : Nat, k = (K : Int) := ⟨k.toNat, by omega⟩
      obtain ⟨Y, rfl⟩ : ∃ Y : Nat, y = (Y : Int) := ⟨y.toNat, by omega⟩
      have hK : K ≤ 4 := by omega
      have hY : Y < 2 ^ K := by have := hin.2.2.2; rw [Int.toNat_natCast] at this; omega
      obtain ⟨f1, f2⟩ := order_at K (by omega) Y hY
      have hcn : c = ((chP Y (2 ^ K - 1) : Nat) : Int) := by rw [HC.out, chF_yes K Y hK hY]
      obtain ⟨C, hCC⟩ : ∃ C, C = chP Y (2 ^ K - 1) := ⟨_, rfl⟩
      rw [← hCC] at f1 f2 hcn
      subst hcn
      have hof : orderF (K : Int) = orderL (2 ^ K) := orderF_yes K (2 ^ K) hK rfl
      rw [hof] at HO
      have hol : (orderL (2 ^ K)).length = 2 ^ K := by simp [orderL]
      have h16 := pow_le16 hK
      clear hin hCC HC hof hK
      go_wp2_with fail
      refine (HS.out _).mono ?_
      rintro e w3 ⟨rfl, rfl⟩
      go_wp2_with fail
      refine (HO.out _).mono ?_
      rintro e w4 ⟨u4, rfl, p, b4⟩
      have bb := bel_nxt bb b4
      obtain ⟨g, d, rfl, -, -⟩ := p.form (by intro e; rw [e] at hol; simp at hol; have := Nat.one_le_two_pow (n := K); omega)
      have hcc := p.cell C (by rw [hol]; exact f1)
      rw [f2] at hcc
      rw [hol]
      generalize 2 ^ K = N at f1 h16 ⊢
      have i1 : (C : Int) < (N : Int) := by omega
      have i2 : (0 : Int) ≤ (C : Int) := by omega
      clear HI HS HO f2 hol p b4
      go_wp2
      go_ret
      exact ⟨rfl, bb⟩
  · clear h
    go_enter Try.func8, Try.ntmps8
    go_wp2
    go_ret
    exact ⟨rfl, Below.refl _ _⟩

end Go.Proofs.Ytpalmbcknjmmcaa
