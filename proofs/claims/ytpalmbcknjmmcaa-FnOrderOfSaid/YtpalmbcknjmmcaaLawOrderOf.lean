/-
  The law FnOrderOf, as a contract.
-/
import Derived.Test.YtpalmbcknjmmcaaFnM
import Derived.Test.YtpalmbcknjmmcaaHelpF
import Derived.Test.YtpalmbcknjmmcaaDraw2
import Derived.Test.YtpalmbcknjmmcaaSgLaw
namespace Go.Proofs.Ytpalmbcknjmmcaa
open Go.RowKit
set_option linter.unusedVariables false

set_option maxHeartbeats 4000000 in
set_option maxRecDepth 100000 in
theorem lawOrderOf_any (v : Value) (n : Nat) (w : World) (h : RdB w v n) :
    Calls Try.prog 9 #[v] w (Says true w) := by
  have h0 := h
  obtain ⟨a, cap, rfl, h1, h2, -⟩ := h0
  unfold maxLen at h2
  by_cases hbig : n ≤ 1048576
  · go_enter Try.func9, Try.ntmps9
    go_wp2_with fail
    refine (drawOrderOf_any _ n _ h).mono ?_
    rintro e w1 ⟨k, rfl, hk, bb⟩
    clear h h1 h2 hbig
    have HI := Lib.hid fun w => implOrderOf_any k w (by omega)
    have HS := Lib.hid fun w => specOrderOf_any k w
    obtain ⟨ys, hys⟩ : ∃ ys, ys = orderF k := ⟨_, rfl⟩
    rw [← hys] at HI HS
    have hyl : ys.length ≤ 16 := by rw [hys]; exact orderF_len k
    have hyM : ys.length ≤ maxLen := by unfold maxLen; omega
    have HE := Lib.hid fun w (a b : Value) (h1 : Rd w a ys) (h2 : Rd w b ys) => equalInts_any a b ys ys w h1 h2 hyM hyM
    have HYS := Lib.hid hys
    clear hys
    go_wp2_with fail
    refine (HI.out _).mono ?_
    rintro e w2 ⟨u, rfl, p, b2⟩
    have bb := bel_nxt bb b2
    obtain ⟨a2, c2, rfl⟩ := own_sl p
    go_wp2_with fail
    refine (HS.out _).mono ?_
    rintro e w3 ⟨u3, rfl, p3, b3⟩
    have p := p.below b3 (Nat.le_refl _)
    have bb := bel_nxt bb b3
    go_wp2_with fail
    refine (HE.out _ _ _ p.rd p3.rd).mono ?_
    rintro e w4 ⟨rfl, b4⟩
    rw [eqB_self]
    have p := p.below b4 (Nat.le_refl _)
    have bb := bel_nxt bb b4
    clear b2 b3 b4 p3 HI
    by_cases hin : 0 ≤ k ∧ k ≤ 4
    · obtain ⟨K, rfl⟩ : ∃ K : Nat, k = (K : Int) := ⟨k.toNat, by omega⟩
      have hK : K ≤ 4 := by omega
      have hof : ys = orderL (2 ^ K) := HYS.out.trans (orderF_yes K (2 ^ K) hK rfl)
      have hol : ys.length = 2 ^ K := by rw [hof]; simp [orderL]
      have hB := Lib.hid fun n (hn : n < 2 ^ K) => order_back K (by omega) n hn
      have hZ := order_zero K (by omega)
      rw [← hof] at hB hZ
      have HCH := Lib.hid fun (y : Nat) w (hy : y < 2 ^ K) => implChanges_nat K (2 ^ K) y w hK rfl hy
      have hp1 := Nat.one_le_two_pow (n := K)
      have h16 := pow_le16 hK
      obtain ⟨g, d, hv, -, -⟩ := p.form (by intro e; rw [e] at hol; simp at hol; omega)
      simp only [Value.slice.injEq, true_and] at hv
      obtain ⟨rfl, rfl⟩ := hv
      have hcs : Hid (∀ j, j < 2 ^ K → w4.cell? ⟨g, j, none⟩ = some (.int .i64 (ix ys j))) := fun j hj => p.cell j (by omega)
      have hc0 := hcs.out 0 (by omega)
      rw [hZ] at hc0
      rw [hol]
      clear hof hol hZ HS HE HYS p hk hin hyl hyM hK
      generalize 2 ^ K = N at *
      have i0 : ((N : Int) == 0) = false := by rw [beq_eq_false_iff_ne]; omega
      have i1 : (0 : Int) < (N : Int) := by omega
      go_wp2
      go_loop [5] (fun i => ∃ j : Nat, j ≤ N ∧ i = .int .i64 j) (fun i => N - (intOf i).toNat)
      case atStart => exact ⟨0, Nat.zero_le _, rfl⟩
      case round =>
        obtain ⟨j, hj, rfl⟩ := hrel
        by_cases hlt : j < N
        · obtain ⟨y, hy, e1, e2⟩ := hB.out j hlt
          have hcj := hcs.out j hlt
          rw [e1] at hcj
          have HC := Lib.hid fun w => HCH.out y w hy
          rw [e2] at HC
          clear e1 e2 hcs hB HCH
          go_wp2_with fail
          refine (HC.out _).mono ?_
          rintro e w5 ⟨rfl, rfl⟩
          go_wp2
          go_round
          case rel => exact ⟨j + 1, by omega, by go_num⟩
          case measure => simp [intOf]; omega
        · obtain rfl : j = N := by omega
          clear hcs hB HCH
          go_wp2
          go_ret
          exact ⟨rfl, bb⟩
    · have hy0 : ys = [] := HYS.out.trans (orderF_no hin)
      subst hy0
      clear HYS
      rw [List.length_nil] at p ⊢
      go_wp2_with fail
      refine (HS.out _).mono ?_
      rintro e w5 ⟨u5, rfl, p5, b5⟩
      have p := p.below b5 (Nat.le_refl _)
      have bb := bel_nxt bb b5
      go_wp2_with fail
      refine (HE.out _ _ _ p.rd p5.rd).mono ?_
      rintro e w6 ⟨rfl, b6⟩
      rw [eqB_self]
      have bb := bel_nxt bb b6
      go_wp2
      go_ret
      exact ⟨rfl, bb⟩
  · clear h
    go_enter Try.func9, Try.ntmps9
    go_wp2
    go_ret
    exact ⟨rfl, Below.refl _ _⟩

end Go.Proofs.Ytpalmbcknjmmcaa
