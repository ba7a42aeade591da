/-
  The law FnOrderBy, as a contract.
-/
import Derived.Test.YtabbfehjgchmgaaFnM
import Derived.Test.YtabbfehjgchmgaaHelpR
import Derived.Test.YtabbfehjgchmgaaDraw3
import Derived.Test.YtabbfehjgchmgaaWvP
namespace Go.Proofs.Ytabbfehjgchmgaa
open Go.RowKit
set_option linter.unusedVariables false

set_option maxHeartbeats 8000000 in
set_option maxRecDepth 100000 in
theorem lawOrderBy_any (v : Value) (n : Nat) (w : World) (h : RdB w v n) :
    Calls Try.prog 3 #[v] w (Says true w) := by
  have h0 := h
  obtain ⟨a, cap, rfl, h1, h2, -⟩ := h0
  unfold maxLen at h2
  by_cases hbig : n ≤ 1048576
  · go_enter Try.func3, Try.ntmps3
    go_wp2_with fail
    refine (drawOrderBy_any _ n _ h).mono ?_
    rintro e w1 ⟨z, rfl, hz, bb⟩
    clear h h1 h2 hbig
    have HI := Lib.hid fun w => implOrderBy_any z w
    have HS := Lib.hid fun w => specOrderBy_any z w
    obtain ⟨c, hc⟩ : ∃ c, c = obF z := ⟨_, rfl⟩
    rw [← hc] at HI HS
    have e1 : (c == c) = true := by simp
    have e2 : (c != c) = false := by simp
    go_wp2_with fail
    refine (HI.out _).mono ?_
    rintro e w2 ⟨rfl, b2⟩
    have bb := bel_nxt bb b2
    clear b2
    by_cases hneg : c < 0
    · go_wp2_with fail
      refine (HS.out _).mono ?_
      rintro e w3 ⟨rfl, rfl⟩
      go_wp2_with fail
      refine (HS.out _).mono ?_
      rintro e w3 ⟨rfl, rfl⟩
      go_wp2
      go_ret
      exact ⟨rfl, bb⟩
    · have hin : 1 ≤ z ∧ z ≤ 96 := by
        by_cases q : 1 ≤ z ∧ z ≤ 96
        · exact q
        · rw [obF_no q] at hc; omega
      obtain ⟨x, rfl⟩ : ∃ x : Nat, z = (x : Int) := ⟨z.toNat, by omega⟩
      have hx0 : 0 < x := by omega
      have hx1 : x < 97 := by omega
      obtain ⟨ho1, ho2, ho3, ho4⟩ := ord_facts x hx1 hx0
      have HL := Lib.hid (ord_least x hx1 hx0)
      obtain ⟨o, ho⟩ : ∃ o, o = ordN x := ⟨_, rfl⟩
      rw [← ho] at ho1 ho2 ho3 ho4 HL
      obtain rfl : c = (o : Int) := by rw [hc, obF_yes (by omega) (by omega), ho]
      have HP := Lib.hid ho4
      have f1 : ((96 : Int) % (o : Int) == 0) = true := by rw [mod96, ho3]; rfl
      have f2 : ((o : Int) == 0) = false := by rw [beq_eq_false_iff_ne]; omega
      have f3 : (0 : Int) < (o : Int) := by omega
      clear hc ho ho3 ho4 hin HI hneg
      go_wp2_with fail
      refine (HS.out _).mono ?_
      rintro e w3 ⟨rfl, rfl⟩
      go_wp2
      go_loop [5] (fun i => ∃ m : Nat, 1 ≤ m ∧ m ≤ o ∧ i = .int .i64 m) (fun i => o - (intOf i).toNat)
      case atStart => exact ⟨1, by omega, by omega, rfl⟩
      case round =>
        obtain ⟨m, hm0, hm1, rfl⟩ := hrel
        by_cases hlt : m < o
        · have hne := HL.out m hlt hm0
          obtain ⟨p, hp⟩ : ∃ p, p = pm x m := ⟨_, rfl⟩
          rw [← hp] at hne
          have g1 : ((p : Int) == 1) = false := by rw [beq_eq_false_iff_ne]; omega
          have g2 : ((p : Int) != 1) = true := by rw [bne_iff_ne]; omega
          have HR := Lib.hid fun w => raised_any x m w hx1 (by omega)
          rw [← hp] at HR
          clear hne hp f1
          go_wp2_with fail
          refine (HR.out _).mono ?_
          rintro e w4 ⟨rfl, rfl⟩
          go_wp2
          go_round
          case rel => exact ⟨m + 1, by omega, by omega, by go_num⟩
          case measure => simp [intOf]; omega
        · obtain rfl : m = o := by omega
          have HR := Lib.hid fun w => raised_any x m w hx1 (by omega)
          rw [HP.out] at HR
          go_wp2_with fail
          refine (HR.out _).mono ?_
          rintro e w4 ⟨rfl, rfl⟩
          go_wp2
          go_ret
          exact ⟨rfl, bb⟩
  · clear h
    go_enter Try.func3, Try.ntmps3
    go_wp2
    go_ret
    exact ⟨rfl, Below.refl _ _⟩

end Go.Proofs.Ytabbfehjgchmgaa
