/-
  The law FnRootOf, as a contract.
-/
import Derived.Test.YtabbfehjgchmgaaFnM
import Derived.Test.YtabbfehjgchmgaaDraw3
import Derived.Test.YtabbfehjgchmgaaWvP
namespace Go.Proofs.Ytabbfehjgchmgaa
open Go.RowKit
set_option linter.unusedVariables false

set_option maxHeartbeats 8000000 in
set_option maxRecDepth 100000 in
theorem lawRootOf_any (v : Value) (n : Nat) (w : World) (h : RdB w v n) :
    Calls Try.prog 4 #[v] w (Says true w) := by
  have h0 := h
  obtain ⟨a, cap, rfl, h1, h2, -⟩ := h0
  unfold maxLen at h2
  by_cases hbig : n ≤ 1048576
  · go_enter Try.func4, Try.ntmps4
    go_wp2_with fail
    refine (drawRootOf_any _ n _ h).mono ?_
    rintro e w1 ⟨z, rfl, hz, bb⟩
    clear h h1 h2 hbig
    have HI := Lib.hid fun w => implRootOf_any z w
    have HS := Lib.hid fun w => specRootOf_any z w
    obtain ⟨c, hc⟩ : ∃ c, c = rootF z := ⟨_, rfl⟩
    rw [← hc] at HI HS
    have e1 : (c == c) = true := by simp
    have e2 : (c != c) = false := by simp
    go_wp2_with fail
    refine (HI.out _).mono ?_
    rintro e w2 ⟨rfl, b2⟩
    have bb := bel_nxt bb b2
    clear b2
    by_cases hneg : c < 0
    · go_wp2_with fail
      refine (HS.out _).mono ?_
      rintro e w3 ⟨rfl, rfl⟩
      go_wp2_with fail
      refine (HS.out _).mono ?_
      rintro e w3 ⟨rfl, rfl⟩
      go_wp2
      go_ret
      exact ⟨rfl, bb⟩
    · have hin : 1 ≤ z ∧ z ≤ 96 ∧ 96 % z = 0 := by
        by_cases q : 1 ≤ z ∧ z ≤ 96 ∧ 96 % z = 0
        · exact q
        · rw [rootF_no q] at hc; omega
      obtain ⟨x, rfl⟩ : ∃ x : Nat, z = (x : Int) := ⟨z.toNat, by omega⟩
      have hx0 : 0 < x := by omega
      have hx1 : x < 97 := by omega
      have hxd := div96' hin.2.2
      obtain ⟨hr1, hr2, hr3⟩ := rt_facts x hx1 hx0 hxd
      have hcre : c = (rtN x : Nat) := by rw [hc, rootF_yes hx0 (by omega) hxd]
      have HO := Lib.hid fun w => implOrderBy_any (rtN x : Nat) w
      rw [obF_yes (by omega) (by omega), hr3] at HO
      have hone : x = 1 → rtN x = 1 := by rintro rfl; decide
      obtain ⟨r, hr⟩ : ∃ r, r = rtN x := ⟨_, rfl⟩
      rw [← hr] at HO hone hcre
      obtain rfl : c = (r : Int) := hcre
      have f1 : ((x : Int) == (x : Int)) = true := by simp
      clear hc hr hr1 hr2 hr3 hin hxd HI hneg
      go_wp2_with fail
      refine (HS.out _).mono ?_
      rintro e w3 ⟨rfl, rfl⟩
      go_wp2_with fail
      refine (HO.out _).mono ?_
      rintro e w4 ⟨rfl, b4⟩
      have bb := bel_nxt bb b4
      by_cases hx2 : 1 < x
      · have hx3 : (1 : Int) < (x : Int) := by omega
        clear hone
        go_wp2
        go_ret
        exact ⟨rfl, bb⟩
      · obtain rfl : x = 1 := by omega
        obtain rfl := hone rfl
        go_wp2
        go_ret
        exact ⟨rfl, bb⟩
  · clear h
    go_enter Try.func4, Try.ntmps4
    go_wp2
    go_ret
    exact ⟨rfl, Below.refl _ _⟩

end Go.Proofs.Ytabbfehjgchmgaa
