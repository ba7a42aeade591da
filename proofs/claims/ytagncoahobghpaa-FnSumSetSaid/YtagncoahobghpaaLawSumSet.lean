/-
  The law FnSumSet, as a contract.
-/
import Derived.Test.YtagncoahobghpaaHelpS
import Derived.Test.YtagncoahobghpaaDrawS
namespace Go.Proofs.Ytagncoahobghpaa
open Go.RowKit
set_option linter.unusedVariables false

set_option maxHeartbeats 8000000 in
set_option maxRecDepth 100000 in
theorem lawSumSet_any (v : Value) (n : Nat) (w : World) (h : RdB w v n) :
    Calls Try.prog 3 #[v] w (Says true w) := by
  have h0 := h
  obtain ⟨a, cap, rfl, h1, h2, -⟩ := h0
  unfold maxLen at h2
  by_cases hbig : n ≤ 1048576
  · go_enter Try.func3, Try.ntmps3
    go_wp2_with fail
    refine (drawSumSet_any _ n _ h).mono ?_
    rintro e w1 ⟨y, z, rfl, hy, hz, bb⟩
    clear h h1 h2 hbig
    have HI := Lib.hid fun w => implSumSet_any y z w
    have HS := Lib.hid fun w => specSumSet_any y z w
    have HI2 := Lib.hid fun w => implSumSet_any z y w
    obtain ⟨c, hc⟩ : ∃ c, c = ssF y z := ⟨_, rfl⟩
    rw [← hc] at HI HS
    have e1 : (c == c) = true := by simp
    have e2 : (c != c) = false := by simp
    go_wp2_with fail
    refine (HI.out _).mono ?_
    rintro e w2 ⟨rfl, b2⟩
    have bb := bel_nxt bb b2
    clear b2
    by_cases hval : seB y = true ∧ seB z = true
    · obtain ⟨p, rfl, hp⟩ := seB_of hval.1
      obtain ⟨q, rfl, hq⟩ := seB_of hval.2
      rw [ssF_nat hp hq] at hc
      rw [ssF_nat hq hp, ssN_comm] at HI2
      obtain ⟨m, hm⟩ : ∃ m, m = ssN (bitS p) (bitS q) := ⟨_, rfl⟩
      have hml : m < 8192 := by rw [hm]; exact ss_lt p q
      rw [← hm] at hc HI2
      have hpos : ¬ c < 0 := by omega
      clear hval hy hz
      by_cases hp0 : p = 0
      · have hm0 : c = 0 := by rw [hc, hm, ss_none (.inl hp0)]; rfl
        have i1 : ((p : Int) == 0) = true := by simp [hp0]
        have i2 : (c == 0) = true := by simp [hm0]
        clear hm0 hc hm hp0 hp hq hml
        go_wp2_with fail
        refine (HS.out _).mono ?_
        rintro e w3 ⟨rfl, rfl⟩
        go_wp2
        go_ret
        exact ⟨rfl, bb⟩
      · have i1 : ((p : Int) == 0) = false := by simp; omega
        by_cases hq0 : q = 0
        · have hm0 : c = 0 := by rw [hc, hm, ss_none (.inr hq0)]; rfl
          have i2 : (c == 0) = true := by simp [hm0]
          have i3 : ((q : Int) == 0) = true := by simp [hq0]
          clear hm0 hc hm hq0 hp0 hp hq hml
          go_wp2_with fail
          refine (HS.out _).mono ?_
          rintro e w3 ⟨rfl, rfl⟩
          go_wp2
          go_ret
          exact ⟨rfl, bb⟩
        · have i3 : ((q : Int) == 0) = false := by simp; omega
          have hmany := ss_many hp hq hp0 hq0
          rw [← hm] at hmany
          have O1 := Lib.hid fun w => lawones_any m w hml
          have O2 := Lib.hid fun w => lawones_any p w hp
          have O3 := Lib.hid fun w => lawones_any q w hq
          have l1 := onF_le 13 m
          have l2 := onF_le 13 p
          have l3 := onF_le 13 q
          obtain ⟨om, hom⟩ : ∃ o, o = onF 13 m := ⟨_, rfl⟩
          obtain ⟨op, hop⟩ : ∃ o, o = onF 13 p := ⟨_, rfl⟩
          obtain ⟨oq, hoq⟩ : ∃ o, o = onF 13 q := ⟨_, rfl⟩
          rw [← hom] at O1 hmany l1
          rw [← hop] at O2 hmany l2
          rw [← hoq] at O3 hmany l3
          have HM := Lib.hid hmany
          subst hc
          have k1 : (om : Int) ≤ 13 := by omega
          have k2 : (op : Int) ≤ 13 := by omega
          have k3 : (oq : Int) ≤ 13 := by omega
          clear hmany hom hop hoq hp0 hq0 hm hp hq hml
          go_wp2_with fail
          refine (HS.out _).mono ?_
          rintro e w3 ⟨rfl, rfl⟩
          go_wp2_with fail
          refine (HI2.out _).mono ?_
          rintro e w3 ⟨rfl, b3⟩
          have bb := bel_nxt bb b3
          clear b3
          go_wp2_with fail
          refine (O1.out _).mono ?_
          rintro e w3 ⟨rfl, rfl⟩
          go_wp2_with fail
          refine (O2.out _).mono ?_
          rintro e w3 ⟨rfl, rfl⟩
          go_wp2_with fail
          refine (O3.out _).mono ?_
          rintro e w3 ⟨rfl, rfl⟩
          go_wp2
          all_goals
            go_ret
            refine ⟨ret_bool (decide_eq_true ?_), bb⟩
            have := HM.out
            omega
    · have hc1 : c = -1 := by rw [hc, ssF_no hval]
      have hneg : c < 0 := by omega
      clear hval hc hc1
      go_wp2_with fail
      refine (HS.out _).mono ?_
      rintro e w3 ⟨rfl, rfl⟩
      go_wp2_with fail
      refine (HS.out _).mono ?_
      rintro e w3 ⟨rfl, rfl⟩
      go_wp2
      go_ret
      exact ⟨rfl, bb⟩
  · clear h
    go_enter Try.func3, Try.ntmps3
    go_wp2
    go_ret
    exact ⟨rfl, Below.refl _ _⟩

end Go.Proofs.Ytagncoahobghpaa
