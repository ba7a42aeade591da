/-
  The law FnIsSparse, as a contract.
-/
import Derived.Test.YtagncoahobghpaaHelpS
import Derived.Test.YtagncoahobghpaaDrawS
namespace Go.Proofs.Ytagncoahobghpaa
open Go.RowKit
set_option linter.unusedVariables false

set_option maxHeartbeats 8000000 in
set_option maxRecDepth 100000 in
theorem lawIsSparse_any (v : Value) (n : Nat) (w : World) (h : RdB w v n) :
    Calls Try.prog 5 #[v] w (Says true w) := by
  have h0 := h
  obtain ⟨a, cap, rfl, h1, h2, -⟩ := h0
  unfold maxLen at h2
  by_cases hbig : n ≤ 1048576
  · go_enter Try.func5, Try.ntmps5
    go_wp2_with fail
    refine (drawIsSparse_any _ n _ h).mono ?_
    rintro e w1 ⟨z, rfl, hz, bb⟩
    clear h h1 h2 hbig
    have HI := Lib.hid fun w => implIsSparse_any z w
    have HS := Lib.hid fun w => specIsSparse_any z w
    cases hb : spF z with
    | false =>
      rw [hb] at HI HS
      clear hb
      go_wp2_with fail
      refine (HI.out _).mono ?_
      rintro e w2 ⟨rfl, b2⟩
      have bb := bel_nxt bb b2
      clear b2
      go_wp2_with fail
      refine (HS.out _).mono ?_
      rintro e w3 ⟨rfl, rfl⟩
      go_wp2_with fail
      refine (HS.out _).mono ?_
      rintro e w3 ⟨rfl, rfl⟩
      go_wp2
      go_ret
      exact ⟨rfl, bb⟩
    | true =>
      have hb2 := hb
      unfold spF at hb2
      rw [Bool.and_eq_true] at hb2
      obtain ⟨s, rfl, hs⟩ := seB_of hb2.1
      rw [Int.toNat_natCast] at hb2
      have hsp := sparse_of hb2.2
      have hon := on_four hb2.2
      rw [hb] at HI HS
      have HC := Lib.hid fun w => implSumCounts_any s s w
      have e : scF s s = tab 13 fun z => cntP (bitS s) (bitS s) z := by
        unfold scF; rw [if_pos ⟨hb2.1, hb2.1⟩, Int.toNat_natCast]
      rw [e] at HC
      have HTWO := Lib.hid (fun k (hk : k < 13) => hsp.two hk)
      have HO := Lib.hid fun w => lawones_any s w hs
      have HO4 := Lib.hid fun w => lawones_any 83 w (by decide)
      rw [show onF 13 83 = 4 by decide] at HO4
      obtain ⟨k, hk⟩ : ∃ k, k = onF 13 s := ⟨_, rfl⟩
      rw [← hk] at HO hon
      obtain ⟨t, ht⟩ : ∃ t : Nat, t = k * (k + 1) := ⟨_, rfl⟩
      have ht20 : t ≤ 20 := by
        rcases (show k = 0 ∨ k = 1 ∨ k = 2 ∨ k = 3 ∨ k = 4 by omega) with q | q | q | q | q <;> subst q <;> omega
      have HT := Lib.hid (show (k : Int) * ((k : Int) + 1) = (t : Int) by rw [ht, Int.natCast_mul]; rfl)
      have i1 : (k : Int) ≤ 4 := by omega
      have i2 : (t : Int) ≤ 26 := by omega
      have b1 : -1000000 ≤ (k : Int) + 1 ∧ (k : Int) + 1 ≤ 1000000 := by omega
      have b2 : -1000000 ≤ (t : Int) ∧ (t : Int) ≤ 1000000 := by omega
      clear hb hb2 hsp e hk ht ht20 hon hz
      go_wp2_with fail
      refine (HI.out _).mono ?_
      rintro e w2 ⟨rfl, b3⟩
      have bb := bel_nxt bb b3
      clear b3
      go_wp2_with fail
      refine (HS.out _).mono ?_
      rintro e w3 ⟨rfl, rfl⟩
      go_wp2_with fail
      refine (HC.out _).mono ?_
      rintro e w4 ⟨v1, rfl, o1, b4⟩
      have bb := bel_nxt bb b4
      obtain ⟨g, cp, rfl, -, -⟩ := o1.form (by intro h; have := congrArg List.length h; simp at this)
      rw [len_tab] at o1 ⊢
      have HCL := Lib.hid (fun j (hj : j < 13) => show w4.cell? ⟨g, j, none⟩ = some (.int .i64 (cntP (bitS s) (bitS s) j)) by rw [o1.cell j (by rw [len_tab]; exact hj), ix_tab _ _ _ hj])
      clear o1 b4
      go_wp2
      go_loop [6] (fun i => ∃ x : Nat, x ≤ 13 ∧ i = .int .i64 x) (fun i => 13 - (intOf i).toNat)
      case atStart => exact ⟨0, Nat.zero_le _, rfl⟩
      case round =>
        obtain ⟨x, hx, rfl⟩ := hrel
        by_cases hlt : x < 13
        · have hc := HCL.out x hlt
          have h2 := HTWO.out x hlt
          obtain ⟨c, hce⟩ : ∃ c, c = cntP (bitS s) (bitS s) x := ⟨_, rfl⟩
          rw [← hce] at hc h2
          have i5 : (x : Int) < 13 := by omega
          have i6 : ¬ (2 : Int) < c := by omega
          clear hce h2
          go_wp2
          go_round
          case rel => exact ⟨x + 1, by omega, by go_num⟩
          case measure => simp [intOf]; omega
        · obtain rfl : x = 13 := by omega
          have j1 : IntKind.i64.wrap ((k : Int) + 1) = (k : Int) + 1 := i64_sm b1
          have j2 : IntKind.i64.wrap ((k : Int) * ((k : Int) + 1)) = (t : Int) := by rw [HT.out]; exact i64_sm b2
          clear b1 b2
          go_wp2_with fail
          refine (HO.out _).mono ?_
          rintro e w5 ⟨rfl, rfl⟩
          go_wp2_with fail
          refine (implMostSparse_any _).mono ?_
          rintro e w5 ⟨rfl, b5⟩
          have bb := bel_nxt bb b5
          clear b5
          go_wp2_with fail
          refine (HO4.out _).mono ?_
          rintro e w6 ⟨rfl, rfl⟩
          go_wp2
          go_ret
          exact ⟨rfl, bb⟩
  · clear h
    go_enter Try.func5, Try.ntmps5
    go_wp2
    go_ret
    exact ⟨rfl, Below.refl _ _⟩

end Go.Proofs.Ytagncoahobghpaa
