/-
  MostSparse of the program and of the model.
-/
import Derived.Test.YtagncoahobghpaaSpI
import Derived.Test.YtagncoahobghpaaOcL
import Derived.Test.YtagncoahobghpaaSpN
namespace Go.Proofs.Ytagncoahobghpaa
open Go.RowKit
set_option linter.unusedVariables false

theorem onF_zero (f : Nat) : onF f 0 = 0 := by
  induction f with
  | zero => rfl
  | succ f ih => rw [onF, ih]
theorem onF_le (f x : Nat) : onF f x ≤ f := by
  induction f generalizing x with
  | zero => exact Nat.le_refl _
  | succ f ih => have := ih (x / 2); rw [onF]; omega

set_option maxHeartbeats 2000000 in
theorem specones_any (x : Nat) (w : World) (hx : x < 8192) :
    Calls Try.prog 39 #[.int .i64 x] w fun e w' => e = .returned (.int .i64 (onF 13 x : Nat)) ∧ w = w' := by
  have hle := onF_le 13 x
  go_enter Try.func39, Try.ntmps39
  go_wp2
  go_loop [0, 3] (fun r n => ∃ k m : Nat, k < 8192 ∧ r = .int .i64 k ∧ n = .int .i64 m ∧ Hid (∃ f, f ≤ 13 ∧ k < 2 ^ f ∧ m + onF f k = onF 13 x)) (fun r _ => (intOf r).toNat)
  case atStart => exact ⟨x, 0, hx, rfl, rfl, 13, Nat.le_refl _, hx, by omega⟩
  case round =>
    obtain ⟨k, m, hk, rfl, rfl, hs⟩ := hrel
    by_cases h0 : k = 0
    · subst h0
      have HE := Lib.hid (show m = onF 13 x by obtain ⟨f, _, _, h⟩ := hs.out; rw [onF_zero] at h; omega)
      clear hs
      go_wp2
      go_ret
      exact ⟨ret_int (by rw [HE.out]), rfl⟩
    · have hs2 : Hid (∃ f, f ≤ 13 ∧ k / 2 < 2 ^ f ∧ (m + k % 2) + onF f (k / 2) = onF 13 x) := by
        obtain ⟨f, h1, h2, h3⟩ := hs.out
        cases f with
        | zero => exact absurd h2 (by simp; omega)
        | succ f =>
          rw [onF] at h3
          rw [Nat.pow_succ] at h2
          exact ⟨f, by omega, by omega, by omega⟩
      have hm2 : m + k % 2 ≤ 13 := by obtain ⟨f, _, _, h⟩ := hs2.out; omega
      have hk2 : k / 2 < 8192 := by omega
      clear hs
      go_wp2
      go_round
      case rel => exact ⟨k / 2, m + k % 2, hk2, by go_num, by go_num, hs2⟩
      case measure => simp [intOf]; omega

set_option maxHeartbeats 4000000 in
theorem implMostSparse_any (w : World) :
    Calls Try.prog 19 #[] w (Tells 83 w) := by
  have HEND := Lib.hid (msF_most 8192 (by decide))
  go_enter Try.func19, Try.ntmps19
  go_wp2
  go_loopw [5, 1, 2] (fun i a b wr => ∃ k : Nat, k ≤ 8192 ∧ i = .int .i64 k ∧ a = .int .i64 ((msF k).1 : Nat) ∧ b = .int .i64 ((msF k).2 : Nat) ∧ Below w.heap.size w wr) (fun i _ _ _ => 8192 - (intOf i).toNat)
  case atStart => exact ⟨0, Nat.zero_le _, rfl, rfl, rfl, Below.refl _ _⟩
  case round =>
    obtain ⟨k, hk, rfl, rfl, rfl, hB⟩ := hrel
    by_cases hlt : k < 8192
    · have i1 : (k : Int) < 8192 := by omega
      have hO := fun w => onesCount_any k w hlt
      have hS := fun w => implIsSparse_any (k : Int) w
      have hsp : spF (k : Int) = spB (bitS k) := by
        unfold spF
        rw [show seB (k : Int) = true from decide_eq_true (by omega), Int.toNat_natCast]; rfl
      rw [hsp] at hS
      have hst : msF (k + 1) = if (msF k).2 < onF 13 k ∧ spB (bitS k) = true then (k, onF 13 k) else msF k := rfl
      have hml := msF_le k
      have hol := onF_le 13 k
      obtain ⟨p, q, hpq⟩ : ∃ p q, msF k = (p, q) := ⟨_, _, rfl⟩
      rw [hpq] at hst hml ⊢
      obtain ⟨c, hc⟩ : ∃ c, c = onF 13 k := ⟨_, rfl⟩
      rw [← hc] at hO hst hol
      have w1 : IntKind.u64.wrap (k : Int) = (k : Int) := u64_sm (by omega)
      by_cases hqc : q < c
      · have i2 : (q : Int) < (c : Int) := by omega
        cases hb : spB (bitS k) with
        | true =>
          rw [hb] at hS
          have HST := Lib.hid (show msF (k + 1) = (k, c) by rw [hst, if_pos ⟨hqc, hb⟩])
          clear hst hsp hpq hc hb hml hol hqc
          go_wp2_with fail
          refine (hO _).mono ?_
          rintro e w1 ⟨rfl, rfl⟩
          go_wp2_with fail
          refine (hS _).mono ?_
          rintro e w2 ⟨rfl, b2⟩
          have hB2 := bel_nxt hB b2
          clear hB b2
          go_wp2
          go_roundw
          case rel => exact ⟨k + 1, by omega, by go_num, by rw [HST.out], by rw [HST.out], hB2⟩
          case measure => simp [intOf]; omega
        | false =>
          rw [hb] at hS
          have HST := Lib.hid (show msF (k + 1) = (p, q) by rw [hst, if_neg (by rw [hb]; simp)])
          clear hst hsp hpq hc hb hml hol hqc
          go_wp2_with fail
          refine (hO _).mono ?_
          rintro e w1 ⟨rfl, rfl⟩
          go_wp2_with fail
          refine (hS _).mono ?_
          rintro e w2 ⟨rfl, b2⟩
          have hB2 := bel_nxt hB b2
          clear hB b2
          go_wp2
          go_roundw
          case rel => exact ⟨k + 1, by omega, by go_num, by rw [HST.out], by rw [HST.out], hB2⟩
          case measure => simp [intOf]; omega
      · have i2 : ¬ (q : Int) < (c : Int) := by omega
        have i3 : ¬ q < c := hqc
        have i4 : decide (q < c) = false := decide_eq_false i3
        have i5 : decide ((q : Int) < (c : Int)) = false := decide_eq_false i2
        have HST := Lib.hid (show msF (k + 1) = (p, q) by rw [hst, if_neg (fun h => hqc h.1)])
        clear hst hsp hpq hc hml hol hqc hS
        go_wp2_with fail
        refine (hO _).mono ?_
        rintro e w1 ⟨rfl, rfl⟩
        go_wp2
        go_roundw
        case rel => exact ⟨k + 1, by omega, by go_num, by rw [HST.out], by rw [HST.out], hB⟩
        case measure => simp [intOf]; omega
    · obtain rfl : k = 8192 := by omega
      go_wp2
      go_ret
      exact ⟨ret_int (by rw [HEND.out]; rfl), hB⟩

theorem pkB_lt {o b : Nat} (ho : o < 8192) (hb : b < 8192) : pkB o b < 8192 := by
  unfold pkB; split
  · exact ho
  · split <;> assumption
theorem next_lt {n s : Nat} (hn : n < 13) (hs : s < 2 ^ (12 - n)) : s + 2 ^ (12 - n) < 2 ^ (13 - n) ∧ 2 ^ (13 - n) ≤ 8192 ∧ 2 ^ (12 - n) ≤ 4096 := by
  refine ⟨?_, Nat.pow_le_pow_right (by decide) (show 13 - n ≤ 13 by omega), Nat.pow_le_pow_right (by decide) (show 12 - n ≤ 12 by omega)⟩
  rw [show 13 - n = 12 - n + 1 by omega, Nat.pow_succ]; omega
theorem low_lt {n m s : Nat} (hm : m ≤ n) (hn : n ≤ 13) (hs : s < 2 ^ (13 - n)) : s < 2 ^ (13 - m) :=
  Nat.lt_of_lt_of_le hs (Nat.pow_le_pow_right (by decide) (by omega))
theorem bstR_lt : ∀ n s best, n ≤ 13 → s < 2 ^ (13 - n) → best < 8192 → bstR n s best < 8192 := by
  intro n
  induction n with
  | zero => intro s best _ _ hb; exact hb
  | succ n ih =>
    intro s best hn hs hb
    rw [show 13 - (n + 1) = 12 - n by omega] at hs
    have h := next_lt (by omega) hs
    have hs2 : s < 2 ^ (13 - n) := by omega
    rw [bstR_next]
    refine ih _ _ (by omega) hs2 ?_
    split
    · exact pkB_lt (ih _ _ (by omega) h.1 (by omega)) hb
    · exact hb

set_option maxHeartbeats 8000000 in
theorem mostSparse_any : ∀ (n s : Nat) (w : World), n ≤ 13 → s < 2 ^ (13 - n) →
    Calls Try.prog 34 #[.int .i64 s, .int .i64 ((13 - n : Nat) : Int)] w fun e w' => e = .returned (.int .i64 (bstR n s s : Nat)) ∧ w = w' := by
  intro n
  induction n using Nat.strongRecOn with
  | ind n ih =>
    intro s w hn hs
    have IH := Lib.hid ih
    have hs0 : s < 8192 := Nat.lt_of_lt_of_le hs (Nat.pow_le_pow_right (by decide) (show 13 - n ≤ 13 by omega))
    obtain ⟨x0, hx0⟩ : ∃ x0, x0 = 13 - n := ⟨_, rfl⟩
    rw [← hx0]
    have HX := Lib.hid hx0
    have HS := Lib.hid hs
    have hn2 : x0 + n = 13 := by omega
    clear ih hs hx0
    go_enter Try.func34, Try.ntmps34
    go_wp2
    go_loop [6, 5] (fun i b => ∃ m best : Nat, m ≤ n ∧ i = .int .i64 ((13 - m : Nat) : Int) ∧ b = .int .i64 best ∧ best < 8192 ∧ Hid (bstR m s best = bstR n s s)) (fun i _ => 13 - (intOf i).toNat)
    case atStart => exact ⟨n, s, Nat.le_refl _, by rw [← HX.out], rfl, hs0, Lib.hid rfl⟩
    case round =>
      obtain ⟨m, best, hm, rfl, rfl, hb, hE⟩ := hrel
      cases m with
      | zero =>
        have HF := Lib.hid (show best = bstR n s s from hE.out)
        clear hE
        go_wp2
        go_ret
        exact ⟨ret_int (by rw [HF.out]), rfl⟩
      | succ m =>
        obtain ⟨x, hx⟩ : ∃ x, x = 12 - m := ⟨_, rfl⟩
        have e1 : 13 - (m + 1) = x := by omega
        have e2 : 13 - m = x + 1 := by omega
        have hx13 : x < 13 := by omega
        have hsx : s < 2 ^ x := by rw [← e1]; exact low_lt hm hn HS.out
        have hnl := next_lt (n := m) (s := s) (by omega) (by rw [← hx]; exact hsx)
        rw [← hx, e2] at hnl
        rw [e1]
        have hE := hE.out
        rw [bstR_next, ← hx] at hE
        have hP := fun w => power_any x _ w (by omega) rfl
        obtain ⟨p, hp⟩ : ∃ p, p = 2 ^ x := ⟨_, rfl⟩
        rw [← hp] at hP hE hnl hsx
        obtain ⟨t, ht⟩ : ∃ t, t = s + p := ⟨_, rfl⟩
        rw [← ht] at hE hnl
        have ht8 : t < 8192 := by omega
        have hA := fun w => apart_any t w ht8
        have b1 : -1000000 ≤ (s : Int) + (p : Int) ∧ (s : Int) + (p : Int) ≤ 1000000 := by omega
        have b2 : -1000000 ≤ (x : Int) + 1 ∧ (x : Int) + 1 ≤ 1000000 := by omega
        have g1 : (s : Int) + (p : Int) = (t : Int) := by omega
        have i1 : (x : Int) < 13 := by omega
        have HR := Lib.hid (fun (b : Nat) (h : bstR m s b = bstR n s s) (hb : b < 8192) => show ∃ m' best : Nat, m' ≤ n ∧ Value.int .i64 ((x : Int) + 1) = .int .i64 ((13 - m' : Nat) : Int) ∧ Value.int .i64 (b : Int) = .int .i64 best ∧ best < 8192 ∧ Hid (bstR m' s best = bstR n s s) from ⟨m, b, by omega, by rw [e2]; rfl, rfl, hb, Lib.hid h⟩)
        cases hsp : spB (bitS t) with
        | false =>
          rw [hsp] at hA hE
          have HE := Lib.hid (show bstR m s best = bstR n s s from hE)
          have j1 : IntKind.i64.wrap ((s : Int) + (p : Int)) = (t : Int) := by rw [i64_sm b1, g1]
          have j2 : IntKind.i64.wrap ((x : Int) + 1) = (x : Int) + 1 := i64_sm b2
          clear hE hsp hnl hsx ht hp hx b1 b2 g1 e1 e2 ht8
          go_wp2_with fail
          refine (hP _).mono ?_
          rintro e w1 ⟨rfl, rfl⟩
          go_wp2_with fail
          refine (hA _).mono ?_
          rintro e w1 ⟨rfl, rfl⟩
          go_wp2
          go_round
          case rel => exact HR.out best HE.out hb
          case measure => simp [intOf]; omega
        | true =>
          rw [hsp] at hA hE
          have hC := fun w => IH.out m (by omega) t w (by omega) (by rw [e2]; exact hnl.1)
          rw [e2] at hC
          have hol := bstR_lt m t t (by omega) (by rw [e2]; exact hnl.1) ht8
          obtain ⟨o, ho⟩ : ∃ o, o = bstR m t t := ⟨_, rfl⟩
          rw [← ho] at hC hol hE
          have hO1 := fun w => specones_any o w hol
          have hO2 := fun w => specones_any best w hb
          have HE := Lib.hid (show bstR m s (pkB o best) = bstR n s s from hE)
          have hpk : pkB o best = if onF 13 best < onF 13 o then o else if onF 13 o = onF 13 best ∧ o < best then o else best := rfl
          obtain ⟨c, hc⟩ : ∃ c, c = onF 13 o := ⟨_, rfl⟩
          obtain ⟨d, hd⟩ : ∃ d, d = onF 13 best := ⟨_, rfl⟩
          rw [← hc] at hO1
          rw [← hd] at hO2
          rw [← hc, ← hd] at hpk
          have hC' := fun w => show Calls Try.prog 34 #[.int .i64 t, .int .i64 ((x : Int) + 1)] w (fun e w' => e = .returned (.int .i64 (o : Int)) ∧ w = w') from hC w
          have hcd : c ≤ 13 ∧ d ≤ 13 := by rw [hc, hd]; exact ⟨onF_le _ _, onF_le _ _⟩
          have k1 : (c : Int) ≤ 13 := by omega
          have k2 : (d : Int) ≤ 13 := by omega
          clear hE hsp hnl hsx ht hp hx e1 e2 hC hc hd ho ht8 hcd
          by_cases q1 : d < c
          · rw [if_pos q1] at hpk
            rw [hpk] at HE
            have l1 : (d : Int) < (c : Int) := by omega
            have j1 : IntKind.i64.wrap ((s : Int) + (p : Int)) = (t : Int) := by rw [i64_sm b1, g1]
            have j2 : IntKind.i64.wrap ((x : Int) + 1) = (x : Int) + 1 := i64_sm b2
            clear hpk q1 b1 b2 g1
            go_wp2_with fail
            refine (hP _).mono ?_
            rintro e w1 ⟨rfl, rfl⟩
            go_wp2_with fail
            refine (hA _).mono ?_
            rintro e w1 ⟨rfl, rfl⟩
            go_wp2_with fail
            refine (hC' _).mono ?_
            rintro e w1 ⟨rfl, rfl⟩
            go_wp2_with fail
            refine (hO1 _).mono ?_
            rintro e w1 ⟨rfl, rfl⟩
            go_wp2_with fail
            refine (hO2 _).mono ?_
            rintro e w1 ⟨rfl, rfl⟩
            go_wp2
            go_round
            case rel => exact HR.out o HE.out hol
            case measure => simp [intOf]; omega
          · rw [if_neg q1] at hpk
            have l1 : ¬ (d : Int) < (c : Int) := by omega
            have l2 : decide ((d : Int) < (c : Int)) = false := decide_eq_false l1
            by_cases q2 : c = d
            · by_cases q3 : o < best
              · rw [if_pos ⟨q2, q3⟩] at hpk
                rw [hpk] at HE
                have l3 : ((c : Int) == (d : Int)) = true := by simp [q2]
                have l4 : (o : Int) < (best : Int) := by omega
                have j1 : IntKind.i64.wrap ((s : Int) + (p : Int)) = (t : Int) := by rw [i64_sm b1, g1]
                have j2 : IntKind.i64.wrap ((x : Int) + 1) = (x : Int) + 1 := i64_sm b2
                clear hpk q1 q2 q3 b1 b2 g1
                go_wp2_with fail
                refine (hP _).mono ?_
                rintro e w1 ⟨rfl, rfl⟩
                go_wp2_with fail
                refine (hA _).mono ?_
                rintro e w1 ⟨rfl, rfl⟩
                go_wp2_with fail
                refine (hC' _).mono ?_
                rintro e w1 ⟨rfl, rfl⟩
                go_wp2_with fail
                refine (hO1 _).mono ?_
                rintro e w1 ⟨rfl, rfl⟩
                go_wp2_with fail
                refine (hO2 _).mono ?_
                rintro e w1 ⟨rfl, rfl⟩
                go_wp2_with fail
                refine (hO1 _).mono ?_
                rintro e w1 ⟨rfl, rfl⟩
                go_wp2_with fail
                refine (hO2 _).mono ?_
                rintro e w1 ⟨rfl, rfl⟩
                go_wp2
                go_round
                case rel => exact HR.out o HE.out hol
                case measure => simp [intOf]; omega
              · rw [if_neg (fun h => q3 h.2)] at hpk
                rw [hpk] at HE
                have l3 : ((c : Int) == (d : Int)) = true := by simp [q2]
                have l4 : ¬ (o : Int) < (best : Int) := by omega
                have j1 : IntKind.i64.wrap ((s : Int) + (p : Int)) = (t : Int) := by rw [i64_sm b1, g1]
                have j2 : IntKind.i64.wrap ((x : Int) + 1) = (x : Int) + 1 := i64_sm b2
                clear hpk q1 q2 q3 b1 b2 g1
                go_wp2_with fail
                refine (hP _).mono ?_
                rintro e w1 ⟨rfl, rfl⟩
                go_wp2_with fail
                refine (hA _).mono ?_
                rintro e w1 ⟨rfl, rfl⟩
                go_wp2_with fail
                refine (hC' _).mono ?_
                rintro e w1 ⟨rfl, rfl⟩
                go_wp2_with fail
                refine (hO1 _).mono ?_
                rintro e w1 ⟨rfl, rfl⟩
                go_wp2_with fail
                refine (hO2 _).mono ?_
                rintro e w1 ⟨rfl, rfl⟩
                go_wp2_with fail
                refine (hO1 _).mono ?_
                rintro e w1 ⟨rfl, rfl⟩
                go_wp2_with fail
                refine (hO2 _).mono ?_
                rintro e w1 ⟨rfl, rfl⟩
                go_wp2
                go_round
                case rel => exact HR.out best HE.out hb
                case measure => simp [intOf]; omega
            · rw [if_neg (fun h => q2 h.1)] at hpk
              rw [hpk] at HE
              have l3 : ((c : Int) == (d : Int)) = false := by simp; omega
              have j1 : IntKind.i64.wrap ((s : Int) + (p : Int)) = (t : Int) := by rw [i64_sm b1, g1]
              have j2 : IntKind.i64.wrap ((x : Int) + 1) = (x : Int) + 1 := i64_sm b2
              clear hpk q1 q2 b1 b2 g1
              go_wp2_with fail
              refine (hP _).mono ?_
              rintro e w1 ⟨rfl, rfl⟩
              go_wp2_with fail
              refine (hA _).mono ?_
              rintro e w1 ⟨rfl, rfl⟩
              go_wp2_with fail
              refine (hC' _).mono ?_
              rintro e w1 ⟨rfl, rfl⟩
              go_wp2_with fail
              refine (hO1 _).mono ?_
              rintro e w1 ⟨rfl, rfl⟩
              go_wp2_with fail
              refine (hO2 _).mono ?_
              rintro e w1 ⟨rfl, rfl⟩
              go_wp2_with fail
              refine (hO1 _).mono ?_
              rintro e w1 ⟨rfl, rfl⟩
              go_wp2_with fail
              refine (hO2 _).mono ?_
              rintro e w1 ⟨rfl, rfl⟩
              go_wp2
              go_round
              case rel => exact HR.out best HE.out hb
              case measure => simp [intOf]; omega

theorem specMostSparse_any (w : World) :
    Calls Try.prog 20 #[] w fun e w' => e = .returned (.int .i64 83) ∧ w = w' := by
  have h := fun w => mostSparse_any 13 0 w (Nat.le_refl _) (by decide)
  rw [bst_all] at h
  go_enter Try.func20, Try.ntmps20
  go_wp2_with fail
  refine (h _).mono ?_
  rintro e w1 ⟨rfl, rfl⟩
  go_wp2
  go_ret
  exact ⟨rfl, rfl⟩
end Go.Proofs.Ytagncoahobghpaa
