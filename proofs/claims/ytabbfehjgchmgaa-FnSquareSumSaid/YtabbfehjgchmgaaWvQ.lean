/-
  Valid rests, counts, waves of the model, by their contracts.
-/
import Derived.Test.YtabbfehjgchmgaaWvP
import Derived.Test.YtabbfehjgchmgaaWvO
import Derived.Test.YtabbfehjgchmgaaWvU
import Derived.Test.YtabbfehjgchmgaaWvS
import Derived.Test.YtabbfehjgchmgaaFnM
import Derived.IntWalk
namespace Go.Proofs.Ytabbfehjgchmgaa
open Go.RowKit
set_option linter.unusedVariables false

set_option maxHeartbeats 2000000 in
theorem specvalidRests_any (v : Value) (xs : List Int) (w : World) (h : Rd w v xs) (hl : xs.length ≤ maxLen) :
    Calls Try.prog 53 #[v] w fun e w' => e = .returned (.bool (vsB xs)) ∧ w = w' := by
  unfold maxLen at hl
  obtain ⟨a, cap, rfl, h⟩ := h
  rcases h with rfl | ⟨b, off, rfl, hb, hc⟩
  · have hin := inR_no (n := 0) (lo := 1) (hi := 96) (by omega)
    have hno := Lib.hid (vsB_no_div (xs := ([] : List Int)) (fun q => absurd q.1 (by simp)))
    go_enter Try.func53, Try.ntmps53
    go_wp2
    refine wp_loop_rounds 1 ?_
    rw [rounds_succ]
    go_wp2_with fail
    refine (inRange_any _ _ _ _).mono ?_
    rintro e w' ⟨rfl, rfl⟩
    rw [hin]
    clear hin
    go_wp2
    go_ret
    exact ⟨ret_bool hno.out.symm, rfl⟩
  · go_enter Try.func53, Try.ntmps53
    go_wp2
    go_loop [3] (fun i => ∃ k : Nat, k ≤ xs.length ∧ i = .int .i64 k ∧ Hid (∀ j, j < k → 0 ≤ ix xs j ∧ ix xs j ≤ 96)) (fun i => xs.length - (intOf i).toNat)
    case atStart => exact ⟨0, Nat.zero_le _, rfl, fun j hj => absurd hj (Nat.not_lt_zero j)⟩
    case round =>
      obtain ⟨k, hk, rfl, hok⟩ := hrel
      by_cases hlt : k < xs.length
      · have hck := hc k hlt
        have hki : (0 : Int) ≤ (k : Int) := by omega
        have hkj : (k : Int) < (xs.length : Int) := by omega
        clear hc
        by_cases h1 : 0 ≤ ix xs k ∧ ix xs k ≤ 96
        · have hin := inR_yes h1
          go_wp2_with fail
          refine (inRange_any _ _ _ _).mono ?_
          rintro e w' ⟨rfl, rfl⟩
          rw [hin]
          clear hin
          go_wp2
          go_round
          case rel =>
            refine ⟨k + 1, by omega, by go_num, fun j hj => ?_⟩
            by_cases e : j = k
            · subst e; exact h1
            · exact hok.out j (by omega)
          case measure => simp [intOf]; omega
        · have hin := inR_no h1
          have hno := Lib.hid (vsB_no_at k hlt h1)
          clear h1
          go_wp2_with fail
          refine (inRange_any _ _ _ _).mono ?_
          rintro e w' ⟨rfl, rfl⟩
          rw [hin]
          clear hin
          go_wp2
          go_ret
          exact ⟨ret_bool hno.out.symm, rfl⟩
      · have hkl : k = xs.length := by omega
        subst hkl
        by_cases hr : 1 ≤ xs.length ∧ xs.length ≤ 96
        · have hin := inR_yes (n := (xs.length : Int)) (lo := 1) (hi := 96) (by omega)
          have e0 : ((xs.length : Int) == 0) = false := by rw [beq_eq_false_iff_ne]; omega
          have hpos : 0 < xs.length := by omega
          have hposi : (0 : Int) < (xs.length : Int) := by omega
          by_cases hd : 96 % xs.length = 0
          · have hyes := Lib.hid (vsB_yes hok.out hpos hd)
            have e1 : ((96 : Int) % (xs.length : Int) == 0) = true := by rw [mod96, hd]; rfl
            have e2 : ((96 : Int) % (xs.length : Int) != 0) = false := by rw [mod96, hd]; rfl
            clear hd hr hc
            go_wp2_with fail
            refine (inRange_any _ _ _ _).mono ?_
            rintro e w' ⟨rfl, rfl⟩
            rw [hin]
            clear hin
            go_wp2
            go_ret
            exact ⟨ret_bool hyes.out.symm, rfl⟩
          · have hno := Lib.hid (vsB_no_div (xs := xs) (fun q => hd q.2))
            have e1 : ((96 : Int) % (xs.length : Int) == 0) = false := by rw [mod96, beq_eq_false_iff_ne]; omega
            have e2 : ((96 : Int) % (xs.length : Int) != 0) = true := by rw [mod96, bne_iff_ne]; omega
            clear hd hr hc
            go_wp2_with fail
            refine (inRange_any _ _ _ _).mono ?_
            rintro e w' ⟨rfl, rfl⟩
            rw [hin]
            clear hin
            go_wp2
            go_ret
            exact ⟨ret_bool hno.out.symm, rfl⟩
        · have hin := inR_no (n := (xs.length : Int)) (lo := 1) (hi := 96) (by omega)
          have hno : Hid (vsB xs = false) := by
            show vsB xs = false
            cases hb : vsB xs with
            | false => rfl
            | true => have q := (vsB_iff xs).1 hb; have := q.some; have := q.few; exact absurd (by omega) hr
          clear hr hc
          go_wp2_with fail
          refine (inRange_any _ _ _ _).mono ?_
          rintro e w' ⟨rfl, rfl⟩
          rw [hin]
          clear hin
          go_wp2
          go_ret
          exact ⟨ret_bool hno.out.symm, rfl⟩

theorem specValidRests_any (v : Value) (xs : List Int) (w : World) (h : Rd w v xs) (hl : xs.length ≤ maxLen) :
    Calls Try.prog 21 #[v] w fun e w' => e = .returned (.bool (vsB xs)) ∧ w = w' := by
  go_enter Try.func21, Try.ntmps21
  go_wp2_with fail
  refine (specvalidRests_any v xs _ h hl).mono ?_
  rintro e w' ⟨rfl, rfl⟩
  go_wp2
  go_ret
  exact ⟨rfl, rfl⟩

set_option maxHeartbeats 2000000 in
theorem specsome_any (v : Value) (xs : List Int) (w : World) (h : Rd w v xs) (hn : 0 < xs.length) (hl : xs.length ≤ 96) (hr : ∀ j, j < xs.length → 0 ≤ ix xs j ∧ ix xs j ≤ 96) :
    Calls Try.prog 64 #[v] w fun e w' => e = .returned (.int .i64 (someN xs)) ∧ w = w' := by
  obtain ⟨a, cap, rfl, h⟩ := h
  rcases h with rfl | ⟨b, off, rfl, hb, hc⟩
  · simp at hn
  have HS : Hid (cntN xs xs.length = someN xs) := rfl
  go_enter Try.func64, Try.ntmps64
  go_wp2
  go_loop [3, 4] (fun s i => ∃ k : Nat, k ≤ xs.length ∧ i = .int .i64 k ∧ s = .int .i64 (cntN xs k)) (fun _ i => xs.length - (intOf i).toNat)
  case atStart => exact ⟨0, Nat.zero_le _, rfl, rfl⟩
  case round =>
    obtain ⟨k, hk, rfl, rfl⟩ := hrel
    by_cases hlt : k < xs.length
    · have hck := hc k hlt
      have hrk := hr k hlt
      obtain ⟨hc0, hc1⟩ := cntN_bd xs k
      have HN : Hid (cntN xs (k + 1) = cntN xs k + if ix xs k = 0 then 0 else 1) := by show cntN xs k + nz (ix xs k) = _; rw [nz_rest hrk]
      clear hc hr
      by_cases h0 : ix xs k = 0
      · rw [if_pos h0, Int.add_zero] at HN
        have e1 : (ix xs k == 0) = true := by simpa using h0
        have e2 : (ix xs k != 0) = false := by simpa using h0
        clear h0
        go_wp2
        go_round
        case rel => exact ⟨k + 1, by omega, by go_num, by rw [HN.out]⟩
        case measure => simp [intOf]; omega
      · rw [if_neg h0] at HN
        have e1 : (ix xs k == 0) = false := by simpa using h0
        have e2 : (ix xs k != 0) = true := by simpa using h0
        clear h0
        go_wp2
        go_round
        case rel => exact ⟨k + 1, by omega, by go_num, by rw [HN.out]⟩
        case measure => simp [intOf]; omega
    · obtain rfl : k = xs.length := by omega
      go_wp2
      go_ret
      exact ⟨ret_int HS.out, rfl⟩

/-- The sum over the first i, a rest. -/
def wsN (F : Nat → Int) (r n k i : Nat) : Int := sumN (fun i => F i * pw (r : Int) (i * k)) i % 97
theorem wsN_bd (F : Nat → Int) (r n k i : Nat) : 0 ≤ wsN F r n k i ∧ wsN F r n k i ≤ 96 := by unfold wsN; omega
theorem wsN_step (F : Nat → Int) {r n : Nat} (h : IsRt (r : Int) n) (k i : Nat) : wsN F r n k (i + 1) = (wsN F r n k i + F i * (pm r (i * k % n) : Nat)) % 97 := by
  unfold wsN
  have e : (F i * ((pm r (i * k % n) : Nat) : Int)) % 97 = (F i * pw (r : Int) (i * k)) % 97 := c_mulC rfl (by rw [pm_pw, Int.emod_emod_of_dvd _ (Int.dvd_refl 97)]; exact h.mod (i * k))
  rw [sumN]
  omega

set_option maxHeartbeats 8000000 in
theorem specwave_any (v : Value) (xs : List Int) (r : Nat) (w : World) (h : Rd w v xs) (hr97 : r < 97) (hrt : IsRt (r : Int) xs.length) (hl : xs.length ≤ 96) (hr : ∀ j, j < xs.length → 0 ≤ ix xs j ∧ ix xs j ≤ 96) :
    Calls Try.prog 57 #[v, .int .i64 r] w (Made 3 w (waveL xs r)) := by
  have hn := hrt.1
  obtain ⟨a, cap, rfl, h⟩ := h
  rcases h with rfl | ⟨b, off, rfl, hb, hc⟩
  · simp at hn
  obtain ⟨n, hnn⟩ : ∃ n, n = xs.length := ⟨_, rfl⟩
  obtain ⟨F, hF⟩ : ∃ F, F = ix xs := ⟨_, rfl⟩
  have HW := Lib.hid (show waveL xs r = tab n (fun j => wvE F r n j % 97) by rw [hnn, hF]; rfl)
  rw [← hF, ← hnn] at hc hr
  rw [← hnn] at hn hl hrt ⊢
  have HRT := Lib.hid hrt
  clear hF hnn hrt
  have e0 : ((n : Int) == 0) = false := by rw [beq_eq_false_iff_ne]; omega
  go_enter Try.func57, Try.ntmps57
  go_wp2
  go_loopw [5, 6] (fun v i wr => ∃ (k : Nat) (ga : Option Addr) (ca : Nat), k ≤ n ∧ v = .slice ga k ca ∧ i = .int .i64 k ∧ Own 3 w.heap.size wr (.slice ga k ca) (tab k fun j => wvE F r n j % 97) ∧ Below w.heap.size w wr) (fun _ i _ => n - (intOf i).toNat)
  case atStart => exact ⟨0, _, _, Nat.zero_le _, rfl, rfl, own_empty _ _ _ (Nat.le_refl _), (Below.refl _ _).alloc (Nat.le_refl _) _⟩
  case round =>
    obtain ⟨k, ga, ca, hk, rfl, rfl, hO, hB⟩ := hrel
    by_cases hlt : k < n
    · go_wp2
      go_loopw [7, 8] (fun s i wr => ∃ q : Nat, q ≤ n ∧ i = .int .i64 q ∧ s = .int .i64 (wsN F r n k q) ∧ Own 3 w.heap.size wr (.slice ga k ca) (tab k fun j => wvE F r n j % 97) ∧ Below w.heap.size w wr) (fun _ i _ => n - (intOf i).toNat)
      case atStart => exact ⟨0, Nat.zero_le _, rfl, rfl, hO, hB⟩
      case round =>
        obtain ⟨q, hq, rfl, rfl, hOq, hBq⟩ := hrel
        clear hO hB
        by_cases hql : q < n
        · have hcx : wr.cell? ⟨b, off + q, none⟩ = some (.int .i64 (F q)) := (hBq.cell (by exact hb)).trans (hc q hql)
          obtain ⟨hf0, hf1⟩ := hr q hql
          obtain ⟨hs0, hs1⟩ := wsN_bd F r n k q
          have HST := Lib.hid (wsN_step F HRT.out k q)
          have hi1 : (0 : Int) ≤ (q : Int) := by omega
          have hi2 : (q : Int) < (n : Int) := by omega
          obtain ⟨d, hd⟩ : ∃ d, d = q * k := ⟨_, rfl⟩
          have hd1 : d ≤ 96 * 96 := by rw [hd]; exact Nat.mul_le_mul (by omega) (by omega)
          obtain ⟨e, he⟩ : ∃ e, e = d % n := ⟨_, rfl⟩
          have he1 : e ≤ 96 := by have := Nat.mod_lt d hn; omega
          have hpl := pm_lt r e
          obtain ⟨p, hp⟩ : ∃ p, p = pm r e := ⟨_, rfl⟩
          rw [← hp] at hpl
          obtain ⟨f, hf⟩ : ∃ f, f = F q := ⟨_, rfl⟩
          rw [← hf] at hcx hf0 hf1
          obtain ⟨s, hs⟩ : ∃ s, s = wsN F r n k q := ⟨_, rfl⟩
          rw [← hs] at hs0 hs1
          have hfp0 : 0 ≤ f * (p : Int) := Int.mul_nonneg hf0 (by omega)
          have hfp1 : f * (p : Int) ≤ 96 * 96 := Int.mul_le_mul hf1 (by omega) (by omega) (by omega)
          obtain ⟨t, ht⟩ : ∃ t, t = s + f * (p : Int) := ⟨_, rfl⟩
          have HR := Lib.hid fun w => raise_any r e w hr97 (by omega)
          have HM := Lib.hid fun w => mod_any t w (by omega) (by omega)
          rw [← hp] at HR
          have HE : Hid (t % 97 = wsN F r n k (q + 1)) := by show _ = _; rw [HST.out, ht, hs, hp, hf, he, hd]
          have j1 : IntKind.i64.wrap ((q : Int) * (k : Int)) = (d : Int) := by rw [← Int.natCast_mul, ← hd]; exact IntWalk.i64_in _ (by omega)
          have j2 : Int.tmod (d : Int) (n : Int) = (e : Int) := by rw [Int.tmod_eq_emod_of_nonneg (by omega), ← Int.natCast_emod, ← he]
          have j3 : IntKind.i64.wrap (f * (p : Int)) = f * (p : Int) := IntWalk.i64_in _ (by omega)
          have j4 : IntKind.i64.wrap (s + f * (p : Int)) = t := by rw [← ht]; exact IntWalk.i64_in _ (by omega)
          have HS := Lib.hid hs
          rw [← hs]
          clear HST hd he hp hf hs ht hc hr hfp0 hfp1
          go_wp2
          go_quiet ((first | (go_at_call 66; exact Calls.quiet_of_same ((HR.out _).mono fun _ _ ⟨h1, h2⟩ => ⟨h1, h2.symm⟩)) | (go_at_call 60; exact Calls.quiet_of_same ((HM.out _).mono fun _ _ ⟨h1, h2⟩ => ⟨h1, h2.symm⟩))))
          rw [HE.out]
          clear j1 j2 j3 j4
          go_wp2
          go_roundw
          case rel => exact ⟨q + 1, by omega, by go_num, rfl, hOq, below_drewN hBq _⟩
          case measure => simp [intOf]; omega
        · obtain rfl : q = n := by omega
          have hbd := wsN_bd F r q k q
          go_wp2_with (at_builtin; refine app_int rfl _ _ 27 rfl w.heap.size 3 Try.underlying27 infoInt _ _ rfl (hOq.grow _) ⟨wr.heap.size, 0, none⟩ rfl (wsN F r q k q) ?c1 ?c2 ?c3 ?_)
          case c1 => exact cell_new1 _ _ _
          case c2 => simp; omega
          case c3 => have := hBq.size; simp; omega
          intro v' w1 hO' hg'
          have hB' := app_below hBq hOq hg'
          have hO2 : Own 3 w.heap.size w1 v' (tab (k + 1) fun j => wvE F r q j % 97) := by rw [← tab_snoc k _ _ rfl]; exact hO'
          obtain ⟨ga', ca', rfl⟩ := own_sl hO2
          rw [len_tab] at hO2 ⊢
          clear hOq hBq hO' hg' hc hr
          go_wp2
          go_roundw
          case rel => exact ⟨k + 1, ga', ca', by omega, rfl, by go_num, hO2, hB'⟩
          case measure => simp [intOf]; omega
    · obtain rfl : k = n := by omega
      rw [← HW.out] at hO
      have HO := Lib.hid hO
      clear hO hc hr
      go_wp2
      go_ret
      exact ⟨_, rfl, HO.out, hB⟩

end Go.Proofs.Ytabbfehjgchmgaa
