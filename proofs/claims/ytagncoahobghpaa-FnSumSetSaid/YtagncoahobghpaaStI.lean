/-
  Sets of the program: a set's number, all places as a map, the places of a set, the sums of two lists.
-/
import Derived.Test.YtagncoahobghpaaStM
import Derived.Test.YtagncoahobghpaaMpW
import Derived.Test.YtagncoahobghpaaApp2
import Derived.Test.YtagncoahobghpaaInfo
import Derived.OwnWalk
namespace Go.Proofs.Ytagncoahobghpaa
open Go.RowKit
set_option linter.unusedVariables false

theorem run_makeMap_hint {P : Program} {t k e : TypeId} (ht : P.underlying t = some (.map k e)) (c : Int) (w : World) : (Instr.makeMap t (some (.int .i64 c))).run P w = .ok (.map (some w.heap.size)) (w.alloc (.map #[] 0)) := by
  simp [Instr.makeMap, run_underlying ht, asInt, asIntOf, Result.andThen]
/-- Is it the number of a set? -/
def seB (k : Int) : Bool := decide (0 ≤ k ∧ k ≤ 8191)
theorem seB_of {k : Int} (h : seB k = true) : ∃ s : Nat, k = s ∧ s < 8192 := by
  have := of_decide_eq_true h
  exact ⟨k.toNat, by omega, by omega⟩
theorem seB_no {k : Int} (h : seB k = false) : ¬ (0 ≤ k ∧ k ≤ 8191) := of_decide_eq_false h

theorem isSet_any (k : Int) (w : World) :
    Calls Try.prog 23 #[.int .i64 k] w fun e w' => e = .returned (.bool (seB k)) ∧ w = w' := by
  unfold seB
  by_cases h1 : 0 ≤ k
  · by_cases h2 : k ≤ 8191
    · rw [decide_eq_true (show 0 ≤ k ∧ k ≤ 8191 from ⟨h1, h2⟩)]
      go_enter Try.func23, Try.ntmps23
      go_wp2
      go_ret
      exact ⟨rfl, rfl⟩
    · rw [decide_eq_false (show ¬ (0 ≤ k ∧ k ≤ 8191) from fun h => h2 h.2)]
      go_enter Try.func23, Try.ntmps23
      go_wp2
      go_ret
      exact ⟨rfl, rfl⟩
  · rw [decide_eq_false (show ¬ (0 ≤ k ∧ k ≤ 8191) from fun h => h1 h.1)]
    go_enter Try.func23, Try.ntmps23
    go_wp2
    go_ret
    exact ⟨rfl, rfl⟩

/-- All places below k. -/
def upB (k : Nat) (z : Int) : Bool := decide (0 ≤ z ∧ z < (k : Int))
theorem upB_next (k : Nat) (z : Int) : (upB k z || (z == (k : Int))) = upB (k + 1) z := by
  unfold upB
  by_cases e : z = (k : Int)
  · subst e; simp only [beq_self_eq_true, Bool.or_true]; symm; apply decide_eq_true; omega
  · have e2 : (z == (k : Int)) = false := by simp [e]
    rw [e2, Bool.or_false]; apply decide_eq_decide.2; omega
theorem upB_zero (z : Int) : false = upB 0 z := by unfold upB; symm; apply decide_eq_false; omega

set_option maxHeartbeats 2000000 in
theorem circle_any (w : World) :
    Calls Try.prog 24 #[] w fun e w' => e = .returned (.map (some w.heap.size)) ∧ Free Try.prog 3 4 w' w.heap.size 13 (upB 13) ∧ Below w.heap.size w w' := by
  have hmm := fun w => run_makeMap_hint (P := Try.prog) Try.underlying38 13 w
  have h0 := (free_made Try.prog 3 4 w).congr upB_zero
  have b0 := (Below.refl w.heap.size w).alloc (Nat.le_refl _) (.map #[] 0)
  go_enter Try.func24, Try.ntmps24
  go_wp2
  go_loopw [4] (fun i wr => ∃ k : Nat, k ≤ 13 ∧ i = .int .i64 k ∧ Free Try.prog 3 4 wr w.heap.size k (upB k) ∧ Below w.heap.size w wr) (fun i _ => 13 - (intOf i).toNat)
  case atStart => exact ⟨0, Nat.zero_le _, rfl, h0, b0⟩
  case round =>
    obtain ⟨k, hk, rfl, hM, hB⟩ := hrel
    clear h0 b0
    by_cases hlt : k < 13
    · have hwf : (Lit.int .i64 (k : Int)).wf = true := WalkArith.wf_i64 (by omega)
      go_wp2_with (first | (at_mapUpdate; refine free_update _ rfl _ _ _ 38 rfl Try.underlying38 Try.underlying3 Try.underlying4 _ k _ rfl hM (by unfold maxLen; omega) k rfl hwf rfl ?_; intro w1 hM1 hg1) | go_in)
      have hM1 := hM1.congr (upB_next k)
      have hB1 := hB.grown hg1 hB.size (fun q hq => by injection hq with hq; omega)
      clear hM hB hg1
      go_roundw
      case rel => exact ⟨k + 1, by omega, by go_num, hM1, hB1⟩
      case measure => simp [intOf]; omega
    · obtain rfl : k = 13 := by omega
      go_wp2
      go_ret
      exact ⟨rfl, hM, hB⟩

theorem bit_spelt (s k : Nat) (hs : s < 8192) : (bits BinOp.and IntKind.i64 ((s : Int) / 2 ^ k) 1 == 1) = bitS s k := by
  have e : (s : Int) / 2 ^ k = ((s / 2 ^ k : Nat) : Int) := by rw [Int.natCast_ediv]; simp
  have hl : s / 2 ^ k ≤ s := Nat.div_le_self _ _
  rw [e, show (1 : Int) = ((1 : Nat) : Int) from rfl, i64_and_nat _ 1 (by omega) (by omega), Nat.and_one_is_mod]
  unfold bitS
  rcases Nat.mod_two_eq_zero_or_one (s / 2 ^ k) with h | h <;> rw [h] <;> rfl

set_option maxHeartbeats 2000000 in
theorem placesOf_any (s : Nat) (w : World) (hs : s < 8192) :
    Calls Try.prog 26 #[.int .i64 s] w (Made 3 w (fil (bitS s) 13)) := by
  obtain ⟨i0, hi, hz0, hz1, hz2⟩ := info_parts infoInt
  go_enter Try.func26, Try.ntmps26
  go_wp2_with (at_make; refine wpList_make_own _ rfl _ _ 28 rfl w.heap.size 3 i0 (.int .i64 0) 1 Try.underlying28 hi hz0 hz1 _ _ _ 13 rfl rfl rfl ?c1 ?c2 ?c3 ?_)
  case c1 => rw [hz2]; omega
  case c2 => unfold maxLen; omega
  case c3 => omega
  intro w1 hown hgrow
  have hO : Own 3 w.heap.size w1 _ (fil (bitS s) 0) := hown
  have hB := (Below.refl w.heap.size w).grown hgrow (Nat.le_refl _) (by simp)
  clear hown hgrow
  go_wp2
  go_loopw [6, 3] (fun i o wr => ∃ k : Nat, k ≤ 13 ∧ i = .int .i64 k ∧ Own 3 w.heap.size wr o (fil (bitS s) k) ∧ Below w.heap.size w wr) (fun i _ _ => 13 - (intOf i).toNat)
  case atStart => exact ⟨0, Nat.zero_le _, rfl, hO, hB⟩
  case round =>
    obtain ⟨k, hk, rfl, hO, hB⟩ := hrel
    by_cases hlt : k < 13
    · have hbs := bit_spelt s k hs
      cases hb : bitS s k with
      | false =>
        rw [hb] at hbs
        have hO2 := hO
        rw [← fil_no (n := k) (show ¬ bitS s k = true by rw [hb]; simp)] at hO2
        have HO := Lib.hid hO2
        have HB := Lib.hid hB
        clear hO hO2 hB
        go_wp2
        go_roundw
        case rel => exact ⟨k + 1, by omega, by go_num, HO.out, HB.out⟩
        case measure => simp [intOf]; omega
      | true =>
        rw [hb] at hbs
        have hfl := fil_len (bitS s) k
        go_wp2_with (at_builtin; refine app_int rfl _ _ 28 rfl w.heap.size 3 Try.underlying28 infoInt _ _ rfl (hO.grow _) ⟨wr.heap.size, 0, none⟩ rfl (k : Int) ?q1 ?q2 ?q3 ?_)
        case q1 => exact cell_new1 _ _ _
        case q2 => omega
        case q3 => have := hB.size; simp; omega
        intro v' w2 hO' hg'
        have hB' := app_below hB hO hg'
        rw [← fil_yes hb] at hO'
        clear hO hB hg'
        go_wp2
        go_roundw
        case rel => exact ⟨k + 1, by omega, by go_num, hO', hB'⟩
        case measure => simp [intOf]; omega
    · obtain rfl : k = 13 := by omega
      go_wp2
      go_ret
      exact ⟨_, rfl, hO, hB⟩

theorem own_eq {E B : Nat} {w : World} {v : Value} {xs ys : List Int} (h : Own E B w v xs) (e : xs = ys) : Own E B w v ys := e ▸ h
/-- All numbers of a list are places. -/
def Plc (xs : List Int) : Prop := ∀ j, j < xs.length → 0 ≤ ix xs j ∧ ix xs j < 13
theorem smA_part (xs ys : List Int) (k : Nat) : smA xs ys k ++ tab 0 (fun j => (ix xs k + ix ys j) % 13) = smA xs ys k := by rw [tab_zero, List.append_nil]

set_option maxHeartbeats 4000000 in
theorem sumsOf_any (u v : Value) (xs ys : List Int) (w : World) (hx : Rd w u xs) (hy : Rd w v ys) (hl : xs.length ≤ 13) (hm : ys.length ≤ 13) (px : Plc xs) (py : Plc ys) :
    Calls Try.prog 25 #[u, v] w (Made 3 w (smL xs ys)) := by
  obtain ⟨i0, hi, hz0, hz1, hz2⟩ := info_parts infoInt
  obtain ⟨a, cap, rfl, hx⟩ := hx
  obtain ⟨a2, cap2, rfl, hy⟩ := hy
  have hmul : xs.length * ys.length ≤ 169 := Nat.le_trans (Nat.mul_le_mul hl hm) (by decide)
  have HPX := Lib.hid px
  have HPY := Lib.hid py
  have HX := Lib.hid hx
  have HY := Lib.hid hy
  obtain ⟨n, hn⟩ : ∃ n, n = xs.length := ⟨_, rfl⟩
  obtain ⟨m, hm0⟩ : ∃ m, m = ys.length := ⟨_, rfl⟩
  have HN := Lib.hid hn
  have HM := Lib.hid hm0
  rw [← hn, ← hm0] at hmul
  rw [← hn] at hl
  rw [← hm0] at hm
  rw [← hn, ← hm0]
  clear hx hy px py hn hm0
  go_enter Try.func25, Try.ntmps25
  go_wp2_with (at_make; refine wpList_make_own _ rfl _ _ 28 rfl w.heap.size 3 i0 (.int .i64 0) 1 Try.underlying28 hi hz0 hz1 _ _ _ (n * m) rfl rfl ?c0 ?c1 ?c2 ?c3 ?_)
  case c0 => rw [← Int.natCast_mul]
  case c1 => rw [hz2]; omega
  case c2 => unfold maxLen; omega
  case c3 => omega
  intro w1 hown hgrow
  have hO : Own 3 w.heap.size w1 _ (smA xs ys 0) := hown
  have hB := (Below.refl w.heap.size w).grown hgrow (Nat.le_refl _) (by simp)
  clear hown hgrow
  go_wp2
  go_loopw [18, 5] (fun i o wr => ∃ k : Nat, k ≤ n ∧ i = .int .i64 k ∧ Own 3 w.heap.size wr o (smA xs ys k) ∧ Below w.heap.size w wr) (fun i _ _ => n - (intOf i).toNat)
  case atStart => exact ⟨0, Nat.zero_le _, rfl, hO, hB⟩
  case round =>
    obtain ⟨k, hk, rfl, hO1, hB1⟩ := hrel
    clear hO hB
    by_cases hlt : k < n
    · have hkx : k < xs.length := by rw [← HN.out]; exact hlt
      rcases HX.out with hx0 | ⟨b, off, ha, hbl, hc⟩
      · rw [hx0] at hkx; exact absurd hkx (Nat.not_lt_zero k)
      · subst ha
        have hcx := (hB1.cell (p := ⟨b, off + k, none⟩) hbl).trans (hc k hkx)
        obtain ⟨x, hxe⟩ : ∃ x, x = ix xs k := ⟨_, rfl⟩
        have hxp := HPX.out k hkx
        rw [← hxe] at hcx hxp
        have HXE := Lib.hid hxe
        have h2 := own_eq hO1 (show smA xs ys k = smA xs ys k ++ tab 0 fun j => (x + ix ys j) % 13 by rw [tab_zero, List.append_nil])
        clear hkx hc hxe hO1
        have i1 : (k : Int) < (n : Int) := by omega
        go_wp2
        go_loopw [24, 5] (fun i o wr => ∃ l : Nat, l ≤ m ∧ i = .int .i64 l ∧ Own 3 w.heap.size wr o (smA xs ys k ++ tab l fun j => (x + ix ys j) % 13) ∧ Below w.heap.size w wr) (fun i _ _ => m - (intOf i).toNat)
        case atStart => exact ⟨0, Nat.zero_le _, rfl, h2, hB1⟩
        case round =>
          obtain ⟨l, hl2, rfl, hO3, hB3⟩ := hrel
          clear h2 hB1 hcx
          by_cases hlm : l < m
          · have hly : l < ys.length := by rw [← HM.out]; exact hlm
            rcases HY.out with hy0 | ⟨b2, off2, ha2, hbl2, hc2⟩
            · rw [hy0] at hly; exact absurd hly (Nat.not_lt_zero l)
            · subst ha2
              have hcy := (hB3.cell (p := ⟨b2, off2 + l, none⟩) hbl2).trans (hc2 l hly)
              obtain ⟨y, hye⟩ : ∃ y, y = ix ys l := ⟨_, rfl⟩
              have hyp := HPY.out l hly
              rw [← hye] at hcy hyp
              have HYE := Lib.hid hye
              have j2 : IntKind.i64.wrap (x + y) = x + y := IntWalk.i64_in _ (by omega)
              have j3 : IntKind.i64.wrap ((x + y).tmod 13) = (x + y) % 13 := by rw [Int.tmod_eq_emod_of_nonneg (by omega)]; exact IntWalk.i64_in _ (by omega)
              have i2 : (l : Int) < (m : Int) := by omega
              have hll := Lib.hid (show (smA xs ys k ++ tab l fun j => (x + ix ys j) % 13).length ≤ 16777216 by
                rw [List.length_append, len_tab, smA_len, ← HM.out]
                have : k * m ≤ 13 * 13 := Nat.mul_le_mul (by omega) hm
                omega)
              clear hly hc2 hye
              go_wp2_with (at_builtin; refine app_int rfl _ _ 28 rfl w.heap.size 3 Try.underlying28 infoInt _ _ rfl (hO3.grow _) ⟨wr.heap.size, 0, none⟩ rfl ((x + y) % 13) ?q1 ?q2 ?q3 ?_)
              case q1 => first | exact cell_new1 _ _ _ | (rw [← j3, ← j2]; exact cell_new1 _ _ _)
              case q2 => exact hll.out
              case q3 => have := hB3.size; simp; omega
              intro v' w2 hO' hg'
              have hB' := app_below hB3 hO3 hg'
              rw [tab_snoc l _ _ (show (x + y) % 13 = (x + ix ys l) % 13 by rw [HYE.out])] at hO'
              clear hO3 hB3 hg' j2 j3
              go_wp2
              go_roundw
              case rel => exact ⟨l + 1, by omega, by go_num, hO', hB'⟩
              case measure => simp [intOf]; omega
          · obtain rfl : l = m := by omega
            have HO := Lib.hid (own_eq hO3 (show _ = smA xs ys (k + 1) by rw [smA, ← HM.out, ← HXE.out]))
            clear hO3
            go_wp2
            go_roundw
            case rel => exact ⟨k + 1, by omega, by go_num, HO.out, hB3⟩
            case measure => simp [intOf]; omega
    · obtain rfl : k = n := by omega
      have HO := Lib.hid (own_eq hO1 (show _ = smL xs ys by rw [smL, ← HN.out]))
      clear hO1
      go_wp2
      go_ret
      exact ⟨_, rfl, HO.out, hB1⟩
end Go.Proofs.Ytagncoahobghpaa
