/-
  SumCounts of the model.
-/
import Derived.Test.YtagncoahobghpaaStS
import Derived.Deep.RegionWith
namespace Go.Proofs.Ytagncoahobghpaa
open Go.RowKit
set_option linter.unusedVariables false

set_option maxHeartbeats 8000000 in
theorem specSumCounts_any (a b : Int) (w : World) :
    Calls Try.prog 14 #[.int .i64 a, .int .i64 b] w (Made 3 w (scF a b)) := by
  have hA := fun w => validMarks_any a w
  have hB := fun w => validMarks_any b w
  cases qa : seB a with
  | false =>
    have e : scF a b = [] := if_neg (by rw [qa]; simp)
    rw [qa] at hA
    rw [e]
    clear hB qa e
    go_enter Try.func14, Try.ntmps14
    go_wp2_with fail
    refine (hA _).mono ?_
    rintro e w1 ⟨rfl, rfl⟩
    go_wp2
    go_ret
    exact ⟨_, rfl, Own.nil _ _ _, Below.refl _ _⟩
  | true =>
    cases qb : seB b with
    | false =>
      have e : scF a b = [] := if_neg (by rw [qb]; simp)
      rw [qa] at hA
      rw [qb] at hB
      rw [e]
      clear qa qb e
      go_enter Try.func14, Try.ntmps14
      go_wp2_with fail
      refine (hA _).mono ?_
      rintro e w1 ⟨rfl, rfl⟩
      go_wp2_with fail
      refine (hB _).mono ?_
      rintro e w1 ⟨rfl, rfl⟩
      go_wp2
      go_ret
      exact ⟨_, rfl, Own.nil _ _ _, Below.refl _ _⟩
    | true =>
      rw [qa] at hA
      rw [qb] at hB
      have e : scF a b = tab 13 fun z => cntP (bitS a.toNat) (bitS b.toNat) z := if_pos ⟨qa, qb⟩
      rw [e]
      obtain ⟨p, rfl, hp⟩ := seB_of qa
      obtain ⟨q, rfl, hq⟩ := seB_of qb
      rw [Int.toNat_natCast, Int.toNat_natCast]
      have HE := Lib.hid (show (tab 13 fun z => mP rnd (inS (bitS p)) (inS (bitS q)) 13 13 0 z) = tab 13 fun z => cntP (bitS p) (bitS q) z from tab_congr fun z _ => cntP_all _ _ z)
      obtain ⟨i0, hi, hz0, hz1, hz2⟩ := info_parts infoInt
      clear qa qb e
      go_enter Try.func14, Try.ntmps14
      go_wp2_with fail
      refine (hA _).mono ?_
      rintro e w1 ⟨rfl, rfl⟩
      go_wp2_with fail
      refine (hB _).mono ?_
      rintro e w1 ⟨rfl, rfl⟩
      clear hA hB
      go_wp2_with (at_make; refine wpList_make_full _ rfl _ _ 28 rfl w.heap.size 3 i0 (.int .i64 0) 1 Try.underlying28 hi hz0 hz1 _ _ _ _ 13 rfl rfl rfl rfl ?c1 ?c2 ?c3 ?_)
      case c1 => rw [hz2]; omega
      case c2 => unfold maxLen; omega
      case c3 => omega
      intro w1 hown hgrow
      have hO := own_made hown
      have hB := (Below.refl w.heap.size w).grown hgrow (Nat.le_refl _) (by simp)
      have hO := own_eq hO (show (tab 13 fun _ => 0) = tab 13 fun z => mP rnd (inS (bitS p)) (inS (bitS q)) 13 0 0 z from rfl)
      clear hown hgrow
      go_wp2
      go_loopw [6] (fun i wr => ∃ x : Nat, x ≤ 13 ∧ i = .int .i64 x ∧ Own 3 w.heap.size wr (.slice (some ⟨w.heap.size, 0, none⟩) 13 13) (tab 13 fun z => mP rnd (inS (bitS p)) (inS (bitS q)) 13 x 0 z) ∧ Below w.heap.size w wr) (fun i _ => 13 - (intOf i).toNat)
      case atStart => exact ⟨0, Nat.zero_le _, rfl, hO, hB⟩
      case round =>
        obtain ⟨x, hx, rfl, hO1, hB1⟩ := hrel
        clear hO hB
        by_cases hlt : x < 13
        · have i1 : (x : Int) < 13 := by omega
          go_wp2
          go_loopw [7] (fun i wr => ∃ y : Nat, y ≤ 13 ∧ i = .int .i64 y ∧ Own 3 w.heap.size wr (.slice (some ⟨w.heap.size, 0, none⟩) 13 13) (tab 13 fun z => mP rnd (inS (bitS p)) (inS (bitS q)) 13 x y z) ∧ Below w.heap.size w wr) (fun i _ => 13 - (intOf i).toNat)
          case atStart => exact ⟨0, Nat.zero_le _, rfl, hO1, hB1⟩
          case round =>
            obtain ⟨y, hy, rfl, hO2, hB2⟩ := hrel
            clear hO1 hB1
            by_cases hly : y < 13
            · have i2 : (y : Int) < 13 := by omega
              have HA := Lib.hid fun w => bit_in p x w (by omega) (by omega)
              have HB := Lib.hid fun w => bit_in q y w (by omega) (by omega)
              have ht : (x + y) % 13 < 13 := Nat.mod_lt _ (by decide)
              obtain ⟨t, hte⟩ : ∃ t, t = (x + y) % 13 := ⟨_, rfl⟩
              rw [← hte] at ht
              have h0 := hO2.cell t (by rw [len_tab]; exact ht)
              rw [ix_tab _ _ _ ht] at h0
              have hf := hO2.frozen t
              have hmb := mP_01 (bitS p) (bitS q) x y t
              have hua := inS_01 (bitS p) x
              have hub := inS_01 (bitS q) y
              obtain ⟨m, hm⟩ : ∃ m, m = mP rnd (inS (bitS p)) (inS (bitS q)) 13 x y t := ⟨_, rfl⟩
              obtain ⟨c, hc⟩ : ∃ c, c = inS (bitS p) x * inS (bitS q) y := ⟨_, rfl⟩
              have HO2 := Lib.hid (own_eq (hO2.set t (m + c)) (show _ = tab 13 fun z => mP rnd (inS (bitS p)) (inS (bitS q)) 13 x (y + 1) z by
                rw [tab_set]
                refine tab_congr fun z hz => ?_
                rw [mP_one]
                by_cases e : z = t
                · subst e; rw [if_pos rfl, if_pos (show rnd x y = z from hte.symm), hm, hc]
                · rw [if_neg e, if_neg (show ¬ rnd x y = z from fun r => e (by rw [← r, hte]; rfl))]; omega))
              have HB2 := Lib.hid (hB2.drew.setCell (p := ⟨w.heap.size, t, none⟩) (Nat.le_refl _) (.int .i64 (m + c)))
              have hcb : 0 ≤ c ∧ c ≤ 1 := by
                rw [hc]
                rcases hua with ⟨h, _⟩ | ⟨h, _⟩ <;> rcases hub with ⟨k, _⟩ | ⟨k, _⟩ <;> rw [h, k] <;> decide
              rw [← hm] at h0 hmb
              obtain ⟨u, hu⟩ : ∃ u, u = inS (bitS p) x := ⟨_, rfl⟩
              obtain ⟨v, hv⟩ : ∃ v, v = inS (bitS q) y := ⟨_, rfl⟩
              rw [← hu, ← hv] at hc
              rw [← hu] at HA
              rw [← hv] at HB
              have b1 : -1000000 ≤ (x : Int) + (y : Int) ∧ (x : Int) + (y : Int) ≤ 1000000 := by omega
              have b2 : -1000000 ≤ c ∧ c ≤ 1000000 := by omega
              have b3 : -1000000 ≤ m + c ∧ m + c ≤ 1000000 := by omega
              have j2 : ((x : Int) + (y : Int)) % 13 = (t : Int) := by omega
              have j1 : IntKind.i64.wrap ((x : Int) + (y : Int)) = (x : Int) + (y : Int) := i64_sm b1
              have j3 : IntKind.i64.wrap (u * v) = c := by rw [← hc]; exact i64_sm b2
              have j4 : IntKind.i64.wrap (m + c) = m + c := i64_sm b3
              have i3 : (t : Int) < 13 := by omega
              clear hO2 hB2 hm hu hv hua hub hmb hcb hc hte b1 b2 b3
              go_wp2
              go_region_with
                (first
                  | (go_at_call_of 29 (Value.int .i64 (p : Int)); refine (HA.out _).mono ?_; rintro e w3 ⟨rfl, rfl⟩)
                  | (go_at_call_of 29 (Value.int .i64 (q : Int)); refine (HB.out _).mono ?_; rintro e w3 ⟨rfl, rfl⟩))
              all_goals
                go_wp2
                go_roundw
                case rel => exact ⟨y + 1, by omega, by go_num, HO2.out, HB2.out⟩
                case measure => simp [intOf]; omega
            · obtain rfl : y = 13 := by omega
              have HO2 := Lib.hid (own_eq hO2 (show _ = tab 13 fun z => mP rnd (inS (bitS p)) (inS (bitS q)) 13 (x + 1) 0 z from tab_congr fun z _ => by rw [mP_next]))
              clear hO2
              go_wp2
              go_roundw
              case rel => exact ⟨x + 1, by omega, by go_num, HO2.out, hB2⟩
              case measure => simp [intOf]; omega
        · obtain rfl : x = 13 := by omega
          have HO2 := Lib.hid (own_eq hO1 HE.out)
          clear hO1
          go_wp2
          go_ret
          exact ⟨_, rfl, HO2.out, hB1⟩
end Go.Proofs.Ytagncoahobghpaa
