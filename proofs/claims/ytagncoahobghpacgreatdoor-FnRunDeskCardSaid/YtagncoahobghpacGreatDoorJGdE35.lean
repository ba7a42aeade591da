/-
  Joined texts: PdS, SfM.
-/
import Derived.Test.YtagncoahobghpacGreatDoorJGdE19
import Derived.Test.YtagncoahobghpacGreatDoorJGdE26
namespace Go.Proofs.YtagncoahobghpacGreatDoor
open Go.RowKit
set_option linter.unusedVariables false

/-- The sums of products of numbers that are apart. -/
def selL (xs : List Int) : List Int := tab xs.length fun d => wrap64 (slf (ix xs) xs.length d)
def selF (xs : List Int) : List Int := if vrB xs = true then selL xs else []
theorem selF_yes {xs : List Int} (h : vrB xs = true) : selF xs = selL xs := by unfold selF; exact if_pos h
theorem selF_no {xs : List Int} (h : vrB xs = false) : selF xs = [] := by unfold selF; exact if_neg (by simp [h])
theorem len_selL (xs : List Int) : (selL xs).length = xs.length := by simp [selL]
theorem selF_len (xs : List Int) (h : xs.length ≤ 1048576) : (selF xs).length ≤ 1048576 := by unfold selF; split <;> simp [len_selL, h]
theorem slf_sum (F : Nat → Int) (n d : Nat) : slf F n d = sumN (fun i => F i * F (i + d)) (n - d) := rfl

set_option maxHeartbeats 4000000 in
theorem specitself_any (v : Value) (xs : List Int) (w : World) (h : Rd w v xs) (hl : xs.length ≤ 1048576) :
    Calls Tryz.prog 40 #[v] w (Made 3 w (selL xs)) := by
  obtain ⟨a, cap, rfl, h⟩ := h
  rcases h with rfl | ⟨b, off, rfl, hb, hc⟩
  · go_enter Tryz.func40, Tryz.ntmps40
    go_wp2
    refine wp_loop_rounds 1 ?_
    rw [rounds_succ]
    go_wp2
    go_ret
    exact ⟨_, rfl, own_empty _ _ _ (Nat.le_refl _), (Below.refl _ _).alloc (Nat.le_refl _) _⟩
  · obtain ⟨F, hF⟩ : ∃ F, F = ix xs := ⟨_, rfl⟩
    obtain ⟨n, hn⟩ : ∃ n, n = xs.length := ⟨_, rfl⟩
    have HZ := Lib.hid (show selL xs = tab n fun d => wrap64 (slf F n d) by rw [hF, hn]; rfl)
    rw [← hF, ← hn] at hc
    rw [← hn] at hl ⊢
    have HC := Lib.hid hc
    clear hF hn hc
    go_enter Tryz.func40, Tryz.ntmps40
    go_wp2
    go_loopw [3, 4] (fun u d wr => ∃ (k ca : Nat) (ga : Option Addr), k ≤ n ∧ d = .int .i64 k ∧ u = .slice ga k ca ∧ Own 3 w.heap.size wr (.slice ga k ca) (tab k fun d => wrap64 (slf F n d)) ∧ Below w.heap.size w wr)
      (fun _ d _ => n - (intOf d).toNat)
    case atStart => exact ⟨0, _, _, Nat.zero_le _, rfl, rfl, own_empty _ _ _ (Nat.le_refl _), (Below.refl _ _).alloc (Nat.le_refl _) _⟩
    case round =>
      obtain ⟨k, ca, ga, hk, rfl, rfl, hO, hB⟩ := hrel
      by_cases hlt : k < n
      · have k0 : (k : Int) < (n : Int) := by omega
        go_wp2
        go_loopw [5, 6] (fun s i wr => ∃ t : Nat, t + k ≤ n ∧ i = .int .i64 t ∧ s = .int .i64 (wrap64 (sumN (fun i => F i * F (i + k)) t)) ∧ Own 3 w.heap.size wr (.slice ga k ca) (tab k fun d => wrap64 (slf F n d)) ∧ Below w.heap.size w wr) (fun _ i _ => n - (intOf i).toNat)
        case atStart => exact ⟨0, by omega, rfl, by simp [sumN, wrap64], hO, hB⟩
        case round =>
          obtain ⟨t, ht, rfl, rfl, hO, hB⟩ := hrel
          by_cases htl : t + k < n
          · have da : wr.cell? ⟨b, off + t, none⟩ = some (.int .i64 (F t)) := by rw [hB.cell (p := ⟨b, off + t, none⟩) hb, HC.out t (by omega)]
            have db : wr.cell? ⟨b, off + (t + k), none⟩ = some (.int .i64 (F (t + k))) := by rw [hB.cell (p := ⟨b, off + (t + k), none⟩) hb, HC.out (t + k) htl]
            have i1 : (t : Int) + (k : Int) < (n : Int) := by omega
            have i2 : (0 : Int) ≤ (t : Int) + (k : Int) := by omega
            have i3 : (t : Int) < (n : Int) := by omega
            have j1 : IntKind.i64.wrap ((t : Int) + (k : Int)) = (t : Int) + (k : Int) := IntWalk.i64_in _ (by omega)
            have j2 : ((t : Int) + (k : Int)).toNat = t + k := by omega
            have HS := Lib.hid (show wrap64 (sumN (fun i => F i * F (i + k)) (t + 1)) = wrap64 (wrap64 (sumN (fun i => F i * F (i + k)) t) + wrap64 (F t * F (t + k))) by rw [w64_add]; rfl)
            obtain ⟨p0, hp0⟩ : ∃ p, p = wrap64 (sumN (fun i => F i * F (i + k)) t) := ⟨_, rfl⟩
            rw [← hp0] at HS ⊢
            obtain ⟨q0, hq0⟩ : ∃ p, p = wrap64 (F t * F (t + k)) := ⟨_, rfl⟩
            obtain ⟨z, hz⟩ : ∃ z, z = wrap64 (p0 + q0) := ⟨_, rfl⟩
            rw [← hq0, ← hz] at HS
            have j3 : IntKind.i64.wrap (F t * F (t + k)) = q0 := by rw [hq0, IntKind.wrap_i64]; unfold wrap64; rfl
            have j4 : IntKind.i64.wrap (p0 + q0) = z := by rw [hz, IntKind.wrap_i64]; unfold wrap64; rfl
            have HO := Lib.hid hO
            have HB := Lib.hid hB
            clear hp0 hq0 hz hO hB
            go_wp2
            go_quiet (fail)
            go_wp2
            go_roundw
            case rel => exact ⟨t + 1, by omega, by go_num, by rw [HS.out], HO.out.below (below_drewN (Below.refl wr.heap.size wr) nq) (Nat.le_refl _), below_drewN HB.out nq⟩
            case measure => simp [intOf]; omega
          · have HT := Lib.hid (show wrap64 (sumN (fun i => F i * F (i + k)) t) = wrap64 (slf F n k) by rw [slf_sum, show t = n - k by omega])
            obtain ⟨z, hz⟩ : ∃ z, z = wrap64 (sumN (fun i => F i * F (i + k)) t) := ⟨_, rfl⟩
            rw [← hz] at HT ⊢
            have i1 : (n : Int) ≤ (t : Int) + (k : Int) := by omega
            have j1 : IntKind.i64.wrap ((t : Int) + (k : Int)) = (t : Int) + (k : Int) := IntWalk.i64_in _ (by omega)
            clear hz
            go_wp2_with (at_builtin; refine app_int rfl _ _ 35 rfl w.heap.size 3 Tryz.underlying35 infoInt _ _ rfl (hO.grow _) ⟨wr.heap.size, 0, none⟩ rfl z ?e1 ?e2 ?e3 ?_)
            case e1 => exact cell_new1 _ _ _
            case e2 => simp; omega
            case e3 => have := hB.size; simp; omega
            intro v' w1 hO' hg'
            have hB' := app_below hB hO hg'
            rw [tab_snoc k _ _ HT.out] at hO'
            obtain ⟨ga', ca', rfl⟩ := own_slN hO' (len_tab _ _)
            clear hO hB hg'
            go_wp2
            go_roundw
            case rel => exact ⟨k + 1, ca', ga', by omega, by go_num, rfl, hO', hB'⟩
            case measure => simp [intOf]; omega
      · obtain rfl : k = n := by omega
        rw [← HZ.out] at hO
        have HO := Lib.hid hO
        clear hO
        go_wp2
        go_ret
        exact ⟨_, rfl, HO.out, hB⟩

end Go.Proofs.YtagncoahobghpacGreatDoor

namespace Go.Proofs.YtagncoahobghpacGreatDoor
open Go.RowKit
set_option linter.unusedVariables false

theorem sumN_from (h : Nat → Int) (d : Nat) : ∀ n, sumN (fun x => if d ≤ x then h x else 0) n = sumN (fun i => h (i + d)) (n - d) := by
  intro n
  induction n with
  | zero => simp [sumN]
  | succ n ih =>
    rw [sumN, ih]
    by_cases e : d ≤ n
    · rw [if_pos e, show n + 1 - d = (n - d) + 1 by omega, sumN, Nat.sub_add_cancel e]
    · rw [if_neg e, show n + 1 - d = n - d by omega, Int.add_zero]
theorem mul_turned (F : Nat → Int) {n d : Nat} (hd : d < n) : mulE F (fun p => F (n - 1 - p)) n n (n - 1 + d) = slf F n d := by
  unfold mulE
  rw [sumN_congr (g := fun x => if d ≤ x then F x * F (x - d) else 0) (fun x hx => by
    by_cases e : d ≤ x
    · rw [if_pos e, sumN_congr (g := fun y => if y = n - 1 + d - x then F x * F (n - 1 - y) else 0) (fun y _ => by
        by_cases q : x + y = n - 1 + d
        · rw [if_pos q, if_pos (by omega)]
        · rw [if_neg q, if_neg (by omega)]), sumN_pick (fun y => F x * F (n - 1 - y)) (by omega)]
      congr 2; omega
    · rw [if_neg e]
      exact sumN_zero fun y hy => if_neg (by omega)), sumN_from]
  unfold slf
  refine sumN_congr fun i hi => ?_
  rw [Nat.add_sub_cancel, Int.mul_comm]
def rvL (xs : List Int) : List Int := tab xs.length fun p => ix xs (xs.length - 1 - p)
theorem len_rvL (xs : List Int) : (rvL xs).length = xs.length := len_tab _ _
theorem half_mul (xs : List Int) : (mulL xs (rvL xs)).drop ((mulL xs (rvL xs)).length / 2) = selL xs := by
  by_cases h : xs.length = 0
  · have : xs = [] := List.eq_nil_of_length_eq_zero h
    subst this
    rfl
  · have h2 : (rvL xs).length ≠ 0 := by rw [len_rvL]; exact h
    have hm : mulL xs (rvL xs) = tab (xs.length + xs.length - 1) fun j => wrap64 (mulE (ix xs) (fun p => ix xs (xs.length - 1 - p)) xs.length xs.length j) := by
      rw [mulL_some h h2, len_rvL]
      refine tab_congr fun j _ => ?_
      rw [mul_congr (fun i _ => rfl) (fun i hi => by unfold rvL; rw [ix_tab _ _ _ hi])]
    rw [hm, len_tab, show (xs.length + xs.length - 1) / 2 = xs.length - 1 by omega]
    unfold selL
    refine eq_tab (by rw [List.length_drop, len_tab]; omega) fun d hd => ?_
    have e : ix (List.drop (xs.length - 1) (tab (xs.length + xs.length - 1) fun j => wrap64 (mulE (ix xs) (fun p => ix xs (xs.length - 1 - p)) xs.length xs.length j))) d = wrap64 (mulE (ix xs) (fun p => ix xs (xs.length - 1 - p)) xs.length xs.length (xs.length - 1 + d)) := by
      rw [show ∀ (l : List Int) k, ix (List.drop k l) d = ix l (k + d) from fun l k => by unfold ix; simp [List.getD], ix_tab _ _ _ (by omega)]
    rw [e, mul_turned (ix xs) hd]
theorem mul_turn_len (xs : List Int) : (mulL xs (rvL xs)).length = xs.length + xs.length - 1 := by
  by_cases h : xs.length = 0
  · rw [mulL_none (.inl h), h]; rfl
  · rw [mulL_some h (by rw [len_rvL]; exact h), len_tab, len_rvL]
end Go.Proofs.YtagncoahobghpacGreatDoor
