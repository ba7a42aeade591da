/-
  Rows beside themselves: the model, by its contracts.
-/
import Derived.Test.YtagncoahobghpacPdP
import Derived.Test.YtagncoahobghpacApp2
namespace Go.Proofs.Ytagncoahobghpac
open Go.RowKit
set_option linter.unusedVariables false

/-- The sums of products of numbers that are apart. -/
def selL (xs : List Int) : List Int := tab xs.length fun d => wrap64 (slf (ix xs) xs.length d)
def selF (xs : List Int) : List Int := if vrB xs = true then selL xs else []
theorem selF_yes {xs : List Int} (h : vrB xs = true) : selF xs = selL xs := by unfold selF; exact if_pos h
theorem selF_no {xs : List Int} (h : vrB xs = false) : selF xs = [] := by unfold selF; exact if_neg (by simp [h])
theorem len_selL (xs : List Int) : (selL xs).length = xs.length := by simp [selL]
theorem selF_len (xs : List Int) (h : xs.length ≤ 1048576) : (selF xs).length ≤ 1048576 := by unfold selF; split <;> simp [len_selL, h]
theorem slf_sum (F : Nat → Int) (n d : Nat) : slf F n d = sumN (fun i => F i * F (i + d)) (n - d) := rfl

set_option maxHeartbeats 4000000 in
theorem specitself_any (v : Value) (xs : List Int) (w : World) (h : Rd w v xs) (hl : xs.length ≤ 1048576) :
    Calls Try.prog 32 #[v] w (Made 3 w (selL xs)) := by
  obtain ⟨a, cap, rfl, h⟩ := h
  rcases h with rfl | ⟨b, off, rfl, hb, hc⟩
  · go_enter Try.func32, Try.ntmps32
    go_wp2
    refine wp_loop_rounds 1 ?_
    rw [rounds_succ]
    go_wp2
    go_ret
    exact ⟨_, rfl, own_empty _ _ _ (Nat.le_refl _), (Below.refl _ _).alloc (Nat.le_refl _) _⟩
  · obtain ⟨F, hF⟩ : ∃ F, F = ix xs := ⟨_, rfl⟩
    obtain ⟨n, hn⟩ : ∃ n, n = xs.length := ⟨_, rfl⟩
    have HZ := Lib.hid (show selL xs = tab n fun d => wrap64 (slf F n d) by rw [hF, hn]; rfl)
    rw [← hF, ← hn] at hc
    rw [← hn] at hl ⊢
    have HC := Lib.hid hc
    clear hF hn hc
    go_enter Try.func32, Try.ntmps32
    go_wp2
    go_loopw [3, 4] (fun u d wr => ∃ (k ca : Nat) (ga : Option Addr), k ≤ n ∧ d = .int .i64 k ∧ u = .slice ga k ca ∧ Own 3 w.heap.size wr (.slice ga k ca) (tab k fun d => wrap64 (slf F n d)) ∧ Below w.heap.size w wr)
      (fun _ d _ => n - (intOf d).toNat)
    case atStart => exact ⟨0, _, _, Nat.zero_le _, rfl, rfl, own_empty _ _ _ (Nat.le_refl _), (Below.refl _ _).alloc (Nat.le_refl _) _⟩
    case round =>
      obtain ⟨k, ca, ga, hk, rfl, rfl, hO, hB⟩ := hrel
      by_cases hlt : k < n
      · have k0 : (k : Int) < (n : Int) := by omega
        go_wp2
        go_loopw [5, 6] (fun s i wr => ∃ t : Nat, t + k ≤ n ∧ i = .int .i64 t ∧ s = .int .i64 (wrap64 (sumN (fun i => F i * F (i + k)) t)) ∧ Own 3 w.heap.size wr (.slice ga k ca) (tab k fun d => wrap64 (slf F n d)) ∧ Below w.heap.size w wr) (fun _ i _ => n - (intOf i).toNat)
        case atStart => exact ⟨0, by omega, rfl, by simp [sumN, wrap64], hO, hB⟩
        case round =>
          obtain ⟨t, ht, rfl, rfl, hO, hB⟩ := hrel
          by_cases htl : t + k < n
          · have da : wr.cell? ⟨b, off + t, none⟩ = some (.int .i64 (F t)) := by rw [hB.cell (p := ⟨b, off + t, none⟩) hb, HC.out t (by omega)]
            have db : wr.cell? ⟨b, off + (t + k), none⟩ = some (.int .i64 (F (t + k))) := by rw [hB.cell (p := ⟨b, off + (t + k), none⟩) hb, HC.out (t + k) htl]
            have i1 : (t : Int) + (k : Int) < (n : Int) := by omega
            have i2 : (0 : Int) ≤ (t : Int) + (k : Int) := by omega
            have i3 : (t : Int) < (n : Int) := by omega
            have j1 : IntKind.i64.wrap ((t : Int) + (k : Int)) = (t : Int) + (k : Int) := IntWalk.i64_in _ (by omega)
            have j2 : ((t : Int) + (k : Int)).toNat = t + k := by omega
            have HS := Lib.hid (show wrap64 (sumN (fun i => F i * F (i + k)) (t + 1)) = wrap64 (wrap64 (sumN (fun i => F i * F (i + k)) t) + wrap64 (F t * F (t + k))) by rw [w64_add]; rfl)
            obtain ⟨p0, hp0⟩ : ∃ p, p = wrap64 (sumN (fun i => F i * F (i + k)) t) := ⟨_, rfl⟩
            rw [← hp0] at HS ⊢
            obtain ⟨q0, hq0⟩ : ∃ p, p = wrap64 (F t * F (t + k)) := ⟨_, rfl⟩
            obtain ⟨z, hz⟩ : ∃ z, z = wrap64 (p0 + q0) := ⟨_, rfl⟩
            rw [← hq0, ← hz] at HS
            have j3 : IntKind.i64.wrap (F t * F (t + k)) = q0 := by rw [hq0, IntKind.wrap_i64]; unfold wrap64; rfl
            have j4 : IntKind.i64.wrap (p0 + q0) = z := by rw [hz, IntKind.wrap_i64]; unfold wrap64; rfl
            have HO := Lib.hid hO
            have HB := Lib.hid hB
            clear hp0 hq0 hz hO hB
            go_wp2
            go_quiet (fail)
            go_wp2
            go_roundw
            case rel => exact ⟨t + 1, by omega, by go_num, by rw [HS.out], HO.out.below (below_drewN (Below.refl wr.heap.size wr) nq) (Nat.le_refl _), below_drewN HB.out nq⟩
            case measure => simp [intOf]; omega
          · have HT := Lib.hid (show wrap64 (sumN (fun i => F i * F (i + k)) t) = wrap64 (slf F n k) by rw [slf_sum, show t = n - k by omega])
            obtain ⟨z, hz⟩ : ∃ z, z = wrap64 (sumN (fun i => F i * F (i + k)) t) := ⟨_, rfl⟩
            rw [← hz] at HT ⊢
            have i1 : (n : Int) ≤ (t : Int) + (k : Int) := by omega
            have j1 : IntKind.i64.wrap ((t : Int) + (k : Int)) = (t : Int) + (k : Int) := IntWalk.i64_in _ (by omega)
            clear hz
            go_wp2_with (at_builtin; refine app_int rfl _ _ 23 rfl w.heap.size 3 Try.underlying23 infoInt _ _ rfl (hO.grow _) ⟨wr.heap.size, 0, none⟩ rfl z ?e1 ?e2 ?e3 ?_)
            case e1 => exact cell_new1 _ _ _
            case e2 => simp; omega
            case e3 => have := hB.size; simp; omega
            intro v' w1 hO' hg'
            have hB' := app_below hB hO hg'
            rw [tab_snoc k _ _ HT.out] at hO'
            obtain ⟨ga', ca', rfl⟩ := own_slN hO' (len_tab _ _)
            clear hO hB hg'
            go_wp2
            go_roundw
            case rel => exact ⟨k + 1, ca', ga', by omega, by go_num, rfl, hO', hB'⟩
            case measure => simp [intOf]; omega
      · obtain rfl : k = n := by omega
        rw [← HZ.out] at hO
        have HO := Lib.hid hO
        clear hO
        go_wp2
        go_ret
        exact ⟨_, rfl, HO.out, hB⟩

theorem specSelfOf_any (v : Value) (xs : List Int) (w : World) (h : Rd w v xs) (hl : xs.length ≤ maxLen) :
    Calls Try.prog 14 #[v] w (Made 3 w (selF xs)) := by
  have hv := specvalid_any v xs w h hl
  cases hb : vrB xs with
  | false =>
    rw [hb] at hv
    have HF := Lib.hid (selF_no hb)
    obtain ⟨a, cap, rfl, -⟩ := h
    clear hb
    go_enter Try.func14, Try.ntmps14
    go_wp2_with fail
    refine hv.mono ?_
    rintro e w1 ⟨rfl, b1⟩
    go_wp2
    go_ret
    exact ⟨_, rfl, by rw [HF.out]; exact Own.nil _ _ _, b1⟩
  | true =>
    rw [hb] at hv
    have HF := Lib.hid (selF_yes hb)
    have n1 := (vrB_of hb).1
    have HP := Lib.hid fun w1 (b : Below w.heap.size w w1) => specitself_any v xs w1 (h.below b (Nat.le_refl _)) (by omega)
    obtain ⟨a, cap, rfl, -⟩ := h
    clear hb n1
    go_enter Try.func14, Try.ntmps14
    go_wp2_with fail
    refine hv.mono ?_
    rintro e w1 ⟨rfl, b1⟩
    go_wp2_with fail
    refine (HP.out _ b1).mono ?_
    rintro e w3 ⟨v3, rfl, o3, b3⟩
    go_wp2
    go_ret
    exact ⟨_, rfl, by rw [HF.out]; exact o3.mono b1.size, b1.trans (b3.mono b1.size)⟩

end Go.Proofs.Ytagncoahobghpac
