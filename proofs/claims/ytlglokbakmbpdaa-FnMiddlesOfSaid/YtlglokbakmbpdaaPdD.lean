/-
  Middles of boxes: the model, by its contracts.
-/
import Derived.Test.YtlglokbakmbpdaaPdB
import Derived.Deep.QuietTactic
import Derived.BigQuiet
namespace Go.Proofs.Ytlglokbakmbpdaa
open Go.RowKit
set_option linter.unusedVariables false

/-- The number at index k is in the middle. -/
def okMd (F : Nat → Int) (n k : Nat) : Prop := lessN F n (F k) ≤ (n / 2 : Nat) ∧ ((n / 2 : Nat) : Int) < lessN F n (F k) + sameN F n (F k)
theorem okMd_mid {F : Nat → Int} {n k : Nat} (hk : k < n) (h : okMd F n k) : IsMid F n (F k) := ⟨⟨k, hk, rfl⟩, h.1, by rw [← less_same]; exact h.2⟩
theorem okMd_of {F : Nat → Int} {n k : Nat} (h : IsMid F n (F k)) : okMd F n k := ⟨h.2.1, by rw [less_same]; exact h.2.2⟩
/-- The number in the middle, looked for from the last one on. -/
def midG (F : Nat → Int) (n : Nat) : Nat → Int
  | 0 => 0
  | k + 1 => if lessN F n (F k) ≤ (n / 2 : Nat) ∧ ((n / 2 : Nat) : Int) < lessN F n (F k) + sameN F n (F k) then F k else midG F n k
def midV (F : Nat → Int) (n : Nat) : Int := midG F n n
theorem midG_mid {F : Nat → Int} {n : Nat} {v : Int} (hv : IsMid F n v) : ∀ k, k ≤ n → (∃ i, i < k ∧ F i = v) → midG F n k = v := by
  intro k
  induction k with
  | zero => rintro _ ⟨i, h, _⟩; omega
  | succ k ih =>
    rintro hk ⟨i, hi, hF⟩
    unfold midG
    by_cases q : okMd F n k
    · have q' : lessN F n (F k) ≤ (n / 2 : Nat) ∧ ((n / 2 : Nat) : Int) < lessN F n (F k) + sameN F n (F k) := q
      rw [if_pos q']; exact mid_one (okMd_mid (by omega) q) hv
    · have q' : ¬ (lessN F n (F k) ≤ (n / 2 : Nat) ∧ ((n / 2 : Nat) : Int) < lessN F n (F k) + sameN F n (F k)) := q
      rw [if_neg q']
      refine ih (by omega) ⟨i, ?_, hF⟩
      apply Classical.byContradiction
      intro r
      have e : i = k := by omega
      subst e
      exact q (okMd_of (by rw [hF]; exact hv))
theorem midV_mid {F : Nat → Int} {n : Nat} {v : Int} (hv : IsMid F n v) : midV F n = v := midG_mid hv n (Nat.le_refl _) hv.1
theorem midV_is {F : Nat → Int} {n : Nat} (hn : 0 < n) : IsMid F n (midV F n) := by
  obtain ⟨v, hv⟩ := mid_ex F hn
  rw [midV_mid hv]; exact hv
theorem midV_congr {F G : Nat → Int} {n : Nat} (hn : 0 < n) (h : ∀ i, i < n → F i = G i) : midV F n = midV G n := by
  obtain ⟨⟨i, hi, hF⟩, h1, h2⟩ := midV_is (F := F) hn
  refine (midV_mid ⟨⟨i, hi, (h i hi) ▸ hF⟩, ?_, ?_⟩).symm
  · have e : lessN G n (midV F n) = lessN F n (midV F n) := by unfold lessN; exact sumN_congr fun i hi => by rw [h i hi]
    rw [e]; exact h1
  · have e : atMost G n (midV F n) = atMost F n (midV F n) := by unfold atMost; exact sumN_congr fun i hi => by rw [h i hi]
    rw [e]; exact h2
theorem cnt_bd (f : Nat → Int) (n : Nat) (h : ∀ i, f i = 0 ∨ f i = 1) : 0 ≤ sumN f n ∧ sumN f n ≤ n := by
  induction n with
  | zero => simp [sumN]
  | succ n ih => rw [sumN]; have := h n; omega
theorem less_bd (F : Nat → Int) (n : Nat) (v : Int) : 0 ≤ lessN F n v ∧ lessN F n v ≤ n := cnt_bd _ _ fun i => by split <;> simp
theorem same_bd (F : Nat → Int) (n : Nat) (v : Int) : 0 ≤ sameN F n v ∧ sameN F n v ≤ n := cnt_bd _ _ fun i => by split <;> simp
theorem less_next (F : Nat → Int) (n : Nat) (v : Int) : lessN F (n + 1) v = lessN F n v + (if F n < v then 1 else 0) := rfl
theorem same_next (F : Nat → Int) (n : Nat) (v : Int) : sameN F (n + 1) v = sameN F n v + (if F n = v then 1 else 0) := rfl

set_option maxHeartbeats 4000000 in
theorem specmiddle_any (b off n c : Nat) (F : Nat → Int) (w : World) (h : ∀ j, j < n → w.cell? ⟨b, off + j, none⟩ = some (.int .i64 (F j))) (hn : 0 < n) (hl : n ≤ 64) :
    Calls Try.prog 58 #[.slice (some ⟨b, off, none⟩) n c] w fun e w' => e = .returned (.int .i64 (midV F n)) ∧ ∃ k, w' = w.drewN k := by
  have HC := Lib.hid h
  clear h
  go_enter Try.func58, Try.ntmps58
  go_wp2
  go_loopw [3] (fun i wr => ∃ k : Nat, k ≤ n ∧ i = .int .i64 k ∧ Hid (∀ x, x < k → ¬ okMd F n x) ∧ Hid (∃ t, wr = w.drewN t)) (fun i _ => n - (intOf i).toNat)
  case atStart => exact ⟨0, Nat.zero_le _, rfl, Lib.hid (fun x hx => absurd hx (Nat.not_lt_zero x)), Lib.hid ⟨0, rfl⟩⟩
  case round =>
    obtain ⟨k, hk, rfl, hno, hW⟩ := hrel
    by_cases hlt : k < n
    · have k0 : (k : Int) < (n : Int) := by omega
      obtain ⟨x, hx⟩ : ∃ x, x = F k := ⟨_, rfl⟩
      have HX := Lib.hid hx
      clear hx
      go_wp2
      go_loopw [4, 5, 6] (fun l s j wr => ∃ t : Nat, t ≤ n ∧ j = .int .i64 t ∧ l = .int .i64 (lessN F t x) ∧ s = .int .i64 (sameN F t x) ∧ Hid (∃ t, wr = w.drewN t)) (fun _ _ j _ => n - (intOf j).toNat)
      case atStart => exact ⟨0, Nat.zero_le _, rfl, rfl, rfl, hW⟩
      case round =>
        obtain ⟨t, ht, rfl, rfl, rfl, hV⟩ := hrel
        clear hW
        by_cases htl : t < n
        · have t0 : (t : Int) < (n : Int) := by omega
          obtain ⟨q, rfl⟩ := hV.out
          obtain ⟨y, hy⟩ : ∃ y, y = F t := ⟨_, rfl⟩
          have d1 : (w.drewN q).cell? ⟨b, off + t, none⟩ = some (.int .i64 y) := by rw [hy]; exact HC.out t htl
          have d2 : (w.drewN q).cell? ⟨b, off + k, none⟩ = some (.int .i64 x) := by rw [HX.out]; exact HC.out k hlt
          have l0 := less_bd F t x
          have s0 := same_bd F t x
          have HL := Lib.hid (less_next F t x)
          have HS := Lib.hid (same_next F t x)
          rw [← hy] at HL HS
          obtain ⟨L, hL⟩ : ∃ L, L = lessN F t x := ⟨_, rfl⟩
          obtain ⟨S, hS⟩ : ∃ S, S = sameN F t x := ⟨_, rfl⟩
          rw [← hL] at l0 HL ⊢
          rw [← hS] at s0 HS ⊢
          generalize hw : w.drewN q = wr at d1 d2 ⊢
          have HW := Lib.hid hw
          have i1 : IntKind.i64.wrap (L + 1) = L + 1 := IntWalk.i64_in _ (by omega)
          have i2 : IntKind.i64.wrap (S + 1) = S + 1 := IntWalk.i64_in _ (by omega)
          clear hy hL hS hV hw l0 s0
          rcases Int.lt_trichotomy y x with g | g | g
          · have g1 : (y == x) = false := by rw [beq_eq_false_iff_ne]; omega
            have g2 : ¬ y = x := by omega
            go_wp2_with go_quiet (fail)
            go_roundw
            case rel => exact ⟨t + 1, by omega, by go_num, by rw [HL.out, if_pos g], by rw [HS.out, if_neg g2, Int.add_zero], Lib.hid (by rw [← HW.out]; exact ⟨_, by simp only [World.drewN_drewN]; rfl⟩)⟩
            case measure => simp [intOf]; omega
          · subst g
            have g2 : ¬ y < y := by omega
            go_wp2_with go_quiet (fail)
            go_roundw
            case rel => exact ⟨t + 1, by omega, by go_num, by rw [HL.out, if_neg g2, Int.add_zero], by rw [HS.out, if_pos rfl], Lib.hid (by rw [← HW.out]; exact ⟨_, by simp only [World.drewN_drewN]; rfl⟩)⟩
            case measure => simp [intOf]; omega
          · have g1 : (y == x) = false := by rw [beq_eq_false_iff_ne]; omega
            have g2 : ¬ y = x := by omega
            have g3 : ¬ y < x := by omega
            go_wp2_with go_quiet (fail)
            go_roundw
            case rel => exact ⟨t + 1, by omega, by go_num, by rw [HL.out, if_neg g3, Int.add_zero], by rw [HS.out, if_neg g2, Int.add_zero], Lib.hid (by rw [← HW.out]; exact ⟨_, by simp only [World.drewN_drewN]; rfl⟩)⟩
            case measure => simp [intOf]; omega
        · obtain rfl : t = n := by omega
          have l0 := less_bd F t x
          have s0 := same_bd F t x
          obtain ⟨L, hL⟩ : ∃ L, L = lessN F t x := ⟨_, rfl⟩
          obtain ⟨S, hS⟩ : ∃ S, S = sameN F t x := ⟨_, rfl⟩
          rw [← hL] at l0 ⊢
          rw [← hS] at s0 ⊢
          have HL := Lib.hid hL
          have HS := Lib.hid hS
          have i0 : ¬ (t : Int) < (t : Int) := by omega
          have i1 : IntKind.i64.wrap (L + S) = L + S := IntWalk.i64_in _ (by omega)
          have i2 : (t : Int).tdiv 2 = ((t / 2 : Nat) : Int) := by rw [Int.tdiv_eq_ediv_of_nonneg (by omega)]; omega
          have i3 : IntKind.i64.wrap ((t / 2 : Nat) : Int) = ((t / 2 : Nat) : Int) := IntWalk.i64_in _ (by omega)
          obtain ⟨m, hm⟩ : ∃ m, m = t / 2 := ⟨_, rfl⟩
          have HM := Lib.hid hm
          rw [← hm] at i2 i3
          obtain ⟨q, rfl⟩ := hV.out
          have d2 : (w.drewN q).cell? ⟨b, off + k, none⟩ = some (.int .i64 x) := by rw [HX.out]; exact HC.out k hlt
          generalize hw : w.drewN q = wr at d2 ⊢
          have HW := Lib.hid hw
          clear hL hS hm hw hV l0 s0
          by_cases q1 : L ≤ (m : Int)
          · by_cases q2 : (m : Int) < L + S
            · have HR : x = midV F t := by
                have h : okMd F t k := ⟨by rw [← HX.out, ← HL.out, ← HM.out]; exact q1, by rw [← HX.out, ← HL.out, ← HS.out, ← HM.out]; exact q2⟩
                rw [midV_mid (okMd_mid hlt h), HX.out]
              have HR := Lib.hid HR
              go_wp2
              go_ret
              exact ⟨by first | rfl | (rw [HR.out]; rfl) | (rw [← HR.out]; rfl), q, HW.out.symm⟩
            · have HR := Lib.hid (show ¬ okMd F t k from fun h => q2 (by have := h.2; rw [← HX.out, ← HL.out, ← HS.out, ← HM.out] at this; exact this))
              go_wp2
              go_roundw
              case rel =>
                refine ⟨k + 1, by omega, by go_num, Lib.hid fun x hx => ?_, Lib.hid ⟨q, HW.out.symm⟩⟩
                rcases Nat.lt_or_ge x k with h | h
                · exact hno.out x h
                · obtain rfl : x = k := by omega
                  exact HR.out
              case measure => simp [intOf]; omega
          · have HR := Lib.hid (show ¬ okMd F t k from fun h => q1 (by have := h.1; rw [← HX.out, ← HL.out, ← HM.out] at this; exact this))
            go_wp2
            go_roundw
            case rel =>
              refine ⟨k + 1, by omega, by go_num, Lib.hid fun x hx => ?_, Lib.hid ⟨q, HW.out.symm⟩⟩
              rcases Nat.lt_or_ge x k with h | h
              · exact hno.out x h
              · obtain rfl : x = k := by omega
                exact HR.out
            case measure => simp [intOf]; omega
    · exfalso
      obtain rfl : k = n := by omega
      obtain ⟨⟨i, hi, hF⟩, h1, h2⟩ := midV_is (F := F) hn
      exact hno.out i hi (okMd_of (by rw [hF]; exact ⟨⟨i, hi, hF⟩, h1, h2⟩))

/-- The middles of k numbers side by side. -/
def midL (xs : List Int) (k : Nat) : List Int := tab (xs.length + 1 - k) fun i => midV (fun j => ix xs (i + j)) k
def midF (xs : List Int) (z : Int) : List Int := if vrB xs = true ∧ 1 ≤ z ∧ z ≤ xs.length ∧ z % 2 = 1 then midL xs z.toNat else []
theorem midF_yes {xs : List Int} {k : Nat} (h : vrB xs = true) (h1 : 1 ≤ k) (h2 : k ≤ xs.length) (h3 : k % 2 = 1) : midF xs k = midL xs k := by
  unfold midF; rw [if_pos ⟨h, by omega, by omega, by omega⟩, Int.toNat_natCast]
theorem midF_no {xs : List Int} {z : Int} (h : ¬ (vrB xs = true ∧ 1 ≤ z ∧ z ≤ xs.length ∧ z % 2 = 1)) : midF xs z = [] := by unfold midF; exact if_neg h
theorem midF_len (xs : List Int) (z : Int) : (midF xs z).length ≤ 64 := by
  unfold midF
  split
  · rename_i q
    have := (vrB_of q.1).1
    unfold midL; rw [len_tab]; omega
  · simp
theorem midF_len2 (xs : List Int) (z : Int) (h : xs.length ≤ 1048576) : (midF xs z).length ≤ 1048576 := Nat.le_trans (midF_len xs z) (by omega)

set_option maxHeartbeats 4000000 in
theorem specMiddlesOf_any (v : Value) (xs : List Int) (z : Int) (w : World) (h : Rd w v xs) (hcp : ∀ a n c, v = .slice a n c → n ≤ c) (hl : xs.length ≤ maxLen) :
    Calls Try.prog 27 #[v, .int .i64 z] w (Made 3 w (midF xs z)) := by
  have hv := specvalid_any v xs w h hl
  cases hb : vrB xs with
  | false =>
    rw [hb] at hv
    have HF := Lib.hid (midF_no (xs := xs) (z := z) fun q => by rw [hb] at q; cases q.1)
    obtain ⟨a, cap, rfl, -⟩ := h
    clear hb hcp
    go_enter Try.func27, Try.ntmps27
    go_wp2_with fail
    refine hv.mono ?_
    rintro e w1 ⟨rfl, b1⟩
    go_wp2
    go_ret
    exact ⟨_, rfl, by rw [HF.out]; exact Own.nil _ _ _, b1⟩
  | true =>
    rw [hb] at hv
    have n1 := (vrB_of hb).1
    obtain ⟨n, hn⟩ : ∃ n, n = xs.length := ⟨_, rfl⟩
    by_cases hz : 1 ≤ z ∧ z ≤ n
    · have hin := inR_yes hz
      obtain ⟨K, rfl⟩ : ∃ K : Nat, z = (K : Int) := ⟨z.toNat, by omega⟩
      have hK1 : 1 ≤ K := by omega
      have hK2 : K ≤ n := by omega
      by_cases ho : K % 2 = 1
      · have HF := Lib.hid (midF_yes hb hK1 (by omega) ho)
        have o1 : ((K : Int) % 2 == 0) = false := by rw [beq_eq_false_iff_ne]; omega
        obtain ⟨a, cap, rfl, h⟩ := h
        have hcap : xs.length ≤ cap := hcp _ _ _ rfl
        clear hcp
        rcases h with hx | ⟨b, off, rfl, hbl, hc⟩
        · rw [hx] at hn; simp at hn; omega
        obtain ⟨F, hF⟩ : ∃ F, F = ix xs := ⟨_, rfl⟩
        have HZ := Lib.hid (show midL xs K = tab (n + 1 - K) fun i => midV (fun j => F (i + j)) K by rw [hF, hn]; rfl)
        rw [← hF, ← hn] at hc
        rw [← hn] at hv n1 hcap ⊢
        have HC := Lib.hid hc
        clear hF hn hc hb hz hl ho
        go_enter Try.func27, Try.ntmps27
        go_wp2_with fail
        refine hv.mono ?_
        rintro e w1 ⟨rfl, b1⟩
        go_wp2_with fail
        refine (inRange_any _ _ _ _).mono ?_
        rintro e w2 ⟨rfl, rfl⟩
        rw [hin]
        clear hin
        go_wp2
        go_loopw [5, 6] (fun u i wr => ∃ (k ca : Nat) (ga : Option Addr), k + K ≤ n + 1 ∧ i = .int .i64 k ∧ u = .slice ga k ca ∧ Own 3 w.heap.size wr (.slice ga k ca) (tab k fun i => midV (fun j => F (i + j)) K) ∧ Below w.heap.size w wr)
          (fun _ i _ => n + 1 - (intOf i).toNat)
        case atStart => exact ⟨0, _, _, by omega, rfl, rfl, own_empty _ _ _ b1.size, b1.alloc b1.size _⟩
        case round =>
          obtain ⟨k, ca, ga, hk, rfl, rfl, hO, hB⟩ := hrel
          have j1 : IntKind.i64.wrap ((k : Int) + (K : Int)) = (k : Int) + (K : Int) := IntWalk.i64_in _ (by omega)
          by_cases hlt : k + K ≤ n
          · have i1 : (k : Int) + (K : Int) ≤ (n : Int) := by omega
            have k2 : (k : Int) + (K : Int) ≤ (cap : Int) := by omega
            have k3 : (k : Int) ≤ (k : Int) + (K : Int) := by omega
            have k4 : (0 : Int) ≤ (k : Int) + (K : Int) := by omega
            have k5 : ((k : Int) + (K : Int)).toNat - k = K := by omega
            have k6 : ((k : Int) + (K : Int)).toNat = k + K := by omega
            have HM := Lib.hid (specmiddle_any b (off + k) K (cap - k) (fun j => F (k + j)) wr (fun j hj => by
              rw [hB.cell (p := ⟨b, off + k + j, none⟩) hbl, Nat.add_assoc]; exact HC.out (k + j) (by omega)) hK1 (by omega))
            go_wp2_with fail
            refine HM.out.mono ?_
            rintro e w5 ⟨rfl, q5, rfl⟩
            have hO : Own 3 w.heap.size (wr.drewN q5) (.slice ga k ca) (tab k fun i => midV (fun j => F (i + j)) K) := hO
            have hB := bel_drewN hB q5
            generalize wr.drewN q5 = wq at hO hB
            clear HM j1 k2 k3 k4 k5 k6 i1
            obtain ⟨z, hz⟩ : ∃ z, z = midV (fun j => F (k + j)) K := ⟨_, rfl⟩
            have HZZ := Lib.hid hz
            rw [← hz]
            clear hz
            go_wp2_with (at_builtin; refine app_int rfl _ _ 23 rfl w.heap.size 3 Try.underlying23 infoInt _ _ rfl (hO.grow _) ⟨wq.heap.size, 0, none⟩ rfl z ?q1 ?q2 ?q3 ?_)
            case q1 => first | (simp; done) | (simp [World.cell?, heap_alloc_new]; done) | (simp [World.cell?, World.alloc]; done)
            case q2 => first | omega | (simp; omega)
            case q3 => have := hB.size; first | omega | (simp; omega)
            intro v' w1 hO' hg'
            have hB' := app_below hB hO hg'
            rw [tab_snoc k _ _ HZZ.out] at hO'
            obtain ⟨ga', ca', rfl⟩ := own_slN hO' (len_tab _ _)
            clear hO hB hg'
            go_wp2
            go_roundw
            case rel => exact ⟨k + 1, ca', ga', by omega, by go_num, rfl, hO', hB'⟩
            case measure => simp [intOf]; omega
          · have hk1 : k = n + 1 - K := by omega
            have i1 : ¬ (k : Int) + (K : Int) ≤ (n : Int) := by omega
            have hO2 : Own 3 w.heap.size wr (.slice ga k ca) (midF xs (K : Int)) := by rw [HF.out, HZ.out, ← hk1]; exact hO
            have HO := Lib.hid hO2
            clear hO hk1 hO2
            go_wp2
            go_ret
            exact ⟨_, rfl, HO.out, hB⟩
      · have HF := Lib.hid (midF_no (xs := xs) (z := (K : Int)) fun q => by have := q.2.2.2; omega)
        have o1 : ((K : Int) % 2 == 0) = true := by rw [beq_iff_eq]; omega
        obtain ⟨a, cap, rfl, -⟩ := h
        rw [← hn] at hv ⊢
        clear hb hn hz hcp ho
        go_enter Try.func27, Try.ntmps27
        go_wp2_with fail
        refine hv.mono ?_
        rintro e w1 ⟨rfl, b1⟩
        go_wp2_with fail
        refine (inRange_any _ _ _ _).mono ?_
        rintro e w2 ⟨rfl, rfl⟩
        rw [hin]
        clear hin
        go_wp2
        go_ret
        exact ⟨_, rfl, by rw [HF.out]; exact Own.nil _ _ _, b1⟩
    · have HF := Lib.hid (midF_no (xs := xs) (z := z) fun q => hz (by rw [hn]; exact ⟨q.2.1, q.2.2.1⟩))
      have hin := inR_no hz
      obtain ⟨a, cap, rfl, -⟩ := h
      rw [← hn] at hv ⊢
      clear hb hn hz hcp
      go_enter Try.func27, Try.ntmps27
      go_wp2_with fail
      refine hv.mono ?_
      rintro e w1 ⟨rfl, b1⟩
      go_wp2_with fail
      refine (inRange_any _ _ _ _).mono ?_
      rintro e w2 ⟨rfl, rfl⟩
      rw [hin]
      clear hin
      go_wp2
      go_ret
      exact ⟨_, rfl, by rw [HF.out]; exact Own.nil _ _ _, b1⟩
end Go.Proofs.Ytlglokbakmbpdaa
