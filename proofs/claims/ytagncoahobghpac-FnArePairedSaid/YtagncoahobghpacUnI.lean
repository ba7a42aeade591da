/-
  Rows of 1 and -1 alone as units; the model's signs, quiet rows and pairs: by their lone contracts.
-/
import Derived.Test.YtagncoahobghpacRv1
import Derived.Test.YtagncoahobghpacPdS
import Derived.Test.YtagncoahobghpacValid
namespace Go.Proofs.Ytagncoahobghpac
open Go.RowKit
set_option linter.unusedVariables false

/-- Are the numbers 1 and -1 alone? -/
def pmB (xs : List Int) : Bool := decide (∀ j, j < xs.length → ix xs j = 1 ∨ ix xs j = -1)
theorem pmB_yes {xs : List Int} (h : ∀ j, j < xs.length → ix xs j = 1 ∨ ix xs j = -1) : pmB xs = true := by simp only [pmB, decide_eq_true_eq]; exact h
theorem pmB_no {xs : List Int} (k : Nat) (hk : k < xs.length) (h : ¬ (ix xs k = 1 ∨ ix xs k = -1)) : pmB xs = false := by simp only [pmB, decide_eq_false_iff_not]; exact fun e => h (e k hk)
theorem pmB_of {xs : List Int} (h : pmB xs = true) : ∀ j, j < xs.length → ix xs j = 1 ∨ ix xs j = -1 := by simpa only [pmB, decide_eq_true_eq] using h
def sgnB (xs : List Int) : Bool := vrB xs && pmB xs
def untL (xs : List Int) : List Int := if sgnB xs = true then xs else []
theorem sgnB_of {xs : List Int} (h : sgnB xs = true) : vrB xs = true ∧ pmB xs = true := by simpa [sgnB] using h
theorem untL_yes {xs : List Int} (h : sgnB xs = true) : untL xs = xs := by unfold untL; exact if_pos h
theorem untL_no {xs : List Int} (h : sgnB xs = false) : untL xs = [] := by unfold untL; exact if_neg (by rw [h]; simp)

set_option maxHeartbeats 2000000 in
theorem isOfSigns5_any (v : Value) (xs : List Int) (w : World) (h : Rd w v xs) (hl : xs.length ≤ 16) :
    Calls Try.prog 47 #[v] w fun e w' => e = .returned (.bool (pmB xs)) ∧ w = w' := by
  obtain ⟨a, cap, rfl, h⟩ := h
  have HX := Lib.hid h
  clear h
  go_enter Try.func47, Try.ntmps47
  go_wp2
  go_loop [7] (fun i => ∃ k : Nat, k ≤ xs.length ∧ i = .int .i64 k ∧ Hid (∀ j, j < k → ix xs j = 1 ∨ ix xs j = -1)) (fun i => xs.length - (intOf i).toNat)
  case atStart => exact ⟨0, Nat.zero_le _, rfl, fun j hj => absurd hj (Nat.not_lt_zero j)⟩
  case round =>
    obtain ⟨k, hk, rfl, hs⟩ := hrel
    by_cases hlt : k < xs.length
    · rcases HX.out with rfl | ⟨b, off, rfl, hb, hc⟩
      · simp at hlt
      have hcx := hc k hlt
      by_cases hz : ix xs k = 1 ∨ ix xs k = -1
      · have hs2 : Hid (∀ j, j < k + 1 → ix xs j = 1 ∨ ix xs j = -1) := by
          intro j hj
          by_cases e : j = k
          · rw [e]; exact hz
          · exact hs.out j (by omega)
        clear hs hc
        obtain ⟨z, hzz⟩ : ∃ z, ix xs k = z := ⟨_, rfl⟩
        rw [hzz] at hz hcx
        clear hzz
        rcases hz with rfl | rfl
        all_goals
          go_wp2
          go_round
          case rel => exact ⟨k + 1, by omega, by go_num, hs2⟩
          case measure => simp [intOf]; omega
      · have HN := Lib.hid (pmB_no k hlt hz)
        clear hs hc
        obtain ⟨z, hzz⟩ : ∃ z, ix xs k = z := ⟨_, rfl⟩
        rw [hzz] at hz hcx
        clear hzz
        have z1 : (z != 1) = true := by simp; omega
        have z2 : (z != -1) = true := by simp; omega
        clear hz
        go_wp2
        go_ret
        exact ⟨ret_bool HN.out.symm, rfl⟩
    · obtain rfl : k = xs.length := by omega
      have HY := Lib.hid (pmB_yes hs.out)
      clear hs
      go_wp2
      go_ret
      exact ⟨ret_bool HY.out.symm, rfl⟩

/-- The first k units are laid. -/
def UnI (E : Nat) (w wr : World) (g N k : Nat) (V : Nat → Int) : Prop :=
  OwnU E w.heap.size wr (.slice (some ⟨g, 0, none⟩) N N) (tab N fun j => if j < k then V j else 0) ∧ Below w.heap.size w wr
theorem UnI.step {E g N k : Nat} {w wr : World} {V : Nat → Int} (h : UnI E w wr g N k V) (hk : k < N) (hg : w.heap.size ≤ g) (z : Int) (hz : z = V k) : UnI E w (wr.setCell ⟨g, k, none⟩ (.int .i8 z)) g N (k + 1) V := by
  subst hz
  refine ⟨?_, h.2.setCell hg _⟩
  have := h.1.set k (V k)
  rw [tab_set, tab_congr (g := fun j => if j < k + 1 then V j else 0) (fun j _ => by
    by_cases e : j = k
    · subst e; rw [if_pos rfl, if_pos (by omega)]
    · rw [if_neg e]
      by_cases h2 : j < k
      · rw [if_pos h2, if_pos (by omega)]
      · rw [if_neg h2, if_neg (by omega)])] at this
  exact this

set_option maxHeartbeats 4000000 in
theorem unitsOf_any (v : Value) (xs : List Int) (w : World) (h : Rd w v xs) (hl : xs.length ≤ maxLen) :
    Calls Try.prog 37 #[v] w fun e w' => ∃ v', e = .returned v' ∧ OwnU 54 w.heap.size w' v' (untL xs) ∧ Below w.heap.size w w' := by
  have hv := implValid_any v xs w h hl
  cases hb : vrB xs with
  | false =>
    rw [hb] at hv
    have HF := Lib.hid (untL_no (xs := xs) (by simp [sgnB, hb]))
    obtain ⟨a, cap, rfl, -⟩ := h
    clear hb
    go_enter Try.func37, Try.ntmps37
    go_wp2_with fail
    refine hv.mono ?_
    rintro e w1 ⟨rfl, b1⟩
    go_wp2
    go_ret
    exact ⟨_, rfl, by rw [HF.out]; exact OwnU.nil _ _ _, b1⟩
  | true =>
    rw [hb] at hv
    have n1 := (vrB_of hb).1
    have HS := Lib.hid fun w1 (b : Below w.heap.size w w1) => isOfSigns5_any v xs w1 (h.below b (Nat.le_refl _)) n1
    cases ho : pmB xs with
    | false =>
      rw [ho] at HS
      have HF := Lib.hid (untL_no (xs := xs) (by simp [sgnB, ho]))
      obtain ⟨a, cap, rfl, -⟩ := h
      clear hb ho
      go_enter Try.func37, Try.ntmps37
      go_wp2_with fail
      refine hv.mono ?_
      rintro e w1 ⟨rfl, b1⟩
      go_wp2_with fail
      refine (HS.out _ b1).mono ?_
      rintro e w2 ⟨rfl, rfl⟩
      go_wp2
      go_ret
      exact ⟨_, rfl, by rw [HF.out]; exact OwnU.nil _ _ _, b1⟩
    | true =>
      rw [ho] at HS
      have HF := Lib.hid (untL_yes (xs := xs) (by simp [sgnB, hb, ho]))
      have HO := Lib.hid (pmB_of ho)
      obtain ⟨i0, hi, hz0, hz1, hz2⟩ := info_parts infoRvU
      obtain ⟨a, cap, rfl, h⟩ := h
      obtain ⟨n, hn⟩ : ∃ n, n = xs.length := ⟨_, rfl⟩
      have HX := Lib.hid h
      have HN := Lib.hid hn
      rw [← hn] at hv HS n1 ⊢
      clear hb ho h hn hl
      go_enter Try.func37, Try.ntmps37
      go_wp2_with fail
      refine hv.mono ?_
      rintro e w1 ⟨rfl, b1⟩
      go_wp2_with fail
      refine (HS.out _ b1).mono ?_
      rintro e w2 ⟨rfl, rfl⟩
      go_wp2_with (at_make; refine wpList_make_full _ rfl _ _ 51 rfl w1.heap.size 54 i0 (.int .i8 0) 1 Try.underlying51 hi hz0 hz1 _ _ _ _ n rfl rfl rfl rfl ?c1 ?c2 ?c3 ?_)
      case c1 => rw [hz2]; omega
      case c2 => unfold maxLen; omega
      case c3 => omega
      intro w2 hown hgrow
      have hI : UnI 54 w w2 w1.heap.size n 0 (ix xs) := by
        refine ⟨?_, b1.trans ((Below.refl w1.heap.size w1).grown hgrow (Nat.le_refl _) (by simp) |>.mono b1.size)⟩
        have := OwnU.mono (own_madeU hown) b1.size
        rw [tab_congr (g := fun _ => 0) (fun j _ => by simp)]; exact this
      have hg := b1.size
      clear hown hgrow HS hv
      go_wp2
      go_loopw [19] (fun i wr => ∃ x : Nat, x ≤ n ∧ i = .int .i64 x ∧ UnI 54 w wr w1.heap.size n x (ix xs)) (fun i _ => n - (intOf i).toNat)
      case atStart => exact ⟨0, Nat.zero_le _, rfl, hI⟩
      case round =>
        obtain ⟨x, hx, rfl, hIr⟩ := hrel
        clear hI
        by_cases hlt : x < n
        · have k0 : (x : Int) < (n : Int) := by omega
          rcases HX.out with hnil | ⟨b, off, rfl, hbl, hc⟩
          · have := HN.out; rw [hnil] at this; simp at this; omega
          have d1 := hc x (by rw [← HN.out]; exact hlt)
          rw [← hIr.2.cell (p := ⟨b, off + x, none⟩) hbl] at d1
          have d0 := hIr.1.cell x (by rw [len_tab]; omega)
          have f0 := hIr.1.frozen x
          have hz := HO.out x (by rw [← HN.out]; exact hlt)
          have HS := Lib.hid (hIr.step hlt hg)
          obtain ⟨z, hzz⟩ : ∃ z, ix xs x = z := ⟨_, rfl⟩
          rw [hzz] at d1 hz
          have HZ := Lib.hid hzz
          clear hc hIr hzz
          rcases hz with rfl | rfl
          all_goals
            go_wp2
            go_roundw
            case rel => exact ⟨x + 1, by omega, by go_num, HS.out _ HZ.out.symm⟩
            case measure => simp [intOf]; omega
        · obtain rfl : x = n := by omega
          have HO : OwnU 54 w.heap.size wr (.slice (some ⟨w1.heap.size, 0, none⟩) x x) (untL xs) := by
            have := hIr.1
            rw [tab_congr (g := ix xs) (fun j hj => by rw [if_pos hj])] at this
            rw [HF.out, ← tab_self xs, ← HN.out]
            exact this
          have HO := Lib.hid HO
          have hB := hIr.2
          clear hIr
          go_wp2
          go_ret
          exact ⟨_, rfl, HO.out, hB⟩

end Go.Proofs.Ytagncoahobghpac
