/-
  takeOff of the program: a number times a row taken off as many numbers, where all stays small: by its lone contract.
-/
import Derived.Test.YtagncoahobghpacCopy
import Derived.Test.YtagncoahobghpacMa1
import Derived.Test.YtagncoahobghpacApp2
namespace Go.Proofs.Ytagncoahobghpac
open Go.RowKit
set_option linter.unusedVariables false

theorem tdiv_back {f y : Int} (h : f ≠ 0) : (f * y).tdiv f = y := Int.mul_tdiv_cancel_left y h
/-- The numbers, of which the first k of the window from o on have f times the other row taken off. -/
def tkF (F G : Nat → Int) (f : Int) (o k j : Nat) : Int := if o ≤ j ∧ j < o + k then F j - f * G (j - o) else F j
theorem tkF_at (F G : Nat → Int) (f : Int) (o k : Nat) : tkF F G f o k (o + k) = F (o + k) := by unfold tkF; rw [if_neg (by omega)]
theorem tkF_zero (F G : Nat → Int) (f : Int) (o j : Nat) : tkF F G f o 0 j = F j := by unfold tkF; rw [if_neg (by omega)]
theorem tkF_next (F G : Nat → Int) (f : Int) (o k j : Nat) : tkF F G f o (k + 1) j = if j = o + k then F j - f * G k else tkF F G f o k j := by
  unfold tkF
  by_cases e : j = o + k
  · subst e; rw [if_pos rfl, if_pos (by omega), show o + k - o = k by omega]
  · rw [if_neg e]
    by_cases h : o ≤ j ∧ j < o + k
    · rw [if_pos h, if_pos (by omega)]
    · rw [if_neg h, if_neg (by omega)]

set_option maxHeartbeats 4000000 in
/-- The window of n numbers from place o on of a row that the caller owns; the row of which f times is taken off lies elsewhere. -/
theorem takeOff_any (B g N cap o n c b off c2 : Nat) (F G : Nat → Int) (f : Int) (w : World) (h : Own 3 B w (.slice (some ⟨g, 0, none⟩) N cap) (tab N F)) (hn : o + n ≤ N) (hb : b < B) (hg : B ≤ g)
    (hc : ∀ j, j < n → w.cell? ⟨b, off + j, none⟩ = some (.int .i64 (G j))) (hN : N ≤ 16)
    (hf : -4500000000000 ≤ f ∧ f ≤ 4500000000000) (hG : ∀ j, j < n → -3 ≤ G j ∧ G j ≤ 3) (hF : ∀ j, j < N → -4500000000000 ≤ F j ∧ F j ≤ 4500000000000) :
    Calls Try.prog 28 #[.slice (some ⟨g, o, none⟩) n c, .int .i64 f, .slice (some ⟨b, off, none⟩) n c2] w fun e w' =>
      e = .returned (.bool true) ∧ Own 3 B w' (.slice (some ⟨g, 0, none⟩) N cap) (tab N (tkF F G f o n)) ∧ w.grownBy w' (some g) := by
  have HC := Lib.hid hc
  have HG := Lib.hid hG
  have HF := Lib.hid hF
  have h0 : Own 3 B w (.slice (some ⟨g, 0, none⟩) N cap) (tab N (tkF F G f o 0)) := by rw [tab_congr (g := F) (fun j _ => tkF_zero F G f o j)]; exact h
  have H0 := Lib.hid h0
  clear hc hG hF h h0
  go_enter Try.func28, Try.ntmps28
  go_wp2
  go_loopw [13] (fun i wr => ∃ k : Nat, k ≤ n ∧ i = .int .i64 k ∧ Own 3 B wr (.slice (some ⟨g, 0, none⟩) N cap) (tab N (tkF F G f o k)) ∧ w.grownBy wr (some g)) (fun i _ => n - (intOf i).toNat)
  case atStart => exact ⟨0, Nat.zero_le _, rfl, H0.out, World.grownBy.refl _ _⟩
  case round =>
    obtain ⟨k, hk, rfl, o1, hgr⟩ := hrel
    by_cases hlt : k < n
    · have k0 : (k : Int) < (n : Int) := by omega
      have d1 : wr.cell? ⟨b, off + k, none⟩ = some (.int .i64 (G k)) := hgr.cell (HC.out k hlt) (by simp; omega)
      have d2 := o1.cell (o + k) (by rw [len_tab]; omega)
      rw [ix_tab _ _ _ (by omega), tkF_at] at d2
      have f2 := o1.frozen (o + k)
      have b1 := HG.out k hlt
      have b2 := HF.out (o + k) (by omega)
      obtain ⟨y, hy⟩ : ∃ y, y = G k := ⟨_, rfl⟩
      obtain ⟨x, hx⟩ : ∃ x, x = F (o + k) := ⟨_, rfl⟩
      rw [← hy] at d1 b1
      rw [← hx] at d2 b2
      obtain ⟨p, hp⟩ : ∃ p, p = f * y := ⟨_, rfl⟩
      have hb3 : -13500000000000 ≤ p ∧ p ≤ 13500000000000 := by
        have : y = -3 ∨ y = -2 ∨ y = -1 ∨ y = 0 ∨ y = 1 ∨ y = 2 ∨ y = 3 := by omega
        rcases this with e | e | e | e | e | e | e <;> rw [e] at hp <;> omega
      have j1 : IntKind.i64.wrap (f * y) = p := by rw [← hp]; exact IntWalk.i64_in _ (by omega)
      have j2 : IntKind.i64.wrap (x - p) = x - p := IntWalk.i64_in _ (by omega)
      have HS := Lib.hid (show Own 3 B (wr.setCell ⟨g, o + k, none⟩ (.int .i64 (x - p))) (.slice (some ⟨g, 0, none⟩) N cap) (tab N (tkF F G f o (k + 1))) by
        have := o1.set (o + k) (x - p)
        have hc : ∀ j, j < N → (if j = o + k then x - p else tkF F G f o k j) = tkF F G f o (k + 1) j := by
          intro j _
          rw [tkF_next]
          by_cases e : j = o + k
          · rw [if_pos e, if_pos e, hx, hp, hy, e]
          · rw [if_neg e, if_neg e]
        rw [tab_set, tab_congr hc] at this
        exact this)
      have HB := Lib.hid (grown_set hgr (o + k) (.int .i64 (x - p)))
      have j4 : ((decide (0 < p)) != (decide (x - p < x))) = false := by
        have : decide (0 < p) = decide (x - p < x) := by apply decide_eq_decide.2; omega
        rw [this]; simp
      have j5 : (!(decide (0 < p) == decide (x - p < x))) = false := by
        have : decide (0 < p) = decide (x - p < x) := by apply decide_eq_decide.2; omega
        rw [this]; simp
      by_cases hf0 : f = 0
      · have e0 : (f != 0) = false := by simp [hf0]
        clear hf0 o1 hgr hx hy
        have HPF := Lib.hid hp
        clear hp
        go_wp2
        refine ⟨⟨k + 1, by omega, by go_num, HS.out, HB.out⟩, ?_⟩
        simp [intOf]; omega
      · have e0 : (f != 0) = true := by simp [hf0]
        have j3 : IntKind.i64.wrap (p.tdiv f) = y := by rw [hp, tdiv_back hf0]; exact IntWalk.i64_in _ (by omega)
        have e1 : (y != y) = false := by simp
        have HFZ := Lib.hid hf0
        have HPF := Lib.hid hp
        clear o1 hgr hx hy hp
        go_wp2
        refine ⟨⟨k + 1, by omega, by go_num, HS.out, HB.out⟩, ?_⟩
        simp [intOf]; omega
    · obtain rfl : k = n := by omega
      have O := Lib.hid o1
      have HB := Lib.hid hgr
      clear o1 hgr
      go_wp2
      go_ret
      exact ⟨rfl, O.out, HB.out⟩
end Go.Proofs.Ytagncoahobghpac
