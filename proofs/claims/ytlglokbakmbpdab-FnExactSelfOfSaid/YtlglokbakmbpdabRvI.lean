/-
  slices.Clone and slices.Reverse at rows of ints, by their lone contracts (written by unitgen.py).
-/
import Derived.Test.YtlglokbakmbpdabMany
import Derived.Test.YtlglokbakmbpdabChecked
import Derived.Deep.RegionHeld3
namespace Go.Proofs.Ytlglokbakmbpdab
open Go.RowKit
set_option linter.unusedVariables false

theorem infoRv : (Try.prog.info? 3).map (fun i => (i.zero, i.size, i.bytes)) = some (some (.int .i64 0), 1, 8) := by kernel_rfl

set_option maxHeartbeats 1000000 in
theorem clone_any (v : Value) (xs : List Int) (w : World) (h : Rd w v xs) (hl : xs.length ≤ 1048576) :
    Calls Try.prog 52 #[v] w fun e w' => ∃ v', e = .returned v' ∧ Own 3 w.heap.size w' v' xs ∧ Below w.heap.size w w' := by
  have h0 := h
  obtain ⟨a, cap, rfl, h1⟩ := h
  cases a with
  | none =>
    have hx : xs = [] := by
      rcases h1 with h1 | ⟨b, off, e, _⟩
      · exact h1
      · cases e
    subst hx
    clear h0 h1
    have he : ∀ w : World, (binOp .eql 33 (.slice none 0 cap) (.slice none 0 0)).run Try.prog w = .ok (.bool true) w := fun _ => rfl
    go_enter Try.func52, Try.ntmps52
    go_wp2
    go_ret
    exact ⟨_, rfl, Own.nil _ _ _, Below.refl _ _⟩
  | some ad =>
    have HR := Lib.hid (h0.alloc (.cells #[] 3))
    obtain ⟨n, hn⟩ : ∃ n, n = xs.length := ⟨_, rfl⟩
    have HN := Lib.hid hn
    rw [← hn] at HR ⊢
    have he : ∀ w : World, (binOp .eql 33 (.slice (some ad) n cap) (.slice none 0 0)).run Try.prog w = .ok (.bool false) w := fun _ => rfl
    clear h0 h1 hn
    go_enter Try.func52, Try.ntmps52
    go_wp2_with (at_builtin; refine app_many rfl _ _ 33 rfl w.heap.size 3 Try.underlying33 infoRv _ _ rfl (own_empty _ _ _ (Nat.le_refl _)) _ xs rfl HR.out ?e1 ?e2 ?_)
    case e1 => have := HN.out; simp; omega
    case e2 => simp
    intro v' w1 hO hg
    have hB := ((Below.refl w.heap.size w).alloc (Nat.le_refl _) (.cells #[] 3)).grown hg (by simp) (by simp [Value.ownBlock])
    have HO := Lib.hid hO
    clear hO hg
    go_wp2
    go_ret
    exact ⟨_, rfl, HO.out, hB⟩

/-- The first k and the last k have changed places. -/
def rvF (F : Nat → Int) (n k p : Nat) : Int := if p < k ∨ n ≤ p + k then F (n - 1 - p) else F p
def revL (xs : List Int) : List Int := tab xs.length fun p => ix xs (xs.length - 1 - p)
def RvI (E B : Nat) (w wr : World) (g n cap k : Nat) (F : Nat → Int) : Prop := Own E B wr (.slice (some ⟨g, 0, none⟩) n cap) (tab n (rvF F n k)) ∧ w.grownBy wr (some g)
theorem rv_step {E B g n cap k : Nat} {w wr : World} {F : Nat → Int} (h : RvI E B w wr g n cap k F) (hk : k + (k + 1) < n) (j : Nat) (hj : j = n - 1 - k) :
    RvI E B w ((wr.setCell ⟨g, k, none⟩ (.int .i64 (F j))).setCell ⟨g, j, none⟩ (.int .i64 (F k))) g n cap (k + 1) F := by
  refine ⟨?_, grown_set (grown_set h.2 _ _) _ _⟩
  have h1 := (h.1.set k (F j)).set j (F k)
  rw [tab_set, tab_set, tab_congr (g := rvF F n (k + 1))] at h1
  · exact h1
  · intro p hp
    unfold rvF
    by_cases e1 : p = j
    · rw [if_pos e1, if_pos (by omega)]; congr 1; omega
    · rw [if_neg e1]
      by_cases e2 : p = k
      · rw [if_pos e2, if_pos (by omega)]; congr 1; omega
      · rw [if_neg e2]
        by_cases e3 : p < k ∨ n ≤ p + k
        · rw [if_pos e3, if_pos (by omega)]
        · rw [if_neg e3, if_neg (by omega)]
theorem rv_step2 {E B g n cap k : Nat} {w wr : World} {F : Nat → Int} (h : RvI E B w wr g n cap k F) (hk : k + (k + 1) < n) (j : Nat) (hj : j = n - 1 - k) :
    RvI E B w ((wr.setCell ⟨g, j, none⟩ (.int .i64 (F k))).setCell ⟨g, k, none⟩ (.int .i64 (F j))) g n cap (k + 1) F := by
  refine ⟨?_, grown_set (grown_set h.2 _ _) _ _⟩
  have h1 := (h.1.set j (F k)).set k (F j)
  rw [tab_set, tab_set, tab_congr (g := rvF F n (k + 1))] at h1
  · exact h1
  · intro p hp
    unfold rvF
    by_cases e2 : p = k
    · rw [if_pos e2, if_pos (by omega)]; congr 1; omega
    · rw [if_neg e2]
      by_cases e1 : p = j
      · rw [if_pos e1, if_pos (by omega)]; congr 1; omega
      · rw [if_neg e1]
        by_cases e3 : p < k ∨ n ≤ p + k
        · rw [if_pos e3, if_pos (by omega)]
        · rw [if_neg e3, if_neg (by omega)]
theorem RvI.drew {E B g n cap k : Nat} {w wr : World} {F : Nat → Int} (h : RvI E B w wr g n cap k F) : RvI E B w wr.drew g n cap k F :=
  ⟨h.1, ⟨h.2.os, h.2.tape, h.2.output, h.2.size, h.2.block⟩⟩
theorem rv_end (F : Nat → Int) (n k : Nat) (h : n ≤ k + (k + 1)) : tab n (rvF F n k) = tab n fun p => F (n - 1 - p) := tab_congr fun p hp => by
  unfold rvF
  by_cases e : p < k ∨ n ≤ p + k
  · rw [if_pos e]
  · rw [if_neg e]; congr 1; omega

set_option maxHeartbeats 4000000 in
theorem reverse_any (B g cap : Nat) (xs : List Int) (w : World) (h : Own 3 B w (.slice (some ⟨g, 0, none⟩) xs.length cap) xs) (hl : xs.length ≤ 1048576) :
    Calls Try.prog 53 #[.slice (some ⟨g, 0, none⟩) xs.length cap] w fun e w' => e = .returned (.tuple #[]) ∧ Own 3 B w' (.slice (some ⟨g, 0, none⟩) xs.length cap) (revL xs) ∧ w.grownBy w' (some g) := by
  obtain ⟨n, hn⟩ : ∃ n, n = xs.length := ⟨_, rfl⟩
  obtain ⟨F, hF⟩ : ∃ F, F = ix xs := ⟨_, rfl⟩
  have HZ := Lib.hid (show revL xs = tab n fun p => F (n - 1 - p) by rw [hF, hn]; rfl)
  have HI : RvI 3 B w w g n cap 0 F := by
    refine ⟨?_, World.grownBy.refl _ _⟩
    rw [tab_congr (g := F) (fun p hp => by unfold rvF; rw [if_neg (by omega)]), hF, hn, tab_self]
    exact h
  rw [← hn] at hl ⊢
  have i1 : IntKind.i64.wrap ((n : Int) - 1) = (n : Int) - 1 := IntWalk.i64_in _ (by omega)
  clear h hn hF
  go_enter Try.func53, Try.ntmps53
  go_wp2
  go_loopw [2, 3] (fun i j wr => ∃ k : Nat, (k = 0 ∨ k + k ≤ n) ∧ i = .int .i64 k ∧ j = .int .i64 ((n : Int) - 1 - k) ∧ RvI 3 B w wr g n cap k F) (fun i _ _ => n - (intOf i).toNat)
  case atStart => exact ⟨0, .inl rfl, rfl, by simp, HI⟩
  case round =>
    obtain ⟨k, hk, rfl, rfl, hI⟩ := hrel
    clear HI
    by_cases hlt : k + (k + 1) < n
    · obtain ⟨j, hj⟩ : ∃ j, j = n - 1 - k := ⟨_, rfl⟩
      have ej : (n : Int) - 1 - (k : Int) = (j : Int) := by omega
      rw [ej]
      have c1 := hI.1.cell k (by rw [len_tab]; omega)
      have c2 := hI.1.cell j (by rw [len_tab]; omega)
      rw [ix_tab _ _ _ (by omega)] at c1 c2
      rw [show rvF F n k k = F k by unfold rvF; rw [if_neg (by omega)]] at c1
      rw [show rvF F n k j = F j by unfold rvF; rw [if_neg (by omega)]] at c2
      have f1 := hI.1.frozen k
      have f2 := hI.1.frozen j
      have i2 : (k : Int) < (j : Int) := by omega
      have i3 : (k : Int) < (n : Int) := by omega
      have i4 : (j : Int) < (n : Int) := by omega
      have i5 : IntKind.i64.wrap ((j : Int) - 1) = (j : Int) - 1 := IntWalk.i64_in _ (by omega)
      have i6 : IntKind.i64.wrap ((k : Int) + 1) = (k : Int) + 1 := IntWalk.i64_in _ (by omega)
      have HS := Lib.hid (rv_step hI hlt j hj).drew
      have HS2 := Lib.hid (rv_step2 hI hlt j hj).drew
      have HE := Lib.hid (show (j : Int) - 1 = (n : Int) - 1 - ((k + 1 : Nat) : Int) by omega)
      generalize F k = x at c1 HS HS2
      generalize F j = y at c2 HS HS2
      clear hI hj ej
      go_wp2
      go_region
      all_goals go_wp2
      all_goals go_roundw
      all_goals try (exact ⟨k + 1, by omega, by go_num, by rw [← HE.out], by first | exact HS.out | exact HS2.out⟩)
      all_goals (simp [intOf]; omega)
    · have hO := hI.1
      rw [rv_end F n k (by omega), ← HZ.out] at hO
      have HO := Lib.hid hO
      have hg := hI.2
      have i2 : ¬ (k : Int) < (n : Int) - 1 - (k : Int) := by omega
      clear hI hO
      go_wp2
      go_end0
      exact ⟨rfl, HO.out, hg⟩

end Go.Proofs.Ytlglokbakmbpdab
