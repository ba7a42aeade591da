/-
  scaled and turned of the laws.
-/
import Derived.Test.YtagncoahobghpacApp
import Derived.Test.YtagncoahobghpacInfo
namespace Go.Proofs.Ytagncoahobghpac
open Go.RowKit
set_option linter.unusedVariables false

def scaledL (c : Int) (xs : List Int) : List Int := tab xs.length fun j => wrap64 (c * ix xs j)
def turnedL (xs : List Int) : List Int := tab xs.length fun j => ix xs (xs.length - 1 - j)
def timesL (xs ys : List Int) : List Int := tab xs.length fun j => wrap64 (ix xs j * ix ys j)

set_option maxHeartbeats 2000000 in
theorem scaled_any (v : Value) (xs : List Int) (c : Int) (w : World) (h : Rd w v xs) (hl : xs.length ≤ 1048576) :
    Calls Try.prog 21 #[v, .int .i64 c] w (Made 3 w (scaledL c xs)) := by
  obtain ⟨a, cap, rfl, h⟩ := h
  have HX := Lib.hid h
  clear h
  go_enter Try.func21, Try.ntmps21
  go_wp2
  go_loopw [5, 6] (fun v i wr => ∃ k : Nat, k ≤ xs.length ∧ i = .int .i64 k ∧ Own 3 w.heap.size wr v (tab k fun j => wrap64 (c * ix xs j)) ∧ Below w.heap.size w wr) (fun _ i _ => xs.length - (intOf i).toNat)
  case atStart => exact ⟨0, Nat.zero_le _, rfl, own_empty _ _ _ (Nat.le_refl _), (Below.refl _ _).alloc (Nat.le_refl _) _⟩
  case round =>
    obtain ⟨k, hk, rfl, hO, hB⟩ := hrel
    by_cases hlt : k < xs.length
    · rcases HX.out with rfl | ⟨b, off, rfl, hb, hc⟩
      · simp at hlt
      · have hcx : wr.cell? ⟨b, off + k, none⟩ = some (.int .i64 (ix xs k)) := (hB.cell (by exact hb)).trans (hc k hlt)
        clear hc
        go_wp2_with (at_builtin; refine app_int rfl _ _ 23 rfl w.heap.size 3 Try.underlying23 infoInt _ _ rfl (hO.grow _) ⟨wr.heap.size, 0, none⟩ rfl (wrap64 (c * ix xs k)) ?c1 ?c2 ?c3 ?_)
        case c1 => exact cell_new1 _ _ _
        case c2 => first | (simp; done) | (simp; omega) | omega
        case c3 => have := hB.size; first | (simp; done) | (simp; omega) | omega
        intro v' w1 hO' hg'
        have hB' := app_below hB hO hg'
        have hO2 : Own 3 w.heap.size w1 v' (tab (k + 1) fun j => wrap64 (c * ix xs j)) := by rw [← tab_snoc k _ _ rfl]; exact hO'
        clear hO hB hO' hg'
        go_wp2
        go_roundw
        case rel => exact ⟨k + 1, by omega, by go_num, hO2, hB'⟩
        case measure => simp [intOf]; omega
    · have hkl : k = xs.length := by omega
      subst hkl
      go_wp2
      go_ret
      exact ⟨_, rfl, hO, hB⟩

set_option maxHeartbeats 2000000 in
theorem turned_any (v : Value) (xs : List Int) (w : World) (h : Rd w v xs) (hl : xs.length ≤ 1048576) :
    Calls Try.prog 15 #[v] w (Made 3 w (turnedL xs)) := by
  obtain ⟨a, cap, rfl, h⟩ := h
  have HX := Lib.hid h
  clear h
  go_enter Try.func15, Try.ntmps15
  go_wp2
  go_loopw [3, 4] (fun v i wr => ∃ k m : Nat, k + m = xs.length ∧ i = .int .i64 ((m : Int) - 1) ∧ Own 3 w.heap.size wr v (tab k fun j => ix xs (xs.length - 1 - j)) ∧ Below w.heap.size w wr) (fun _ i _ => (intOf i + 1).toNat)
  case atStart => exact ⟨0, xs.length, by omega, rfl, own_empty _ _ _ (Nat.le_refl _), (Below.refl _ _).alloc (Nat.le_refl _) _⟩
  case round =>
    obtain ⟨k, m, hk, rfl, hO, hB⟩ := hrel
    by_cases hm : 0 < m
    · obtain ⟨q, rfl⟩ : ∃ q, m = q + 1 := ⟨m - 1, by omega⟩
      rcases HX.out with rfl | ⟨b, off, rfl, hb, hc⟩
      · simp at hk
      · have hq : xs.length - 1 - k = q := by omega
        have hcx : wr.cell? ⟨b, off + q, none⟩ = some (.int .i64 (ix xs q)) := (hB.cell (by exact hb)).trans (hc q (by omega))
        have hql : q < xs.length := by omega
        have e0 : ((q + 1 : Nat) : Int) - 1 = (q : Int) := by omega
        rw [e0]
        clear hc e0
        go_wp2_with (at_builtin; refine app_int rfl _ _ 23 rfl w.heap.size 3 Try.underlying23 infoInt _ _ rfl (hO.grow _) ⟨wr.heap.size, 0, none⟩ rfl (ix xs q) ?c1 ?c2 ?c3 ?_)
        case c1 => exact cell_new1 _ _ _
        case c2 => first | (simp; done) | (simp; omega) | omega
        case c3 => have := hB.size; first | (simp; done) | (simp; omega) | omega
        intro v' w1 hO' hg'
        have hB' := app_below hB hO hg'
        have hO2 : Own 3 w.heap.size w1 v' (tab (k + 1) fun j => ix xs (xs.length - 1 - j)) := by rw [← tab_snoc k _ _ (by rw [hq])]; exact hO'
        clear hO hB hO' hg' hq
        go_wp2
        go_roundw
        case rel => exact ⟨k + 1, q, by omega, by go_num, hO2, hB'⟩
        case measure => simp [intOf]
    · obtain rfl : m = 0 := by omega
      obtain rfl : k = xs.length := by omega
      go_wp2
      go_ret
      exact ⟨_, rfl, hO, hB⟩

end Go.Proofs.Ytagncoahobghpac
