/-
  Sums and middles of boxes: the model, by its contracts.
-/
import Derived.Test.YtlglokbakmbpdaaPdP
import Derived.Test.YtlglokbakmbpdaaApp2
import Derived.StillTailTactics
namespace Go.Proofs.Ytlglokbakmbpdaa
open Go.RowKit
set_option linter.unusedVariables false

/-- The sums of k numbers side by side. -/
def boxL (xs : List Int) (k : Nat) : List Int := tab (xs.length + 1 - k) fun i => wrap64 (sumN (fun j => ix xs (i + j)) k)
def boxF (xs : List Int) (z : Int) : List Int := if vrB xs = true ∧ 1 ≤ z ∧ z ≤ xs.length then boxL xs z.toNat else []
theorem boxF_yes {xs : List Int} {k : Nat} (h : vrB xs = true) (h1 : 1 ≤ k) (h2 : k ≤ xs.length) : boxF xs k = boxL xs k := by
  unfold boxF; rw [if_pos ⟨h, by omega, by omega⟩, Int.toNat_natCast]
theorem boxF_no {xs : List Int} {z : Int} (h : ¬ (vrB xs = true ∧ 1 ≤ z ∧ z ≤ xs.length)) : boxF xs z = [] := by unfold boxF; exact if_neg h
theorem boxF_len (xs : List Int) (z : Int) (h : xs.length ≤ 1048575) : (boxF xs z).length ≤ 1048576 := by
  unfold boxF
  split
  · unfold boxL; rw [len_tab]; omega
  · simp

set_option maxHeartbeats 4000000 in
theorem specBoxSums_any (v : Value) (xs : List Int) (z : Int) (w : World) (h : Rd w v xs) (hl : xs.length ≤ maxLen) :
    Calls Try.prog 23 #[v, .int .i64 z] w (Made 3 w (boxF xs z)) := by
  have hv := specvalid_any v xs w h hl
  cases hb : vrB xs with
  | false =>
    rw [hb] at hv
    have HF := Lib.hid (boxF_no (xs := xs) (z := z) fun q => by rw [hb] at q; cases q.1)
    obtain ⟨a, cap, rfl, -⟩ := h
    clear hb
    go_enter Try.func23, Try.ntmps23
    go_wp2_with fail
    refine hv.mono ?_
    rintro e w1 ⟨rfl, b1⟩
    go_wp2
    go_ret
    exact ⟨_, rfl, by rw [HF.out]; exact Own.nil _ _ _, b1⟩
  | true =>
    rw [hb] at hv
    have n1 := (vrB_of hb).1
    obtain ⟨n, hn⟩ : ∃ n, n = xs.length := ⟨_, rfl⟩
    by_cases hz : 1 ≤ z ∧ z ≤ n
    · have hin := inR_yes hz
      obtain ⟨K, rfl⟩ : ∃ K : Nat, z = (K : Int) := ⟨z.toNat, by omega⟩
      have hK1 : 1 ≤ K := by omega
      have hK2 : K ≤ n := by omega
      have HF := Lib.hid (boxF_yes hb hK1 (by omega))
      obtain ⟨a, cap, rfl, h⟩ := h
      rcases h with hx | ⟨b, off, rfl, hbl, hc⟩
      · rw [hx] at hn; simp at hn; omega
      obtain ⟨F, hF⟩ : ∃ F, F = ix xs := ⟨_, rfl⟩
      have HZ := Lib.hid (show boxL xs K = tab (n + 1 - K) fun i => wrap64 (sumN (fun j => F (i + j)) K) by rw [hF, hn]; rfl)
      rw [← hF, ← hn] at hc
      rw [← hn] at hv n1 ⊢
      have HC := Lib.hid hc
      clear hF hn hc hb hz hl
      go_enter Try.func23, Try.ntmps23
      go_wp2_with fail
      refine hv.mono ?_
      rintro e w1 ⟨rfl, b1⟩
      go_wp2_with fail
      refine (inRange_any _ _ _ _).mono ?_
      rintro e w2 ⟨rfl, rfl⟩
      rw [hin]
      clear hin
      go_wp2
      go_loopw [5, 6] (fun u i wr => ∃ (k ca : Nat) (ga : Option Addr), k + K ≤ n + 1 ∧ i = .int .i64 k ∧ u = .slice ga k ca ∧ Own 3 w.heap.size wr (.slice ga k ca) (tab k fun i => wrap64 (sumN (fun j => F (i + j)) K)) ∧ Below w.heap.size w wr)
        (fun _ i _ => n + 1 - (intOf i).toNat)
      case atStart => exact ⟨0, _, _, by omega, rfl, rfl, own_empty _ _ _ b1.size, b1.alloc b1.size _⟩
      case round =>
        obtain ⟨k, ca, ga, hk, rfl, rfl, hO, hB⟩ := hrel
        have j1 : IntKind.i64.wrap ((k : Int) + (K : Int)) = (k : Int) + (K : Int) := IntWalk.i64_in _ (by omega)
        by_cases hlt : k + K ≤ n
        · have i1 : (k : Int) + (K : Int) ≤ (n : Int) := by omega
          go_wp2
          go_loopw [7, 8] (fun s i wr => ∃ t : Nat, t ≤ K ∧ i = .int .i64 ((k + t : Nat) : Int) ∧ s = .int .i64 (wrap64 (sumN (fun j => F (k + j)) t)) ∧ Own 3 w.heap.size wr (.slice ga k ca) (tab k fun i => wrap64 (sumN (fun j => F (i + j)) K)) ∧ Below w.heap.size w wr) (fun _ i _ => n - (intOf i).toNat)
          case atStart => exact ⟨0, by omega, rfl, by simp [sumN, wrap64], hO, hB⟩
          case round =>
            obtain ⟨t, ht, rfl, rfl, hO, hB⟩ := hrel
            obtain ⟨q, hq⟩ : ∃ q, q = k + t := ⟨_, rfl⟩
            rw [← hq]
            by_cases htl : t < K
            · have da : wr.cell? ⟨b, off + q, none⟩ = some (.int .i64 (F q)) := by rw [hB.cell (p := ⟨b, off + q, none⟩) hbl, HC.out q (by omega)]
              have i2 : (q : Int) < (k : Int) + (K : Int) := by omega
              have i3 : (q : Int) < (n : Int) := by omega
              have HS := Lib.hid (show wrap64 (sumN (fun j => F (k + j)) (t + 1)) = wrap64 (wrap64 (sumN (fun j => F (k + j)) t) + F q) by rw [w64_addL, hq]; rfl)
              obtain ⟨p0, hp0⟩ : ∃ p, p = wrap64 (sumN (fun j => F (k + j)) t) := ⟨_, rfl⟩
              rw [← hp0] at HS ⊢
              obtain ⟨z, hz⟩ : ∃ z, z = wrap64 (p0 + F q) := ⟨_, rfl⟩
              rw [← hz] at HS
              have j4 : IntKind.i64.wrap (p0 + F q) = z := by rw [hz, IntKind.wrap_i64]; unfold wrap64; rfl
              have HQ := Lib.hid hq
              clear hp0 hz hq
              go_wp2
              go_roundw
              case rel => exact ⟨t + 1, by omega, by rw [show k + (t + 1) = q + 1 by have := HQ.out; omega]; go_num, by rw [HS.out], hO, hB⟩
              case measure => simp [intOf]; omega
            · have htK : t = K := by omega
              subst htK
              obtain ⟨z, hz⟩ : ∃ z, z = wrap64 (sumN (fun j => F (k + j)) t) := ⟨_, rfl⟩
              have HZZ := Lib.hid hz
              rw [← hz]
              have i2 : (k : Int) + (t : Int) ≤ (q : Int) := by omega
              have i4 : ¬ (q : Int) < (k : Int) + (t : Int) := by omega
              clear hz hq
              go_wp2_with (at_builtin; refine app_int rfl _ _ 23 rfl w.heap.size 3 Try.underlying23 infoInt _ _ rfl (hO.grow _) ⟨wr.heap.size, 0, none⟩ rfl z ?q1 ?q2 ?q3 ?_)
              case q2 => first | omega | (simp; omega)
              case q3 => have := hB.size; first | omega | (simp; omega)
              intro v' w1 hO' hg'
              have hB' := app_below hB hO hg'
              rw [tab_snoc k _ _ HZZ.out] at hO'
              obtain ⟨ga', ca', rfl⟩ := own_slN hO' (len_tab _ _)
              clear hO hB hg'
              go_wp2
              go_roundw
              case rel => exact ⟨k + 1, ca', ga', by omega, by go_num, rfl, hO', hB'⟩
              case measure => simp [intOf]; omega
        · have hk1 : k = n + 1 - K := by omega
          have i1 : ¬ (k : Int) + (K : Int) ≤ (n : Int) := by omega
          have hO2 : Own 3 w.heap.size wr (.slice ga k ca) (boxF xs (K : Int)) := by rw [HF.out, HZ.out, ← hk1]; exact hO
          have HO := Lib.hid hO2
          clear hO hk1 hO2
          go_wp2
          go_ret
          exact ⟨_, rfl, HO.out, hB⟩
    · have HF := Lib.hid (boxF_no (xs := xs) (z := z) fun q => hz (by rw [hn]; exact q.2))
      have hin := inR_no hz
      obtain ⟨a, cap, rfl, -⟩ := h
      rw [← hn] at hv ⊢
      clear hb hn hz
      go_enter Try.func23, Try.ntmps23
      go_wp2_with fail
      refine hv.mono ?_
      rintro e w1 ⟨rfl, b1⟩
      go_wp2_with fail
      refine (inRange_any _ _ _ _).mono ?_
      rintro e w2 ⟨rfl, rfl⟩
      rw [hin]
      clear hin
      go_wp2
      go_ret
      exact ⟨_, rfl, by rw [HF.out]; exact Own.nil _ _ _, b1⟩

end Go.Proofs.Ytlglokbakmbpdaa
