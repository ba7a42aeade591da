/-
  TurnOf of the program, by its contract.
-/
import Derived.Test.YtabbfehjgchmgabWvI
namespace Go.Proofs.Ytabbfehjgchmgab
open Go.RowKit
set_option linter.unusedVariables false

/-- Where a rest comes from that stands at j behind a turn by k. -/
def bkN (n k j : Nat) : Nat := (j + (n - k % n)) % n
theorem bkN_iff {n k i j : Nat} (hi : i < n) (hj : j < n) : j = (i + k) % n ↔ bkN n k j = i := by
  have hn : 0 < n := by omega
  constructor
  · rintro rfl
    unfold bkN
    rw [back_mod hn, Nat.mod_eq_of_lt hi]
  · rintro rfl
    unfold bkN
    rw [forth_mod hn, Nat.mod_eq_of_lt hj]
/-- The row on the way: the first i rests are turned. -/
def tnW (F : Nat → Int) (n k i j : Nat) : Int := if bkN n k j < i then F (bkN n k j) else 0
theorem tnW_zero (F : Nat → Int) (n k : Nat) : tab n (tnW F n k 0) = tab n fun _ => 0 := tab_congr fun j _ => by unfold tnW; rw [if_neg (by omega)]
theorem tnW_set (F : Nat → Int) {n k i : Nat} (hi : i < n) : (tab n (tnW F n k i)).set ((i + k) % n) (F i) = tab n (tnW F n k (i + 1)) := by
  rw [tab_set]
  refine tab_congr fun j hj => ?_
  unfold tnW
  by_cases h : j = (i + k) % n
  · have e := (bkN_iff hi hj).1 h
    rw [if_pos h, e, if_pos (by omega)]
  · have e : bkN n k j ≠ i := fun q => h ((bkN_iff hi hj).2 q)
    rw [if_neg h]
    by_cases h2 : bkN n k j < i
    · rw [if_pos h2, if_pos (by omega)]
    · rw [if_neg h2, if_neg (by omega)]
theorem tnW_all {xs : List Int} (k : Nat) (hn : 0 < xs.length) : tab xs.length (tnW (ix xs) xs.length k xs.length) = turnL k xs := tab_congr fun j _ => by
  unfold tnW
  rw [if_pos (show bkN xs.length k j < xs.length from Nat.mod_lt _ hn)]; rfl

def turnF (xs : List Int) (k : Int) : List Int := if vsB xs = true ∧ 0 ≤ k ∧ k ≤ 16 then turnL k.toNat xs else []
theorem turnF_yes {xs : List Int} {k : Nat} (h : vsB xs = true) (hk : k ≤ 16) : turnF xs k = turnL k xs := by
  unfold turnF
  rw [if_pos ⟨h, by omega, by omega⟩, Int.toNat_natCast]
theorem turnF_no {xs : List Int} {k : Int} (h : ¬ (vsB xs = true ∧ 0 ≤ k ∧ k ≤ 16)) : turnF xs k = [] := by unfold turnF; exact if_neg h
theorem turnF_len (xs : List Int) (k : Int) (h : xs.length ≤ 1048576) : (turnF xs k).length ≤ 1048576 := by unfold turnF; split <;> simp [h]

set_option maxHeartbeats 4000000 in
theorem implTurnOf_any (v : Value) (xs : List Int) (k : Int) (w : World) (h : Rd w v xs) (hl : xs.length ≤ maxLen) :
    Calls Try.prog 29 #[v, .int .i64 k] w (Made 3 w (turnF xs k)) := by
  have hv := implValidRests_any v xs w h hl
  cases hb : vsB xs with
  | true =>
    rw [hb] at hv
    by_cases hk : 0 ≤ k ∧ k ≤ 16
    · obtain ⟨m, rfl⟩ : ∃ m : Nat, k = (m : Int) := ⟨k.toNat, by omega⟩
      have hm1 : m ≤ 16 := by omega
      have hk0 : ¬ (m : Int) < 0 := by omega
      have hk1 : (m : Int) ≤ 16 := by omega
      have hV := (vsB_iff xs).1 hb
      obtain ⟨hn0, hn1⟩ : 0 < xs.length ∧ xs.length ≤ 96 := ⟨hV.some, hV.few⟩
      have HF := Lib.hid (turnF_yes hb hm1)
      have HT := Lib.hid (tnW_all m hn0)
      obtain ⟨a, cap, rfl, h⟩ := h
      obtain ⟨i0, hi, hz0, hz1, hz2⟩ := info_parts infoInt
      rcases h with rfl | ⟨b, off, rfl, hbl, hc⟩
      · simp at hn0
      obtain ⟨n, hn⟩ : ∃ n, n = xs.length := ⟨_, rfl⟩
      obtain ⟨F, hFF⟩ : ∃ F, F = ix xs := ⟨_, rfl⟩
      rw [← hn, ← hFF] at HT
      rw [← hFF, ← hn] at hc
      rw [← hn] at hn0 hn1 hv ⊢
      have e0 : ((n : Int) == 0) = false := by rw [beq_eq_false_iff_ne]; omega
      have hni : (0 : Int) < (n : Int) := by omega
      clear hV hb hk hn hFF
      go_enter Try.func29, Try.ntmps29
      go_wp2_with fail
      refine hv.mono ?_
      rintro e w1 ⟨rfl, rfl⟩
      clear hv
      go_wp2_with (at_make; refine wpList_make_full _ rfl _ _ 24 rfl w.heap.size 3 i0 (.int .i64 0) 1 Try.underlying24 hi hz0 hz1 _ _ _ _ n rfl rfl rfl rfl ?c1 ?c2 ?c3 ?_)
      case c1 => rw [hz2]; omega
      case c2 => unfold maxLen; omega
      case c3 => omega
      intro w1 hown hgrow
      have hO := own_made hown
      have hB := (Below.refl w.heap.size w).grown hgrow (Nat.le_refl _) (by simp)
      clear hown hgrow hi hz0 hz1 hz2
      go_wp2
      go_loopw [24] (fun i wr => ∃ q : Nat, q ≤ n ∧ i = .int .i64 q ∧ Own 3 w.heap.size wr (.slice (some ⟨w.heap.size, 0, none⟩) n n) (tab n (tnW F n m q)) ∧ Below w.heap.size w wr)
        (fun i _ => n - (intOf i).toNat)
      case atStart => exact ⟨0, Nat.zero_le _, rfl, by rw [tnW_zero]; exact hO, hB⟩
      case round =>
        obtain ⟨q, hq, rfl, hOr, hBr⟩ := hrel
        by_cases hlt : q < n
        · have hcx : wr.cell? ⟨b, off + q, none⟩ = some (.int .i64 (F q)) := (hBr.cell (by exact hbl)).trans (hc q hlt)
          have hdl : (q + m) % n < n := Nat.mod_lt _ hn0
          have hck := hOr.cell ((q + m) % n) (by simpa using hdl)
          have hfk := hOr.frozen ((q + m) % n)
          have HO := hOr.set ((q + m) % n) (F q)
          rw [tnW_set F hlt] at HO
          have HO := Lib.hid HO
          have HB := Lib.hid (hBr.setCell (p := ⟨w.heap.size, (q + m) % n, none⟩) (Nat.le_refl _) (.int .i64 (F q)))
          obtain ⟨d, hd⟩ : ∃ d, d = (q + m) % n := ⟨_, rfl⟩
          have hmod : ((q : Int) + (m : Int)) % (n : Int) = (d : Int) := by rw [← Int.natCast_add, ← Int.natCast_emod, hd]
          rw [← hd] at hdl hck hfk HO HB
          have hdi : (d : Int) < (n : Int) := by omega
          clear hO hB hOr hBr hc hd
          go_wp2
          go_roundw
          case rel => exact ⟨q + 1, by omega, by go_num, HO.out, HB.out⟩
          case measure => simp [intOf]; omega
        · obtain rfl : q = n := by omega
          rw [HT.out] at hOr
          have HO := Lib.hid hOr
          clear hOr hO hB
          go_wp2
          go_ret
          exact ⟨_, rfl, by rw [HF.out]; exact HO.out, hBr⟩
    · have HF := Lib.hid (turnF_no (xs := xs) (k := k) (fun q => hk q.2))
      by_cases h1 : k < 0
      · clear hk hb h
        go_enter Try.func29, Try.ntmps29
        go_wp2_with fail
        refine hv.mono ?_
        rintro e w1 ⟨rfl, rfl⟩
        go_wp2
        go_ret
        exact ⟨_, rfl, by rw [HF.out]; exact Own.nil _ _ _, Below.refl _ _⟩
      · have h2 : 16 < k := by omega
        clear hk hb h
        go_enter Try.func29, Try.ntmps29
        go_wp2_with fail
        refine hv.mono ?_
        rintro e w1 ⟨rfl, rfl⟩
        go_wp2
        go_ret
        exact ⟨_, rfl, by rw [HF.out]; exact Own.nil _ _ _, Below.refl _ _⟩
  | false =>
    rw [hb] at hv
    have HF := Lib.hid (turnF_no (xs := xs) (k := k) (fun q => by rw [hb] at q; exact absurd q.1 (by simp)))
    clear hb h
    go_enter Try.func29, Try.ntmps29
    go_wp2_with fail
    refine hv.mono ?_
    rintro e w1 ⟨rfl, rfl⟩
    go_wp2
    go_ret
    exact ⟨_, rfl, by rw [HF.out]; exact Own.nil _ _ _, Below.refl _ _⟩

end Go.Proofs.Ytabbfehjgchmgab
