/-
  OrderOf, by its contracts.
-/
import Derived.Test.YtpalmbcknjmmcaaChgS
namespace Go.Proofs.Ytpalmbcknjmmcaa
open Go.RowKit
set_option linter.unusedVariables false

/-- What stands at n once the first j indices are laid by how often their signs change. -/
def oV (p n : Nat) : Nat → Int
  | 0 => 0
  | j + 1 => if n = chP j (p - 1) then j else oV p n j
def orderL (p : Nat) : List Int := tab p fun n => oV p n p
def orderF (k : Int) : List Int := if 0 ≤ k ∧ k ≤ 4 then orderL (2 ^ k.toNat) else []
theorem orderF_yes (k p : Nat) (hk : k ≤ 4) (hp : 2 ^ k = p) : orderF k = orderL p := by
  unfold orderF
  rw [if_pos (by omega), Int.toNat_natCast, hp]
theorem orderF_no {k : Int} (h : ¬ (0 ≤ k ∧ k ≤ 4)) : orderF k = [] := by unfold orderF; exact if_neg h
theorem orderF_len (k : Int) : (orderF k).length ≤ 16 := by
  unfold orderF
  split
  · rename_i h
    simp only [orderL, len_tab]
    exact pow_le16 (by omega)
  · simp
def OrInv (E : Nat) (w wr : World) (g n c j : Nat) : Prop := Own E w.heap.size wr (.slice (some ⟨g, 0, none⟩) n c) (tab n fun i => oV n i j) ∧ Below w.heap.size w wr
theorem OrInv.step {E g n c j : Nat} {w wr : World} (h : OrInv E w wr g n c j) (hg : w.heap.size ≤ g) :
    OrInv E w (wr.setCell ⟨g, chP j (n - 1), none⟩ (.int .i64 j)) g n c (j + 1) := by
  refine ⟨?_, h.2.setCell hg _⟩
  have := h.1.set (chP j (n - 1)) j
  rw [tab_set] at this
  exact this
theorem OrInv.mono {E g n c j : Nat} {w w1 wr : World} (h : OrInv E w wr g n c j) (hs : Below w1.heap.size w1 w) : OrInv E w1 wr g n c j := ⟨h.1.mono hs.size, hs.trans (h.2.mono hs.size)⟩

set_option maxHeartbeats 2000000 in
theorem implOrderOf_any (k : Int) (w : World) (hk64 : -9223372036854775808 ≤ k ∧ k ≤ 9223372036854775807) :
    Calls Try.prog 37 #[.int .i64 k] w (Made 3 w (orderF k)) := by
  have hD := digit_any k w
  by_cases hk : 0 ≤ k ∧ k ≤ 4
  · rw [inR_yes hk] at hD
    obtain ⟨K, rfl⟩ : ∃ K : Nat, k = K := ⟨k.toNat, by omega⟩
    obtain ⟨n, hn⟩ : ∃ n, n = 2 ^ K := ⟨_, rfl⟩
    have hK : K ≤ 4 := by omega
    have hn16 : n ≤ 16 := by rw [hn]; exact pow_le16 hK
    have hn1 : 1 ≤ n := by rw [hn]; exact Nat.one_le_two_pow
    have hni : (2 : Int) ^ K = (n : Int) := by rw [hn]; simp
    have HF := Lib.hid (orderF_yes K n hK hn.symm)
    have HC := Lib.hid fun (y : Nat) (w : World) (hy : y < n) => implChanges_nat K n y w hK hn.symm hy
    obtain ⟨i0, hi, hz0, hz1, hz2⟩ := info_parts infoInt
    clear hn hk hk64
    go_enter Try.func37, Try.ntmps37
    go_wp2_with fail
    refine hD.mono ?_
    rintro e w1 ⟨rfl, rfl⟩
    go_wp2_with (at_make; refine wpList_make_full _ rfl _ _ 23 rfl w.heap.size 3 i0 (.int .i64 0) 1 Try.underlying23 hi hz0 hz1 _ _ _ _ n rfl rfl rfl rfl ?c1 ?c2 ?c3 ?_)
    case c1 => rw [hz2]; omega
    case c2 => unfold maxLen; omega
    case c3 => omega
    intro w3 hown hgrow
    have hO := own_made hown
    have hB := (Below.refl w.heap.size w).grown hgrow (Nat.le_refl _) (by simp)
    obtain ⟨g, hg⟩ : ∃ g, g = w.heap.size := ⟨_, rfl⟩
    have hgw : w.heap.size ≤ g := by omega
    have hI : OrInv 3 w w3 g n n 0 := by rw [hg]; exact ⟨hO, hB⟩
    rw [← hg]
    clear hown hgrow hO hB hg hi hz0 hz1 hz2 hD
    go_wp2
    go_loopw [13] (fun i wr => ∃ j : Nat, j ≤ n ∧ i = .int .i64 j ∧ OrInv 3 w wr g n n j) (fun i _ => n - (intOf i).toNat)
    case atStart => exact ⟨0, Nat.zero_le _, rfl, hI⟩
    case round =>
      obtain ⟨j, hj, rfl, hIr⟩ := hrel
      by_cases hlt : j < n
      · have hcl : chP j (n - 1) < n := by have := chP_le j (n - 1); omega
        have hCj := Lib.hid fun w => HC.out j w hlt
        have HS := Lib.hid (hIr.step hgw)
        have hf := hIr.1.frozen (chP j (n - 1))
        have hcx := hIr.1.cell (chP j (n - 1)) (by simpa using hcl)
        generalize chP j (n - 1) = c at hcl hCj HS hf hcx
        clear hI hIr HC
        go_wp2_with fail
        refine (hCj.out _).mono ?_
        rintro e w5 ⟨rfl, rfl⟩
        go_wp2
        go_roundw
        case rel => exact ⟨j + 1, by omega, by go_num, HS.out⟩
        case measure => simp [intOf]; omega
      · obtain rfl : j = n := by omega
        go_wp2
        go_ret
        exact ⟨_, rfl, by rw [HF.out]; exact hIr.1, hIr.2⟩
  · rw [inR_no hk] at hD
    have HF := Lib.hid (orderF_no hk)
    clear hk
    go_enter Try.func37, Try.ntmps37
    go_wp2_with fail
    refine hD.mono ?_
    rintro e w1 ⟨rfl, rfl⟩
    go_wp2
    go_ret
    exact ⟨_, rfl, by rw [HF.out]; exact Own.nil _ _ _, Below.refl _ _⟩

set_option maxHeartbeats 2000000 in
theorem specOrderOf_any (k : Int) (w : World) :
    Calls Try.prog 39 #[.int .i64 k] w (Made 3 w (orderF k)) := by
  have hD := inRange_any k 0 4 w
  by_cases hk : 0 ≤ k ∧ k ≤ 4
  · rw [inR_yes hk] at hD
    obtain ⟨K, rfl⟩ : ∃ K : Nat, k = K := ⟨k.toNat, by omega⟩
    obtain ⟨n, hn⟩ : ∃ n, n = 2 ^ K := ⟨_, rfl⟩
    have hK : K ≤ 4 := by omega
    have hn16 : n ≤ 16 := by rw [hn]; exact pow_le16 hK
    have hn1 : 1 ≤ n := by rw [hn]; exact Nat.one_le_two_pow
    have HF := Lib.hid (orderF_yes K n hK hn.symm)
    have HPW := Lib.hid fun w => power_any K n w (by omega) hn.symm
    have HC := Lib.hid fun (y : Nat) (w : World) (hy : y < n) => specChanges_nat K n y w hK hn.symm hy
    obtain ⟨i0, hi, hz0, hz1, hz2⟩ := info_parts infoInt
    clear hn hk
    go_enter Try.func39, Try.ntmps39
    go_wp2_with fail
    refine hD.mono ?_
    rintro e w1 ⟨rfl, rfl⟩
    go_wp2_with fail
    refine (HPW.out _).mono ?_
    rintro e w1 ⟨rfl, rfl⟩
    go_wp2_with (at_make; refine wpList_make_full _ rfl _ _ 23 rfl w.heap.size 3 i0 (.int .i64 0) 1 Try.underlying23 hi hz0 hz1 _ _ _ _ n rfl rfl rfl rfl ?c1 ?c2 ?c3 ?_)
    case c1 => rw [hz2]; omega
    case c2 => unfold maxLen; omega
    case c3 => omega
    intro w3 hown hgrow
    have hO := own_made hown
    have hB := (Below.refl w.heap.size w).grown hgrow (Nat.le_refl _) (by simp)
    obtain ⟨g, hg⟩ : ∃ g, g = w.heap.size := ⟨_, rfl⟩
    have hgw : w.heap.size ≤ g := by omega
    have hI : OrInv 3 w w3 g n n 0 := by rw [hg]; exact ⟨hO, hB⟩
    rw [← hg]
    clear hown hgrow hO hB hg hi hz0 hz1 hz2 hD
    go_wp2
    go_loopw [4] (fun i wr => ∃ j : Nat, j ≤ n ∧ i = .int .i64 j ∧ OrInv 3 w wr g n n j) (fun i _ => n - (intOf i).toNat)
    case atStart => exact ⟨0, Nat.zero_le _, rfl, hI⟩
    case round =>
      obtain ⟨j, hj, rfl, hIr⟩ := hrel
      by_cases hlt : j < n
      · have hcl : chP j (n - 1) < n := by have := chP_le j (n - 1); omega
        have hCj := Lib.hid fun w => HC.out j w hlt
        have HS := Lib.hid (hIr.step hgw)
        have hf := hIr.1.frozen (chP j (n - 1))
        have hcx := hIr.1.cell (chP j (n - 1)) (by simpa using hcl)
        generalize chP j (n - 1) = c at hcl hCj HS hf hcx
        clear hI hIr HC
        go_wp2_with fail
        refine (HPW.out _).mono ?_
        rintro e w5 ⟨rfl, rfl⟩
        go_wp2_with fail
        refine (hCj.out _).mono ?_
        rintro e w5 ⟨rfl, rfl⟩
        go_wp2
        go_roundw
        case rel => exact ⟨j + 1, by omega, by go_num, HS.out⟩
        case measure => simp [intOf]; omega
      · obtain rfl : j = n := by omega
        go_wp2_with fail
        refine (HPW.out _).mono ?_
        rintro e w5 ⟨rfl, rfl⟩
        go_wp2
        go_ret
        exact ⟨_, rfl, by rw [HF.out]; exact hIr.1, hIr.2⟩
  · rw [inR_no hk] at hD
    have HF := Lib.hid (orderF_no hk)
    clear hk
    go_enter Try.func39, Try.ntmps39
    go_wp2_with fail
    refine hD.mono ?_
    rintro e w1 ⟨rfl, rfl⟩
    go_wp2
    go_ret
    exact ⟨_, rfl, by rw [HF.out]; exact Own.nil _ _ _, Below.refl _ _⟩

end Go.Proofs.Ytpalmbcknjmmcaa
