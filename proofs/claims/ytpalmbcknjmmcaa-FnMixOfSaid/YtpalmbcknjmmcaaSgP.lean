/-
  SignsOf of the program, by its contract.
-/
import Derived.Test.YtpalmbcknjmmcaaSgU
namespace Go.Proofs.Ytpalmbcknjmmcaa
open Go.RowKit
set_option linter.unusedVariables false

/-- The sums with signs on the way: those ahead of k are made. -/
def sK (F : Nat → Int) (k j : Nat) : Int := if j < k then wrap64 (sgE F 16 j) else 0
theorem sK_step (F : Nat → Int) (k j : Nat) : (if j = k then wrap64 (sgE F 16 k) else sK F k j) = sK F (k + 1) j := by
  unfold sK
  by_cases h : j = k
  · rw [if_pos h, if_pos (by omega), h]
  · rw [if_neg h]
    by_cases h2 : j < k
    · rw [if_pos h2, if_pos (by omega)]
    · rw [if_neg h2, if_neg (by omega)]
def SgInv (E : Nat) (w wr : World) (g0 g1 n c k : Nat) (F : Nat → Int) : Prop :=
  Own E (g0 + 1) wr (.slice (some ⟨g1, 0, none⟩) n c) (tab n (sK F k)) ∧ wr.heap[g0]? = some (.cells (arr F) 50 (0, 0)) ∧ Below w.heap.size w wr
theorem SgInv.call {E g0 g1 n c k : Nat} {w wr w2 : World} {F : Nat → Int} (h : SgInv E w wr g0 g1 n c k F) (b : Below wr.heap.size wr w2) : SgInv E w w2 g0 g1 n c k F := by
  obtain ⟨h1, h2, h3⟩ := h
  refine ⟨h1.below b (Nat.le_refl _), ?_, bel_nxt h3 b⟩
  rw [b.block g0 (Array.getElem?_eq_some_iff.1 h2).1]; exact h2
theorem SgInv.step {E g0 g1 n c k : Nat} {w wr : World} {F : Nat → Int} (h : SgInv E w wr g0 g1 n c k F) (hg : w.heap.size ≤ g0) (hg1 : g0 + 1 ≤ g1) :
    SgInv E w (wr.setCell ⟨g1, k, none⟩ (.int .i64 (wrap64 (sgE F 16 k)))) g0 g1 n c (k + 1) F := by
  obtain ⟨h1, h2, h3⟩ := h
  refine ⟨?_, ?_, h3.setCell (by show w.heap.size ≤ g1; omega) _⟩
  · have := h1.set k (wrap64 (sgE F 16 k))
    rw [tab_set, tab_congr (fun j _ => sK_step F k j)] at this
    exact this
  · rw [Below.heap_setCell _ _ _ _ (by show g0 ≠ g1; omega)]; exact h2

set_option maxHeartbeats 2000000 in
theorem implSignsOf_any (v : Value) (xs : List Int) (w : World) (h : Rd w v xs) (hl : xs.length ≤ maxLen) (hw : ∀ n ∈ xs, (Lit.int .i64 n).wf = true) :
    Calls Try.prog 26 #[v] w (Made 3 w (signsF xs)) := by
  have hv := isBinaryRow_any v xs w h hl
  cases hb : cubeB xs with
  | true =>
    rw [hb] at hv
    have hle := (vrB_of (cubeB_of hb).1).1
    have hpos := cube_pos hb
    obtain ⟨F, hFF⟩ : ∃ F, F = ix xs := ⟨_, rfl⟩
    obtain ⟨n, hn⟩ : ∃ n, n = xs.length := ⟨_, rfl⟩
    have hF : Hid (signsF xs = tab n (sK F n)) := by
      show signsF xs = _
      unfold signsF
      rw [if_pos hb, signsL, ← hn]
      exact tab_congr fun j hj => by unfold sK; rw [if_pos hj, hFF, sg_noughts xs hle j, hn]
    obtain ⟨i0, hi, hz0, hz1, hz2⟩ := info_parts infoInt
    have h0 := h
    obtain ⟨ad, cap, rfl, hr⟩ := h0
    have HN := Lib.hid hn
    go_enter Try.func26, Try.ntmps26
    go_wp2_with fail
    refine hv.mono ?_
    rintro e w1 ⟨rfl, b1⟩
    go_wp2_with fail
    refine (cellsOf_any _ xs _ (h.below b1 (Nat.le_refl _)) hle).mono ?_
    rintro e w2 ⟨rfl, b2⟩
    rw [← hFF]
    rw [← hn] at hle hpos ⊢
    have hst := store_new F w2
    have bb := bel_nxt b1 b2
    clear hb hv h hFF hn hr hl b1 b2 hw
    go_wp2_with (first | with_reducible refine wpList_storev rfl (.tmp 3) (.tmp 10) 50 rfl _ rfl _ rfl hst ?_ | (at_make; refine wpList_make_full _ rfl _ _ 23 rfl (w2.heap.size + 1) 3 i0 (.int .i64 0) 1 Try.underlying23 hi hz0 hz1 _ _ _ _ n rfl rfl rfl rfl ?c1 ?c2 ?c3 ?_))
    case c1 => rw [hz2]; omega
    case c2 => unfold maxLen; omega
    case c3 => rw [size_one]; omega
    intro w3 hown hgrow
    have hO := own_made hown
    have hB3 : Below (w2.heap.size + 1) (w2.alloc (.cells (arr F) 50)) w3 := (Below.refl (w2.heap.size + 1) (w2.alloc (.cells (arr F) 50))).grown hgrow (by rw [size_one]; omega) (by simp)
    have hH : w3.heap[w2.heap.size]? = some (.cells (arr F) 50 (0, 0)) := by rw [hB3.block w2.heap.size (by omega)]; exact heap_alloc_last _ _
    have hB4 : Below w.heap.size w w3 := (bb.alloc bb.size (.cells (arr F) 50)).trans (hB3.mono (by have := bb.size; omega))
    have hg0 := bb.size
    obtain ⟨g0, hg⟩ : ∃ g0, g0 = w2.heap.size := ⟨_, rfl⟩
    rw [← hg] at hH hO hg0 ⊢
    have hI : SgInv 3 w w3 g0 (g0 + 1) n n 0 F := by
      refine ⟨?_, hH, hB4⟩
      rw [tab_congr (g := fun _ => 0) (fun j _ => by unfold sK; rw [if_neg (by omega)])]
      exact hO
    obtain ⟨g1, hg1e⟩ : ∃ g1, g1 = g0 + 1 := ⟨_, rfl⟩
    have hg1 : g0 + 1 ≤ g1 := by omega
    rw [← hg1e] at hI ⊢
    clear hst bb hown hgrow hO hB3 hH hB4 hg hg1e hi hz0 hz1 hz2
    go_wp2
    go_loopw [16] (fun i wr => ∃ k : Nat, k ≤ n ∧ i = .int .i64 k ∧ SgInv 3 w wr g0 g1 n n k F) (fun i _ => n - (intOf i).toNat)
    case atStart => exact ⟨0, Nat.zero_le _, rfl, hI⟩
    case round =>
      obtain ⟨k, hk, rfl, hIr⟩ := hrel
      by_cases hlt : k < n
      · have hld := load_arr hIr.2.1
        have hf := hIr.1.frozen k
        have hcx := hIr.1.cell k (by simpa using hlt)
        clear hI
        go_wp2_with (with_reducible refine wpList_loadv rfl (.tmp 3) 50 rfl _ rfl _ hld ?_)
        refine (weighSg_any F k _ (by omega)).mono ?_
        rintro e w5 ⟨rfl, b5⟩
        have hI5 := hIr.call b5
        have hf := hI5.1.frozen k
        have hcx := hI5.1.cell k (by simpa using hlt)
        have HS := Lib.hid (hI5.step hg0 hg1)
        clear hld hIr hI5
        go_wp2
        go_roundw
        case rel => exact ⟨k + 1, by omega, by go_num, HS.out⟩
        case measure => simp [intOf]; omega
      · obtain rfl : k = n := by omega
        go_wp2
        go_ret
        exact ⟨_, rfl, by rw [hF.out]; exact hIr.1.mono (by omega), hIr.2.2⟩
  | false =>
    rw [hb] at hv
    have hF : Hid (signsF xs = []) := by show signsF xs = _; unfold signsF; exact if_neg (by simp [hb])
    go_enter Try.func26, Try.ntmps26
    go_wp2_with fail
    refine hv.mono ?_
    rintro e w1 ⟨rfl, b1⟩
    go_wp2
    go_ret
    exact ⟨_, rfl, by rw [hF.out]; exact Own.nil _ _ _, b1⟩

end Go.Proofs.Ytpalmbcknjmmcaa
