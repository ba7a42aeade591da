/-
  What times leaves, as the model's products.
-/
import Derived.Test.YtlglokbakmbpdaaPm1
import Derived.Test.YtlglokbakmbpdaaPdP
namespace Go.Proofs.Ytlglokbakmbpdaa
open Go Go.Conc Go.RowKit
set_option linter.unusedVariables false

theorem addP_tab (L : Nat) (g : Nat → Int) (p : Nat) (x : Int) (hp : p < L) : addP (tab L g) (p, x) = tab L fun j => if j = p then wrap64 (g j + x) else g j := by
  unfold addP
  rw [ix_tab _ _ _ hp, tab_set]
  refine tab_congr fun j _ => ?_
  by_cases h : j = p
  · subst h; rfl
  · rw [if_neg h, if_neg h]

section
variable {F G : Nat → Int} {f : Nat → Nat → Nat × Int} {m L : Nat}
theorem prR_fold {i : Nat} (hf : ∀ j, (f i j).1 = i + j ∧ ∀ z, wrap64 (z + (f i j).2) = wrap64 (z + F i * G j)) : ∀ (k j : Nat), i + j + k ≤ L → (prR f i j k).foldl addP (tab L fun p => wrap64 (mulP F G m i j p)) = tab L fun p => wrap64 (mulP F G m i (j + k) p)
  | 0, j, _ => rfl
  | k + 1, j, h => by
    obtain ⟨e1, e2⟩ := hf j
    have e0 : f i j = (i + j, (f i j).2) := by rw [← e1]
    rw [prR, List.foldl_cons, e0, addP_tab _ _ _ _ (by omega)]
    have e3 : (tab L fun p => if p = i + j then wrap64 (wrap64 (mulP F G m i j p) + (f i j).2) else wrap64 (mulP F G m i j p)) = tab L fun p => wrap64 (mulP F G m i (j + 1) p) := by
      refine tab_congr fun p _ => ?_
      rw [mulP_step]
      by_cases hp : p = i + j
      · rw [if_pos hp, if_pos hp.symm, e2, w64_addL]
      · rw [if_neg hp, if_neg fun h => hp h.symm, Int.add_zero]
    rw [e3, prR_fold hf k (j + 1) (by omega)]
    rw [show j + 1 + k = j + (k + 1) by omega]

theorem prA_fold (hf : ∀ i j, (f i j).1 = i + j ∧ ∀ z, wrap64 (z + (f i j).2) = wrap64 (z + F i * G j)) : ∀ (r i : Nat), (r ≠ 0 → i + r + m ≤ L + 1) → (prA f m i r).foldl addP (tab L fun p => wrap64 (mulP F G m i 0 p)) = tab L fun p => wrap64 (mulP F G m (i + r) 0 p)
  | 0, i, _ => rfl
  | r + 1, i, h => by
    have h' := h (by omega)
    rw [prA, List.foldl_append, prR_fold (hf i) m 0 (by omega)]
    rw [show (tab L fun p => wrap64 (mulP F G m i (0 + m) p)) = tab L fun p => wrap64 (mulP F G m (i + 1) 0 p) from tab_congr fun p _ => by rw [Nat.zero_add, mulP_next]]
    rw [prA_fold hf r (i + 1) (fun _ => by omega), show i + 1 + r = i + (r + 1) by omega]

theorem prod_fold (hf : ∀ i j, (f i j).1 = i + j ∧ ∀ z, wrap64 (z + (f i j).2) = wrap64 (z + F i * G j)) {n : Nat} (hL : n + m ≤ L + 1) : (prA f m 0 n).foldl addP (List.replicate L 0) = tab L fun p => wrap64 (mulE F G n m p) := by
  rw [tab_replicate, show (tab L fun _ => (0 : Int)) = tab L fun p => wrap64 (mulP F G m 0 0 p) from tab_congr fun p _ => by rw [mulP_zero]; unfold wrap64; omega, prA_fold hf n 0 (fun _ => by omega), Nat.zero_add]
  exact tab_congr fun p _ => by rw [mulP_all]
end

theorem RF_own {N sb : Nat} {W : World} {zs : List Int} {w : World} (hsb : sb < N) (hW : W.heap.size = sb) (hz : zs.length ≤ maxLen) (h : RF N sb W zs w) : Own 3 W.heap.size w (.slice (some ⟨sb, 0, none⟩) zs.length zs.length) zs ∧ Below W.heap.size W w := by
  refine ⟨⟨by simp, .inr ⟨sb, zs.length, _, rfl, by omega, h.sums, Nat.le_refl _, hz, by simp, ?_⟩⟩, ⟨h.os, h.tape, h.output, by have := h.size; omega, fun k hk => h.keep k (by omega) (by omega)⟩⟩
  rw [Nat.mul_one, List.toList_toArray, List.take_of_length_le (by simp)]
end Go.Proofs.Ytlglokbakmbpdaa
