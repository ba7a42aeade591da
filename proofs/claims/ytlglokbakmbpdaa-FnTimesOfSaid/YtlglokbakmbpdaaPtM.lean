/-
  The world in which products has laid all that its sender and its receiver share; the products that are sent.
-/
import Derived.Test.YtlglokbakmbpdaaTn
import Derived.Test.YtlglokbakmbpdaaPrM
namespace Go.Proofs.Ytlglokbakmbpdaa
open Go Go.Conc Go.RowKit
set_option linter.unusedVariables false

/-- The boxes, the channel, the variable that holds it: made in world w. -/
def wprod (ta : TypeId) (va vb : Value) (w : World) : World :=
  ((((w.alloc (.cells #[va] ta)).alloc (.cells #[vb] ta)).alloc (.chan 16 #[] false 0 0 false)).alloc (.cells #[.chan none] 74)).setCell ⟨w.heap.size + 3, 0, none⟩ (.chan (some (w.heap.size + 2)))
/-- .. behind the sums. -/
def wsum (L : Nat) (w : World) : World := w.alloc (.cells (Array.replicate L (Value.int .i64 0)) 3)

section
variable {ta : TypeId} {va vb : Value} {w : World} {L : Nat}
theorem wprod_heap (k : Nat) : (wprod ta va vb w).heap[k]? = if k = w.heap.size then some (.cells #[va] ta) else if k = w.heap.size + 1 then some (.cells #[vb] ta) else if k = w.heap.size + 2 then some (.chan 16 #[] false 0 0 false)
    else if k = w.heap.size + 3 then some (.cells #[.chan (some (w.heap.size + 2))] 74) else w.heap[k]? := by
  unfold wprod World.setCell World.alloc
  simp only [Array.getElem?_modify, Array.getElem?_push, Array.size_push]
  by_cases h3 : k = w.heap.size + 3
  · subst h3; simp
  · rw [if_neg (by omega)]
    by_cases h2 : k = w.heap.size + 2
    · subst h2; simp
    · by_cases h1 : k = w.heap.size + 1
      · subst h1; simp
      · by_cases h0 : k = w.heap.size
        · subst h0
          simp only [Nat.add_assoc, Nat.reduceAdd]
          rw [if_neg (by omega), if_neg (by omega), if_neg (by omega)]
          simp
        · rw [if_neg (by omega), if_neg (by omega), if_neg (by omega), if_neg (by omega), if_neg h0, if_neg h1, if_neg h2, if_neg h3]
theorem wprod_size : (wprod ta va vb w).heap.size = w.heap.size + 4 := by simp [wprod]

theorem wprod_RF : RF (w.heap.size + 1) w.heap.size w (List.replicate L 0) (wprod ta va vb (wsum L w)) := by
  have hs : (wsum L w).heap.size = w.heap.size + 1 := by simp [wsum]
  have hh : ∀ k, k < w.heap.size + 1 → (wprod ta va vb (wsum L w)).heap[k]? = (wsum L w).heap[k]? := fun k hk => by
    rw [wprod_heap, hs, if_neg (by omega), if_neg (by omega), if_neg (by omega), if_neg (by omega)]
  refine ⟨fun k h1 h2 => ?_, rfl, rfl, rfl, by rw [wprod_size, hs]; omega, ?_, ?_⟩
  · rw [hh k h1]
    unfold wsum
    exact Below.heap_alloc _ _ _ (by omega)
  · rw [hh _ (by omega)]
    unfold wsum
    rw [show ((List.replicate L (0 : Int)).map (Value.int .i64)).toArray = Array.replicate L (Value.int .i64 0) by simp]
    exact heap_alloc_new _ _
  · unfold World.cell?
    dsimp only
    rw [wprod_heap, hs, if_neg (by omega), if_neg (by omega), if_neg (by omega), if_pos rfl]
    rfl

theorem wprod_chan : (wprod ta va vb (wsum L w)).heap[w.heap.size + 1 + 2]? = some (.chan 16 #[] false 0 0 false) := by
  have hs : (wsum L w).heap.size = w.heap.size + 1 := by simp [wsum]
  rw [wprod_heap, hs, if_neg (by omega), if_neg (by omega), if_pos rfl]

theorem wprod_shd {k : IntKind} {a0 b0 : Option Addr} {n m ca cb : Nat} {xs ys : List Int} (ha : ∀ ad, a0 = some ad → 0 < n → ad.block < w.heap.size) (hb : ∀ ad, b0 = some ad → 0 < m → ad.block < w.heap.size)
    (ea : ∀ j ad, j < n → a0 = some ad → w.cell? (ad.add j) = some (.int k (ix xs j))) (eb : ∀ j ad, j < m → b0 = some ad → w.cell? (ad.add j) = some (.int k (ix ys j))) :
    Shd k (w.heap.size + 1) a0 b0 n m ca cb xs ys (wprod ta (.slice a0 n ca) (.slice b0 m cb) (wsum L w)) := by
  have hs : (wsum L w).heap.size = w.heap.size + 1 := by simp [wsum]
  have old : ∀ k, k < w.heap.size → (wprod ta (.slice a0 n ca) (.slice b0 m cb) (wsum L w)).heap[k]? = w.heap[k]? := fun k hk => (wprod_RF (L := L)).keep k (by omega) (by omega)
  refine ⟨?_, ?_, ?_, fun j ad hj e => (World.cell?_of_block (old _ ?_)).trans (ea j ad hj e), fun j ad hj e => (World.cell?_of_block (old _ ?_)).trans (eb j ad hj e)⟩
  · unfold World.cell?
    dsimp only
    rw [wprod_heap, hs, if_pos rfl]
    rfl
  · unfold World.cell?
    dsimp only
    rw [wprod_heap, hs, if_neg (by omega), if_pos rfl]
    rfl
  · unfold World.cell?
    dsimp only
    rw [wprod_heap, hs, if_neg (by omega), if_neg (by omega), if_neg (by omega), if_pos rfl]
    rfl
  · rw [addr_block]; exact ha ad e (by omega)
  · rw [addr_block]; exact hb ad e (by omega)
end

theorem RF.sm {N sb : Nat} {W : World} {zs : List Int} {w w₁ : World} (h : RF N sb W zs w) (hs : Sm w w₁) : RF N sb W zs w₁ := by
  obtain ⟨d, rfl⟩ := hs
  exact ⟨h.keep, h.tape, h.os, h.output, h.size, h.sums, h.chv⟩

/-- The pairs that are sent: as lists. -/
def prR (f : Nat → Nat → Nat × Int) (i : Nat) : Nat → Nat → List (Nat × Int)
  | _, 0 => []
  | j, k + 1 => f i j :: prR f i (j + 1) k
def prA (f : Nat → Nat → Nat × Int) (m : Nat) : Nat → Nat → List (Nat × Int)
  | _, 0 => []
  | i, r + 1 => prR f i 0 m ++ prA f m (i + 1) r

theorem valsR_map {f : Nat → Nat → Nat × Int} {g : Nat → Nat → Value} {i : Nat} : ∀ (k j : Nat), (∀ j', j' < j + k → g i j' = pv (f i j').1 (f i j').2) → (prR f i j k).map (fun e => pv e.1 e.2) = valsR g i j k
  | 0, _, _ => rfl
  | k + 1, j, h => by simp [prR, valsR, valsR_map k (j + 1) (fun j' h' => h j' (by omega)), h j (by omega)]
theorem valsA_map {f : Nat → Nat → Nat × Int} {g : Nat → Nat → Value} {m : Nat} : ∀ (r i : Nat), (∀ i' j', i' < i + r → j' < m → g i' j' = pv (f i' j').1 (f i' j').2) → (prA f m i r).map (fun e => pv e.1 e.2) = valsA g m i r
  | 0, _, _ => rfl
  | r + 1, i, h => by simp [prA, valsA, valsR_map m 0 (fun j' h' => h i j' (by omega) (by omega)), valsA_map r (i + 1) (fun i' j' h1 h2 => h i' j' (by omega) h2)]

theorem prR_lt {f : Nat → Nat → Nat × Int} {i L : Nat} : ∀ (k j : Nat), (∀ j', j ≤ j' → j' < j + k → (f i j').1 < L) → ∀ e ∈ prR f i j k, e.1 < L
  | 0, _, _ => fun e he => by simp [prR] at he
  | k + 1, j, h => fun e he => by
    rcases List.mem_cons.1 he with rfl | he
    · exact h j (by omega) (by omega)
    · exact prR_lt k (j + 1) (fun j' h1 h2 => h j' (by omega) (by omega)) e he
theorem prA_lt {f : Nat → Nat → Nat × Int} {m L : Nat} : ∀ (r i : Nat), (∀ i' j', i' < i + r → j' < m → (f i' j').1 < L) → ∀ e ∈ prA f m i r, e.1 < L
  | 0, _, _ => fun e he => by simp [prA] at he
  | r + 1, i, h => fun e he => by
    rcases List.mem_append.1 he with he | he
    · exact prR_lt m 0 (fun j' _ h2 => h i j' (by omega) (by omega)) e he
    · exact prA_lt r (i + 1) (fun i' j' h1 h2 => h i' j' (by omega) h2) e he
end Go.Proofs.Ytlglokbakmbpdaa
