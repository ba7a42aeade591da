/-
  PsM: What the sender and the receiver of products share, and the values that are sent.
  PrM: What the receiver of products knows of the world.
  PtM: The world in which products has laid all that its sender and its receiver share; the products that are sent.
  (Merged by merge.py.)
-/
import Derived.Test.YtlglokbakmbpdaaT1
import Derived.Test.YtlglokbakmbpdaaBase
import Derived.Conc.PipeWords
import Derived.Conc.Fork
import Derived.KernelRfl
import Derived.Conc.CompanyMem
import Derived.Below
import Derived.Laws.NewBlocks
namespace Go.Proofs.Ytlglokbakmbpdaa
open Go Go.Conc
set_option linter.unusedVariables false

/-- What is the receiver's own: the sums' block, and what is made behind the go statement. -/
def MineP (N sb : Nat) : Loc → Prop := fun l => ∃ a : Addr, l = .cell a ∧ (N + 4 ≤ a.block ∨ a.block = sb)

/-- What the sender reads. -/
structure Shd (k : IntKind) (N : Nat) (a0 b0 : Option Addr) (n m ca cb : Nat) (xs ys : List Int) (w : World) : Prop where
  ba : w.cell? ⟨N, 0, none⟩ = some (.slice a0 n ca)
  bb : w.cell? ⟨N + 1, 0, none⟩ = some (.slice b0 m cb)
  ch : w.cell? ⟨N + 3, 0, none⟩ = some (.chan (some (N + 2)))
  ea : ∀ j ad, j < n → a0 = some ad → w.cell? (ad.add j) = some (.int k (ix xs j))
  eb : ∀ j ad, j < m → b0 = some ad → w.cell? (ad.add j) = some (.int k (ix ys j))

theorem addr_block (a : Addr) (n : Nat) : (a.add n).block = a.block := by unfold Addr.add; split <;> rfl

theorem Shd.aside {k : IntKind} {N : Nat} {a0 b0 : Option Addr} {n m ca cb : Nat} {xs ys : List Int} {w w' : World} (ha : ∀ ad, a0 = some ad → 0 < n → ad.block < N) (hb : ∀ ad, b0 = some ad → 0 < m → ad.block < N)
    (h : Aside (N + 2) w w') (hs : Shd k N a0 b0 n m ca cb xs ys w) : Shd k N a0 b0 n m ca cb xs ys w' :=
  ⟨(World.cell?_of_block (h.block N (by omega))).trans hs.ba, (World.cell?_of_block (h.block (N + 1) (by omega))).trans hs.bb, (World.cell?_of_block (h.block (N + 3) (by omega))).trans hs.ch,
   fun j ad hj e => (World.cell?_of_block (h.block _ (by rw [addr_block]; have := ha ad e (by omega); omega))).trans (hs.ea j ad hj e),
   fun j ad hj e => (World.cell?_of_block (h.block _ (by rw [addr_block]; have := hb ad e (by omega); omega))).trans (hs.eb j ad hj e)⟩

theorem evB_cellP {N sb : Nat} (a : Addr) (s : Bool) (h : a.block < N + 4) (h2 : a.block ≠ sb) : EvB (MineP N sb) ⟨.cell a, false, s⟩ :=
  ⟨fun m => by simp, rfl, fun ⟨a', e, h'⟩ => by cases e; rcases h' with h' | h' <;> omega⟩

/-- A deferred call is laid by. -/
theorem stepG_deferD {P : Program} {main : Bool} {b : Frame} {a : Act} {k : List Item} {cs : List Frame} {w : World} {ops : Array Oper} {i : Nat} {rest : List Nat} {o : Oper} {d : Deferred} (ho : ops[i]? = some o)
    (hw : Region.wanted o (yielded ops a.tmps) = true) (hk : b.kind ≠ .early) (hr : (execOp a.eval o).run P w = .ok (.defer d) w) (he : (execOp a.eval o).events P w #[] = #[]) :
    stepG P main (G (b.at a (.inRegion ops (i :: rest) :: k)) cs) w = .go (G (b.at (Act.put ⟨a.tmps, d :: a.defers⟩ o.dst undef) (.inRegion ops rest :: k)) cs) w #[] := by
  have hfin : (b.at ⟨a.tmps, d :: a.defers⟩ (.inRegion ops (i :: rest) :: k)).finish undef = b.at (Act.put ⟨a.tmps, d :: a.defers⟩ o.dst undef) (.inRegion ops rest :: k) := by rw [Frame.finish_at, ho]; rfl
  have hk' : (b.kind == CallKind.early) = false := by simpa using hk
  rw [stepG_oper ho hw, ← hfin]
  simp [stepG.apply, hr, he, G, Frame.at, hk', GStep.after, seen_none]

/-- One product as it is sent. -/
def pv (p x : Int) : Value := .agg #[.int .i64 p, .int .i64 x]
/-- k products of row i from place j on. -/
def valsR (f : Nat → Nat → Value) (i : Nat) : Nat → Nat → List Value
  | _, 0 => []
  | j, k + 1 => f i j :: valsR f i (j + 1) k
/-- The products of r rows from row i on, each of m. -/
def valsA (f : Nat → Nat → Value) (m : Nat) : Nat → Nat → List Value
  | _, 0 => []
  | i, r + 1 => valsR f i 0 m ++ valsA f m (i + 1) r

end Go.Proofs.Ytlglokbakmbpdaa

namespace Go.Proofs.Ytlglokbakmbpdaa
open Go Go.Conc Go.RowKit
set_option linter.unusedVariables false

/-- Blocks below N stand as in W, but for the sums' block, which holds zs. -/
structure RF (N sb : Nat) (W : World) (zs : List Int) (w : World) : Prop where
  keep : ∀ k, k < N → k ≠ sb → w.heap[k]? = W.heap[k]?
  tape : w.tape = W.tape
  os : w.os = W.os
  output : w.output = W.output
  size : N + 4 ≤ w.heap.size
  sums : w.heap[sb]? = some (.cells (zs.map (Value.int .i64)).toArray 3)
  chv : w.cell? ⟨N + 3, 0, none⟩ = some (.chan (some (N + 2)))

theorem RF.aside {N sb : Nat} (hsb : sb < N) {W : World} {zs : List Int} {w w₁ : World} (h : RF N sb W zs w) (ha : Aside (N + 2) w w₁) : RF N sb W zs w₁ :=
  ⟨fun k h1 h2 => (ha.block k (by omega)).trans (h.keep k h1 h2), ha.tape.trans h.tape, ha.os.trans h.os, ha.output.trans h.output, by rw [ha.size]; exact h.size, (ha.block sb (by omega)).trans h.sums, (World.cell?_of_block (ha.block (N + 3) (by omega))).trans h.chv⟩

section
variable {kd : IntKind} {N sb : Nat} {a0 b0 : Option Addr} {n m ca cb : Nat} {xs ys : List Int}

theorem DA_evs {w : World} {es : Array Event} (he : ∀ e ∈ es, EvA (MineP N sb) e) : DA (N + 2) (Shd kd N a0 b0 n m ca cb xs ys) (MineP N sb) w w es := ⟨id, rfl, he⟩
theorem DA_still {w : World} : DA (N + 2) (Shd kd N a0 b0 n m ca cb xs ys) (MineP N sb) w w #[] := ⟨id, rfl, by simp⟩

/-- A step that turns the receiver's own alone. -/
theorem DA_own (ha : ∀ ad, a0 = some ad → 0 < n → ad.block < N ∧ ad.block ≠ sb) (hb : ∀ ad, b0 = some ad → 0 < m → ad.block < N ∧ ad.block ≠ sb) (hsb : sb < N) {w w' : World} {es : Array Event}
    (h : ∀ k, k < N + 4 → k ≠ sb → w'.heap[k]? = w.heap[k]?) (he : ∀ e ∈ es, EvA (MineP N sb) e) : DA (N + 2) (Shd kd N a0 b0 n m ca cb xs ys) (MineP N sb) w w' es :=
  ⟨fun hs => ⟨(World.cell?_of_block (h N (by omega) (by omega))).trans hs.ba, (World.cell?_of_block (h (N + 1) (by omega) (by omega))).trans hs.bb, (World.cell?_of_block (h (N + 3) (by omega) (by omega))).trans hs.ch,
   fun j ad hj e => (World.cell?_of_block (h _ (by rw [addr_block]; have := ha ad e (by omega); omega) (by rw [addr_block]; have := ha ad e (by omega); omega))).trans (hs.ea j ad hj e),
   fun j ad hj e => (World.cell?_of_block (h _ (by rw [addr_block]; have := hb ad e (by omega); omega) (by rw [addr_block]; have := hb ad e (by omega); omega))).trans (hs.eb j ad hj e)⟩, h (N + 2) (by omega) (by omega), he⟩
end

theorem evA_read {N sb : Nat} (l : Loc) (s : Bool) (h : ∀ m, l = .mark m → Neutral m) : EvA (MineP N sb) ⟨l, false, s⟩ := ⟨h, fun h => by cases h⟩
theorem evA_write {N sb : Nat} (a : Addr) (s : Bool) (h : N + 4 ≤ a.block ∨ a.block = sb) : EvA (MineP N sb) ⟨.cell a, true, s⟩ := ⟨fun m => by simp, fun _ => ⟨a, rfl, h⟩⟩

theorem RF.alloc {N sb : Nat} (hsb : sb < N) {W : World} {zs : List Int} {w : World} (h : RF N sb W zs w) (o : Obj) : RF N sb W zs (w.alloc o) :=
  ⟨fun k h1 h2 => by rw [Below.heap_alloc _ _ _ (by have := h.size; omega)]; exact h.keep k h1 h2, h.tape, h.os, h.output, by have := h.size; simp; omega, by rw [Below.heap_alloc _ _ _ (by have := h.size; omega)]; exact h.sums, by rw [World.cell?_alloc_past _ _ _ (by have := h.size; omega)]; exact h.chv⟩

/-- .. and the variable of the round, in block B. -/
structure RP (N sb : Nat) (W : World) (zs : List Int) (B : Nat) (u v : Int) (w : World) : Prop where
  rf : RF N sb W zs w
  lo : N + 4 ≤ B
  bl : w.heap[B]? = some (.cells #[.int .i64 u, .int .i64 v] 67)

theorem RP.aside {N sb : Nat} (hsb : sb < N) {W : World} {zs : List Int} {B : Nat} {u v : Int} {w w₁ : World} (h : RP N sb W zs B u v w) (ha : Aside (N + 2) w w₁) : RP N sb W zs B u v w₁ :=
  ⟨h.rf.aside hsb ha, h.lo, (ha.block B (by have := h.lo; omega)).trans h.bl⟩

theorem RP.made {N sb : Nat} (hsb : sb < N) {W : World} {zs : List Int} {w : World} (h : RF N sb W zs w) : RP N sb W zs w.heap.size 0 0 (w.alloc (.cells #[.int .i64 0, .int .i64 0] 67)) :=
  ⟨h.alloc hsb _, h.size, by rw [heap_alloc_new]⟩

section
variable {N sb : Nat} {W : World} {zs : List Int} {B : Nat} {u v : Int} {w : World}
theorem RP.c0 (h : RP N sb W zs B u v w) : w.cell? ⟨B, 0, none⟩ = some (.int .i64 u) := by unfold World.cell?; rw [h.bl]; rfl
theorem RP.c1 (h : RP N sb W zs B u v w) : w.cell? ⟨B, 1, none⟩ = some (.int .i64 v) := by unfold World.cell?; rw [h.bl]; rfl
theorem RP.f0 (h : RP N sb W zs B u v w) : w.frozen? ⟨B, 0, none⟩ = false := by unfold World.frozen?; rw [h.bl]; rfl
theorem RP.f1 (h : RP N sb W zs B u v w) : w.frozen? ⟨B, 1, none⟩ = false := by unfold World.frozen?; rw [h.bl]; rfl

theorem RF.setCell (h : RF N sb W zs w) (a : Addr) (x : Value) (ha : N + 4 ≤ a.block) (hsb : sb < N) : RF N sb W zs (w.setCell a x) :=
  ⟨fun k h1 h2 => by rw [Below.heap_setCell _ _ _ _ (by omega)]; exact h.keep k h1 h2, h.tape, h.os, h.output, by simp; exact h.size, by rw [Below.heap_setCell _ _ _ _ (by omega)]; exact h.sums,
   by rw [World.cell?_of_block (Below.heap_setCell _ _ _ _ (by simp; omega))]; exact h.chv⟩

theorem RP.set (hsb : sb < N) (h : RP N sb W zs B u v w) (p x : Int) : RP N sb W zs B p x ((w.setCell ⟨B, 0, none⟩ (.int .i64 p)).setCell ⟨B, 1, none⟩ (.int .i64 x)) := by
  refine ⟨(h.rf.setCell _ _ h.lo hsb).setCell _ _ h.lo hsb, h.lo, ?_⟩
  have hb := h.bl
  have e : ∀ (w : World) (u v : Int) (j : Nat) (x : Int), w.heap[B]? = some (.cells #[.int .i64 u, .int .i64 v] 67) → (w.setCell ⟨B, j, none⟩ (.int .i64 x)).heap[B]? = some (.cells (#[Value.int .i64 u, .int .i64 v].setIfInBounds j (.int .i64 x)) 67) := by
    intro w u v j x hb
    unfold World.setCell
    rw [Array.getElem?_modify]
    simp [hb]
  rw [e _ p v 1 x (e w u v 0 p hb)]
  rfl

theorem RF.s (h : RF N sb W zs w) {p : Nat} (hp : p < zs.length) : w.cell? ⟨sb, p, none⟩ = some (.int .i64 (ix zs p)) := by
  unfold World.cell?
  rw [h.sums]
  simp [getElem?_map_int zs p hp]
theorem RF.sf (h : RF N sb W zs w) (p : Nat) : w.frozen? ⟨sb, p, none⟩ = false := by unfold World.frozen?; rw [h.sums]; simp
end

/-- A product is added up. -/
def addP (zs : List Int) (e : Nat × Int) : List Int := zs.set e.1 (wrap64 (ix zs e.1 + e.2))

theorem opC_do {P : Program} {R : World → World → Prop} {D : World → World → Array Event → Prop} {fn : FuncId} {ops : Array Oper} {i : Nat} {o : Oper} {K : Act → World → Prop} {a : Act} {w : World} (ho : ops[i]? = some o) (hw : Region.wanted o (yielded ops a.tmps) = true)
    (h : ∀ w₁, R w w₁ → ∀ K' : Act → World → Prop, (∀ a' w', D w₁ w' (listed P fn a o w₁) ∧ K a' w' → K' a' w') → uponK o a K' ((execOp a.eval o).run P w₁)) : OpC P R D fn ops i K a w := by
  unfold OpC
  simp only [ho, hw, if_true]
  exact fun w₁ h₁ => h w₁ h₁ _ fun a' w' x => x

theorem list1 {α : Type} {a : α} {Q : α → Prop} (h : Q a) : ∀ i ∈ [a], Q i := fun i hi => by rw [List.mem_singleton.1 hi]; exact h

section
variable {N sb : Nat} {W : World} {zs : List Int} {B : Nat} {u v : Int} {w : World}
/-- The sum is laid anew. -/
theorem RP.store (hsb : sb < N) (h : RP N sb W zs B u v w) (p : Nat) (x : Int) : RP N sb W (zs.set p x) B u v (w.setCell ⟨sb, p, none⟩ (.int .i64 x)) := by
  have hlo := h.lo
  refine ⟨⟨fun k h1 h2 => by rw [Below.heap_setCell _ _ _ _ (by simpa using h2)]; exact h.rf.keep k h1 h2, h.rf.tape, h.rf.os, h.rf.output, by simp; exact h.rf.size, ?_, ?_⟩, hlo, by rw [Below.heap_setCell _ _ _ _ (by simp; omega)]; exact h.bl⟩
  · unfold World.setCell
    rw [Array.getElem?_modify]
    simp [h.rf.sums, List.map_set]
  · rw [World.cell?_of_block (Below.heap_setCell _ _ _ _ (by simp; omega))]; exact h.rf.chv
end

section
variable {kd : IntKind} {N sb : Nat} {a0 b0 : Option Addr} {n m ca cb : Nat} {xs ys : List Int}
theorem termsA : Terms (Aside (N + 2)) (DA (N + 2) (Shd kd N a0 b0 n m ca cb xs ys) (MineP N sb)) := ⟨asd_trans _, fun w => DA_still⟩
theorem drawA (ha : ∀ ad, a0 = some ad → 0 < n → ad.block < N ∧ ad.block ≠ sb) (hb : ∀ ad, b0 = some ad → 0 < m → ad.block < N ∧ ad.block ≠ sb) (hsb : sb < N) : LetsDraw (DA (N + 2) (Shd kd N a0 b0 n m ca cb xs ys) (MineP N sb)) :=
  fun w => DA_own ha hb hsb (fun k _ _ => rfl) (by simp)
end

end Go.Proofs.Ytlglokbakmbpdaa

namespace Go.Proofs.Ytlglokbakmbpdaa
open Go Go.Conc Go.RowKit
set_option linter.unusedVariables false

/-- The boxes, the channel, the variable that holds it: made in world w. -/
def wprod (ta : TypeId) (va vb : Value) (w : World) : World :=
  ((((w.alloc (.cells #[va] ta)).alloc (.cells #[vb] ta)).alloc (.chan 16 #[] false 0 0 false)).alloc (.cells #[.chan none] 74)).setCell ⟨w.heap.size + 3, 0, none⟩ (.chan (some (w.heap.size + 2)))
/-- .. behind the sums. -/
def wsum (L : Nat) (w : World) : World := w.alloc (.cells (Array.replicate L (Value.int .i64 0)) 3)

section
variable {ta : TypeId} {va vb : Value} {w : World} {L : Nat}
theorem wprod_heap (k : Nat) : (wprod ta va vb w).heap[k]? = if k = w.heap.size then some (.cells #[va] ta) else if k = w.heap.size + 1 then some (.cells #[vb] ta) else if k = w.heap.size + 2 then some (.chan 16 #[] false 0 0 false)
    else if k = w.heap.size + 3 then some (.cells #[.chan (some (w.heap.size + 2))] 74) else w.heap[k]? := by
  unfold wprod World.setCell World.alloc
  simp only [Array.getElem?_modify, Array.getElem?_push, Array.size_push]
  by_cases h3 : k = w.heap.size + 3
  · subst h3; simp
  · rw [if_neg (by omega)]
    by_cases h2 : k = w.heap.size + 2
    · subst h2; simp
    · by_cases h1 : k = w.heap.size + 1
      · subst h1; simp
      · by_cases h0 : k = w.heap.size
        · subst h0
          simp only [Nat.add_assoc, Nat.reduceAdd]
          rw [if_neg (by omega), if_neg (by omega), if_neg (by omega)]
          simp
        · rw [if_neg (by omega), if_neg (by omega), if_neg (by omega), if_neg (by omega), if_neg h0, if_neg h1, if_neg h2, if_neg h3]
theorem wprod_size : (wprod ta va vb w).heap.size = w.heap.size + 4 := by simp [wprod]

theorem wprod_RF : RF (w.heap.size + 1) w.heap.size w (List.replicate L 0) (wprod ta va vb (wsum L w)) := by
  have hs : (wsum L w).heap.size = w.heap.size + 1 := by simp [wsum]
  have hh : ∀ k, k < w.heap.size + 1 → (wprod ta va vb (wsum L w)).heap[k]? = (wsum L w).heap[k]? := fun k hk => by
    rw [wprod_heap, hs, if_neg (by omega), if_neg (by omega), if_neg (by omega), if_neg (by omega)]
  refine ⟨fun k h1 h2 => ?_, rfl, rfl, rfl, by rw [wprod_size, hs]; omega, ?_, ?_⟩
  · rw [hh k h1]
    unfold wsum
    exact Below.heap_alloc _ _ _ (by omega)
  · rw [hh _ (by omega)]
    unfold wsum
    rw [show ((List.replicate L (0 : Int)).map (Value.int .i64)).toArray = Array.replicate L (Value.int .i64 0) by simp]
    exact heap_alloc_new _ _
  · unfold World.cell?
    dsimp only
    rw [wprod_heap, hs, if_neg (by omega), if_neg (by omega), if_neg (by omega), if_pos rfl]
    rfl

theorem wprod_chan : (wprod ta va vb (wsum L w)).heap[w.heap.size + 1 + 2]? = some (.chan 16 #[] false 0 0 false) := by
  have hs : (wsum L w).heap.size = w.heap.size + 1 := by simp [wsum]
  rw [wprod_heap, hs, if_neg (by omega), if_neg (by omega), if_pos rfl]

theorem wprod_shd {k : IntKind} {a0 b0 : Option Addr} {n m ca cb : Nat} {xs ys : List Int} (ha : ∀ ad, a0 = some ad → 0 < n → ad.block < w.heap.size) (hb : ∀ ad, b0 = some ad → 0 < m → ad.block < w.heap.size)
    (ea : ∀ j ad, j < n → a0 = some ad → w.cell? (ad.add j) = some (.int k (ix xs j))) (eb : ∀ j ad, j < m → b0 = some ad → w.cell? (ad.add j) = some (.int k (ix ys j))) :
    Shd k (w.heap.size + 1) a0 b0 n m ca cb xs ys (wprod ta (.slice a0 n ca) (.slice b0 m cb) (wsum L w)) := by
  have hs : (wsum L w).heap.size = w.heap.size + 1 := by simp [wsum]
  have old : ∀ k, k < w.heap.size → (wprod ta (.slice a0 n ca) (.slice b0 m cb) (wsum L w)).heap[k]? = w.heap[k]? := fun k hk => (wprod_RF (L := L)).keep k (by omega) (by omega)
  refine ⟨?_, ?_, ?_, fun j ad hj e => (World.cell?_of_block (old _ ?_)).trans (ea j ad hj e), fun j ad hj e => (World.cell?_of_block (old _ ?_)).trans (eb j ad hj e)⟩
  · unfold World.cell?
    dsimp only
    rw [wprod_heap, hs, if_pos rfl]
    rfl
  · unfold World.cell?
    dsimp only
    rw [wprod_heap, hs, if_neg (by omega), if_pos rfl]
    rfl
  · unfold World.cell?
    dsimp only
    rw [wprod_heap, hs, if_neg (by omega), if_neg (by omega), if_neg (by omega), if_pos rfl]
    rfl
  · rw [addr_block]; exact ha ad e (by omega)
  · rw [addr_block]; exact hb ad e (by omega)
end

theorem RF.sm {N sb : Nat} {W : World} {zs : List Int} {w w₁ : World} (h : RF N sb W zs w) (hs : Sm w w₁) : RF N sb W zs w₁ := by
  obtain ⟨d, rfl⟩ := hs
  exact ⟨h.keep, h.tape, h.os, h.output, h.size, h.sums, h.chv⟩

/-- The pairs that are sent: as lists. -/
def prR (f : Nat → Nat → Nat × Int) (i : Nat) : Nat → Nat → List (Nat × Int)
  | _, 0 => []
  | j, k + 1 => f i j :: prR f i (j + 1) k
def prA (f : Nat → Nat → Nat × Int) (m : Nat) : Nat → Nat → List (Nat × Int)
  | _, 0 => []
  | i, r + 1 => prR f i 0 m ++ prA f m (i + 1) r

theorem valsR_map {f : Nat → Nat → Nat × Int} {g : Nat → Nat → Value} {i : Nat} : ∀ (k j : Nat), (∀ j', j' < j + k → g i j' = pv (f i j').1 (f i j').2) → (prR f i j k).map (fun e => pv e.1 e.2) = valsR g i j k
  | 0, _, _ => rfl
  | k + 1, j, h => by simp [prR, valsR, valsR_map k (j + 1) (fun j' h' => h j' (by omega)), h j (by omega)]
theorem valsA_map {f : Nat → Nat → Nat × Int} {g : Nat → Nat → Value} {m : Nat} : ∀ (r i : Nat), (∀ i' j', i' < i + r → j' < m → g i' j' = pv (f i' j').1 (f i' j').2) → (prA f m i r).map (fun e => pv e.1 e.2) = valsA g m i r
  | 0, _, _ => rfl
  | r + 1, i, h => by simp [prA, valsA, valsR_map m 0 (fun j' h' => h i j' (by omega) (by omega)), valsA_map r (i + 1) (fun i' j' h1 h2 => h i' j' (by omega) h2)]

theorem prR_lt {f : Nat → Nat → Nat × Int} {i L : Nat} : ∀ (k j : Nat), (∀ j', j ≤ j' → j' < j + k → (f i j').1 < L) → ∀ e ∈ prR f i j k, e.1 < L
  | 0, _, _ => fun e he => by simp [prR] at he
  | k + 1, j, h => fun e he => by
    rcases List.mem_cons.1 he with rfl | he
    · exact h j (by omega) (by omega)
    · exact prR_lt k (j + 1) (fun j' h1 h2 => h j' (by omega) (by omega)) e he
theorem prA_lt {f : Nat → Nat → Nat × Int} {m L : Nat} : ∀ (r i : Nat), (∀ i' j', i' < i + r → j' < m → (f i' j').1 < L) → ∀ e ∈ prA f m i r, e.1 < L
  | 0, _, _ => fun e he => by simp [prA] at he
  | r + 1, i, h => fun e he => by
    rcases List.mem_append.1 he with he | he
    · exact prR_lt m 0 (fun j' _ h2 => h i j' (by omega) (by omega)) e he
    · exact prA_lt r (i + 1) (fun i' j' h1 h2 => h i' j' (by omega) h2) e he
end Go.Proofs.Ytlglokbakmbpdaa
