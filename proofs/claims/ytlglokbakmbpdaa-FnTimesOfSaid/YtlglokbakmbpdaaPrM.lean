/-
  What the receiver of products knows of the world.
-/
import Derived.Test.YtlglokbakmbpdaaPsM
import Derived.Conc.CompanyMem
import Derived.Below
import Derived.Laws.NewBlocks
namespace Go.Proofs.Ytlglokbakmbpdaa
open Go Go.Conc Go.RowKit
set_option linter.unusedVariables false

/-- Blocks below N stand as in W, but for the sums' block, which holds zs. -/
structure RF (N sb : Nat) (W : World) (zs : List Int) (w : World) : Prop where
  keep : ∀ k, k < N → k ≠ sb → w.heap[k]? = W.heap[k]?
  tape : w.tape = W.tape
  os : w.os = W.os
  output : w.output = W.output
  size : N + 4 ≤ w.heap.size
  sums : w.heap[sb]? = some (.cells (zs.map (Value.int .i64)).toArray 3)
  chv : w.cell? ⟨N + 3, 0, none⟩ = some (.chan (some (N + 2)))

theorem RF.aside {N sb : Nat} (hsb : sb < N) {W : World} {zs : List Int} {w w₁ : World} (h : RF N sb W zs w) (ha : Aside (N + 2) w w₁) : RF N sb W zs w₁ :=
  ⟨fun k h1 h2 => (ha.block k (by omega)).trans (h.keep k h1 h2), ha.tape.trans h.tape, ha.os.trans h.os, ha.output.trans h.output, by rw [ha.size]; exact h.size, (ha.block sb (by omega)).trans h.sums, (World.cell?_of_block (ha.block (N + 3) (by omega))).trans h.chv⟩

section
variable {kd : IntKind} {N sb : Nat} {a0 b0 : Option Addr} {n m ca cb : Nat} {xs ys : List Int}

theorem DA_evs {w : World} {es : Array Event} (he : ∀ e ∈ es, EvA (MineP N sb) e) : DA (N + 2) (Shd kd N a0 b0 n m ca cb xs ys) (MineP N sb) w w es := ⟨id, rfl, he⟩
theorem DA_still {w : World} : DA (N + 2) (Shd kd N a0 b0 n m ca cb xs ys) (MineP N sb) w w #[] := ⟨id, rfl, by simp⟩

/-- A step that turns the receiver's own alone. -/
theorem DA_own (ha : ∀ ad, a0 = some ad → 0 < n → ad.block < N ∧ ad.block ≠ sb) (hb : ∀ ad, b0 = some ad → 0 < m → ad.block < N ∧ ad.block ≠ sb) (hsb : sb < N) {w w' : World} {es : Array Event}
    (h : ∀ k, k < N + 4 → k ≠ sb → w'.heap[k]? = w.heap[k]?) (he : ∀ e ∈ es, EvA (MineP N sb) e) : DA (N + 2) (Shd kd N a0 b0 n m ca cb xs ys) (MineP N sb) w w' es :=
  ⟨fun hs => ⟨(World.cell?_of_block (h N (by omega) (by omega))).trans hs.ba, (World.cell?_of_block (h (N + 1) (by omega) (by omega))).trans hs.bb, (World.cell?_of_block (h (N + 3) (by omega) (by omega))).trans hs.ch,
   fun j ad hj e => (World.cell?_of_block (h _ (by rw [addr_block]; have := ha ad e (by omega); omega) (by rw [addr_block]; have := ha ad e (by omega); omega))).trans (hs.ea j ad hj e),
   fun j ad hj e => (World.cell?_of_block (h _ (by rw [addr_block]; have := hb ad e (by omega); omega) (by rw [addr_block]; have := hb ad e (by omega); omega))).trans (hs.eb j ad hj e)⟩, h (N + 2) (by omega) (by omega), he⟩
end

theorem evA_read {N sb : Nat} (l : Loc) (s : Bool) (h : ∀ m, l = .mark m → Neutral m) : EvA (MineP N sb) ⟨l, false, s⟩ := ⟨h, fun h => by cases h⟩
theorem evA_write {N sb : Nat} (a : Addr) (s : Bool) (h : N + 4 ≤ a.block ∨ a.block = sb) : EvA (MineP N sb) ⟨.cell a, true, s⟩ := ⟨fun m => by simp, fun _ => ⟨a, rfl, h⟩⟩

theorem RF.alloc {N sb : Nat} (hsb : sb < N) {W : World} {zs : List Int} {w : World} (h : RF N sb W zs w) (o : Obj) : RF N sb W zs (w.alloc o) :=
  ⟨fun k h1 h2 => by rw [Below.heap_alloc _ _ _ (by have := h.size; omega)]; exact h.keep k h1 h2, h.tape, h.os, h.output, by have := h.size; simp; omega, by rw [Below.heap_alloc _ _ _ (by have := h.size; omega)]; exact h.sums, by rw [World.cell?_alloc_past _ _ _ (by have := h.size; omega)]; exact h.chv⟩

/-- .. and the variable of the round, in block B. -/
structure RP (N sb : Nat) (W : World) (zs : List Int) (B : Nat) (u v : Int) (w : World) : Prop where
  rf : RF N sb W zs w
  lo : N + 4 ≤ B
  bl : w.heap[B]? = some (.cells #[.int .i64 u, .int .i64 v] 67)

theorem RP.aside {N sb : Nat} (hsb : sb < N) {W : World} {zs : List Int} {B : Nat} {u v : Int} {w w₁ : World} (h : RP N sb W zs B u v w) (ha : Aside (N + 2) w w₁) : RP N sb W zs B u v w₁ :=
  ⟨h.rf.aside hsb ha, h.lo, (ha.block B (by have := h.lo; omega)).trans h.bl⟩

theorem RP.made {N sb : Nat} (hsb : sb < N) {W : World} {zs : List Int} {w : World} (h : RF N sb W zs w) : RP N sb W zs w.heap.size 0 0 (w.alloc (.cells #[.int .i64 0, .int .i64 0] 67)) :=
  ⟨h.alloc hsb _, h.size, by rw [heap_alloc_new]⟩

section
variable {N sb : Nat} {W : World} {zs : List Int} {B : Nat} {u v : Int} {w : World}
theorem RP.c0 (h : RP N sb W zs B u v w) : w.cell? ⟨B, 0, none⟩ = some (.int .i64 u) := by unfold World.cell?; rw [h.bl]; rfl
theorem RP.c1 (h : RP N sb W zs B u v w) : w.cell? ⟨B, 1, none⟩ = some (.int .i64 v) := by unfold World.cell?; rw [h.bl]; rfl
theorem RP.f0 (h : RP N sb W zs B u v w) : w.frozen? ⟨B, 0, none⟩ = false := by unfold World.frozen?; rw [h.bl]; rfl
theorem RP.f1 (h : RP N sb W zs B u v w) : w.frozen? ⟨B, 1, none⟩ = false := by unfold World.frozen?; rw [h.bl]; rfl

theorem RF.setCell (h : RF N sb W zs w) (a : Addr) (x : Value) (ha : N + 4 ≤ a.block) (hsb : sb < N) : RF N sb W zs (w.setCell a x) :=
  ⟨fun k h1 h2 => by rw [Below.heap_setCell _ _ _ _ (by omega)]; exact h.keep k h1 h2, h.tape, h.os, h.output, by simp; exact h.size, by rw [Below.heap_setCell _ _ _ _ (by omega)]; exact h.sums,
   by rw [World.cell?_of_block (Below.heap_setCell _ _ _ _ (by simp; omega))]; exact h.chv⟩

theorem RP.set (hsb : sb < N) (h : RP N sb W zs B u v w) (p x : Int) : RP N sb W zs B p x ((w.setCell ⟨B, 0, none⟩ (.int .i64 p)).setCell ⟨B, 1, none⟩ (.int .i64 x)) := by
  refine ⟨(h.rf.setCell _ _ h.lo hsb).setCell _ _ h.lo hsb, h.lo, ?_⟩
  have hb := h.bl
  have e : ∀ (w : World) (u v : Int) (j : Nat) (x : Int), w.heap[B]? = some (.cells #[.int .i64 u, .int .i64 v] 67) → (w.setCell ⟨B, j, none⟩ (.int .i64 x)).heap[B]? = some (.cells (#[Value.int .i64 u, .int .i64 v].setIfInBounds j (.int .i64 x)) 67) := by
    intro w u v j x hb
    unfold World.setCell
    rw [Array.getElem?_modify]
    simp [hb]
  rw [e _ p v 1 x (e w u v 0 p hb)]
  rfl

theorem RF.s (h : RF N sb W zs w) {p : Nat} (hp : p < zs.length) : w.cell? ⟨sb, p, none⟩ = some (.int .i64 (ix zs p)) := by
  unfold World.cell?
  rw [h.sums]
  simp [getElem?_map_int zs p hp]
theorem RF.sf (h : RF N sb W zs w) (p : Nat) : w.frozen? ⟨sb, p, none⟩ = false := by unfold World.frozen?; rw [h.sums]; simp
end

/-- A product is added up. -/
def addP (zs : List Int) (e : Nat × Int) : List Int := zs.set e.1 (wrap64 (ix zs e.1 + e.2))

theorem opC_do {P : Program} {R : World → World → Prop} {D : World → World → Array Event → Prop} {fn : FuncId} {ops : Array Oper} {i : Nat} {o : Oper} {K : Act → World → Prop} {a : Act} {w : World} (ho : ops[i]? = some o) (hw : Region.wanted o (yielded ops a.tmps) = true)
    (h : ∀ w₁, R w w₁ → ∀ K' : Act → World → Prop, (∀ a' w', D w₁ w' (listed P fn a o w₁) ∧ K a' w' → K' a' w') → uponK o a K' ((execOp a.eval o).run P w₁)) : OpC P R D fn ops i K a w := by
  unfold OpC
  simp only [ho, hw, if_true]
  exact fun w₁ h₁ => h w₁ h₁ _ fun a' w' x => x

theorem list1 {α : Type} {a : α} {Q : α → Prop} (h : Q a) : ∀ i ∈ [a], Q i := fun i hi => by rw [List.mem_singleton.1 hi]; exact h

section
variable {N sb : Nat} {W : World} {zs : List Int} {B : Nat} {u v : Int} {w : World}
/-- The sum is laid anew. -/
theorem RP.store (hsb : sb < N) (h : RP N sb W zs B u v w) (p : Nat) (x : Int) : RP N sb W (zs.set p x) B u v (w.setCell ⟨sb, p, none⟩ (.int .i64 x)) := by
  have hlo := h.lo
  refine ⟨⟨fun k h1 h2 => by rw [Below.heap_setCell _ _ _ _ (by simpa using h2)]; exact h.rf.keep k h1 h2, h.rf.tape, h.rf.os, h.rf.output, by simp; exact h.rf.size, ?_, ?_⟩, hlo, by rw [Below.heap_setCell _ _ _ _ (by simp; omega)]; exact h.bl⟩
  · unfold World.setCell
    rw [Array.getElem?_modify]
    simp [h.rf.sums, List.map_set]
  · rw [World.cell?_of_block (Below.heap_setCell _ _ _ _ (by simp; omega))]; exact h.rf.chv
end

section
variable {kd : IntKind} {N sb : Nat} {a0 b0 : Option Addr} {n m ca cb : Nat} {xs ys : List Int}
theorem termsA : Terms (Aside (N + 2)) (DA (N + 2) (Shd kd N a0 b0 n m ca cb xs ys) (MineP N sb)) := ⟨asd_trans _, fun w => DA_still⟩
theorem drawA (ha : ∀ ad, a0 = some ad → 0 < n → ad.block < N ∧ ad.block ≠ sb) (hb : ∀ ad, b0 = some ad → 0 < m → ad.block < N ∧ ad.block ≠ sb) (hsb : sb < N) : LetsDraw (DA (N + 2) (Shd kd N a0 b0 n m ca cb xs ys) (MineP N sb)) :=
  fun w => DA_own ha hb hsb (fun k _ _ => rfl) (by simp)
end

end Go.Proofs.Ytlglokbakmbpdaa
