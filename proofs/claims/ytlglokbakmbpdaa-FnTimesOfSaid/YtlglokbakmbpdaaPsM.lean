/-
  What the sender and the receiver of products share, and the values that are sent.
-/
import Derived.Test.YtlglokbakmbpdaaTd
import Derived.Test.YtlglokbakmbpdaaBase
import Derived.Conc.PipeWords
import Derived.Conc.Fork
import Derived.KernelRfl
namespace Go.Proofs.Ytlglokbakmbpdaa
open Go Go.Conc
set_option linter.unusedVariables false

/-- What is the receiver's own: the sums' block, and what is made behind the go statement. -/
def MineP (N sb : Nat) : Loc → Prop := fun l => ∃ a : Addr, l = .cell a ∧ (N + 4 ≤ a.block ∨ a.block = sb)

/-- What the sender reads. -/
structure Shd (k : IntKind) (N : Nat) (a0 b0 : Option Addr) (n m ca cb : Nat) (xs ys : List Int) (w : World) : Prop where
  ba : w.cell? ⟨N, 0, none⟩ = some (.slice a0 n ca)
  bb : w.cell? ⟨N + 1, 0, none⟩ = some (.slice b0 m cb)
  ch : w.cell? ⟨N + 3, 0, none⟩ = some (.chan (some (N + 2)))
  ea : ∀ j ad, j < n → a0 = some ad → w.cell? (ad.add j) = some (.int k (ix xs j))
  eb : ∀ j ad, j < m → b0 = some ad → w.cell? (ad.add j) = some (.int k (ix ys j))

theorem addr_block (a : Addr) (n : Nat) : (a.add n).block = a.block := by unfold Addr.add; split <;> rfl

theorem Shd.aside {k : IntKind} {N : Nat} {a0 b0 : Option Addr} {n m ca cb : Nat} {xs ys : List Int} {w w' : World} (ha : ∀ ad, a0 = some ad → 0 < n → ad.block < N) (hb : ∀ ad, b0 = some ad → 0 < m → ad.block < N)
    (h : Aside (N + 2) w w') (hs : Shd k N a0 b0 n m ca cb xs ys w) : Shd k N a0 b0 n m ca cb xs ys w' :=
  ⟨(World.cell?_of_block (h.block N (by omega))).trans hs.ba, (World.cell?_of_block (h.block (N + 1) (by omega))).trans hs.bb, (World.cell?_of_block (h.block (N + 3) (by omega))).trans hs.ch,
   fun j ad hj e => (World.cell?_of_block (h.block _ (by rw [addr_block]; have := ha ad e (by omega); omega))).trans (hs.ea j ad hj e),
   fun j ad hj e => (World.cell?_of_block (h.block _ (by rw [addr_block]; have := hb ad e (by omega); omega))).trans (hs.eb j ad hj e)⟩

theorem evB_cellP {N sb : Nat} (a : Addr) (s : Bool) (h : a.block < N + 4) (h2 : a.block ≠ sb) : EvB (MineP N sb) ⟨.cell a, false, s⟩ :=
  ⟨fun m => by simp, rfl, fun ⟨a', e, h'⟩ => by cases e; rcases h' with h' | h' <;> omega⟩

/-- A deferred call is laid by. -/
theorem stepG_deferD {P : Program} {main : Bool} {b : Frame} {a : Act} {k : List Item} {cs : List Frame} {w : World} {ops : Array Oper} {i : Nat} {rest : List Nat} {o : Oper} {d : Deferred} (ho : ops[i]? = some o)
    (hw : Region.wanted o (yielded ops a.tmps) = true) (hk : b.kind ≠ .early) (hr : (execOp a.eval o).run P w = .ok (.defer d) w) (he : (execOp a.eval o).events P w #[] = #[]) :
    stepG P main (G (b.at a (.inRegion ops (i :: rest) :: k)) cs) w = .go (G (b.at (Act.put ⟨a.tmps, d :: a.defers⟩ o.dst undef) (.inRegion ops rest :: k)) cs) w #[] := by
  have hfin : (b.at ⟨a.tmps, d :: a.defers⟩ (.inRegion ops (i :: rest) :: k)).finish undef = b.at (Act.put ⟨a.tmps, d :: a.defers⟩ o.dst undef) (.inRegion ops rest :: k) := by rw [Frame.finish_at, ho]; rfl
  have hk' : (b.kind == CallKind.early) = false := by simpa using hk
  rw [stepG_oper ho hw, ← hfin]
  simp [stepG.apply, hr, he, G, Frame.at, hk', GStep.after, seen_none]

/-- One product as it is sent. -/
def pv (p x : Int) : Value := .agg #[.int .i64 p, .int .i64 x]
/-- k products of row i from place j on. -/
def valsR (f : Nat → Nat → Value) (i : Nat) : Nat → Nat → List Value
  | _, 0 => []
  | j, k + 1 => f i j :: valsR f i (j + 1) k
/-- The products of r rows from row i on, each of m. -/
def valsA (f : Nat → Nat → Value) (m : Nat) : Nat → Nat → List Value
  | _, 0 => []
  | i, r + 1 => valsR f i 0 m ++ valsA f m (i + 1) r

end Go.Proofs.Ytlglokbakmbpdaa
