/-
  The Draw functions of texts and patterns: both are short.
-/
import Derived.Test.YtagncoahobghpacGreatDoorJGdF00
namespace Go.Proofs.YtagncoahobghpacGreatDoor
open Go.RowKit
set_option linter.unusedVariables false

/-- Texts of one letter, by their letters. -/
def txt (cs : List UInt8) (j : Nat) : ByteArray := ⟨#[cs.getD j 0]⟩
theorem txt_size (cs : List UInt8) (j : Nat) (h : j < cs.length) : (txt cs j).size = 1 := rfl
theorem txt_at (w : World) (cells : Array Value) (T : TypeId) (cs : List UInt8) (h : cells = (cs.map fun c => Value.string ⟨#[c]⟩).toArray) : ∀ j, j < cs.length → (w.alloc (.cells cells T)).cell? ⟨w.heap.size, j, none⟩ = some (.string (txt cs j)) := by
  intro j hj
  rw [World.cell?_alloc_at _ _ _ _ rfl, h]
  simp [txt, List.getD, List.getElem?_eq_getElem hj]
theorem grown_two {a b c : World} {R : Nat} (h : a.grownBy b (some R)) (k : b.grownBy c (some R)) : a.grownBy c (some R) :=
  ⟨k.os.trans h.os, k.tape.trans h.tape, k.output.trans h.output, Nat.le_trans h.size k.size, fun i hi hne => (k.block i (Nat.lt_of_lt_of_le hi h.size) hne).trans (h.block i hi hne)⟩
/-- A text and a pattern, both short. -/
def SomeM (w : World) (R : Nat) (e : Ending) (w' : World) : Prop := ∃ s p : ByteArray, e = .returned (.tuple #[.string s, .string p]) ∧ s.size ≤ 100 ∧ p.size ≤ 100 ∧ w.grownBy w' (some R)
def DrewM (w : World) (e : Ending) (w' : World) : Prop := ∃ s p : ByteArray, e = .returned (.tuple #[.string s, .string p]) ∧ s.size ≤ 100 ∧ p.size ≤ 100 ∧ Below w.heap.size w w'

theorem of_at (R p g n : Nat) (S : Nat → ByteArray) (w : World) (h : Rdr 51 w R p) (hp : p ≤ 4000) (hc : ∀ j, j < n → w.cell? ⟨g, j, none⟩ = some (.string (S j))) (hg : g ≠ R) (h1 : 1 ≤ n) (h2 : n ≤ 100000) :
    Calls Tryz.prog 14 #[.pointer (some ⟨R, 0, none⟩), .slice (some ⟨g, 0, none⟩) n n] w fun e w' => ∃ k, k < n ∧ e = .returned (.string (S k)) ∧ Rdr 51 w' R (p + 1) ∧ w.grownBy w' (some R) := by
  have HC := Lib.hid hc
  clear hc
  go_enter Tryz.func14, Tryz.ntmps14
  go_wp2_with fail
  refine (pick_any R p n _ h (by omega) h1 h2).mono ?_
  rintro e w1 ⟨k, rfl, hk, hR, hgr⟩
  have hcx := hgr.cell (HC.out k hk) (by simpa using hg)
  have i1 : (k : Int) < (n : Int) := by omega
  clear HC
  go_wp2
  go_ret
  exact ⟨k, hk, rfl, hR, hgr⟩

end Go.Proofs.YtagncoahobghpacGreatDoor
