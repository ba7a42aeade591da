/-
  The contract of times (rows of ints) in company.
-/
import Derived.Test.YtlglokbakmbpdaaPtP
import Derived.Test.YtlglokbakmbpdaaPtI
import Derived.Test.YtlglokbakmbpdaaT1
import Derived.Test.YtlglokbakmbpdaaBelow
namespace Go.Proofs.Ytlglokbakmbpdaa
open Go Go.Conc Go.RowKit
set_option linter.unusedVariables false

/-- It makes, in company. -/
def BMade (E : Nat) (w : World) (xs : List Int) (v : Value) (w' : World) : Prop := Own E w.heap.size w' v xs ∧ Below w.heap.size w w'

theorem timesI_b (u v : Value) (xs ys : List Int) (w : World) (hx : Rd w u xs) (hy : Rd w v ys) (h1 : 0 < xs.length) (h2 : 0 < ys.length) (hl1 : xs.length ≤ 1048576) (hl2 : ys.length ≤ 1048576) :
    BCalls Try.prog 45 #[u, v] w (BMade 3 w (mulL xs ys)) := by
  intro cs
  obtain ⟨a1, c1, rfl, hx⟩ := hx
  obtain ⟨a2, c2, rfl, hy⟩ := hy
  rcases hx with rfl | ⟨b1, o1, rfl, hb1, hc1⟩
  · simp at h1
  rcases hy with rfl | ⟨b2, o2, rfl, hb2, hc2⟩
  · simp at h2
  have e : ∀ (b o j : Nat), (Addr.mk b o none).add j = ⟨b, o + j, none⟩ := fun b o j => by simp [Addr.add]
  refine (TmsI.runs (xs.length + ys.length - 1) w (some ⟨b1, o1, none⟩) (some ⟨b2, o2, none⟩) xs.length ys.length c1 c2 xs ys cs h1 h2 hl1 hl2 rfl (fun ad h _ => by cases h; exact hb1) ⟨_, rfl⟩ (fun ad h _ => by cases h; exact hb2) ⟨_, rfl⟩
    (fun j ad hj h => by cases h; rw [e]; exact hc1 j hj) (fun j ad hj h => by cases h; rw [e]; exact hc2 j hj)).mono fun a' w' hq => ?_
  obtain ⟨T, k, rfl, h4, hF⟩ := hq
  have hf : ∀ i j, (TmsI.fp xs ys i j).1 = i + j ∧ ∀ z, wrap64 (z + (TmsI.fp xs ys i j).2) = wrap64 (z + ix xs i * ix ys j) := fun i j => ⟨rfl, fun z => by
    show wrap64 (z + IntKind.i64.wrap _) = _
    rw [show IntKind.i64.wrap (ix xs i * ix ys j) = wrap64 (ix xs i * ix ys j) by rw [IntKind.wrap_i64]; unfold wrap64; rfl, w64_addR]⟩
  rw [prod_fold hf (by omega), ← mulL_some (by omega) (by omega)] at hF
  have hlen : (mulL xs ys).length = xs.length + ys.length - 1 := by rw [mulL_some (by omega) (by omega), len_tab]
  have hO := RF_own (by omega) rfl (by rw [hlen]; unfold maxLen; omega) hF
  rw [hlen] at hO
  refine ⟨_, _, rfl, rfl, ⟨rfl, rfl, rfl, _, Try.func45, _root_.Go.results_tmp rfl _ _ _⟩, ?_, hO.2⟩
  show Own _ _ _ (T.getD 4 undef) _
  rw [h4]
  exact hO.1
end Go.Proofs.Ytlglokbakmbpdaa
