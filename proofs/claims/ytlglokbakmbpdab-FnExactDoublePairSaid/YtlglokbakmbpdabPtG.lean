/-
  The exact laws' helpers in company, at slices from whatever place on (written by ch5self3.py).
-/
import Derived.Test.YtlglokbakmbpdabPtF
import Derived.Test.YtlglokbakmbpdabSfI
import Derived.Test.YtlglokbakmbpdabOoM
namespace Go.Proofs.Ytlglokbakmbpdab
open Go Go.Conc Go.RowKit
set_option linter.unusedVariables false

def BMarkedO (E B : Nat) (w : World) (v : Value) (n : Nat) (K0 : Int) (r : Value) (w' : World) : Prop := r = .int .i64 (K0 + n) ∧ OwnO E B w' v (tab n fun j => K0 + j) ∧ w.grownBy w' v.ownBlock
theorem bmarkedO_blind (E B : Nat) (v : Value) (n : Nat) (K0 : Int) : Blind fun w r w' => BMarkedO E B w v n K0 r w' := by
  rintro r w w1 τ d τ' d' d2 ⟨h1, h2, h3⟩
  exact ⟨h1, h2, ⟨h3.os, rfl, h3.output, h3.size, h3.block⟩⟩
theorem bmarkedO_sm {w w₁ : World} {f : FuncId} {args : Array Value} {E B : Nat} {v : Value} {n : Nat} {K0 : Int} (hs : Sm w w₁) (h : BCalls Try.prog f args w₁ (BMarkedO E B w₁ v n K0)) : BCalls Try.prog f args w₁ (BMarkedO E B w v n K0) :=
  h.mono fun r w' q => by
    obtain ⟨d, rfl⟩ := hs
    exact ⟨q.1, q.2.1, ⟨q.2.2.os, q.2.2.tape, q.2.2.output, q.2.2.size, q.2.2.block⟩⟩
theorem bmade_oo {w : World} {f : FuncId} {args : Array Value} {E : Nat} {xs : List Int} (h : BCalls Try.prog f args w (BMade E w xs)) : BCalls Try.prog f args w (BMadeO E w xs) := h.mono fun _ _ q => q.oo
theorem markIntS_o (B : Nat) (v : Value) (xs : List Int) (K0 : Int) (w : World) (h : OwnO 3 B w v xs) (hl : xs.length ≤ 1048576) (h0 : 0 ≤ K0) (h1 : K0 ≤ 4194304) :
    BCalls Try.prog 15 #[v, .int .i64 K0] w (BMarkedO 3 B w v xs.length K0) :=
  bcalls_of_calls noinit (callees [15] (by kernel_rfl)) Try.func15 rfl (by kernel_rfl) (by kernel_rfl) (fun w r w' => BMarkedO 3 B w v xs.length K0 r w') (bmarkedO_blind _ _ _ _ _)
    fun τ d => (markIntSO_any B v xs K0 (reT w τ d) h hl h0 h1).mono fun e w' ⟨k1, k2, k3⟩ => ⟨_, k1, rfl, k2, k3⟩

end Go.Proofs.Ytlglokbakmbpdab
