/-
  The helpers of the exact laws, in company (written by ch5co.py).
-/
import Derived.Test.YtlglokbakmbpdabPtD
import Derived.Test.YtlglokbakmbpdabHelp
namespace Go.Proofs.Ytlglokbakmbpdab
open Go Go.Conc Go.RowKit
set_option linter.unusedVariables false

def BMarked (E B : Nat) (w : World) (v : Value) (n : Nat) (K0 : Int) (r : Value) (w' : World) : Prop := r = .int .i64 (K0 + n) ∧ Own E B w' v (tab n fun j => K0 + j) ∧ w.grownBy w' v.ownBlock
theorem bmarked_blind (E B : Nat) (v : Value) (n : Nat) (K0 : Int) : Blind fun w r w' => BMarked E B w v n K0 r w' := by
  rintro r w w1 τ d τ' d' d2 ⟨h1, h2, h3⟩
  exact ⟨h1, h2, ⟨h3.os, rfl, h3.output, h3.size, h3.block⟩⟩
theorem bmarked_sm {w w₁ : World} {f : FuncId} {args : Array Value} {E B : Nat} {v : Value} {n : Nat} {K0 : Int} (hs : Sm w w₁) (h : BCalls Try.prog f args w₁ (BMarked E B w₁ v n K0)) : BCalls Try.prog f args w₁ (BMarked E B w v n K0) :=
  h.mono fun r w' q => by
    obtain ⟨d, rfl⟩ := hs
    exact ⟨q.1, q.2.1, ⟨q.2.2.os, q.2.2.tape, q.2.2.output, q.2.2.size, q.2.2.block⟩⟩

theorem toIntS_b (v : Value) (xs : List Int) (w : World) (h : Rd w v xs) (hl : xs.length ≤ 1048576) : BCalls Try.prog 12 #[v] w (BMade 3 w xs) :=
  bmade_of [12] (by kernel_rfl) Try.func12 rfl (by kernel_rfl) (by kernel_rfl) fun τ d => toIntS_any v xs (reT w τ d) h hl
theorem eqIntS_b (u v : Value) (xs ys : List Int) (w : World) (hx : Rd w u xs) (hy : Rd w v ys) (hl : xs.length ≤ maxLen) (hl2 : ys.length ≤ maxLen) : BCalls Try.prog 14 #[u, v] w (BSays (eqB xs ys) w) :=
  bsays_of [14] (by kernel_rfl) Try.func14 rfl (by kernel_rfl) (by kernel_rfl) fun τ d => eqIntS_any u v xs ys (reT w τ d) hx hy hl hl2
theorem heldIntS_b (v : Value) (n : Nat) (K0 : Int) (w : World) (h : Rd w v (tab n fun j => K0 + j)) (hl : n ≤ 1048576) (h0 : 0 ≤ K0) (h1 : K0 ≤ 4194304) : BCalls Try.prog 16 #[v, .int .i64 K0] w (BTells (K0 + n) w) :=
  btells_of [16] (by kernel_rfl) Try.func16 rfl (by kernel_rfl) (by kernel_rfl) fun τ d => heldIntS_any v n K0 (reT w τ d) h hl h0 h1
theorem markIntS_b (B : Nat) (v : Value) (xs : List Int) (K0 : Int) (w : World) (h : Own 3 B w v xs) (hl : xs.length ≤ 1048576) (h0 : 0 ≤ K0) (h1 : K0 ≤ 4194304) :
    BCalls Try.prog 15 #[v, .int .i64 K0] w (BMarked 3 B w v xs.length K0) :=
  bcalls_of_calls noinit (callees [15] (by kernel_rfl)) Try.func15 rfl (by kernel_rfl) (by kernel_rfl) (fun w r w' => BMarked 3 B w v xs.length K0 r w') (bmarked_blind _ _ _ _ _)
    fun τ d => (markIntS_any B v xs K0 (reT w τ d) h hl h0 h1).mono fun e w' ⟨k1, k2, k3⟩ => ⟨_, k1, rfl, k2, k3⟩
theorem specTimesOf_b (u v : Value) (xs ys : List Int) (w : World) (hx : Rd w u xs) (hy : Rd w v ys) (hl1 : xs.length ≤ maxLen) (hl2 : ys.length ≤ maxLen) : BCalls Try.prog 11 #[u, v] w (BMade 3 w (timF xs ys)) :=
  bmade_of [11, 31, 32, 38] (by kernel_rfl) Try.func11 rfl (by kernel_rfl) (by kernel_rfl) fun τ d => specTimesOf_any u v xs ys (reT w τ d) hx hy hl1 hl2
end Go.Proofs.Ytlglokbakmbpdab
