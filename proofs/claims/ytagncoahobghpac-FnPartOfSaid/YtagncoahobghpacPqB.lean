/-
  PartOf in company (written by ch5part.py).
-/
import Derived.Test.YtagncoahobghpacPtC
import Derived.Test.YtagncoahobghpacPtL
import Derived.Test.YtagncoahobghpacPqS
import Derived.Test.YtagncoahobghpacDrawP
namespace Go.Proofs.Ytagncoahobghpac
open Go Go.Conc Go.RowKit
set_option linter.unusedVariables false

/-- What PartOf tells. -/
def pqF (xs ys : List Int) : List Int := if ptB xs ys = true then ptQ xs ys else []
def prF (xs ys : List Int) : List Int := if ptB xs ys = true then ptR xs ys else []
theorem pqF_yes {xs ys : List Int} (h : ptB xs ys = true) : pqF xs ys = ptQ xs ys := if_pos h
theorem prF_yes {xs ys : List Int} (h : ptB xs ys = true) : prF xs ys = ptR xs ys := if_pos h
theorem pqF_no {xs ys : List Int} (h : ptB xs ys = false) : pqF xs ys = [] := if_neg (by rw [h]; simp)
theorem prF_no {xs ys : List Int} (h : ptB xs ys = false) : prF xs ys = [] := if_neg (by rw [h]; simp)
/-- Two rows and a bool, in company. -/
def BParts (E : Nat) (xs ys : List Int) (b : Bool) (w : World) (r : Value) (w' : World) : Prop := ∃ u v, r = .tuple #[u, v, .bool b] ∧ Own E w.heap.size w' u xs ∧ Own E w.heap.size w' v ys ∧ Below w.heap.size w w'
theorem bparts_blind (E : Nat) (xs ys : List Int) (b : Bool) : Blind fun w r w' => BParts E xs ys b w r w' := by
  rintro r w w1 τ d τ' d' d2 ⟨u, v, h1, h2, h3, h4⟩
  exact ⟨u, v, h1, h2, h3, below_blind h4⟩
theorem bparts_sm {w w₁ : World} {f : FuncId} {args : Array Value} {E : Nat} {xs ys : List Int} {b : Bool} (hs : Sm w w₁) (h : BCalls Try.prog f args w₁ (BParts E xs ys b w₁)) : BCalls Try.prog f args w₁ (BParts E xs ys b w) :=
  h.mono fun r w' q => by
    obtain ⟨d, rfl⟩ := hs
    obtain ⟨u, v, h1, h2, h3, h4⟩ := q
    exact ⟨u, v, h1, h2, h3, ⟨h4.os, h4.tape, h4.output, h4.size, h4.block⟩⟩
theorem bparts_of {w w' : World} {xs ys : List Int} {b : Bool} {E : Nat} {e : Ending} (h : Parts E w xs ys b e w') : ∃ r, e = .returned r ∧ BParts E xs ys b w r w' := by
  obtain ⟨u, v, h1, h2, h3, -, h4⟩ := h
  exact ⟨_, h1, u, v, rfl, h2, h3, h4⟩
/-- What DrawPartOf leaves, in company. -/
def BDrewP (E : Nat) (w : World) (r : Value) (w' : World) : Prop := ∃ u v xs ys, r = .tuple #[u, v] ∧ Own E w.heap.size w' u xs ∧ Own E w.heap.size w' v ys ∧ xs.length ≤ 64 ∧ ys.length ≤ 65 ∧ (∀ n ∈ xs, (Lit.int .i64 n).wf = true) ∧ (∀ n ∈ ys, (Lit.int .i64 n).wf = true) ∧ (∀ j, j < ys.length → -3 ≤ ix ys j ∧ ix ys j ≤ 3) ∧ Below w.heap.size w w'
theorem bdrewp_blind (E : Nat) : Blind fun w r w' => BDrewP E w r w' := by
  rintro r w w1 τ d τ' d' d2 ⟨u, v, xs, ys, h1, h2, h3, h4, h5, h6, h7, h9, h8⟩
  exact ⟨u, v, xs, ys, h1, h2, h3, h4, h5, h6, h7, h9, below_blind h8⟩
theorem bdrewp_sm {w w₁ : World} {f : FuncId} {args : Array Value} {E : Nat} (hs : Sm w w₁) (h : BCalls Try.prog f args w₁ (BDrewP E w₁)) : BCalls Try.prog f args w₁ (BDrewP E w) :=
  h.mono fun r w' q => by
    obtain ⟨d, rfl⟩ := hs
    obtain ⟨u, v, xs, ys, h1, h2, h3, h4, h5, h6, h7, h9, h8⟩ := q
    exact ⟨u, v, xs, ys, h1, h2, h3, h4, h5, h6, h7, h9, ⟨h8.os, h8.tape, h8.output, h8.size, h8.block⟩⟩

theorem drawPartOf_b (v : Value) (n : Nat) (w : World) (h : RdB w v n) : BCalls Try.prog 6 #[v] w (BDrewP 3 w) :=
  bcalls_of_calls noinit (callees [6, 22, 25, 23, 40, 24] (by kernel_rfl)) Try.func6 rfl (by kernel_rfl) (by kernel_rfl) (fun w r w' => BDrewP 3 w r w') (bdrewp_blind _)
    fun τ d => (drawPartOf_any v n (reT w τ d) h).mono fun e w' ⟨u, v, xs, ys, h1, h2⟩ => ⟨_, h1, u, v, xs, ys, rfl, h2⟩

theorem implPartOf_b (v u : Value) (xs ys : List Int) (w : World) (h : Rd w v xs) (h2 : Rd w u ys) (hl : xs.length ≤ 1048576) (hm : ys.length ≤ 1048576) (hcp : ∀ a n c, u = .slice a n c → n ≤ c) (hG : ∀ j, j < ys.length → -3 ≤ ix ys j ∧ ix ys j ≤ 3) : BCalls Try.prog 7 #[v, u] w (BParts 3 (pqF xs ys) (prF xs ys) (ptB xs ys) w) :=
  bcalls_of_calls noinit (callees [7, 10, 26, 27, 28] (by kernel_rfl)) Try.func7 rfl (by kernel_rfl) (by kernel_rfl) (fun w r w' => BParts 3 (pqF xs ys) (prF xs ys) (ptB xs ys) w r w') (bparts_blind _ _ _ _)
    fun τ d => by
      cases hb : ptB xs ys with
      | false => rw [pqF_no hb, prF_no hb]; exact (partOf_no v u xs ys (reT w τ d) h h2 hl hm hb).mono fun e w' q => bparts_of q
      | true => rw [pqF_yes hb, prF_yes hb]; exact (partOf_yes v u xs ys (reT w τ d) h h2 hcp hb hG).mono fun e w' q => bparts_of q

theorem specPartOf_b (v u : Value) (xs ys : List Int) (w : World) (h : Rd w v xs) (h2 : Rd w u ys) (hl : xs.length ≤ 1048576) (hm : ys.length ≤ 1048576) (hG : ∀ j, j < ys.length → -3 ≤ ix ys j ∧ ix ys j ≤ 3) : BCalls Try.prog 8 #[v, u] w (BParts 3 (pqF xs ys) (prF xs ys) (ptB xs ys) w) :=
  bcalls_of_calls noinit (callees [8, 29, 41] (by kernel_rfl)) Try.func8 rfl (by kernel_rfl) (by kernel_rfl) (fun w r w' => BParts 3 (pqF xs ys) (prF xs ys) (ptB xs ys) w r w') (bparts_blind _ _ _ _)
    fun τ d => by
      cases hb : ptB xs ys with
      | false => rw [pqF_no hb, prF_no hb]; exact (specPartOf_no v u xs ys (reT w τ d) h h2 hl hm hb).mono fun e w' q => bparts_of q
      | true => rw [pqF_yes hb, prF_yes hb]; exact (specPartOf_yes v u xs ys (reT w τ d) h h2 hb hG).mono fun e w' q => bparts_of q

theorem own_capP {E B : Nat} {w : World} {v : Value} {xs : List Int} (h : Own E B w v xs) : ∀ a n c, v = .slice a n c → n ≤ c := by
  intro a n c e
  obtain ⟨h1, h2⟩ := h
  rcases h2 with ⟨h', _⟩ | ⟨g', cap', cur, h', hb, hh, h3, h4, h5, h6⟩
  · rw [e] at h'; simp only [Value.slice.injEq] at h'; omega
  · rw [e] at h'; simp only [Value.slice.injEq] at h'; omega
/-- It reads as the ints, and lies below B. -/
def RdU (B : Nat) (w : World) (v : Value) (xs : List Int) : Prop :=
  ∃ a cap, v = .slice a xs.length cap ∧ (xs = [] ∨ ∃ b off, a = some ⟨b, off, none⟩ ∧ b < B ∧ ∀ j, j < xs.length → w.cell? ⟨b, off + j, none⟩ = some (.int .i64 (ix xs j)))
theorem Rd.under {w w' : World} {v : Value} {xs : List Int} (h : Rd w v xs) (hb : Below w.heap.size w w') : RdU w.heap.size w' v xs := by
  obtain ⟨a, cap, rfl, h⟩ := h
  refine ⟨a, cap, rfl, ?_⟩
  rcases h with rfl | ⟨b, off, rfl, hlt, hc⟩
  · exact .inl rfl
  · exact .inr ⟨b, off, rfl, hlt, fun j hj => (hb.cell (p := ⟨b, off + j, none⟩) hlt).trans (hc j hj)⟩
theorem RdU.below {B : Nat} {w w' : World} {v : Value} {xs : List Int} (h : RdU B w v xs) (hb : Below B w w') : RdU B w' v xs := by
  obtain ⟨a, cap, rfl, h⟩ := h
  refine ⟨a, cap, rfl, ?_⟩
  rcases h with rfl | ⟨b, off, rfl, hlt, hc⟩
  · exact .inl rfl
  · exact .inr ⟨b, off, rfl, hlt, fun j hj => (hb.cell (p := ⟨b, off + j, none⟩) hlt).trans (hc j hj)⟩
theorem RdU.rd {B : Nat} {w : World} {v : Value} {xs : List Int} (h : RdU B w v xs) (hB : B ≤ w.heap.size) : Rd w v xs := by
  obtain ⟨a, cap, rfl, h⟩ := h
  refine ⟨a, cap, rfl, ?_⟩
  rcases h with rfl | ⟨b, off, rfl, hlt, hc⟩
  · exact .inl rfl
  · exact .inr ⟨b, off, rfl, by omega, hc⟩
theorem RdU.cell {B n c j : Nat} {w : World} {a : Option Addr} {xs : List Int} (h : RdU B w (.slice a n c) xs) (hn : n = xs.length) (hj : j < n) : ∃ b off, a = some ⟨b, off, none⟩ ∧ w.cell? ⟨b, off + j, none⟩ = some (.int .i64 (ix xs j)) := by
  obtain ⟨a', cap, e, h⟩ := h
  simp only [Value.slice.injEq] at e
  obtain ⟨rfl, -, rfl⟩ := e
  rcases h with rfl | ⟨b, off, rfl, hlt, hc⟩
  · simp at hn; omega
  · exact ⟨b, off, rfl, hc j (by omega)⟩

end Go.Proofs.Ytagncoahobghpac
