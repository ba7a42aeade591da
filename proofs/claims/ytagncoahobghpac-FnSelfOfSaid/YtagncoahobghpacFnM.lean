/-
  What the promises of sums, steps, edges, parts and divisors come to, as plain mathematics; prefixes of slices.
-/
import Derived.Test.YtagncoahobghpacValid
import Derived.Test.YtagncoahobghpacDraw
namespace Go.Proofs.Ytagncoahobghpac
open Go.RowKit
set_option linter.unusedVariables false

theorem isRow_rdB {w : World} {a : Option Addr} {len cap : Nat} {zs : List Int} (h : (a = none ∧ len = 0 ∧ cap = 0 ∧ zs = []) ∨
    ∃ x, a = some x ∧ len ≤ cap ∧ cap ≤ maxLen ∧ zs.length = cap ∧ (∀ i, i < zs.length → w.cell? (x.add i) = some (.int .u8 (zs.getD i 0))) ∧ ∀ n ∈ zs, (Lit.int .u8 n).wf = true) : RdB w (.slice a len cap) len := by
  rcases h with ⟨rfl, rfl, rfl, rfl⟩ | ⟨x, rfl, h1, h2, h3, h4, h5⟩
  · exact ⟨none, 0, rfl, Nat.le_refl _, Nat.zero_le _, .inl rfl⟩
  · refine ⟨some x, cap, rfl, h1, h2, ?_⟩
    by_cases h0 : len = 0
    · exact .inl h0
    · right
      obtain ⟨b, off, spot⟩ := x
      have hspot : spot = none := by simpa [Addr.add] using World.cell?_spot (h4 0 (by omega))
      subst hspot
      refine ⟨b, off, rfl, World.block_lt_of_cell? w ⟨b, off + 0, none⟩ (h4 0 (by omega)), fun j hj => ?_⟩
      have h := h4 j (by omega)
      rw [show (⟨b, off, none⟩ : Addr).add j = ⟨b, off + j, none⟩ by simp [Addr.add]] at h
      have hm : zs.getD j 0 ∈ zs := by simp [List.getD, List.getElem?_eq_getElem (show j < zs.length by omega)]
      have hw := h5 _ hm
      simp only [Lit.wf, Bool.and_eq_true, decide_eq_true_eq] at hw
      have e0 : IntKind.min .u8 = 0 := by decide
      have e1 : IntKind.max .u8 = 255 := by decide
      rw [e0, e1] at hw
      exact ⟨(zs.getD j 0).toNat, by omega, by rw [h, Int.toNat_of_nonneg hw.1]⟩

theorem Rd.take {w : World} {a : Option Addr} {n cap k : Nat} {xs : List Int} (h : Rd w (.slice a n cap) xs) (hk : k ≤ xs.length) : Rd w (.slice a k cap) (xs.take k) := by
  obtain ⟨a', cap', he, h⟩ := h
  simp only [Value.slice.injEq] at he
  obtain ⟨rfl, rfl, rfl⟩ := he
  have hl : (xs.take k).length = k := by simp; omega
  refine ⟨a, cap, by rw [hl], ?_⟩
  rcases h with rfl | ⟨b, off, rfl, hlt, hc⟩
  · left; simp
  · refine .inr ⟨b, off, rfl, hlt, fun j hj => ?_⟩
    rw [hl] at hj
    rw [hc j (by omega)]
    simp [ix, List.getD, hj]
theorem ix_take {xs : List Int} {k j : Nat} (h : j < k) : ix (xs.take k) j = ix xs j := by simp [ix, List.getD, h]
theorem vrB_take {xs : List Int} (k : Nat) (h : vrB xs = true) : vrB (xs.take k) = true := by
  obtain ⟨h1, h2⟩ := vrB_of h
  refine vrB_yes (by simp; omega) fun j hj => ?_
  rw [List.length_take] at hj
  rw [ix_take (by omega)]
  exact h2 j (by omega)

theorem Own.max64 {xs : List Int} (h : xs.length ≤ 64) : xs.length ≤ maxLen := by unfold maxLen; omega
theorem own_sl {E B : Nat} {w : World} {v : Value} {xs : List Int} (h : Own E B w v xs) : ∃ a cap, v = .slice a xs.length cap := by
  rcases h.shape with ⟨rfl, rfl⟩ | ⟨g, cap, rfl, _⟩
  · exact ⟨none, 0, rfl⟩
  · exact ⟨_, _, rfl⟩

theorem rd_drop1 {w : World} {g n c : Nat} {xs : List Int} (h : Rd w (.slice (some ⟨g, 0, none⟩) (n + 1) c) xs) : Rd w (.slice (some ⟨g, 1, none⟩) n (c - 1)) (xs.drop 1) := by
  obtain ⟨a', cap', he, h⟩ := h
  simp only [Value.slice.injEq] at he
  obtain ⟨rfl, hn, rfl⟩ := he
  have hl : (xs.drop 1).length = n := by simp; omega
  refine ⟨_, c - 1, by rw [hl], ?_⟩
  rcases h with rfl | ⟨b, off, he, hlt, hc⟩
  · simp at hn
  · simp only [Option.some.injEq, Addr.mk.injEq, and_true] at he
    obtain ⟨rfl, rfl⟩ := he
    refine .inr ⟨g, 1, rfl, hlt, fun j hj => ?_⟩
    rw [hl] at hj
    have := hc (j + 1) (by omega)
    rw [show 1 + j = 0 + (j + 1) by omega, this]
    simp [ix, List.getD]

end Go.Proofs.Ytagncoahobghpac
