/-
  markIntS of the exact laws at a slice from whatever place on (turned by program).
-/
import Derived.Test.YtlglokbakmbpdabHelp
import Derived.Test.YtlglokbakmbpdabRv1
namespace Go.Proofs.Ytlglokbakmbpdab
open Go.RowKit
set_option linter.unusedVariables false

def MarkedO (E B : Nat) (w : World) (v : Value) (n : Nat) (K0 : Int) (e : Ending) (w' : World) : Prop :=
  e = .returned (.int .i64 (K0 + n)) ∧ OwnO E B w' v (tab n fun j => K0 + j) ∧ w.grownBy w' v.ownBlock

set_option maxHeartbeats 1000000 in
theorem markIntSO_any (B : Nat) (v : Value) (xs : List Int) (K0 : Int) (w : World) (h : OwnO 3 B w v xs) (hl : xs.length ≤ 1048576) (h0 : 0 ≤ K0) (h1 : K0 ≤ 4194304) :
    Calls Try.prog 15 #[v, .int .i64 K0] w (MarkedO 3 B w v xs.length K0) := by
  have hsh := h
  rcases hsh with ⟨rfl, rfl⟩ | ⟨g, off, cap, cur, rfl, hg, -, -⟩
  · go_enter Try.func15, Try.ntmps15
    go_wp2
    refine wp_loop_rounds 1 ?_
    rw [rounds_succ]
    go_wp2
    go_ret
    exact ⟨ret_int (by simp), h, World.grownBy.refl _ _⟩
  · obtain ⟨n, hn⟩ : ∃ n, n = xs.length := ⟨_, rfl⟩
    have h' : OwnO 3 B w (.slice (some ⟨g, off, none⟩) n cap) (tab n fun j => if j < 0 then K0 + j else ix xs j) := by
      rw [hn]; simpa [tab_self] using h
    rw [← hn] at hl
    rw [← hn]
    clear h hn
    have h := h'
    clear h'
    go_enter Try.func15, Try.ntmps15
    go_wp2
    go_loopw [1, 5] (fun kk i wr => ∃ k : Nat, k ≤ n ∧ i = .int .i64 k ∧ kk = .int .i64 (K0 + k) ∧ OwnO 3 B wr (.slice (some ⟨g, off, none⟩) n cap) (tab n fun j => if j < k then K0 + j else ix xs j) ∧ w.grownBy wr (some g))
      (fun _ i _ => n - (intOf i).toNat)
    case atStart => exact ⟨0, Nat.zero_le _, rfl, by simp, h, World.grownBy.refl _ _⟩
    case round =>
      obtain ⟨k, hk, rfl, rfl, hOr, hgr⟩ := hrel
      by_cases hlt : k < n
      · have hck := hOr.cell k (by simpa using hlt)
        have hfk := hOr.frozen (off + k)
        have HO := Lib.hid (hOr.set k (K0 + k))
        have HB := Lib.hid (grown_set hgr (off + k) (.int .i64 (K0 + k)))
        clear hOr hgr h
        go_wp2
        go_roundw
        case rel =>
          refine ⟨k + 1, by omega, by go_num, ?_, ?_, HB.out⟩
          · congr 1; omega
          have := HO.out
          rw [tab_set] at this
          rw [tab_congr (g := fun j => if j < k + 1 then K0 + j else ix xs j)] at this
          · exact this
          · intro j hj
            by_cases h1 : j = k
            · subst h1; simp
            · by_cases h2 : j < k
              · simp [h1, h2, show j < k + 1 by omega]
              · simp [h1, h2, show ¬ j < k + 1 by omega]
        case measure => simp [intOf]; omega
      · have hkl : k = n := by omega
        subst hkl
        go_wp2
        go_ret
        refine ⟨rfl, ?_, hgr⟩
        rw [tab_congr (g := fun j => K0 + j) (by intro j hj; simp [hj])] at hOr
        exact hOr

end Go.Proofs.Ytlglokbakmbpdab
