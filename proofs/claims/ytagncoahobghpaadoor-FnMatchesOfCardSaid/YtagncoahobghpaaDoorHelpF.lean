/-
  equalInts and total of package laws, by their contracts.
-/
import Derived.Test.YtagncoahobghpaaDoorInfo
namespace Go.Proofs.YtagncoahobghpaaDoor
open Go.RowKit
set_option linter.unusedVariables false

set_option maxHeartbeats 1000000 in
theorem equalInts_any (u v : Value) (xs ys : List Int) (w : World) (hx : Rd w u xs) (hy : Rd w v ys) (hl : xs.length ≤ maxLen) (hl2 : ys.length ≤ maxLen) :
    Calls Tryd.prog 7 #[u, v] w (Says (eqB xs ys) w) := by
  unfold maxLen at hl hl2
  obtain ⟨a, cap, rfl, hx⟩ := hx
  obtain ⟨a2, cap2, rfl, hy⟩ := hy
  by_cases hne : xs.length = ys.length
  · rcases hx with rfl | ⟨b, off, rfl, hb, hc⟩
    · have : ys = [] := List.eq_nil_of_length_eq_zero hne.symm
      subst this
      clear hne hy
      go_enter Tryd.func7, Tryd.ntmps7
      go_wp2
      refine wp_loop_rounds 1 ?_
      rw [rounds_succ]
      go_wp2
      go_ret
      exact ⟨rfl, Below.refl _ _⟩
    rcases hy with rfl | ⟨b2, off2, rfl, hb2, hc2⟩
    · have : xs = [] := List.eq_nil_of_length_eq_zero hne
      subst this
      clear hne hc
      go_enter Tryd.func7, Tryd.ntmps7
      go_wp2
      refine wp_loop_rounds 1 ?_
      rw [rounds_succ]
      go_wp2
      go_ret
      exact ⟨rfl, Below.refl _ _⟩
    have HN := Lib.hid hne
    rw [← hne]
    rw [← hne] at hc2 hl2
    clear hne
    go_enter Tryd.func7, Tryd.ntmps7
    go_wp2
    go_loopw [5] (fun i wr => ∃ k : Nat, k ≤ xs.length ∧ i = .int .i64 k ∧ Hid (∀ j, j < k → ix xs j = ix ys j) ∧ Below w.heap.size w wr) (fun i _ => xs.length - (intOf i).toNat)
    case atStart => exact ⟨0, Nat.zero_le _, rfl, fun j hj => absurd hj (Nat.not_lt_zero j), Below.refl _ _⟩
    case round =>
      obtain ⟨k, hk, rfl, hsame, hBr⟩ := hrel
      by_cases hlt : k < xs.length
      · have hcx : wr.cell? ⟨b, off + k, none⟩ = some (.int .i64 (ix xs k)) := (hBr.cell (by exact hb)).trans (hc k hlt)
        have hcy : wr.cell? ⟨b2, off2 + k, none⟩ = some (.int .i64 (ix ys k)) := (hBr.cell (by exact hb2)).trans (hc2 k hlt)
        have hi1 : (0 : Int) ≤ (k : Int) := by omega
        have hi2 : (k : Int) < (xs.length : Int) := by omega
        by_cases heq : ix xs k = ix ys k
        · have HE := Lib.hid heq
          have e1 : (ix xs k == ix ys k) = true := by simpa using heq
          have e2 : (ix xs k != ix ys k) = false := by simpa using heq
          clear heq hc hc2
          go_wp2
          go_quiet (fail)
          go_wp2
          go_roundw
          case rel =>
            refine ⟨k + 1, by omega, by go_num, fun j hj => ?_, ?_⟩
            · by_cases h1 : j = k
              · subst h1; exact HE.out
              · exact hsame.out j (by omega)
            · exact below_drewN hBr _
          case measure => simp [intOf]; omega
        · have hno := Lib.hid (eqB_no k heq)
          have e1 : (ix xs k == ix ys k) = false := by simpa using heq
          have e2 : (ix xs k != ix ys k) = true := by simpa using heq
          clear heq hc hc2
          go_wp2
          go_quiet (fail)
          go_wp2
          go_ret
          exact ⟨ret_bool hno.out.symm, below_drewN hBr _⟩
      · have hkl : k = xs.length := by omega
        subst hkl
        have hyes := Lib.hid (eqB_true (ext_ix HN.out hsame.out))
        go_wp2
        go_ret
        exact ⟨ret_bool hyes.out.symm, hBr⟩
  · have hno := Lib.hid (eqB_len hne)
    have e1 : ((xs.length : Int) == (ys.length : Int)) = false := by simp; omega
    have e2 : ((xs.length : Int) != (ys.length : Int)) = true := by simp; omega
    clear hx hy
    go_enter Tryd.func7, Tryd.ntmps7
    go_wp2
    go_ret
    exact ⟨ret_bool hno.out.symm, Below.refl _ _⟩

end Go.Proofs.YtagncoahobghpaaDoor
