/-
  equalInts and total of package laws, by their contracts.
-/
import Derived.Test.YtagncoahobghpacInfo
namespace Go.Proofs.Ytagncoahobghpac
open Go.RowKit
set_option linter.unusedVariables false

set_option maxHeartbeats 1000000 in
theorem equalInts_any (u v : Value) (xs ys : List Int) (w : World) (hx : Rd w u xs) (hy : Rd w v ys) (hl : xs.length ≤ maxLen) (hl2 : ys.length ≤ maxLen) :
    Calls Try.prog 9 #[u, v] w (Says (eqB xs ys) w) := by
  unfold maxLen at hl hl2
  obtain ⟨a, cap, rfl, hx⟩ := hx
  obtain ⟨a2, cap2, rfl, hy⟩ := hy
  by_cases hne : xs.length = ys.length
  · rcases hx with rfl | ⟨b, off, rfl, hb, hc⟩
    · have : ys = [] := List.eq_nil_of_length_eq_zero hne.symm
      subst this
      clear hne hy
      go_enter Try.func9, Try.ntmps9
      go_wp2
      refine wp_loop_rounds 1 ?_
      rw [rounds_succ]
      go_wp2
      go_ret
      exact ⟨rfl, Below.refl _ _⟩
    rcases hy with rfl | ⟨b2, off2, rfl, hb2, hc2⟩
    · have : xs = [] := List.eq_nil_of_length_eq_zero hne
      subst this
      clear hne hc
      go_enter Try.func9, Try.ntmps9
      go_wp2
      refine wp_loop_rounds 1 ?_
      rw [rounds_succ]
      go_wp2
      go_ret
      exact ⟨rfl, Below.refl _ _⟩
    have HN := Lib.hid hne
    rw [← hne]
    rw [← hne] at hc2 hl2
    clear hne
    go_enter Try.func9, Try.ntmps9
    go_wp2
    go_loopw [5] (fun i wr => ∃ k : Nat, k ≤ xs.length ∧ i = .int .i64 k ∧ Hid (∀ j, j < k → ix xs j = ix ys j) ∧ Below w.heap.size w wr) (fun i _ => xs.length - (intOf i).toNat)
    case atStart => exact ⟨0, Nat.zero_le _, rfl, fun j hj => absurd hj (Nat.not_lt_zero j), Below.refl _ _⟩
    case round =>
      obtain ⟨k, hk, rfl, hsame, hBr⟩ := hrel
      by_cases hlt : k < xs.length
      · have hcx : wr.cell? ⟨b, off + k, none⟩ = some (.int .i64 (ix xs k)) := (hBr.cell (by exact hb)).trans (hc k hlt)
        have hcy : wr.cell? ⟨b2, off2 + k, none⟩ = some (.int .i64 (ix ys k)) := (hBr.cell (by exact hb2)).trans (hc2 k hlt)
        have hi1 : (0 : Int) ≤ (k : Int) := by omega
        have hi2 : (k : Int) < (xs.length : Int) := by omega
        by_cases heq : ix xs k = ix ys k
        · have HE := Lib.hid heq
          have e1 : (ix xs k == ix ys k) = true := by simpa using heq
          have e2 : (ix xs k != ix ys k) = false := by simpa using heq
          clear heq hc hc2
          go_wp2
          go_quiet (fail)
          go_wp2
          go_roundw
          case rel =>
            refine ⟨k + 1, by omega, by go_num, fun j hj => ?_, ?_⟩
            · by_cases h1 : j = k
              · subst h1; exact HE.out
              · exact hsame.out j (by omega)
            · exact below_drewN hBr _
          case measure => simp [intOf]; omega
        · have hno := Lib.hid (eqB_no k heq)
          have e1 : (ix xs k == ix ys k) = false := by simpa using heq
          have e2 : (ix xs k != ix ys k) = true := by simpa using heq
          clear heq hc hc2
          go_wp2
          go_quiet (fail)
          go_wp2
          go_ret
          exact ⟨ret_bool hno.out.symm, below_drewN hBr _⟩
      · have hkl : k = xs.length := by omega
        subst hkl
        have hyes := Lib.hid (eqB_true (ext_ix HN.out hsame.out))
        go_wp2
        go_ret
        exact ⟨ret_bool hyes.out.symm, hBr⟩
  · have hno := Lib.hid (eqB_len hne)
    have e1 : ((xs.length : Int) == (ys.length : Int)) = false := by simp; omega
    have e2 : ((xs.length : Int) != (ys.length : Int)) = true := by simp; omega
    clear hx hy
    go_enter Try.func9, Try.ntmps9
    go_wp2
    go_ret
    exact ⟨ret_bool hno.out.symm, Below.refl _ _⟩

set_option maxHeartbeats 1000000 in
theorem total_q (v : Value) (xs : List Int) (w : World) (h : Rd w v xs) (hl : xs.length ≤ 1048576) :
    Calls Try.prog 17 #[v] w fun e w' => e = .returned (.int .i64 (wrap64 (sumN (ix xs) xs.length))) ∧ w = w' := by
  obtain ⟨a, cap, rfl, h⟩ := h
  rcases h with rfl | ⟨b, off, rfl, hb, hc⟩
  · go_enter Try.func17, Try.ntmps17
    go_wp2
    refine wp_loop_rounds 1 ?_
    rw [rounds_succ]
    go_wp2
    go_ret
    exact ⟨ret_int (by simp [sumN, wrap64]), rfl⟩
  · go_enter Try.func17, Try.ntmps17
    go_wp2
    go_loop [3, 4] (fun s i => ∃ k : Nat, k ≤ xs.length ∧ i = .int .i64 k ∧ s = .int .i64 (wrap64 (sumN (ix xs) k))) (fun _ i => xs.length - (intOf i).toNat)
    case atStart => exact ⟨0, Nat.zero_le _, rfl, by simp [sumN, wrap64]⟩
    case round =>
      obtain ⟨k, hk, rfl, rfl⟩ := hrel
      by_cases hlt : k < xs.length
      · have hck := hc k hlt
        clear hc
        have HS := Lib.hid (w64_addL (sumN (ix xs) k) (ix xs k))
        go_wp2
        go_round
        case rel => exact ⟨k + 1, by omega, by go_num, by rw [HS.out]; rfl⟩
        case measure => simp [intOf]; omega
      · have hkl : k = xs.length := by omega
        subst hkl
        go_wp2
        go_ret
        exact ⟨rfl, rfl⟩

theorem total_any (v : Value) (xs : List Int) (w : World) (h : Rd w v xs) (hl : xs.length ≤ 1048576) :
    Calls Try.prog 17 #[v] w (Tells (wrap64 (sumN (ix xs) xs.length)) w) :=
  (total_q v xs w h hl).mono fun e w' ⟨h1, h2⟩ => ⟨h1, by rw [← h2]; exact Below.refl _ _⟩

end Go.Proofs.Ytagncoahobghpac
