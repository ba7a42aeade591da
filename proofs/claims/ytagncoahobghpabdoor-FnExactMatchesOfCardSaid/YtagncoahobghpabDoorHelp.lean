/-
  The contracts of the small functions of package laws over slices of ints.
-/
import Derived.Test.YtagncoahobghpabDoorInfo
namespace Go.Proofs.YtagncoahobghpabDoor
open Go.RowKit
set_option linter.unusedVariables false

set_option maxHeartbeats 1000000 in
theorem eqIntS_any (u v : Value) (xs ys : List Int) (w : World) (hx : Rd w u xs) (hy : Rd w v ys) (hl : xs.length ≤ maxLen) (hl2 : ys.length ≤ maxLen) :
    Calls Tryd.prog 7 #[u, v] w (Says (eqB xs ys) w) := by
  unfold maxLen at hl hl2
  obtain ⟨a, cap, rfl, hx⟩ := hx
  obtain ⟨a2, cap2, rfl, hy⟩ := hy
  by_cases hne : xs.length = ys.length
  · rcases hx with rfl | ⟨b, off, rfl, hb, hc⟩
    · have : ys = [] := List.eq_nil_of_length_eq_zero hne.symm
      subst this
      clear hne hy
      go_enter Tryd.func7, Tryd.ntmps7
      go_wp2
      refine wp_loop_rounds 1 ?_
      rw [rounds_succ]
      go_wp2
      go_ret
      exact ⟨rfl, Below.refl _ _⟩
    rcases hy with rfl | ⟨b2, off2, rfl, hb2, hc2⟩
    · have : xs = [] := List.eq_nil_of_length_eq_zero hne
      subst this
      clear hne hc
      go_enter Tryd.func7, Tryd.ntmps7
      go_wp2
      refine wp_loop_rounds 1 ?_
      rw [rounds_succ]
      go_wp2
      go_ret
      exact ⟨rfl, Below.refl _ _⟩
    have HN := Lib.hid hne
    rw [← hne]
    rw [← hne] at hc2 hl2
    clear hne
    go_enter Tryd.func7, Tryd.ntmps7
    go_wp2
    go_loopw [5] (fun i wr => ∃ k : Nat, k ≤ xs.length ∧ i = .int .i64 k ∧ Hid (∀ j, j < k → ix xs j = ix ys j) ∧ Below w.heap.size w wr) (fun i _ => xs.length - (intOf i).toNat)
    case atStart => exact ⟨0, Nat.zero_le _, rfl, fun j hj => absurd hj (Nat.not_lt_zero j), Below.refl _ _⟩
    case round =>
      obtain ⟨k, hk, rfl, hsame, hBr⟩ := hrel
      by_cases hlt : k < xs.length
      · have hcx : wr.cell? ⟨b, off + k, none⟩ = some (.int .i64 (ix xs k)) := (hBr.cell (by exact hb)).trans (hc k hlt)
        have hcy : wr.cell? ⟨b2, off2 + k, none⟩ = some (.int .i64 (ix ys k)) := (hBr.cell (by exact hb2)).trans (hc2 k hlt)
        have hi1 : (0 : Int) ≤ (k : Int) := by omega
        have hi2 : (k : Int) < (xs.length : Int) := by omega
        by_cases heq : ix xs k = ix ys k
        · have HE := Lib.hid heq
          have e1 : (ix xs k == ix ys k) = true := by simpa using heq
          have e2 : (ix xs k != ix ys k) = false := by simpa using heq
          clear heq hc hc2
          go_wp2
          go_quiet (fail)
          go_wp2
          go_roundw
          case rel =>
            refine ⟨k + 1, by omega, by go_num, fun j hj => ?_, ?_⟩
            · by_cases h1 : j = k
              · subst h1; exact HE.out
              · exact hsame.out j (by omega)
            · exact below_drewN hBr _
          case measure => simp [intOf]; omega
        · have hno := Lib.hid (eqB_no k heq)
          have e1 : (ix xs k == ix ys k) = false := by simpa using heq
          have e2 : (ix xs k != ix ys k) = true := by simpa using heq
          clear heq hc hc2
          go_wp2
          go_quiet (fail)
          go_wp2
          go_ret
          exact ⟨ret_bool hno.out.symm, below_drewN hBr _⟩
      · have hkl : k = xs.length := by omega
        subst hkl
        have hyes := Lib.hid (eqB_true (ext_ix HN.out hsame.out))
        go_wp2
        go_ret
        exact ⟨ret_bool hyes.out.symm, hBr⟩
  · have hno := Lib.hid (eqB_len hne)
    have e1 : ((xs.length : Int) == (ys.length : Int)) = false := by simp; omega
    have e2 : ((xs.length : Int) != (ys.length : Int)) = true := by simp; omega
    clear hx hy
    go_enter Tryd.func7, Tryd.ntmps7
    go_wp2
    go_ret
    exact ⟨ret_bool hno.out.symm, Below.refl _ _⟩

set_option maxHeartbeats 1000000 in
theorem markIntS_any (B : Nat) (v : Value) (xs : List Int) (K0 : Int) (w : World) (h : Own 3 B w v xs) (hl : xs.length ≤ 1048576) (h0 : 0 ≤ K0) (h1 : K0 ≤ 4194304) :
    Calls Tryd.prog 8 #[v, .int .i64 K0] w (Marked 3 B w v xs.length K0) := by
  rcases h.shape with ⟨rfl, rfl⟩ | ⟨g, cap, rfl, hg, hgs⟩
  · go_enter Tryd.func8, Tryd.ntmps8
    go_wp2
    refine wp_loop_rounds 1 ?_
    rw [rounds_succ]
    go_wp2
    go_ret
    exact ⟨ret_int (by simp), h, World.grownBy.refl _ _⟩
  · obtain ⟨n, hn⟩ : ∃ n, n = xs.length := ⟨_, rfl⟩
    have h' : Own 3 B w (.slice (some ⟨g, 0, none⟩) n cap) (tab n fun j => if j < 0 then K0 + j else ix xs j) := by
      rw [hn]; simpa [tab_self] using h
    rw [← hn] at hl
    rw [← hn]
    clear h hn
    have h := h'
    clear h'
    go_enter Tryd.func8, Tryd.ntmps8
    go_wp2
    go_loopw [1, 5] (fun kk i wr => ∃ k : Nat, k ≤ n ∧ i = .int .i64 k ∧ kk = .int .i64 (K0 + k) ∧ Own 3 B wr (.slice (some ⟨g, 0, none⟩) n cap) (tab n fun j => if j < k then K0 + j else ix xs j) ∧ w.grownBy wr (some g))
      (fun _ i _ => n - (intOf i).toNat)
    case atStart => exact ⟨0, Nat.zero_le _, rfl, by simp, h, World.grownBy.refl _ _⟩
    case round =>
      obtain ⟨k, hk, rfl, rfl, hOr, hgr⟩ := hrel
      by_cases hlt : k < n
      · have hck := hOr.cell k (by simpa using hlt)
        have hfk := hOr.frozen k
        have HO := Lib.hid (hOr.set k (K0 + k))
        have HB := Lib.hid (grown_set hgr k (.int .i64 (K0 + k)))
        clear hOr hgr h
        go_wp2
        go_roundw
        case rel =>
          refine ⟨k + 1, by omega, by go_num, ?_, ?_, HB.out⟩
          · congr 1; omega
          have := HO.out
          rw [tab_set] at this
          rw [tab_congr (g := fun j => if j < k + 1 then K0 + j else ix xs j)] at this
          · exact this
          · intro j hj
            by_cases h1 : j = k
            · subst h1; simp
            · by_cases h2 : j < k
              · simp [h1, h2, show j < k + 1 by omega]
              · simp [h1, h2, show ¬ j < k + 1 by omega]
        case measure => simp [intOf]; omega
      · have hkl : k = n := by omega
        subst hkl
        go_wp2
        go_ret
        refine ⟨rfl, ?_, hgr⟩
        rw [tab_congr (g := fun j => K0 + j) (by intro j hj; simp [hj])] at hOr
        exact hOr

set_option maxHeartbeats 1000000 in
theorem heldIntS_any (v : Value) (n : Nat) (K0 : Int) (w : World) (h : Rd w v (tab n fun j => K0 + j)) (hl : n ≤ 1048576) (h0 : 0 ≤ K0) (h1 : K0 ≤ 4194304) :
    Calls Tryd.prog 9 #[v, .int .i64 K0] w (Tells (K0 + n) w) := by
  obtain ⟨a, cap, rfl, h⟩ := h
  rw [len_tab] at h
  rw [len_tab]
  by_cases hn : n = 0
  · subst hn
    clear h
    go_enter Tryd.func9, Tryd.ntmps9
    go_wp2
    refine wp_loop_rounds 1 ?_
    rw [rounds_succ]
    go_wp2
    go_ret
    exact ⟨ret_int (by simp), Below.refl _ _⟩
  · rcases h with h | ⟨b, off, rfl, hb, hc⟩
    · have := congrArg List.length h; simp at this; exact absurd this hn
    have hc2 : ∀ j, j < n → w.cell? ⟨b, off + j, none⟩ = some (.int .i64 (K0 + j)) := fun j hj => by rw [hc j hj, ix_tab _ _ _ hj]
    clear hc hn
    go_enter Tryd.func9, Tryd.ntmps9
    go_wp2
    go_loop [1, 5] (fun kk i => ∃ k : Nat, k ≤ n ∧ i = .int .i64 k ∧ kk = .int .i64 (K0 + k)) (fun _ i => n - (intOf i).toNat)
    case atStart => exact ⟨0, Nat.zero_le _, rfl, by simp⟩
    case round =>
      obtain ⟨k, hk, rfl, rfl⟩ := hrel
      by_cases hlt : k < n
      · have hck := hc2 k hlt
        clear hc2
        go_wp2
        go_round
        case rel => exact ⟨k + 1, by omega, by go_num, by congr 1; omega⟩
        case measure => simp [intOf]; omega
      · have hkl : k = n := by omega
        subst hkl
        go_wp2
        go_ret
        exact ⟨rfl, Below.refl _ _⟩

end Go.Proofs.YtagncoahobghpabDoor
