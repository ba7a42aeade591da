/-
  The Draw functions of chapter 4, and of chapter 5 where they have its form: what they draw lies in range.
-/
import Derived.Test.YtgafiglfmkaniaaDrawW
namespace Go.Proofs.Ytgafiglfmkaniaa
open Go.RowKit
set_option linter.unusedVariables false

theorem evenRow_any (R p : Nat) (w : World) (h : Rdr 52 w R p) (hp : p ≤ 300) :
    Calls Try.prog 34 #[.pointer (some ⟨R, 0, none⟩)] w (Drawn 3 52 w R (p + 1)) := by
  have hR := h.lt
  go_enter Try.func34, Try.ntmps34
  go_wp2_with fail
  have hlit := own_lit 3 0 w.heap.size w #[.int .i64 4, .int .i64 6, .int .i64 8, .int .i64 2, .int .i64 12, .int .i64 16, .int .i64 0, .int .i64 3] [4, 6, 8, 2, 12, 16, 0, 3] 8 rfl (Nat.zero_le _) rfl rfl (by unfold maxLen; omega)
  have h1 := h.kept (World.grownBy_alloc w (.cells #[.int .i64 4, .int .i64 6, .int .i64 8, .int .i64 2, .int .i64 12, .int .i64 16, .int .i64 0, .int .i64 3] 3) none) (by simp)
  have hg0 := World.grownBy_alloc w (.cells #[.int .i64 4, .int .i64 6, .int .i64 8, .int .i64 2, .int .i64 12, .int .i64 16, .int .i64 0, .int .i64 3] 3) (some R)
  refine (one_any R p _ [4, 6, 8, 2, 12, 16, 0, 3] _ h1 (by omega) hlit.rd (by simp) (by simp) (by simp [Value.ownBlock]; omega)).mono ?_
  rintro e w1 ⟨k, hk, rfl, hR1, g1⟩
  have hZ := ix_range (lo := 0) (hi := 16) (by decide : ∀ x ∈ ([4, 6, 8, 2, 12, 16, 0, 3] : List Int), (0 : Int) ≤ x ∧ x ≤ 16) hk
  obtain ⟨m, hm⟩ : ∃ m : Nat, ix [4, 6, 8, 2, 12, 16, 0, 3] k = (m : Int) := ⟨(ix [4, 6, 8, 2, 12, 16, 0, 3] k).toNat, by omega⟩
  rw [hm] at hZ ⊢
  clear hm hlit h1 hk
  go_wp2_with fail
  refine (rowOf_any R (p + 1) m _ hR1 (by omega) (by omega)).mono ?_
  rintro e w2 ⟨v, xs, p', rfl, hO, hl, hw, hR2, hp', g2⟩
  go_wp2
  go_ret
  have hgg := World.grownBy.trans hg0 g1
  exact ⟨v, xs, p', rfl, hO.mono hgg.size, hl, hw, hR2, by omega, World.grownBy.trans hgg g2⟩

theorem drawHalveOf_any (v : Value) (n : Nat) (w : World) (h : RdB w v n) :
    Calls Try.prog 10 #[v] w (DrewRow 3 w) := by
  go_enter Try.func10, Try.ntmps10
  go_wp2_with fail
  refine (newReader_any v n _ h).mono ?_
  rintro e w1 ⟨R, rfl, hR, b1, hRs⟩
  go_wp2_with fail
  refine (evenRow_any R 0 _ hR (by omega)).mono ?_
  rintro e w2 hd
  have hd := drewRow_of b1 hRs hd
  obtain ⟨u, xs, rfl, r⟩ := hd
  go_wp2
  go_ret
  exact ⟨u, xs, rfl, r⟩

theorem drawUnhalveOf_any (v : Value) (n : Nat) (w : World) (h : RdB w v n) :
    Calls Try.prog 16 #[v] w (DrewRow 3 w) := by
  go_enter Try.func16, Try.ntmps16
  go_wp2_with fail
  refine (newReader_any v n _ h).mono ?_
  rintro e w1 ⟨R, rfl, hR, b1, hRs⟩
  go_wp2_with fail
  refine (evenRow_any R 0 _ hR (by omega)).mono ?_
  rintro e w2 hd
  have hd := drewRow_of b1 hRs hd
  obtain ⟨u, xs, rfl, r⟩ := hd
  go_wp2
  go_ret
  exact ⟨u, xs, rfl, r⟩

theorem drawLeapOf_any (v : Value) (n : Nat) (w : World) (h : RdB w v n) :
    Calls Try.prog 24 #[v] w (DrewRow 3 w) := by
  go_enter Try.func24, Try.ntmps24
  go_wp2_with fail
  refine (newReader_any v n _ h).mono ?_
  rintro e w1 ⟨R, rfl, hR, b1, hRs⟩
  go_wp2_with fail
  refine (evenRow_any R 0 _ hR (by omega)).mono ?_
  rintro e w2 hd
  have hd := drewRow_of b1 hRs hd
  obtain ⟨u, xs, rfl, r⟩ := hd
  go_wp2
  go_ret
  exact ⟨u, xs, rfl, r⟩

theorem drawUnleapOf_any (v : Value) (n : Nat) (w : World) (h : RdB w v n) :
    Calls Try.prog 28 #[v] w (DrewRow 3 w) := by
  go_enter Try.func28, Try.ntmps28
  go_wp2_with fail
  refine (newReader_any v n _ h).mono ?_
  rintro e w1 ⟨R, rfl, hR, b1, hRs⟩
  go_wp2_with fail
  refine (evenRow_any R 0 _ hR (by omega)).mono ?_
  rintro e w2 hd
  have hd := drewRow_of b1 hRs hd
  obtain ⟨u, xs, rfl, r⟩ := hd
  go_wp2
  go_ret
  exact ⟨u, xs, rfl, r⟩

theorem drawDropSmall_any (v : Value) (n : Nat) (w : World) (h : RdB w v n) :
    Calls Try.prog 30 #[v] w (DrewRowInt 3 w) := by
  go_enter Try.func30, Try.ntmps30
  go_wp2_with fail
  refine (newReader_any v n _ h).mono ?_
  rintro e w1 ⟨R, rfl, hR, b1, hRs⟩
  go_wp2_with fail
  refine (someRow_any R 0 _ hR (by omega)).mono ?_
  rintro e w3 ⟨u, xs, p', rfl, o, hl, hw, hR3, hp', g3⟩
  have b3 := bel_rdr b1 g3 hRs
  have hne := o.ne hR.lt
  have o := o.mono b1.size
  clear hR b1 g3
  go_wp2_with fail
  have hlit := own_lit 3 0 w3.heap.size w3 #[.int .i64 3, .int .i64 1, .int .i64 10, .int .i64 0, .int .i64 1000, .int .i64 1001, .int .i64 (-1)] [3, 1, 10, 0, 1000, 1001, -1] 7 rfl (Nat.zero_le _) rfl rfl (by unfold maxLen; omega)
  have hlt := hR3.lt
  have h1 := hR3.kept (World.grownBy_alloc w3 (.cells #[.int .i64 3, .int .i64 1, .int .i64 10, .int .i64 0, .int .i64 1000, .int .i64 1001, .int .i64 (-1)] 3) none) (by simp)
  refine (one_any R (p') _ [3, 1, 10, 0, 1000, 1001, -1] _ h1 (by omega) hlit.rd (by simp) (by simp) (by simp [Value.ownBlock]; omega)).mono ?_
  rintro e w4 ⟨k, hk, rfl, hRw4, gw4⟩
  have hZ := ix_range (lo := -1) (hi := 1001) (xs := [3, 1, 10, 0, 1000, 1001, -1]) (by intro z hz; simp only [List.mem_cons, List.not_mem_nil, or_false] at hz; omega) hk
  have gw4 := grown_thru (World.grownBy_alloc w3 (.cells #[.int .i64 3, .int .i64 1, .int .i64 10, .int .i64 0, .int .i64 1000, .int .i64 1001, .int .i64 (-1)] 3) none) gw4
  have b4 := bel_rdr b3 gw4 hRs
  have o := o.kept gw4 hne
  generalize ix [3, 1, 10, 0, 1000, 1001, -1] k = z at hZ ⊢
  obtain ⟨a, c, rfl⟩ := own_slD o
  clear hlit h1 hne gw4 hRw4 b3
  go_wp2
  go_ret2
  exact ⟨_, xs, z, rfl, o, hl, hw, by omega, b4⟩

end Go.Proofs.Ytgafiglfmkaniaa
