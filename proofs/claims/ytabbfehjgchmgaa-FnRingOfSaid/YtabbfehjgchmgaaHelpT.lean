/-
  times of package laws, by its contract.
-/
import Derived.Test.YtabbfehjgchmgaaHelpG
import Derived.Deep.RegionLaw
namespace Go.Proofs.Ytabbfehjgchmgaa
open Go.RowKit
set_option linter.unusedVariables false

set_option maxHeartbeats 2000000 in
theorem lawTimes_any (u v : Value) (xs ys : List Int) (w : World) (h : Rd w u xs) (h' : Rd w v ys) (hl : xs.length ≤ 1048576) (hlen : ys.length = xs.length) :
    Calls Try.prog 34 #[u, v] w (Made 3 w (timesL xs ys)) := by
  obtain ⟨a, cap, rfl, h⟩ := h
  obtain ⟨a', cap', rfl, h'⟩ := h'
  rw [hlen] at h' ⊢
  have HX := Lib.hid h
  have HX' := Lib.hid h'
  have HLN := Lib.hid hlen
  clear h h' hlen
  go_enter Try.func34, Try.ntmps34
  go_wp2
  go_loopw [5, 6] (fun v i wr => ∃ k : Nat, k ≤ xs.length ∧ i = .int .i64 k ∧ Own 3 w.heap.size wr v (tab k fun j => wrap64 (ix xs j * ix ys j)) ∧ Below w.heap.size w wr) (fun _ i _ => xs.length - (intOf i).toNat)
  case atStart => exact ⟨0, Nat.zero_le _, rfl, own_empty _ _ _ (Nat.le_refl _), (Below.refl _ _).alloc (Nat.le_refl _) _⟩
  case round =>
    obtain ⟨k, hk, rfl, hO, hB⟩ := hrel
    by_cases hlt : k < xs.length
    · rcases HX.out with rfl | ⟨b, off, rfl, hb, hc⟩
      · simp at hlt
      rcases HX'.out with hy | ⟨b', off', rfl, hb', hc'⟩
      · have := HLN.out; rw [hy] at this; simp at this; omega
      have hcx : wr.cell? ⟨b, off + k, none⟩ = some (.int .i64 (ix xs k)) := (hB.cell (by exact hb)).trans (hc k hlt)
      have hcy : wr.cell? ⟨b', off' + k, none⟩ = some (.int .i64 (ix ys k)) := (hB.cell (by exact hb')).trans (hc' k hlt)
      have i1 : (0 : Int) ≤ (k : Int) := by omega
      have i2 : (k : Int) < (xs.length : Int) := by omega
      obtain ⟨z1, hz1⟩ : ∃ z, z = ix xs k := ⟨_, rfl⟩
      obtain ⟨z2, hz2⟩ : ∃ z, z = ix ys k := ⟨_, rfl⟩
      have HZ : Hid (wrap64 (z1 * z2) = wrap64 (ix xs k * ix ys k)) := by show _ = _; rw [hz1, hz2]
      rw [← hz1] at hcx
      rw [← hz2] at hcy
      have i7 : IntKind.i64.wrap (z1 * z2) = wrap64 (z1 * z2) := IntWalk.i64_left _
      have HN : Hid (k < xs.length ∧ xs.length ≤ 1048576) := ⟨hlt, hl⟩
      have HO := Lib.hid hO
      have HB := Lib.hid hB
      clear hc hc' hz1 hz2 hO hB hk hl
      go_wp2
      go_region_law (refine step_app_int wr rfl (.tmp 14) (.tmp 24) 27 rfl w.heap.size 3 Try.underlying27 infoInt _ _ (by simp [Act.eval]) HO.out (grown_alloc_drew _ _) ⟨wr.heap.size, 0, none⟩ (by simp [Act.eval]) (wrap64 (z1 * z2)) (cell_new1 _ _ _) (by have := HN.out; simp; omega) HB.out.size ?_; intro v' w' hO' hg')
      all_goals
        have hB' := app_below0 HB.out HO.out hg'
        rw [tab_snoc k _ _ HZ.out] at hO'
        obtain ⟨hn1, hn2⟩ := HN.out
        clear HO HB hg' i7
        go_wp2
        go_roundw
        case rel => exact ⟨k + 1, by omega, by go_num, hO', hB'⟩
        case measure => simp [intOf]; omega
    · have hkl : k = xs.length := by omega
      subst hkl
      go_wp2
      go_ret
      exact ⟨_, rfl, hO, hB⟩

end Go.Proofs.Ytabbfehjgchmgaa
