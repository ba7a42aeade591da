/-
  slices.Grow at rows of ints (the kit's shelf, laid in plain words) and slices.Concat of two rows: by their lone contracts.
-/
import Derived.Shelf.Spec.SlicesGrow
import Derived.Test.YtlglokbakmbpdaaMany
import Derived.Test.YtlglokbakmbpdaaRv1
import Derived.Test.YtlglokbakmbpdaaChecked
namespace Go.Proofs.Ytlglokbakmbpdaa
open Go.RowKit Go.Shelf Go.Proofs
set_option linter.unusedVariables false

def growR : Go.Shelf.Ren := ⟨fun | 4 => 80 | n => n, fun | 0 => 0 | 3 => 3 | 4 => 4 | 9 => 9 | 20 => 20 | 22 => 23 | 25 => 3 | n => n, fun | n => n⟩
theorem growL : Go.Proofs.Lays8.n4 Try.prog growR := {
  mixed := by kernel_rfl
  f4 := ⟨Try.f80.name, by decide, Try.func80.trans (congrArg some (by kernel_rfl))⟩
  t0 := Try.underlying0
  a0 := Try.isAgg0
  z0 := Try.sizeOf0
  v0 := Try.zeroValue0
  t3 := Try.underlying3
  a3 := Try.isAgg3
  z3 := Try.sizeOf3
  v3 := Try.zeroValue3
  t4 := Try.underlying4
  a4 := Try.isAgg4
  z4 := Try.sizeOf4
  v4 := Try.zeroValue4
  t9 := Try.underlying9
  a9 := Try.isAgg9
  z9 := Try.sizeOf9
  v9 := Try.zeroValue9
  t20 := Try.underlying20
  a20 := Try.isAgg20
  z20 := Try.sizeOf20
  v20 := Try.zeroValue20
  t22 := Try.underlying23
  a22 := Try.isAgg23
  z22 := Try.sizeOf23
  v22 := Try.zeroValue23 }

theorem size_zeros (u : Value) (n : Nat) : (Builtin.zeroCells #[u] n).size = n := by
  simp [Builtin.zeroCells]

theorem grow_nil (m : Nat) (w : World) (hm : 0 < m) (hm2 : m ≤ 1048576) :
    Calls Try.prog 80 #[.slice none 0 0, .int .i64 m] w fun e w' => ∃ cap, e = .returned (.slice (some ⟨w.heap.size, 0, none⟩) 0 cap) ∧ m ≤ cap ∧ Own 3 w.heap.size w' (.slice (some ⟨w.heap.size, 0, none⟩) 0 cap) [] ∧ Below w.heap.size w w' := by
  obtain ⟨i0, hi, hz0, hz1, hz2⟩ := info_parts infoRv
  refine (Any8.slices_Grow_grow growL i0 (.int .i64 0) hi hz0 (by rw [hz1]; omega) none 0 0 m [] w (Nat.le_refl _) (by omega) (by rw [hz2]; omega) (by omega) (by simp) (fun _ => rfl) (fun a h => by cases h)).mono ?_
  rintro e w' ⟨rfl, rfl⟩
  have h1 := grownCap_ge w (0 + m) 0 (growR.t 25)
  have h2 := grownCap_le_maxLen w (0 + m) 0 (growR.t 25) (by unfold maxLen; omega)
  refine ⟨_, rfl, by omega, ⟨by simp, .inr ⟨w.heap.size, _, _, rfl, Nat.le_refl _, heap_alloc_new _ _, Nat.zero_le _, h2, ?_, by simp⟩⟩, ?_⟩
  · simp only [Value.cells, Array.size_append, size_zeros, List.size_toArray, List.length_nil]
    omega
  · exact (below_drewN (Below.refl w.heap.size w) 1).alloc (show w.heap.size ≤ w.heap.size from Nat.le_refl _) _

set_option maxHeartbeats 4000000 in
theorem concat_any (b0 : Nat) (u v : Value) (xs ys : List Int) (w : World) (hb : b0 < w.heap.size) (c0 : w.cell? ⟨b0, 0, none⟩ = some u) (c1 : w.cell? ⟨b0, 1, none⟩ = some v) (hx : Rd w u xs) (hy : Rd w v ys) (h0 : 0 < xs.length + ys.length) (hl : xs.length + ys.length ≤ 1000000) :
    Calls Try.prog 71 #[.slice (some ⟨b0, 0, none⟩) 2 2] w (Made 3 w (xs ++ ys)) := by
  have HX := Lib.hid hx
  have HY := Lib.hid hy
  obtain ⟨a1, k1, rfl, -⟩ := hx
  obtain ⟨a2, k2, rfl, -⟩ := hy
  obtain ⟨n, hn⟩ : ∃ n, n = xs.length := ⟨_, rfl⟩
  obtain ⟨m, hm⟩ : ∃ m, m = ys.length := ⟨_, rfl⟩
  have HN := Lib.hid hn
  have HM := Lib.hid hm
  rw [← hn] at c0 HX
  rw [← hm] at c1 HY
  rw [← hn, ← hm] at h0 hl
  have j1 : IntKind.i64.wrap (n : Int) = (n : Int) := IntWalk.i64_in _ (by omega)
  have j2 : IntKind.i64.wrap ((n : Int) + (m : Int)) = (n : Int) + (m : Int) := IntWalk.i64_in _ (by omega)
  have j3 : ¬ (n : Int) < 0 := by omega
  have j4 : ¬ (n : Int) + (m : Int) < 0 := by omega
  have j5 : IntKind.i64.wrap (0 + (n : Int)) = (n : Int) := by rw [Int.zero_add]; exact j1
  clear hn hm
  go_enter Try.func71, Try.ntmps71
  go_wp2
  refine wp_loop_rounds 3 ?_
  rw [rounds_succ]
  go_wp2
  rw [rounds_succ]
  go_wp2
  rw [rounds_succ]
  go_wp2_with fail
  have hgr := grow_nil (n + m) w h0 (by omega)
  rw [show ((n + m : Nat) : Int) = (n : Int) + (m : Int) by omega] at hgr
  refine hgr.mono ?_
  rintro e w1 ⟨cap, rfl, hcap, o1, b1⟩
  have c0 := (b1.cell (p := ⟨b0, 0, none⟩) hb).trans c0
  have c1 := (b1.cell (p := ⟨b0, 1, none⟩) hb).trans c1
  have hb1 := Nat.lt_of_lt_of_le hb b1.size
  have B1 := Lib.hid b1
  clear b1 hgr
  go_wp2
  refine wp_loop_rounds 3 ?_
  rw [rounds_succ]
  go_wp2_with (at_builtin; refine app_many rfl _ _ 23 rfl w.heap.size 3 Try.underlying23 infoRv _ _ rfl o1 _ xs rfl (HX.out.below B1.out (Nat.le_refl _)) ?e1 ?e2 ?_)
  case e1 => have := HN.out; simp; omega
  case e2 => exact B1.out.size
  intro v2 w2 o2 g2
  have b2 := B1.out.grown g2 B1.out.size (fun k hk => (World.ownsRow.lt o1 k hk).1)
  replace o2 : Own 3 w.heap.size w2 v2 xs := o2
  have c1 : w2.cell? ⟨b0, 1, none⟩ = some (.slice a2 m k2) := by
    have := g2.cell c1 (by simp [Value.ownBlock]; omega)
    exact this
  have B2 := Lib.hid b2
  clear b2 g2 o1 c0
  go_wp2
  rw [rounds_succ]
  go_wp2_with (at_builtin; refine app_many rfl _ _ 23 rfl w.heap.size 3 Try.underlying23 infoRv _ _ rfl o2 _ ys rfl (HY.out.below B2.out (Nat.le_refl _)) ?e1 ?e2 ?_)
  case e1 => have := HN.out; have := HM.out; omega
  case e2 => exact B2.out.size
  intro v3 w3 o3 g3
  have b3 := B2.out.grown g3 B2.out.size (fun k hk => (World.ownsRow.lt o2 k hk).1)
  have O3 := Lib.hid o3
  clear g3 o2 o3 c1
  go_wp2
  rw [rounds_succ]
  go_wp2
  go_ret
  exact ⟨_, rfl, O3.out, b3⟩
end Go.Proofs.Ytlglokbakmbpdaa
