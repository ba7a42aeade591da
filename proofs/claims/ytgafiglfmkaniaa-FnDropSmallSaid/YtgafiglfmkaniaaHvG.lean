/-
  Lifting of the program: half, quarter, cut, guess and share, by their contracts.
-/
import Derived.Test.YtgafiglfmkaniaaHvW
import Derived.Test.YtgafiglfmkaniaaHvU
import Derived.Test.YtgafiglfmkaniaaHvR
import Derived.Test.YtgafiglfmkaniaaCopy
import Derived.Defers
namespace Go.Proofs.Ytgafiglfmkaniaa
open Go.RowKit
set_option linter.unusedVariables false

theorem half_any (x : Int) (w : World) :
    Calls Try.prog 62 #[.int .i64 x] w fun e w' => e = .returned (.int .i64 (x / 2)) ∧ w' = w := by
  go_enter Try.func62, Try.ntmps62
  go_wp2
  go_ret
  exact ⟨rfl, rfl⟩

theorem cut_any (g n p q c : Nat) (w : World) (h : n ≤ c) (hq : n / 2 = q) (hp : p + q = n) (hb : n ≤ 1048576) :
    Calls Try.prog 50 #[.slice (some ⟨g, 0, none⟩) n c] w fun e w' => e = .returned (.tuple #[.slice (some ⟨g, 0, none⟩) p p, .slice (if c = p then some ⟨g, 0, none⟩ else some ⟨g, p, none⟩) q (c - p)]) ∧ ∃ k, w' = w.drewN k := by
  have e1 : (n : Int) / 2 = (q : Int) := by omega
  have e2 : IntKind.i64.wrap (q : Int) = (q : Int) := IntWalk.i64_in _ (by omega)
  have e3 : (n : Int) - (q : Int) = (p : Int) := by omega
  have e4 : IntKind.i64.wrap (p : Int) = (p : Int) := IntWalk.i64_in _ (by omega)
  have e5 : Int.toNat (p : Int) = p := by omega
  have i1 : (0 : Int) ≤ (p : Int) := by omega
  have i2 : (p : Int) ≤ (n : Int) := by omega
  have i3 : (p : Int) ≤ (c : Int) := by omega
  have i4 : (n : Int) ≤ (c : Int) := by omega
  have i5 : n - p = q := by omega
  clear hq hp hb
  go_enter Try.func50, Try.ntmps50
  go_wp2
  go_quiet (fail)
  go_wp2
  · exact bodyPost_ret (v := .tuple #[.slice (some ⟨g, 0, none⟩) p p, .slice (some ⟨g, 0, none⟩) q 0]) (by simp [results, Try.results50, go_sem]) rfl ⟨by simp, _, rfl⟩
  · exact bodyPost_ret (v := .tuple #[.slice (some ⟨g, 0, none⟩) p p, .slice (some ⟨g, p, none⟩) q (c - p)]) (by simp [results, Try.results50, go_sem]) rfl ⟨by simp, _, rfl⟩

/-- The methods of both kinds of rows. -/
theorem hal_cut (v : Value) (w : World) : (method 174 39 (.agg #[v]) "loop.example/wholewaves/impl.cut").run Try.prog w = .ok (50, v) w := by kernel_rfl
theorem lep_cut (v : Value) (w : World) : (method 174 40 (.agg #[v]) "loop.example/wholewaves/impl.cut").run Try.prog w = .ok (50, v) w := by kernel_rfl

theorem hal_no (v : Value) (w : World) : (Instr.typeAssert (.iface 39 (.agg #[v])) 54 40 true).run Try.prog w = .ok (.tuple #[.agg #[.slice none 0 0], .bool false]) w := by kernel_rfl
theorem lep_yes (v : Value) (w : World) : (Instr.typeAssert (.iface 40 (.agg #[v])) 54 40 true).run Try.prog w = .ok (.tuple #[.agg #[v], .bool true]) w := by kernel_rfl

theorem cut2_any (g m c : Nat) (w : World) (hc : 2 * m ≤ c) (h0 : 0 < m) (hm : m ≤ 524288) :
    Calls Try.prog 50 #[.slice (some ⟨g, 0, none⟩) (2 * m) c] w fun e w' => e = .returned (.tuple #[.slice (some ⟨g, 0, none⟩) m m, .slice (some ⟨g, m, none⟩) m (c - m)]) ∧ ∃ k, w' = w.drewN k := by
  refine (cut_any g (2 * m) m m c w hc (by omega) (by omega) (by omega)).mono ?_
  rintro e w1 ⟨rfl, hk⟩
  exact ⟨by rw [if_neg (by omega)], hk⟩

theorem quarter_any (x : Int) (w : World) :
    Calls Try.prog 63 #[.int .i64 x] w fun e w' => e = .returned (.int .i64 (x / 4)) ∧ w' = w := by
  go_enter Try.func63, Try.ntmps63
  go_wp2
  go_ret
  exact ⟨rfl, rfl⟩

/-- Of halves: what a number is taken to be, and what a detail adds. -/
theorem guessH_any (g m c : Nat) (F : Nat → Int) (i : Nat) (w : World) (hc : 2 * m ≤ c) (hi : i < m) (hm : m ≤ 524288) (h : ∀ j, j < 2 * m → w.cell? ⟨g, j, none⟩ = some (.int .i64 (F j))) :
    Calls Try.prog 57 #[.iface 39 (.agg #[.slice (some ⟨g, 0, none⟩) (2 * m) c]), .int .i64 i] w fun e w' => e = .returned (.int .i64 (gsH m F i)) ∧ ∃ k, w' = w.drewN k := by
  have HC := Lib.hid fun w => cut2_any g m c w hc (by omega) hm
  have hci := h i (by omega)
  have i1 : (i : Int) < (m : Int) := by omega
  have hmt := hal_cut
  have hty := hal_no
  clear h hc hm
  go_enter Try.func57, Try.ntmps57
  go_wp2_with (go_at_call 50; refine (HC.out _).mono ?_; rintro e w1 ⟨rfl, k1, rfl⟩)
  go_ret
  exact ⟨rfl, _, rfl⟩

theorem shareH_any (g m c : Nat) (F : Nat → Int) (i : Nat) (w : World) (hc : 2 * m ≤ c) (hi : i < m) (hm : m ≤ 524288) (h : ∀ j, j < 2 * m → w.cell? ⟨g, j, none⟩ = some (.int .i64 (F j))) :
    Calls Try.prog 58 #[.iface 39 (.agg #[.slice (some ⟨g, 0, none⟩) (2 * m) c]), .int .i64 i] w fun e w' => e = .returned (.int .i64 (shH m F i)) ∧ ∃ k, w' = w.drewN k := by
  have HC := Lib.hid fun w => cut2_any g m c w hc (by omega) hm
  have hci := h (m + i) (by omega)
  have i1 : (i : Int) < (m : Int) := by omega
  have HH := Lib.hid half_any
  have hmt := hal_cut
  have hty := hal_no
  clear h hc hm
  go_enter Try.func58, Try.ntmps58
  go_wp2_with (first | (go_at_call 50; refine (HC.out _).mono ?_; rintro e w1 ⟨rfl, k1, rfl⟩) | (go_at_call 62; refine (HH.out _ _).mono ?_; rintro e w1 ⟨rfl, rfl⟩))
  go_ret
  exact ⟨rfl, _, rfl⟩

/-- The same of leaps. -/
theorem guessL_any (g m c : Nat) (F : Nat → Int) (i : Nat) (w : World) (hc : 2 * m ≤ c) (hi : i < m) (hm : m ≤ 524288) (hb : ∀ j, j < m → -1000000000 ≤ F j ∧ F j ≤ 1000000000) (h : ∀ j, j < 2 * m → w.cell? ⟨g, j, none⟩ = some (.int .i64 (F j))) :
    Calls Try.prog 57 #[.iface 40 (.agg #[.slice (some ⟨g, 0, none⟩) (2 * m) c]), .int .i64 i] w fun e w' => e = .returned (.int .i64 (gsL m F i)) ∧ ∃ k, w' = w.drewN k := by
  have HC := Lib.hid fun w => cut2_any g m c w hc (by omega) hm
  have hmt := lep_cut
  have hty := lep_yes
  have b0 := hb i hi
  have hci := h i (by omega)
  have HH := Lib.hid half_any
  have i1 : (i : Int) < (m : Int) := by omega
  by_cases hlt : i + 1 < m
  · have HR := Lib.hid (show (F i + F (i + 1)) / 2 = gsL m F i by unfold gsL lM; rw [if_pos hlt])
    have b1 := hb (i + 1) hlt
    have hcj := h (i + 1) (by omega)
    have a1 : (i : Int) + 1 ≤ (m : Int) - 1 := by omega
    have a2 : ¬ (m : Int) - 1 < (i : Int) + 1 := by omega
    have a3 : (i : Int) + 1 < (m : Int) := by omega
    have e1 : ((i : Int) + 1).toNat = i + 1 := by omega
    have e2 : IntKind.i64.wrap (F i + F (i + 1)) = F i + F (i + 1) := IntWalk.i64_in _ (by omega)
    have e3 : (0 : Int) ≤ (i : Int) + 1 := by omega
    clear h hc hb
    go_enter Try.func57, Try.ntmps57
    go_wp2_with (go_at_call 50; refine (HC.out _).mono ?_; rintro e w1 ⟨rfl, k1, hw1⟩; have HW := Lib.hid hw1; have hci : w1.cell? ⟨g, i, none⟩ = some (.int .i64 (F i)) := (by rw [hw1]; exact hci); have hcj : w1.cell? ⟨g, i + 1, none⟩ = some (.int .i64 (F (i + 1))) := (by rw [hw1]; exact hcj); clear hw1)
    go_quiet ((first | (go_at_call 62; exact Calls.quiet_of_same (HH.out _ _))))
    go_wp2
    go_ret
    exact ⟨ret_int HR.out, _, by rw [HW.out, World.drewN_drewN]⟩
  · have HR := Lib.hid (show (F i + F i) / 2 = gsL m F i by unfold gsL lM; rw [if_neg hlt])
    have a0 : (m : Int) - 1 = (i : Int) := by omega
    have a1 : ¬ (i : Int) + 1 ≤ (i : Int) := by omega
    have a2 : (i : Int) < (i : Int) + 1 := by omega
    have e2 : IntKind.i64.wrap (F i + F i) = F i + F i := IntWalk.i64_in _ (by omega)
    clear h hc hb hlt
    go_enter Try.func57, Try.ntmps57
    go_wp2_with (go_at_call 50; refine (HC.out _).mono ?_; rintro e w1 ⟨rfl, k1, hw1⟩; have HW := Lib.hid hw1; have hci : w1.cell? ⟨g, i, none⟩ = some (.int .i64 (F i)) := (by rw [hw1]; exact hci); clear hw1)
    go_quiet ((first | (go_at_call 62; exact Calls.quiet_of_same (HH.out _ _))))
    go_wp2
    go_ret
    exact ⟨ret_int HR.out, _, by rw [HW.out, World.drewN_drewN]⟩

theorem shareL_any (g m c : Nat) (F : Nat → Int) (i : Nat) (w : World) (hc : 2 * m ≤ c) (hi : i < m) (hm : m ≤ 524288) (hb : ∀ j, j < m → -1000000000 ≤ F (m + j) ∧ F (m + j) ≤ 1000000000) (h : ∀ j, j < 2 * m → w.cell? ⟨g, j, none⟩ = some (.int .i64 (F j))) :
    Calls Try.prog 58 #[.iface 40 (.agg #[.slice (some ⟨g, 0, none⟩) (2 * m) c]), .int .i64 i] w fun e w' => e = .returned (.int .i64 (shL m F i)) ∧ ∃ k, w' = w.drewN k := by
  have HC := Lib.hid fun w => cut2_any g m c w hc (by omega) hm
  have hmt := lep_cut
  have hty := lep_yes
  have b0 := hb i hi
  have hci := h (m + i) (by omega)
  have HH := Lib.hid quarter_any
  have i1 : (i : Int) < (m : Int) := by omega
  by_cases hlt : 0 < i
  · have HR := Lib.hid (show (F (m + (i - 1)) + F (m + i) + 2) / 4 = shL m F i by unfold shL lQ; rw [if_pos hlt])
    have b1 := hb (i - 1) (by omega)
    have hcj := h (m + (i - 1)) (by omega)
    have a1 : (0 : Int) ≤ (i : Int) - 1 := by omega
    have a2 : ¬ (i : Int) - 1 < 0 := by omega
    have a3 : (i : Int) - 1 < (m : Int) := by omega
    have e1 : ((i : Int) - 1).toNat = i - 1 := by omega
    have e2 : IntKind.i64.wrap (F (m + (i - 1)) + F (m + i)) = F (m + (i - 1)) + F (m + i) := IntWalk.i64_in _ (by omega)
    have e3 : IntKind.i64.wrap (F (m + (i - 1)) + F (m + i) + 2) = F (m + (i - 1)) + F (m + i) + 2 := IntWalk.i64_in _ (by omega)
    clear h hc hb hlt
    go_enter Try.func58, Try.ntmps58
    go_wp2_with (go_at_call 50; refine (HC.out _).mono ?_; rintro e w1 ⟨rfl, k1, hw1⟩; have HW := Lib.hid hw1; have hci : w1.cell? ⟨g, m + i, none⟩ = some (.int .i64 (F (m + i))) := (by rw [hw1]; exact hci); have hcj : w1.cell? ⟨g, m + (i - 1), none⟩ = some (.int .i64 (F (m + (i - 1)))) := (by rw [hw1]; exact hcj); clear hw1)
    go_quiet ((first | (go_at_call 63; exact Calls.quiet_of_same (HH.out _ _))))
    go_wp2
    go_ret
    exact ⟨ret_int HR.out, _, by rw [HW.out, World.drewN_drewN]⟩
  · obtain rfl : i = 0 := by omega
    have HR := Lib.hid (show (F m + F m + 2) / 4 = shL m F 0 by unfold shL lQ; rw [if_neg hlt]; rfl)
    have e2 : IntKind.i64.wrap (F m + F m) = F m + F m := IntWalk.i64_in _ (by rw [Nat.add_zero] at b0; omega)
    have e3 : IntKind.i64.wrap (F m + F m + 2) = F m + F m + 2 := IntWalk.i64_in _ (by rw [Nat.add_zero] at b0; omega)
    have hcj : w.cell? ⟨g, m, none⟩ = some (.int .i64 (F m)) := h m (by omega)
    clear h hc hb hlt
    go_enter Try.func58, Try.ntmps58
    go_wp2_with (go_at_call 50; refine (HC.out _).mono ?_; rintro e w1 ⟨rfl, k1, hw1⟩; have HW := Lib.hid hw1; have hcj : w1.cell? ⟨g, m, none⟩ = some (.int .i64 (F m)) := (by rw [hw1]; exact hcj); clear hw1)
    go_quiet ((first | (go_at_call 63; exact Calls.quiet_of_same (HH.out _ _))))
    go_wp2
    go_ret
    exact ⟨ret_int HR.out, _, by rw [HW.out, World.drewN_drewN]⟩

end Go.Proofs.Ytgafiglfmkaniaa
