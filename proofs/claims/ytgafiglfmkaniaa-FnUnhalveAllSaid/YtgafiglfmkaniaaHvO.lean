/-
  Rows without numbers: nothing is put apart, lifted or taken back; copies of rows of an even number of numbers.
-/
import Derived.Test.YtgafiglfmkaniaaHvK
namespace Go.Proofs.Ytgafiglfmkaniaa
open Go.RowKit
set_option linter.unusedVariables false

theorem cut0_any (a : Option Addr) (w : World) :
    Calls Try.prog 50 #[.slice a 0 0] w fun e w' => e = .returned (.tuple #[.slice a 0 0, .slice a 0 0]) ∧ ∃ k, w' = w.drewN k := by
  cases a with
  | none =>
    go_enter Try.func50, Try.ntmps50
    go_wp2
    go_quiet (fail)
    go_wp2
    exact bodyPost_ret (v := .tuple #[.slice none 0 0, .slice none 0 0]) (by simp [results, Try.results50, go_sem]) rfl ⟨rfl, _, rfl⟩
  | some a =>
    go_enter Try.func50, Try.ntmps50
    go_wp2
    go_quiet (fail)
    go_wp2
    exact bodyPost_ret (v := .tuple #[.slice (some a) 0 0, .slice (some a) 0 0]) (by simp [results, Try.results50, go_sem]) rfl ⟨rfl, _, rfl⟩

theorem putApart0_any (a : Option Addr) (w : World) :
    Calls Try.prog 80 #[.slice a 0 0] w fun e w' => e = .returned (.tuple #[]) ∧ Below w.heap.size w w' := by
  have HCP := Lib.hid (copyOf_any (.slice a 0 0) [] w ⟨a, 0, rfl, .inl rfl⟩ (by simp))
  have HC := Lib.hid fun w => cut0_any a w
  go_enter Try.func80, Try.ntmps80
  go_wp2_with (first
    | (go_at_call 44; refine HCP.out.mono ?_; rintro e w1 ⟨g1, rfl, hg1, o1, b1⟩)
    | (go_at_call 50; refine (HC.out _).mono ?_; rintro e w2 ⟨rfl, k2, rfl⟩))
  refine wp_loop_rounds 1 ?_
  rw [rounds_succ]
  go_wp2
  go_end0
  exact ⟨rfl, below_drewN b1 _⟩

theorem putTogether0_any (a : Option Addr) (u : FrameMode) (w : World) :
    CallsD Try.prog 81 #[.slice a 0 0] u w fun e u' w' => u' = u ∧ (e = .returned (.tuple #[]) ∧ Below w.heap.size w w') := by
  have HCP := Lib.hid (copyOf_any (.slice a 0 0) [] w ⟨a, 0, rfl, .inl rfl⟩ (by simp))
  have HC := Lib.hid fun a w => cut0_any a w
  go_enter_d Try.func81, Try.ntmps81
  go_wp2_with (first
    | (go_at_call 44; refine HCP.out.mono ?_; rintro e w1 ⟨g1, rfl, hg1, o1, b1⟩)
    | (go_at_call 50; refine (HC.out _ _).mono ?_; rintro e w2 ⟨rfl, k2, rfl⟩))
  refine wp_loop_rounds 1 ?_
  rw [rounds_succ]
  go_wp2
  go_end0
  exact ⟨rfl, below_drewN b1 _⟩

theorem liftH0_any (a : Option Addr) (w : World) :
    Calls Try.prog 37 #[.iface 39 (.agg #[.slice a 0 0])] w fun e w' => e = .returned (.tuple #[]) ∧ Below w.heap.size w w' := by
  have HPA := Lib.hid (putApart0_any a w)
  have HC := Lib.hid fun w => cut0_any a w
  have hmt := hal_apart
  have hmc := hal_cut
  go_enter Try.func37, Try.ntmps37
  go_wp2_with (first
    | (go_at_call 80; refine HPA.out.mono ?_; rintro e w1 ⟨rfl, b1⟩)
    | (go_at_call 50; refine (HC.out _).mono ?_; rintro e w2 ⟨rfl, k2, rfl⟩))
  refine wp_loop_rounds 1 ?_
  rw [rounds_succ]
  go_wp2
  refine wp_loop_rounds 1 ?_
  rw [rounds_succ]
  go_wp2
  go_end0
  exact ⟨rfl, below_drewN b1 _⟩

theorem lowerH0_any (a : Option Addr) (w : World) :
    Calls Try.prog 40 #[.iface 39 (.agg #[.slice a 0 0])] w fun e w' => e = .returned (.tuple #[]) ∧ Below w.heap.size w w' := by
  have HPT := Lib.hid fun w => putTogether0_any a .returning w
  have HC := Lib.hid fun w => cut0_any a w
  have hmt := hal_together
  have hmc := hal_cut
  go_enter_defers Try.func40, Try.ntmps40
  go_wp2_with (go_at_call 50; refine (HC.out _).mono ?_; rintro e w2 ⟨rfl, k2, rfl⟩)
  refine wp_loop_rounds 1 ?_
  rw [rounds_succ]
  go_wp2
  refine wp_loop_rounds 1 ?_
  rw [rounds_succ]
  go_wp2
  refine leaves_cons (f := 81) (args := #[.slice a 0 0]) (by simp) (by simp [go_sem, hmt]) ?_
  refine (HPT.out (w.drewN k2)).mono ?_
  rintro e u' w4 ⟨rfl, rfl, b4⟩
  exact ⟨_, results_none rfl _ _ _, rfl, (below_drewN (Below.refl _ _) k2).trans b4⟩

theorem liftL0_any (a : Option Addr) (w : World) :
    Calls Try.prog 37 #[.iface 40 (.agg #[.slice a 0 0])] w fun e w' => e = .returned (.tuple #[]) ∧ Below w.heap.size w w' := by
  have HPA := Lib.hid (putApart0_any a w)
  have HC := Lib.hid fun w => cut0_any a w
  have hmt := lep_apart
  have hmc := lep_cut
  go_enter Try.func37, Try.ntmps37
  go_wp2_with (first
    | (go_at_call 80; refine HPA.out.mono ?_; rintro e w1 ⟨rfl, b1⟩)
    | (go_at_call 50; refine (HC.out _).mono ?_; rintro e w2 ⟨rfl, k2, rfl⟩))
  refine wp_loop_rounds 1 ?_
  rw [rounds_succ]
  go_wp2
  refine wp_loop_rounds 1 ?_
  rw [rounds_succ]
  go_wp2
  go_end0
  exact ⟨rfl, below_drewN b1 _⟩

theorem lowerL0_any (a : Option Addr) (w : World) :
    Calls Try.prog 40 #[.iface 40 (.agg #[.slice a 0 0])] w fun e w' => e = .returned (.tuple #[]) ∧ Below w.heap.size w w' := by
  have HPT := Lib.hid fun w => putTogether0_any a .returning w
  have HC := Lib.hid fun w => cut0_any a w
  have hmt := lep_together
  have hmc := lep_cut
  go_enter_defers Try.func40, Try.ntmps40
  go_wp2_with (go_at_call 50; refine (HC.out _).mono ?_; rintro e w2 ⟨rfl, k2, rfl⟩)
  refine wp_loop_rounds 1 ?_
  rw [rounds_succ]
  go_wp2
  refine wp_loop_rounds 1 ?_
  rw [rounds_succ]
  go_wp2
  refine leaves_cons (f := 81) (args := #[.slice a 0 0]) (by simp) (by simp [go_sem, hmt]) ?_
  refine (HPT.out (w.drewN k2)).mono ?_
  rintro e u' w4 ⟨rfl, rfl, b4⟩
  exact ⟨_, results_none rfl _ _ _, rfl, (below_drewN (Below.refl _ _) k2).trans b4⟩

theorem evenCopy_yes (v : Value) (xs : List Int) (w : World) (h : Rd w v xs) (hl : xs.length ≤ maxLen) (hb : evB xs = true) :
    Calls Try.prog 36 #[v] w (MadeAt 3 w xs) := by
  obtain ⟨h1, h2⟩ := evB_of hb
  have hv := implValid_any v xs w h hl
  rw [h1] at hv
  have HV := Lib.hid hv
  have hx := (vrB_of h1).1
  have HCP := Lib.hid fun w1 (b : Below w.heap.size w w1) => copyOf_any v xs w1 (h.below b (Nat.le_refl _)) (by omega)
  have h3 : (xs.length : Int) % 2 = 0 := by omega
  obtain ⟨a, cap, rfl, -⟩ := h
  clear hv hb h1 h2 hl
  go_enter Try.func36, Try.ntmps36
  go_wp2_with (first
    | (go_at_call 14; refine HV.out.mono ?_; rintro e w1 ⟨rfl, b1⟩)
    | (go_at_call 44; refine (HCP.out _ b1).mono ?_; rintro e w2 ⟨g1, rfl, hg1, o1, b2⟩))
  go_ret
  exact ⟨g1, rfl, Nat.le_trans b1.size hg1, o1.mono b1.size, b1.trans (b2.mono b1.size)⟩

theorem evenCopy_no (v : Value) (xs : List Int) (w : World) (h : Rd w v xs) (hl : xs.length ≤ maxLen) (hb : evB xs = false) :
    Calls Try.prog 36 #[v] w fun e w' => e = .returned (.slice none 0 0) ∧ Below w.heap.size w w' := by
  have hv := implValid_any v xs w h hl
  cases h1 : vrB xs with
  | false =>
    rw [h1] at hv
    have HV := Lib.hid hv
    obtain ⟨a, cap, rfl, -⟩ := h
    clear hv hb h1 hl
    go_enter Try.func36, Try.ntmps36
    go_wp2_with (go_at_call 14; refine HV.out.mono ?_; rintro e w1 ⟨rfl, b1⟩)
    go_ret
    exact ⟨rfl, b1⟩
  | true =>
    rw [h1] at hv
    rw [evB_eq h1] at hb
    have HV := Lib.hid hv
    have h2 : ¬ xs.length % 2 = 0 := by simpa using hb
    have hx := (vrB_of h1).1
    have h3 : (xs.length : Int) % 2 = 1 := by omega
    obtain ⟨a, cap, rfl, -⟩ := h
    clear hv hb h1 hl h2
    go_enter Try.func36, Try.ntmps36
    go_wp2_with (go_at_call 14; refine HV.out.mono ?_; rintro e w1 ⟨rfl, b1⟩)
    go_ret
    exact ⟨rfl, b1⟩

end Go.Proofs.Ytgafiglfmkaniaa
