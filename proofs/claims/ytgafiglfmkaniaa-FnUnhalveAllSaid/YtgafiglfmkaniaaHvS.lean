/-
  HalveAll and UnhalveAll of the program, by their contracts.
-/
import Derived.Test.YtgafiglfmkaniaaHvI
import Derived.Test.YtgafiglfmkaniaaHvR
namespace Go.Proofs.Ytgafiglfmkaniaa
open Go.RowKit
set_option linter.unusedVariables false

set_option maxHeartbeats 4000000 in
theorem implHalveAll_any (v : Value) (xs : List Int) (w : World) (h : Rd w v xs) (hl : xs.length ≤ maxLen) :
    Calls Try.prog 19 #[v] w (Made 3 w (hlaF xs)) := by
  have hv := isBinaryRow_any v xs w h hl
  cases hb : cubeB xs with
  | true =>
    rw [hb] at hv
    have HV := Lib.hid hv
    obtain ⟨h1, k, hk4, hk⟩ := cubeB_of hb
    have h16 := (vrB_of h1).1
    have hbd := (vrB_of h1).2
    have HF := Lib.hid (hlaF_yes hb hk)
    have HCP := Lib.hid fun w1 (b : Below w.heap.size w w1) => copyOf_any v xs w1 (h.below b (Nat.le_refl _)) (by omega)
    obtain ⟨F, hF⟩ : ∃ F, F = ix xs := ⟨_, rfl⟩
    have hXS : xs = tab xs.length F := by rw [hF]; exact (tab_self xs).symm
    rw [← hF] at HF hbd
    obtain ⟨L, hL⟩ : ∃ L, L = xs.length := ⟨_, rfl⟩
    rw [← hL] at HF hXS hk h16 hbd
    have HXS := Lib.hid hXS
    have HK := Lib.hid hk
    have HL := Lib.hid hL
    have hk1 : 1 ≤ L := by rw [hk]; exact Nat.one_le_two_pow
    obtain ⟨a, cap, rfl, -⟩ := h
    have HBD := Lib.hid hbd
    clear hb h1 hF hk hbd hL hXS hv hl
    go_enter Try.func19, Try.ntmps19
    go_wp2_with (first
      | (go_at_call 43; refine HV.out.mono ?_; rintro e w1 ⟨rfl, b1⟩)
      | (go_at_call 44; refine (HCP.out _ b1).mono ?_; rintro e w2 ⟨g, rfl, hg1, o1, b2⟩; rw [← HL.out]))
    have hI : Own 3 w.heap.size w2 (.slice (some ⟨g, 0, none⟩) L L) (tab L F) := by
      have := o1.mono b1.size
      rw [← HL.out] at this
      rw [← HXS.out]; exact this
    have hJ : Below w.heap.size w w2 := b1.trans (b2.mono b1.size)
    have hg := Nat.le_trans b1.size hg1
    clear o1 b2 b1 hg1
    go_loopw [4] (fun n wr => ∃ (j N : Nat) (G : Nat → Int), Hid (N = 2 ^ j) ∧ N ≤ L ∧ n = .int .i64 N ∧ Own 3 w.heap.size wr (.slice (some ⟨g, 0, none⟩) L L) (tab L G) ∧ Hid (hAll j G = hAll k F) ∧ Hid (∀ i, i < N → -1000 ≤ G i ∧ G i ≤ 1000) ∧ Below w.heap.size w wr) (fun n _ => (intOf n).toNat)
    case atStart => exact ⟨k, L, F, HK.out, Nat.le_refl _, rfl, hI, rfl, HBD.out, hJ⟩
    case round =>
      obtain ⟨j, N, G, hN, hNL, rfl, hO, hG, hG1, hBr⟩ := hrel
      clear hI hJ
      by_cases hlt : 2 ≤ N
      · obtain ⟨j, rfl⟩ : ∃ i, j = i + 1 := by
          cases j with
          | zero => have := hN.out; simp at this; omega
          | succ i => exact ⟨i, rfl⟩
        have hM := hN.out
        rw [pow_two_succ] at hM
        obtain ⟨M, hMM⟩ : ∃ M, M = 2 ^ j := ⟨_, rfl⟩
        rw [← hMM] at hM
        have HLF : Calls Try.prog 37 #[.iface 39 (.agg #[.slice (some ⟨g, 0, none⟩) N N])] wr fun e w' => e = .returned (.tuple #[]) ∧ Own 3 w.heap.size w' (.slice (some ⟨g, 0, none⟩) L L) (tab L (hS M G)) ∧ Below w.heap.size wr w' := by
          rw [← lftH L M G, hM]
          exact liftH_any w.heap.size g (2 * M) L L M G wr hO (by omega) (Nat.le_refl _) (by omega) (by omega) (fun i hi => by have := hG1.out i (by omega); omega)
        have HLF := Lib.hid HLF
        have HB1 := Lib.hid (hS_mean (m := M) (fun i hi => hG1.out i (by omega)))
        have HG := Lib.hid (show hAll j (hS M G) = hAll k F by rw [hMM]; exact hG.out)
        have HMP := Lib.hid hMM
        have hN2 : (N : Int) / 2 = (M : Int) := by omega
        have i0 : (2 : Int) ≤ (N : Int) := by omega
        have i1 : (0 : Int) ≤ (N : Int) := by omega
        have i2 : (N : Int) ≤ (L : Int) := by omega
        have hML : M ≤ L := by omega
        have hMl : M < N := by omega
        clear hM hMM hO hG1 hN hG
        go_wp2_with (go_at_call 37; refine HLF.out.mono ?_; rintro e w3 ⟨rfl, o3, b3⟩)
        go_roundw
        case rel => exact ⟨j, M, hS M G, HMP, hML, rfl, o3, HG, HB1, hBr.trans b3⟩
        case measure => simp [intOf]; omega
      · have hj : j = 0 := by
          cases j with
          | zero => rfl
          | succ i => have := hN.out; rw [pow_two_succ] at this; have := Nat.one_le_two_pow (n := i); omega
        subst hj
        have hGF : G = hAll k F := hG.out
        subst hGF
        rw [← HF.out] at hO
        have i0 : ¬ (2 : Int) ≤ (N : Int) := by omega
        have HO := Lib.hid hO
        clear hO hG hG1 hN
        go_wp2
        go_ret
        exact ⟨_, rfl, HO.out, hBr⟩
  | false =>
    rw [hb] at hv
    have HV := Lib.hid hv
    have HF := Lib.hid (hlaF_no hb)
    obtain ⟨a, cap, rfl, -⟩ := h
    clear hb hv hl
    go_enter Try.func19, Try.ntmps19
    go_wp2_with (go_at_call 43; refine HV.out.mono ?_; rintro e w1 ⟨rfl, b1⟩)
    go_ret
    exact ⟨_, rfl, by rw [HF.out]; exact Own.nil _ _ _, b1⟩

set_option maxHeartbeats 4000000 in
theorem implUnhalveAll_any (v : Value) (xs : List Int) (w : World) (h : Rd w v xs) (hl : xs.length ≤ maxLen) :
    Calls Try.prog 21 #[v] w (Made 3 w (ulaF xs)) := by
  have hv := isBinaryRow_any v xs w h hl
  cases hb : cubeB xs with
  | true =>
    rw [hb] at hv
    have HV := Lib.hid hv
    obtain ⟨h1, k, hk4, hk⟩ := cubeB_of hb
    have h16 := (vrB_of h1).1
    have hbd := (vrB_of h1).2
    have HF := Lib.hid (ulaF_yes hb hk)
    have HCP := Lib.hid fun w1 (b : Below w.heap.size w w1) => copyOf_any v xs w1 (h.below b (Nat.le_refl _)) (by omega)
    obtain ⟨F, hF⟩ : ∃ F, F = ix xs := ⟨_, rfl⟩
    have hXS : xs = tab xs.length F := by rw [hF]; exact (tab_self xs).symm
    rw [← hF] at HF hbd
    obtain ⟨L, hL⟩ : ∃ L, L = xs.length := ⟨_, rfl⟩
    rw [← hL] at HF hXS hk h16 hbd
    have HXS := Lib.hid hXS
    have HK := Lib.hid hk
    have HL := Lib.hid hL
    have hk1 : 1 ≤ L := by rw [hk]; exact Nat.one_le_two_pow
    obtain ⟨a, cap, rfl, -⟩ := h
    have HBD := Lib.hid hbd
    clear hb h1 hF hk hbd hL hXS hv hl
    go_enter Try.func21, Try.ntmps21
    go_wp2_with (first
      | (go_at_call 43; refine HV.out.mono ?_; rintro e w1 ⟨rfl, b1⟩)
      | (go_at_call 44; refine (HCP.out _ b1).mono ?_; rintro e w2 ⟨g, rfl, hg1, o1, b2⟩; rw [← HL.out]))
    have hI : Own 3 w.heap.size w2 (.slice (some ⟨g, 0, none⟩) L L) (tab L F) := by
      have := o1.mono b1.size
      rw [← HL.out] at this
      rw [← HXS.out]; exact this
    have hJ : Below w.heap.size w w2 := b1.trans (b2.mono b1.size)
    have hg := Nat.le_trans b1.size hg1
    clear o1 b2 b1 hg1
    go_loopw [4] (fun n wr => ∃ (j N : Nat), Hid (N = 2 ^ (j + 1)) ∧ Hid (j ≤ k) ∧ N ≤ 64 ∧ n = .int .i64 N ∧ Own 3 w.heap.size wr (.slice (some ⟨g, 0, none⟩) L L) (tab L (uAll j F)) ∧ Hid (∀ i, i < L → -(1000 + 1001 * (j : Int)) ≤ uAll j F i ∧ uAll j F i ≤ 1000 + 1001 * (j : Int)) ∧ Below w.heap.size w wr) (fun n _ => 64 - (intOf n).toNat)
    case atStart => exact ⟨0, 2, rfl, Nat.zero_le _, by omega, rfl, hI, fun j hj => by have := HBD.out j hj; simp [uAll]; omega, hJ⟩
    case round =>
      obtain ⟨j, N, hN, hjk, hN64, rfl, hO, hG1, hBr⟩ := hrel
      clear hI hJ
      by_cases hlt : N ≤ L
      · have hM := hN.out
        rw [pow_two_succ] at hM
        obtain ⟨M, hMM⟩ : ∃ M, M = 2 ^ j := ⟨_, rfl⟩
        rw [← hMM] at hM
        have hj4 : j ≤ 4 := Nat.le_trans hjk.out hk4
        have hjk2 : j + 1 ≤ k := by
          apply Classical.byContradiction
          intro q
          have e : j = k := by have := hjk.out; omega
          have h1 := HK.out
          rw [← e, ← hMM] at h1
          have hp : 1 ≤ M := by rw [hMM]; exact Nat.one_le_two_pow
          omega
        have HJK := Lib.hid hjk2
        have hbn := uS_bound (c := 1000) (b := 1000 + 1001 * (j : Int)) (show 2 * M ≤ L by omega) (by omega) (by omega) hG1.out (fun i hi1 hi2 => by rw [uAll_high j F (by rw [← hMM]; exact hi1)]; exact HBD.out i hi2)
        have hE : uS M (uAll j F) = uAll (j + 1) F := by rw [hMM]; rfl
        rw [hE] at hbn
        have HBN := Lib.hid fun i (hi : i < L) => show -(1000 + 1001 * ((j + 1 : Nat) : Int)) ≤ uAll (j + 1) F i ∧ uAll (j + 1) F i ≤ 1000 + 1001 * ((j + 1 : Nat) : Int) by have := hbn i hi; omega
        have hM1 : 1 ≤ M := by rw [hMM]; exact Nat.one_le_two_pow
        have HLF : Calls Try.prog 40 #[.iface 39 (.agg #[.slice (some ⟨g, 0, none⟩) N N])] wr fun e w' => e = .returned (.tuple #[]) ∧ Own 3 w.heap.size w' (.slice (some ⟨g, 0, none⟩) L L) (tab L (uAll (j + 1) F)) ∧ Below w.heap.size wr w' := by
          rw [← hE, ← lowH L M (uAll j F), hM]
          exact lowerH_any w.heap.size g (2 * M) L L M (uAll j F) wr hO (by omega) (Nat.le_refl _) (by omega) (by omega) (fun i hi => by have := hG1.out i (by omega); omega)
        have HLF := Lib.hid HLF
        have hN2 : Hid (2 * N = 2 ^ (j + 1 + 1)) := by show 2 * N = 2 ^ (j + 1 + 1); rw [pow_two_succ, hN.out]
        have i0 : (N : Int) ≤ (L : Int) := by omega
        have i1 : (0 : Int) ≤ (N : Int) := by omega
        have hN0 : 1 ≤ N := by omega
        clear hM hMM hO hG1 hbn hE hjk2 hN hjk
        go_wp2_with (go_at_call 40; refine HLF.out.mono ?_; rintro e w3 ⟨rfl, o3, b3⟩)
        go_roundw
        case rel => exact ⟨j + 1, 2 * N, hN2, HJK.out, by omega, by go_num, o3, HBN, hBr.trans b3⟩
        case measure => simp [intOf]; omega
      · have hj : j = k := by
          apply Classical.byContradiction
          intro q
          have h1 := HK.out
          have h2 := hN.out
          have h3 : 2 ^ (j + 1) ≤ 2 ^ k := Nat.pow_le_pow_right (by omega) (by have := hjk.out; omega)
          omega
        subst hj
        rw [← HF.out] at hO
        have HO := Lib.hid hO
        have i0 : ¬ (N : Int) ≤ (L : Int) := by omega
        clear hO hG1 hN
        go_wp2
        go_ret
        exact ⟨_, rfl, HO.out, hBr⟩
  | false =>
    rw [hb] at hv
    have HV := Lib.hid hv
    have HF := Lib.hid (ulaF_no hb)
    obtain ⟨a, cap, rfl, -⟩ := h
    clear hb hv hl
    go_enter Try.func21, Try.ntmps21
    go_wp2_with (go_at_call 43; refine HV.out.mono ?_; rintro e w1 ⟨rfl, b1⟩)
    go_ret
    exact ⟨_, rfl, by rw [HF.out]; exact Own.nil _ _ _, b1⟩

end Go.Proofs.Ytgafiglfmkaniaa
