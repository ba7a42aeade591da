/-
  HalveAll and UnhalveAll of the model, by their contracts.
-/
import Derived.Test.YtgafiglfmkaniaaHvQ
namespace Go.Proofs.Ytgafiglfmkaniaa
open Go.RowKit
set_option linter.unusedVariables false

theorem pow_two_succ (k : Nat) : 2 ^ (k + 1) = 2 * 2 ^ k := by rw [Nat.pow_succ]; omega
/-- A row's logarithm: how often it is halved. -/
def lgN (n : Nat) : Nat := (bitsN n).toNat
def hlaF (xs : List Int) : List Int := if cubeB xs = true then halA (Nat.log2 xs.length) xs else []
def ulaF (xs : List Int) : List Int := if cubeB xs = true then unhA (Nat.log2 xs.length) xs else []
theorem hlaF_yes {xs : List Int} {k : Nat} (h : cubeB xs = true) (hk : xs.length = 2 ^ k) : hlaF xs = tab xs.length (hAll k (ix xs)) := by
  unfold hlaF
  rw [if_pos h, halA, hk, Nat.log2_two_pow]
theorem hlaF_no {xs : List Int} (h : cubeB xs = false) : hlaF xs = [] := by unfold hlaF; exact if_neg (by simp [h])
theorem ulaF_yes {xs : List Int} {k : Nat} (h : cubeB xs = true) (hk : xs.length = 2 ^ k) : ulaF xs = tab xs.length (uAll k (ix xs)) := by
  unfold ulaF
  rw [if_pos h, unhA, hk, Nat.log2_two_pow]
theorem ulaF_no {xs : List Int} (h : cubeB xs = false) : ulaF xs = [] := by unfold ulaF; exact if_neg (by simp [h])
theorem hlaF_len (xs : List Int) (h : xs.length ≤ 1048576) : (hlaF xs).length ≤ 1048576 := by unfold hlaF; split <;> simp [len_halA, h]
theorem ulaF_len (xs : List Int) (h : xs.length ≤ 1048576) : (ulaF xs).length ≤ 1048576 := by unfold ulaF; split <;> simp [len_unhA, h]

set_option maxHeartbeats 4000000 in
theorem specHalveAll_any (v : Value) (xs : List Int) (w : World) (h : Rd w v xs) (hl : xs.length ≤ maxLen) :
    Calls Try.prog 20 #[v] w (Made 3 w (hlaF xs)) := by
  have hv := validCube_any v xs w h hl
  cases hb : cubeB xs with
  | true =>
    rw [hb] at hv
    obtain ⟨h1, k, hk4, hk⟩ := cubeB_of hb
    have h16 := (vrB_of h1).1
    have hbd := (vrB_of h1).2
    have HF := Lib.hid (hlaF_yes hb hk)
    obtain ⟨F, hF⟩ : ∃ F, F = ix xs := ⟨_, rfl⟩
    have HXS := Lib.hid (show xs = tab xs.length F by rw [hF]; exact (tab_self xs).symm)
    rw [← hF] at HF hbd
    obtain ⟨L, hL⟩ : ∃ L, L = xs.length := ⟨_, rfl⟩
    rw [← hL] at HF HXS hk h16 hbd
    have HH := Lib.hid fun w (v : Value) (ys : List Int) (m : Nat) (h : Rd w v ys) (hm : ys.length = 2 * m) (hl : m ≤ 32) (hb : ∀ j, j < ys.length → -100000 ≤ ix ys j ∧ ix ys j ≤ 100000) => spechalve_any v ys m w h hm hl hb
    have HX := Lib.hid h
    have HK := Lib.hid hk
    have HL := Lib.hid hL
    have hk1 : 1 ≤ L := by rw [hk]; exact Nat.one_le_two_pow
    obtain ⟨a, cap, rfl, -⟩ := h
    have HBD := Lib.hid hbd
    clear hb h1 hF hk hbd hL
    go_enter Try.func20, Try.ntmps20
    go_wp2_with fail
    refine hv.mono ?_
    rintro e w1 ⟨rfl, b1⟩
    clear hv
    go_wp2_with (at_builtin; refine app_many rfl _ _ 23 rfl w.heap.size 3 Try.underlying23 infoInt _ _ rfl (own_empty _ _ w1 b1.size) _ xs rfl ((HX.out.below b1 (Nat.le_refl _)).alloc _) ?e1 ?e2 ?_)
    case e1 => have := HL.out; simp; omega
    case e2 => have := b1.size; simp; omega
    intro v1 w2 hO hg
    have hB := (b1.alloc b1.size (.cells #[] 3)).grown hg (by have := b1.size; simp; omega) (fun j hj => by have := b1.size; simp [Value.ownBlock] at hj; omega)
    obtain ⟨g1, c1, rfl⟩ := own_slN hO HL.out.symm
    have hB2 : Own 3 w.heap.size w2 (.slice g1 L c1) (tab L F) := by rw [← HXS.out]; exact hO
    clear hO hg b1
    go_wp2
    go_loopw [3, 4] (fun u n wr => ∃ (j N ca : Nat) (ga : Option Addr) (G : Nat → Int), Hid (N = 2 ^ j) ∧ N ≤ L ∧ n = .int .i64 N ∧ u = .slice ga L ca ∧ Own 3 w.heap.size wr (.slice ga L ca) (tab L G) ∧ Hid (hAll j G = hAll k F) ∧ Hid (∀ i, i < N → -1000 ≤ G i ∧ G i ≤ 1000) ∧ Hid (∀ i, i < L → -2000 ≤ G i ∧ G i ≤ 2000) ∧ Below w.heap.size w wr) (fun _ n _ => (intOf n).toNat)
    case atStart => exact ⟨k, L, _, _, F, HK.out, Nat.le_refl _, rfl, rfl, hB2, rfl, HBD.out, fun j hj => by have := HBD.out j hj; omega, hB⟩
    case round =>
      obtain ⟨j, N, ca, ga, G, hN, hNL, rfl, rfl, hO, hG, hG1, hG2, hBr⟩ := hrel
      clear hB2 hB
      by_cases hlt : 1 < N
      · obtain ⟨j, rfl⟩ : ∃ i, j = i + 1 := by
          cases j with
          | zero => have := hN.out; simp at this; omega
          | succ i => exact ⟨i, rfl⟩
        have hM := hN.out
        rw [pow_two_succ] at hM
        obtain ⟨M, hMM⟩ : ∃ M, M = 2 ^ j := ⟨_, rfl⟩
        rw [← hMM] at hM
        have HRD := Lib.hid (hal_round G (show 2 * M ≤ L by omega))
        have hbn := hS_bound (show 2 * M ≤ L by omega) (fun i hi => hG1.out i (by omega)) hG2.out
        have HB1 := Lib.hid hbn.1
        have HB2 := Lib.hid hbn.2
        have HNM := Lib.hid hM
        have HMP := Lib.hid hMM
        have hN2 : (N : Int) / 2 = (M : Int) := by omega
        have hO0 := hO
        obtain ⟨g, c, he, hg, hgs⟩ := hO.form (by intro e; have := congrArg List.length e; rw [len_tab] at this; simp at this; omega)
        simp only [Value.slice.injEq, len_tab, true_and] at he
        obtain ⟨rfl, rfl⟩ := he
        have hLc : L ≤ ca := by
          rcases hO.2 with ⟨h', h0⟩ | ⟨g', cap', cur, h', _, _, hn, _⟩
          · simp at h'
          · simp only [Value.slice.injEq] at h'
            rw [len_tab] at hn
            omega
        have hTK : Rd wr.drew (.slice (some ⟨g, 0, none⟩) N ca) ((tab L G).take N) := (Rd.take hO.rd (by rw [len_tab]; omega)).drew
        have HTK := Lib.hid hTK
        have HC := Lib.hid (HH.out wr.drew _ ((tab L G).take N) M hTK (by rw [List.length_take, len_tab]; omega) (by omega) (fun i hi => by
          rw [List.length_take, len_tab] at hi
          rw [ix_take_tab G hNL (by omega)]
          have := hG1.out i (by omega); omega))
        have hBD := below_drewN hBr 1
        have hOD := Lib.hid hO.drew
        have i1 : (0 : Int) ≤ (N : Int) := by omega
        have i2 : (N : Int) ≤ (L : Int) := by omega
        have i3 : (L : Int) ≤ (ca : Int) := by omega
        have i4 : (N : Int) ≤ (ca : Int) := by omega
        clear hbn hM hMM hO hO0 hTK hG1 hG2 hBr
        go_wp2
        go_region_law
          (first
            | (refine step_app_many rfl (.tmp 20) (.tmp 23) 23 rfl w.heap.size 3 Try.underlying23 infoInt v5 _ (by simp [Act.eval]) (p5.mono hs5) (.slice (if ca = N then some ⟨g, 0, none⟩ else some ⟨g, N, none⟩) (L - N) (ca - N)) _ (by simp [Act.eval]) (rd_tail o5.rd (by omega) hLc) (by simp; omega) hsz5 ?_; intro v6 w6 hO6 hg6)
            | (go_simp; go_at_call 39; refine HC.out.mono ?_; rintro e w5 ⟨v5, rfl, p5, b5⟩; have o5 := hOD.out.below b5 (Nat.le_refl _); have hs5 := hBD.size; have hsz5 := Nat.le_trans hs5 b5.size))
        all_goals
          rw [HNM.out] at hO6
          rw [HRD.out] at hO6
          have hB6 := app_below0 (bel_nxt hBD b5) (p5.mono hs5) hg6
          obtain ⟨ga', ca', rfl⟩ := own_slN hO6 (len_tab _ _)
          have HG := Lib.hid (show hAll j (hS M G) = hAll k F by rw [HMP.out]; exact hG.out)
          have hML : M ≤ L := by have := HNM.out; omega
          have hMl : M < N := by have := HNM.out; omega
          clear p5 o5 hg6 b5 hBD hs5 hsz5
          go_wp2
          go_roundw
          case rel => exact ⟨j, M, ca', ga', hS M G, HMP, hML, rfl, rfl, hO6, HG, HB1, HB2, hB6⟩
          case measure => simp [intOf]; omega
      · have hj : j = 0 := by
          cases j with
          | zero => rfl
          | succ i => have := hN.out; rw [pow_two_succ] at this; have := Nat.one_le_two_pow (n := i); omega
        subst hj
        have hGF : G = hAll k F := hG.out
        subst hGF
        rw [← HF.out] at hO
        have HO := Lib.hid hO
        clear hO hG hG1 hG2 hN
        go_wp2
        go_ret
        exact ⟨_, rfl, HO.out, hBr⟩
  | false =>
    rw [hb] at hv
    have HF := Lib.hid (hlaF_no hb)
    clear hb
    go_enter Try.func20, Try.ntmps20
    go_wp2_with fail
    refine hv.mono ?_
    rintro e w1 ⟨rfl, b1⟩
    go_wp2
    go_ret
    exact ⟨_, rfl, by rw [HF.out]; exact Own.nil _ _ _, b1⟩

set_option maxHeartbeats 4000000 in
theorem specUnhalveAll_any (v : Value) (xs : List Int) (w : World) (h : Rd w v xs) (hl : xs.length ≤ maxLen) :
    Calls Try.prog 23 #[v] w (Made 3 w (ulaF xs)) := by
  have hv := validCube_any v xs w h hl
  cases hb : cubeB xs with
  | true =>
    rw [hb] at hv
    obtain ⟨h1, k, hk4, hk⟩ := cubeB_of hb
    have h16 := (vrB_of h1).1
    have hbd := (vrB_of h1).2
    have HF := Lib.hid (ulaF_yes hb hk)
    obtain ⟨F, hF⟩ : ∃ F, F = ix xs := ⟨_, rfl⟩
    have HXS := Lib.hid (show xs = tab xs.length F by rw [hF]; exact (tab_self xs).symm)
    rw [← hF] at HF hbd
    obtain ⟨L, hL⟩ : ∃ L, L = xs.length := ⟨_, rfl⟩
    rw [← hL] at HF HXS hk h16 hbd
    have HH := Lib.hid fun w (v : Value) (ys : List Int) (m : Nat) (h : Rd w v ys) (hm : ys.length = 2 * m) (hl : m ≤ 32) (hb : ∀ j, j < ys.length → -100000 ≤ ix ys j ∧ ix ys j ≤ 100000) => specunhalve_any v ys m w h hm hl hb
    have HX := Lib.hid h
    have HK := Lib.hid hk
    have HL := Lib.hid hL
    have hk1 : 1 ≤ L := by rw [hk]; exact Nat.one_le_two_pow
    obtain ⟨a, cap, rfl, -⟩ := h
    have HBD := Lib.hid hbd
    clear hb h1 hF hk hbd hL
    go_enter Try.func23, Try.ntmps23
    go_wp2_with fail
    refine hv.mono ?_
    rintro e w1 ⟨rfl, b1⟩
    clear hv
    go_wp2_with (at_builtin; refine app_many rfl _ _ 23 rfl w.heap.size 3 Try.underlying23 infoInt _ _ rfl (own_empty _ _ w1 b1.size) _ xs rfl ((HX.out.below b1 (Nat.le_refl _)).alloc _) ?e1 ?e2 ?_)
    case e1 => have := HL.out; simp; omega
    case e2 => have := b1.size; simp; omega
    intro v1 w2 hO hg
    have hB := (b1.alloc b1.size (.cells #[] 3)).grown hg (by have := b1.size; simp; omega) (fun j hj => by have := b1.size; simp [Value.ownBlock] at hj; omega)
    obtain ⟨g1, c1, rfl⟩ := own_slN hO HL.out.symm
    have hB2 : Own 3 w.heap.size w2 (.slice g1 L c1) (tab L F) := by rw [← HXS.out]; exact hO
    clear hO hg b1
    go_wp2
    go_loopw [3, 4] (fun u n wr => ∃ (j N ca : Nat) (ga : Option Addr), Hid (N = 2 ^ (j + 1)) ∧ Hid (j ≤ k) ∧ N ≤ 64 ∧ n = .int .i64 N ∧ u = .slice ga L ca ∧ Own 3 w.heap.size wr (.slice ga L ca) (tab L (uAll j F)) ∧ Hid (∀ i, i < L → -(1000 + 1001 * (j : Int)) ≤ uAll j F i ∧ uAll j F i ≤ 1000 + 1001 * (j : Int)) ∧ Below w.heap.size w wr) (fun _ n _ => L + 1 - (intOf n).toNat)
    case atStart => exact ⟨0, 2, _, _, rfl, Nat.zero_le _, by omega, rfl, rfl, hB2, fun j hj => by have := HBD.out j hj; simp [uAll]; omega, hB⟩
    case round =>
      obtain ⟨j, N, ca, ga, hN, hjk, hN64, rfl, rfl, hO, hG1, hBr⟩ := hrel
      clear hB2 hB
      by_cases hlt : N ≤ L
      · have hM := hN.out
        rw [pow_two_succ] at hM
        obtain ⟨M, hMM⟩ : ∃ M, M = 2 ^ j := ⟨_, rfl⟩
        rw [← hMM] at hM
        have hj4 : j ≤ 4 := Nat.le_trans hjk.out hk4
        have hjk2 : j + 1 ≤ k := by
          apply Classical.byContradiction
          intro q
          have e : j = k := by have := hjk.out; omega
          have h1 := HK.out
          rw [← e, ← hMM] at h1
          have hp : 1 ≤ M := by rw [hMM]; exact Nat.one_le_two_pow
          omega
        have HJK := Lib.hid hjk2
        have HRD := Lib.hid (unh_round (uAll j F) (show 2 * M ≤ L by omega))
        have HBN := Lib.hid (uS_bound (c := 1000) (b := 1000 + 1001 * (j : Int)) (show 2 * M ≤ L by omega) (by omega) (by omega) hG1.out (fun i hi1 hi2 => by rw [uAll_high j F (by rw [← hMM]; exact hi1)]; exact HBD.out i hi2))
        have HNM := Lib.hid hM
        have HMP := Lib.hid hMM
        obtain ⟨G, hGG⟩ : ∃ G, G = uAll j F := ⟨_, rfl⟩
        rw [← hGG] at hO HRD HBN hG1
        have HGG := Lib.hid hGG
        have hM1 : 1 ≤ M := by rw [hMM]; exact Nat.one_le_two_pow
        have hM2 : 2 * M ≤ L := by omega
        obtain ⟨g, c, he, hg, hgs⟩ := hO.form (by intro e; have := congrArg List.length e; rw [len_tab] at this; simp at this; omega)
        simp only [Value.slice.injEq, len_tab, true_and] at he
        obtain ⟨rfl, rfl⟩ := he
        have hLc : L ≤ ca := by
          rcases hO.2 with ⟨h', h0⟩ | ⟨g', cap', cur, h', _, _, hn, _⟩
          · simp at h'
          · simp only [Value.slice.injEq] at h'
            rw [len_tab] at hn
            omega
        have hTK : Rd wr.drew (.slice (some ⟨g, 0, none⟩) N ca) ((tab L G).take N) := (Rd.take hO.rd (by rw [len_tab]; omega)).drew
        have HC := Lib.hid (HH.out wr.drew _ ((tab L G).take N) M hTK (by rw [List.length_take, len_tab]; omega) (by omega) (fun i hi => by
          rw [List.length_take, len_tab] at hi
          rw [ix_take_tab G hlt (by omega)]
          have := hG1.out i (by omega); omega))
        have hBD := below_drewN hBr 1
        have hOD := Lib.hid hO.drew
        have i1 : (0 : Int) ≤ (N : Int) := by omega
        have i2 : (N : Int) ≤ (L : Int) := by omega
        have i3 : (L : Int) ≤ (ca : Int) := by omega
        have i4 : (N : Int) ≤ (ca : Int) := by omega
        clear hM hMM hO hTK hG1 hBr hGG hjk2
        go_wp2
        go_region_law
          (first
            | (refine step_app_many rfl (.tmp 20) (.tmp 23) 23 rfl w.heap.size 3 Try.underlying23 infoInt v5 _ (by simp [Act.eval]) (p5.mono hs5) (.slice (if ca = N then some ⟨g, 0, none⟩ else some ⟨g, N, none⟩) (L - N) (ca - N)) _ (by simp [Act.eval]) (rd_tail o5.rd (by omega) hLc) (by simp; omega) hsz5 ?_; intro v6 w6 hO6 hg6)
            | (go_simp; go_at_call 41; refine HC.out.mono ?_; rintro e w5 ⟨v5, rfl, p5, b5⟩; have o5 := hOD.out.below b5 (Nat.le_refl _); have hs5 := hBD.size; have hsz5 := Nat.le_trans hs5 b5.size))
        all_goals
          rw [HNM.out] at hO6
          rw [HRD.out] at hO6
          have hB6 := app_below0 (bel_nxt hBD b5) (p5.mono hs5) hg6
          have hE : uS M G = uAll (j + 1) F := by rw [HMP.out, HGG.out]; rfl
          rw [hE] at hO6 HBN
          obtain ⟨ga', ca', rfl⟩ := own_slN hO6 (len_tab _ _)
          have hN2 : Hid (2 * N = 2 ^ (j + 1 + 1)) := by show 2 * N = 2 ^ (j + 1 + 1); rw [pow_two_succ, hN.out]
          have HBN := Lib.hid fun i (hi : i < L) => show -(1000 + 1001 * ((j + 1 : Nat) : Int)) ≤ uAll (j + 1) F i ∧ uAll (j + 1) F i ≤ 1000 + 1001 * ((j + 1 : Nat) : Int) by have := HBN.out i hi; omega
          have hN0 : 1 ≤ N := by have := HNM.out; omega
          clear p5 o5 hg6 b5 hBD hs5 hsz5 hE
          go_wp2
          go_roundw
          case rel => exact ⟨j + 1, 2 * N, ca', ga', hN2, HJK.out, by omega, by go_num, rfl, hO6, HBN, hB6⟩
          case measure => simp [intOf]; omega
      · have hj : j = k := by
          apply Classical.byContradiction
          intro q
          have h1 := HK.out
          have h2 := hN.out
          have h3 : 2 ^ (j + 1) ≤ 2 ^ k := Nat.pow_le_pow_right (by omega) (by have := hjk.out; omega)
          omega
        subst hj
        rw [← HF.out] at hO
        have HO := Lib.hid hO
        clear hO hG1 hN
        go_wp2
        go_ret
        exact ⟨_, rfl, HO.out, hBr⟩
  | false =>
    rw [hb] at hv
    have HF := Lib.hid (ulaF_no hb)
    clear hb
    go_enter Try.func23, Try.ntmps23
    go_wp2_with fail
    refine hv.mono ?_
    rintro e w1 ⟨rfl, b1⟩
    go_wp2
    go_ret
    exact ⟨_, rfl, by rw [HF.out]; exact Own.nil _ _ _, b1⟩

end Go.Proofs.Ytgafiglfmkaniaa
