/-
  PartOf of the program, by its lone contract, where all stays small.
-/
import Derived.Test.YtagncoahobghpacPqJ
namespace Go.Proofs.Ytagncoahobghpac
open Go.RowKit
set_option linter.unusedVariables false

/-- How large the numbers may be after n steps. -/
def bdN : Nat → Int
  | 0 => 1000
  | n + 1 => 4 * bdN n
theorem bdN_le : ∀ n, n < 17 → bdN n ≤ 4500000000000 := by decide +kernel
theorem bdN_pos : ∀ n, n < 17 → 0 ≤ bdN n := by decide +kernel
theorem i64_small {z : Int} (h : -1000000 ≤ z ∧ z ≤ 1000000) : IntKind.i64.wrap z = z := IntWalk.i64_in _ (by omega)
theorem w64_small {z : Int} (h : -1000000 ≤ z ∧ z ≤ 1000000) : wrap64 z = z := w64_id (by omega)
/-- What the loop keeps: k steps are to come; what they make of it is what all steps make of the row. -/
def PtK (E : Nat) (w wr : World) (g L l c k : Nat) (F G : Nat → Int) : Prop :=
  ∃ S, Own E w.heap.size wr (.slice (some ⟨g, 0, none⟩) L L) (tab L S) ∧ imA G l k S = imA G l c F ∧ (∀ j, j < L → -(bdN (c - k)) ≤ S j ∧ S j ≤ bdN (c - k)) ∧ Below w.heap.size w wr

theorem pt_lt {E : Nat} {w wr : World} {g L l c k : Nat} {F G : Nat → Int} (h : PtK E w wr g L l c k F G) : w.heap.size ≤ g ∧ g < wr.heap.size := by
  obtain ⟨S, o, _⟩ := h
  have := World.ownsRow.lt o g rfl
  exact this

set_option maxHeartbeats 4000000 in
theorem partOf_yes (v u : Value) (xs ys : List Int) (w : World) (h : Rd w v xs) (h2 : Rd w u ys) (hcp : ∀ a n c, u = .slice a n c → n ≤ c) (hb : ptB xs ys = true) (hG : ∀ j, j < ys.length → -3 ≤ ix ys j ∧ ix ys j ≤ 3) :
    Calls Try.prog 7 #[v, u] w (Parts 3 w (ptQ xs ys) (ptR xs ys) true) := by
  have hb := ptB_of hb
  have hx := vrB_of hb.1
  have hy := divB_of hb.2.1
  have hl0 := hx.1
  have hm0 : ys.length ≤ 16 := by omega
  have hv := implValid_q v xs w h (by unfold maxLen; omega)
  have hd := isDivisor_any u ys w h2 (by omega)
  have hcO := fun wr (hr : Rd wr v xs) => copyOf_any v xs wr hr (by omega)
  have hr := h
  rw [hb.1] at hv
  rw [hb.2.1] at hd
  obtain ⟨L, hL⟩ : ∃ L, L = xs.length := ⟨_, rfl⟩
  obtain ⟨l, hm⟩ : ∃ l, l + 1 = ys.length := ⟨ys.length - 1, by omega⟩
  obtain ⟨c, hc⟩ : ∃ c, c + l = L := ⟨L - l, by omega⟩
  have eQ : ptQ xs ys = tab c fun i => imA (ix ys) l c (ix xs) (l + i) := by
    unfold ptQ
    rw [← hm, ← hL, show L + 1 - (l + 1) = c by omega]
    exact tab_congr fun i hi => (imA_often c _ i hi).symm
  have eR : ptR xs ys = tab l (imA (ix ys) l c (ix xs)) := by
    unfold ptR
    rw [← hm, ← hL, show L + 1 - (l + 1) = c by omega, Nat.add_sub_cancel]
    exact tab_congr fun i hi => (imA_left c _ i hi).symm
  rw [eQ, eR]
  obtain ⟨a, c1, rfl, -⟩ := h
  obtain ⟨b0, c2, rfl, h2⟩ := h2
  rcases h2 with e0 | ⟨b, off, rfl, hlt, hcs⟩
  · rw [e0] at hm; simp at hm
  have hc2 := hcp _ _ _ rfl
  rw [← hL] at hv hcO hr hx hl0 ⊢
  rw [← hm] at hd hc2 hcs hG ⊢
  have HCS := Lib.hid hcs
  have HG := Lib.hid (fun j (hj : j < l) => hG j (by omega))
  have HX := Lib.hid hx.2
  have HV := Lib.hid hv
  have HD := Lib.hid hd
  have HO := Lib.hid (hcO w hr)
  have HT := Lib.hid (show xs = tab L (ix xs) by rw [hL]; exact (tab_self xs).symm)
  have hcL : c + l ≤ 16 := by omega
  have HC := Lib.hid hc
  have HLX := Lib.hid hL
  have q0 : ¬ ((L : Int) < (l : Int) + 1) := by omega
  have q1 : ¬ (L < l + 1) := by omega
  have a1 : -1000000 ≤ (l : Int) ∧ (l : Int) ≤ 1000000 := by omega
  have a2 : -1000000 ≤ (L : Int) - 1 ∧ (L : Int) - 1 ≤ 1000000 := by omega
  have j1 : IntKind.i64.wrap (l : Int) = (l : Int) := i64_small a1
  have j2 : wrap64 (l : Int) = (l : Int) := w64_small a1
  have j3 : IntKind.i64.wrap ((L : Int) - 1) = (L : Int) - 1 := i64_small a2
  have j4 : wrap64 ((L : Int) - 1) = (L : Int) - 1 := w64_small a2
  clear a1 a2
  obtain ⟨F, hF⟩ : ∃ F, F = ix xs := ⟨_, rfl⟩
  obtain ⟨G, hGe⟩ : ∃ G, G = ix ys := ⟨_, rfl⟩
  rw [← hF] at HX HT
  rw [← hGe] at HCS HG
  rw [← hF, ← hGe]
  clear hcs hG hx hy hv hd hcO hr hcp hb hm hL eQ eR hF hGe hc
  go_enter Try.func7, Try.ntmps7
  go_wp2_with fail
  refine HV.out.mono ?_
  rintro e w1 ⟨rfl, rfl⟩
  go_wp2_with fail
  refine HD.out.mono ?_
  rintro e w1 ⟨rfl, rfl⟩
  go_wp2_with fail
  refine HO.out.mono ?_
  rintro e w1 ⟨g, rfl, hg, o, b1⟩
  rw [← HLX.out, HT.out] at o
  rw [← HLX.out]
  have H0 := Lib.hid (show PtK 3 w w1 g L l c c F G from ⟨F, o, rfl, by rw [Nat.sub_self]; exact HX.out, b1⟩)
  clear o b1
  have hgl : g < w1.heap.size := (pt_lt H0.out).2
  have hgb : w.heap.size ≤ g := hg
  clear hg HV HD HO
  go_wp2
  go_loopw [9] (fun i wr => ∃ k : Nat, k ≤ c ∧ i = .int .i64 ((k : Int) + (l : Int) - 1) ∧ PtK 3 w wr g L l c k F G) (fun i _ => (intOf i + 1).toNat)
  case atStart => exact ⟨c, Nat.le_refl _, by rw [show (c : Int) + (l : Int) - 1 = (L : Int) - 1 by have := HC.out; omega], H0.out⟩
  case round =>
    obtain ⟨k, hk, rfl, hP⟩ := hrel
    obtain ⟨S, o, eS, bS, bel⟩ := hP
    cases k with
    | succ n =>
      have e0 : ((n + 1 : Nat) : Int) + (l : Int) - 1 = ((n + l : Nat) : Int) := by omega
      rw [e0]
      have hcl := HC.out
      have hnl : n + l < L := by omega
      have d2 := o.cell (n + l) (by rw [len_tab]; omega)
      rw [ix_tab _ _ _ (by omega)] at d2
      have b2 := bS (n + l) hnl
      have HTK := Lib.hid fun w' (ho : Own 3 w.heap.size w' (.slice (some ⟨g, 0, none⟩) L L) (tab L S)) (hcs : ∀ j, j < l → w'.cell? ⟨b, off + j, none⟩ = some (.int .i64 (G j))) =>
        takeOff_any w.heap.size g L L n l (L - n) b off c2 S G (S (n + l)) w' ho (by omega) hlt hgb hcs (by omega) (by have := bdN_le (c - (n + 1)) (by omega); omega) HG.out (fun j hj => by have := bdN_le (c - (n + 1)) (by omega); have := bS j hj; omega)
      have HNB := Lib.hid (imS_bound (i := n) (N := L) (R := S) (B := bdN (c - (n + 1))) (fun j hj => HG.out j hj) hnl bS)
      have HO := Lib.hid o
      have HCW := Lib.hid (fun j (hj : j < l) => (bel.cell (p := ⟨b, off + j, none⟩) hlt).trans (HCS.out j (by omega)))
      have HB := Lib.hid bel
      have HE := Lib.hid eS
      have hkc := Lib.hid hk
      have hbc := Lib.hid (show bdN (c - n) = 4 * bdN (c - (n + 1)) by rw [show c - n = c - (n + 1) + 1 by omega]; rfl)
      obtain ⟨z, hz⟩ : ∃ z, z = S (n + l) := ⟨_, rfl⟩
      rw [← hz] at d2 HTK
      have HZ := Lib.hid hz
      have i0 : ¬ (((n + l : Nat) : Int) < (l : Int)) := by omega
      have i1 : ((n + l : Nat) : Int) - (l : Int) = (n : Int) := by omega
      have i2 : (0 : Int) ≤ (n : Int) := by omega
      have i3 : (n : Int) ≤ ((n + l : Nat) : Int) := by omega
      have i4 : ((n + l : Nat) : Int) < (L : Int) := by omega
      have i5 : n ≤ n + l := by omega
      have i6 : n + l ≤ L := by omega
      have i7 : ¬ L = n := by omega
      have i8 : l ≤ c2 := by omega
      have i9 : n + l - n = l := by omega
      have m1 : IntKind.i64.wrap (n : Int) = (n : Int) := i64_small (by omega)
      have m2 : IntKind.i64.wrap (((n + l : Nat) : Int) - 1) = ((n + l : Nat) : Int) - 1 := i64_small (by omega)
      have m3 : IntKind.i64.wrap ((n : Int) + (l : Int) - 1) = (n : Int) + (l : Int) - 1 := i64_small (by omega)
      clear o bS bel eS b2 hz hk hcl hcL hl0 hm0 q0 q1
      go_wp2
      go_region_with (go_at_call 28; refine (HTK.out (World.drew wr) HO.out (fun j hj => HCW.out j hj)).mono ?_; rintro e w3 ⟨rfl, o3, g3⟩; have HO3 := Lib.hid o3; have HG3 := Lib.hid g3; clear o3 g3)
      all_goals
        go_wp2
        go_roundw
        case rel =>
          refine ⟨n, by have := hkc.out; omega, by go_num, imS G l n S, ?_, HE.out, by rw [hbc.out]; exact HNB.out, ?_⟩
          · have := HO3.out
            rw [HZ.out] at this
            exact this
          · exact (HB.out.drew).grown HG3.out (HB.out.drew).size (fun q hq => by injection hq with hq; omega)
        case measure => simp [intOf]; omega
    | zero =>
      have e0 : ((0 : Nat) : Int) + (l : Int) - 1 = (l : Int) - 1 := by omega
      rw [e0]
      have hcl := HC.out
      have RA : Rd wr (.slice (some ⟨g, l, none⟩) c (L - l)) (tab c fun i => S (l + i)) := by
        have := (o.rd).drop (k := l) (by omega)
        rw [Nat.zero_add, show L - l = c by omega] at this
        rw [show (tab c fun i => S (l + i)) = (tab L S).drop l from ?_]
        · rw [show L - l = c by omega]; exact this
        · refine ext_ix (by simp; omega) fun j hj => ?_
          rw [len_tab] at hj
          rw [ix_tab _ _ _ hj]
          simp only [ix, List.getD_eq_getElem?_getD, List.getElem?_drop, getElem?_tab]
          rw [if_pos (by omega)]; rfl
      have RB : Rd wr (.slice (some ⟨g, 0, none⟩) l L) (tab l S) := by
        obtain ⟨a', cap', he, hr⟩ := o.rd
        simp only [Value.slice.injEq] at he
        obtain ⟨rfl, -, rfl⟩ := he
        refine ⟨some ⟨g, 0, none⟩, L, by rw [len_tab], ?_⟩
        rcases hr with hr | ⟨b', off', he, hlt', hcc⟩
        · have := congrArg List.length hr
          simp at this; omega
        · simp only [Option.some.injEq, Addr.mk.injEq, and_true] at he
          obtain ⟨rfl, rfl⟩ := he
          refine .inr ⟨g, 0, rfl, hlt', fun j hj => ?_⟩
          rw [len_tab] at hj
          rw [hcc j (by rw [len_tab]; omega), ix_tab _ _ _ hj, ix_tab _ _ _ (by omega)]
      have HES := Lib.hid (show imA G l c F = S from eS.symm)
      have HB := Lib.hid bel
      have i0 : (l : Int) - 1 < (l : Int) := by omega
      have i1 : ¬ L = l := by omega
      have i2 : (l : Int) ≤ (L : Int) := by omega
      have i3 : l ≤ L := by omega
      have i4 : L - l = c := by omega
      rw [i4] at RA
      have HLA := Lib.hid (show (tab c fun i => S (l + i)).length ≤ 1048576 by rw [len_tab]; omega)
      have HLB := Lib.hid (show (tab l S).length ≤ 1048576 by rw [len_tab]; omega)
      have RA := RA.drew
      have RB := RB.drew
      have HB := Lib.hid bel.drew
      have bsz := Lib.hid bel.drew.size
      clear o bel bS eS hcl hl0 hm0 q0 q1 HC hk hcL
      go_wp2
      go_region_with
        (first
          | (go_at_call_of 27 (Value.slice (some ⟨g, l, none⟩) c c); refine (copyOf_any _ _ _ RA HLA.out).mono ?_; rintro e w3 ⟨ga, rfl, hga, oa, ba⟩; have la := (World.ownsRow.lt oa _ rfl).2; have HB := Lib.hid (HB.out.trans (ba.mono HB.out.size)); (try have RB := RB.below ba (Nat.le_refl _)); (try have ob := ob.below ba (Nat.le_refl _)))
          | (go_at_call_of 27 (Value.slice (some ⟨g, 0, none⟩) l L); refine (copyOf_any _ _ _ RB HLB.out).mono ?_; rintro e w4 ⟨gb, rfl, hgb', ob, bb⟩; have lb := (World.ownsRow.lt ob _ rfl).2; have HB := Lib.hid (HB.out.trans (bb.mono HB.out.size)); (try have RA := RA.below bb (Nat.le_refl _)); (try have oa := oa.below bb (Nat.le_refl _))))
      all_goals
        have hs1 := ba.size
        have hs2 := bb.size
        have hs3 := bsz.out
        have HAB := Lib.hid (show ga ≠ gb by omega)
        have oa := oa.mono (B' := w.heap.size) (by omega)
        have ob := ob.mono (B' := w.heap.size) (by omega)
        rw [len_tab] at oa ob
        have OA := Lib.hid oa
        have OB := Lib.hid ob
        clear oa ob hs1 hs2 hs3 la lb
        go_wp2
        go_ret3
        refine ⟨.slice (some ⟨ga, 0, none⟩) c c, .slice (some ⟨gb, 0, none⟩) l l, by simp [go_sem], ?_, ?_, .inr (by simpa [Value.ownBlock] using HAB.out), HB.out⟩
        · rw [HES.out]; exact OA.out
        · rw [HES.out]; exact OB.out
end Go.Proofs.Ytagncoahobghpac
