/-
  PartOf of the model, by its contracts, where all stays small.
-/
import Derived.Test.YtagncoahobghpacPqK
import Derived.Test.YtagncoahobghpacApp2
import Derived.Test.YtagncoahobghpacMany
import Derived.StillTailTactics
namespace Go.Proofs.Ytagncoahobghpac
open Go.RowKit
set_option linter.unusedVariables false

/-- A part from the front on of what is owned is owned. -/
theorem own_front {E B g n cap k : Nat} {w : World} {xs : List Int} (h : Own E B w (.slice (some ⟨g, 0, none⟩) n cap) xs) (hk : k ≤ n) : Own E B w (.slice (some ⟨g, 0, none⟩) k cap) (xs.take k) := by
  have hn : n = xs.length := by
    rcases h.2 with ⟨h', _⟩ | ⟨g', cap', cur, h', _⟩
    · simp at h'
    · simp at h'; exact h'.2.1
  obtain ⟨h1, h2⟩ := h
  have hl : (xs.take k).length = k := by rw [List.length_take]; omega
  refine ⟨by rw [hl]; simp; omega, ?_⟩
  rcases h2 with ⟨h', _⟩ | ⟨g', cap', cur, h', hb, hh, h3, h4, h5, h6⟩
  · simp at h'
  · simp only [Value.slice.injEq, Option.some.injEq, Addr.mk.injEq, and_true] at h'
    obtain ⟨rfl, -, rfl⟩ := h'
    refine .inr ⟨g, cap, cur, by rw [hl], hb, hh, by omega, h4, h5, ?_⟩
    rw [Nat.mul_one] at h6
    rw [hl, Nat.mul_one, List.map_take, ← h6, List.take_take, show min k xs.length = k by omega]
theorem own_cap1 {E B g n c : Nat} {w : World} {xs : List Int} (h : Own E B w (.slice (some ⟨g, 0, none⟩) n c) xs) : xs.length ≤ c := by
  obtain ⟨h1, h2⟩ := h
  rcases h2 with ⟨h', _⟩ | ⟨g', cap', cur, h', hb, hh, h3, h4, h5, h6⟩
  · simp at h'
  · simp only [Value.slice.injEq, Option.some.injEq, Addr.mk.injEq, and_true] at h'
    obtain ⟨rfl, rfl, rfl⟩ := h'
    exact h3
theorem tab_take (n k : Nat) (f : Nat → Int) (h : k ≤ n) : (tab n f).take k = tab k f := by
  refine ext_ix (by simp; omega) fun j hj => ?_
  simp only [List.length_take, len_tab] at hj
  rw [ix_tab _ _ _ (by omega)]
  simp only [ix, List.getD_eq_getElem?_getD, List.getElem?_take, getElem?_tab]
  rw [if_pos (by omega), if_pos (by omega)]; rfl
/-- On the way of a step: y numbers are taken off. -/
def pmS (S G : Nat → Int) (n y : Nat) (z : Int) (j : Nat) : Int := if n ≤ j ∧ j < n + y then S j - z * G (j - n) else S j
theorem pmS_zero (S G : Nat → Int) (n : Nat) (z : Int) (j : Nat) : pmS S G n 0 z j = S j := if_neg (by omega)
theorem pmS_all (S G : Nat → Int) (n m : Nat) : pmS S G n m (S (n + m - 1)) = dvS G m n S := by
  funext j
  unfold pmS dvS
  by_cases e : n ≤ j ∧ j < n + m
  · rw [if_pos e, if_pos e]
  · rw [if_neg e, if_neg e]; omega
theorem pmS_here (S G : Nat → Int) (n y : Nat) (z : Int) : pmS S G n y z (n + y) = S (n + y) := if_neg (by omega)
theorem pmS_next (S G : Nat → Int) (n y : Nat) (z : Int) (j : Nat) : pmS S G n (y + 1) z j = if j = n + y then S (n + y) - z * G y else pmS S G n y z j := by
  by_cases e : j = n + y
  · subst e
    rw [if_pos rfl]
    unfold pmS
    rw [if_pos (by omega), Nat.add_sub_cancel_left]
  · rw [if_neg e]
    unfold pmS
    by_cases q : n ≤ j ∧ j < n + y
    · rw [if_pos q, if_pos (by omega)]
    · rw [if_neg q, if_neg (by omega)]
theorem mul_three {z g B : Int} (h : -B ≤ z ∧ z ≤ B) (hg : -3 ≤ g ∧ g ≤ 3) : -(3 * B) ≤ z * g ∧ z * g ≤ 3 * B := by
  obtain ⟨p, hp⟩ : ∃ p, p = z * g := ⟨_, rfl⟩
  rw [← hp]
  have : g = -3 ∨ g = -2 ∨ g = -1 ∨ g = 0 ∨ g = 1 ∨ g = 2 ∨ g = 3 := by omega
  rcases this with e | e | e | e | e | e | e <;> rw [e] at hp <;> omega
theorem dvS_bound {G : Nat → Int} {m i N : Nat} {R : Nat → Int} {B : Int} (hm : 0 < m) (hG : ∀ j, j < m → -3 ≤ G j ∧ G j ≤ 3) (hN : i + m ≤ N) (h : ∀ j, j < N → -B ≤ R j ∧ R j ≤ B) : ∀ j, j < N → -(4 * B) ≤ dvS G m i R j ∧ dvS G m i R j ≤ 4 * B := by
  intro j hj
  have h1 := h j hj
  unfold dvS
  by_cases e : i ≤ j ∧ j < i + m
  · rw [if_pos e]
    have := mul_three (h (i + m - 1) (by omega)) (hG (j - i) (by omega))
    omega
  · rw [if_neg e]; omega
/-- What the loop keeps: k steps are to come. -/
def SpK (E : Nat) (w wr : World) (g c1 g2 L m c k : Nat) (G T A : Nat → Int) : Prop :=
  ∃ S Q, Own E w.heap.size wr (.slice (some ⟨g, 0, none⟩) L c1) (tab L S) ∧ Own E w.heap.size wr (.slice (some ⟨g2, 0, none⟩) c c) (tab c Q) ∧ dvA G m k S = A ∧ (∀ j, j < k → dvQ G m k S j = T j) ∧ (∀ j, k ≤ j → j < c → Q j = T j) ∧ (∀ j, j < L → -(bdN (c - k)) ≤ S j ∧ S j ≤ bdN (c - k)) ∧ Below w.heap.size w wr
/-- Inside a step: y numbers are taken off. -/
def SpY (E : Nat) (w wr : World) (g c1 g2 L m c n y : Nat) (z : Int) (G T A S : Nat → Int) : Prop :=
  ∃ Q, Own E w.heap.size wr (.slice (some ⟨g, 0, none⟩) L c1) (tab L (pmS S G n y z)) ∧ Own E w.heap.size wr (.slice (some ⟨g2, 0, none⟩) c c) (tab c Q) ∧ Q n = z ∧ dvA G m (n + 1) S = A ∧ (∀ j, j < n + 1 → dvQ G m (n + 1) S j = T j) ∧ (∀ j, n ≤ j → j < c → Q j = T j) ∧ Below w.heap.size w wr
theorem SpY.next {E g c1 g2 L m c n y : Nat} {w wr : World} {z : Int} {G T A S : Nat → Int} (h : SpY E w wr g c1 g2 L m c n y z G T A S) (hg : w.heap.size ≤ g) (hne : g ≠ g2) :
    SpY E w (wr.setCell ⟨g, n + y, none⟩ (.int .i64 (S (n + y) - z * G y))) g c1 g2 L m c n (y + 1) z G T A S := by
  obtain ⟨Q, o1, o2, e1, e2, e3, e4, b⟩ := h
  refine ⟨Q, ?_, o2.other _ _ (by simp [Value.ownBlock]; omega), e1, e2, e3, e4, b.setCell hg _⟩
  have := o1.set (n + y) (S (n + y) - z * G y)
  rw [tab_set] at this
  rw [tab_congr (g := fun j => if j = n + y then S (n + y) - z * G y else pmS S G n y z j) (fun j _ => pmS_next S G n y z j)]
  exact this
theorem SpY.drew {E g c1 g2 L m c n y : Nat} {w wr : World} {z : Int} {G T A S : Nat → Int} (h : SpY E w wr g c1 g2 L m c n y z G T A S) (k : Nat) : SpY E w (wr.drewN k) g c1 g2 L m c n y z G T A S := by
  obtain ⟨Q, o1, o2, e1, e2, e3, e4, b⟩ := h
  exact ⟨Q, o1.below (below_drewN (Below.refl wr.heap.size wr) k) (Nat.le_refl _), o2.below (below_drewN (Below.refl wr.heap.size wr) k) (Nat.le_refl _), e1, e2, e3, e4, below_drewN b k⟩
theorem SpY.done {E g c1 g2 L m c n : Nat} {w wr : World} {z : Int} {G T A S : Nat → Int} (h : SpY E w wr g c1 g2 L m c n m z G T A S) (hz : z = S (n + m - 1)) (hn : n < c) (hm : 0 < m) (hG : ∀ j, j < m → -3 ≤ G j ∧ G j ≤ 3) (hN : n + m ≤ L)
    (hB : ∀ j, j < L → -(bdN (c - (n + 1))) ≤ S j ∧ S j ≤ bdN (c - (n + 1))) : SpK E w wr g c1 g2 L m c n G T A := by
  obtain ⟨Q, o1, o2, e1, e2, e3, e4, b⟩ := h
  subst hz
  rw [pmS_all] at o1
  refine ⟨dvS G m n S, Q, o1, o2, e2, fun j hj => ?_, e4, ?_, b⟩
  · rw [← e3 j (by omega)]
    show _ = if j = n then S (n + m - 1) else dvQ G m n (dvS G m n S) j
    rw [if_neg (by omega)]
  · rw [show bdN (c - n) = 4 * bdN (c - (n + 1)) by rw [show c - n = c - (n + 1) + 1 by omega]; rfl]
    exact dvS_bound hm hG hN hB
theorem SpK.start {E g c1 g2 L m c n : Nat} {w wr : World} {G T A S Q : Nat → Int} (o1 : Own E w.heap.size wr (.slice (some ⟨g, 0, none⟩) L c1) (tab L S)) (o2 : Own E w.heap.size wr (.slice (some ⟨g2, 0, none⟩) c c) (tab c Q)) (e2 : dvA G m (n + 1) S = A) (e3 : ∀ j, j < n + 1 → dvQ G m (n + 1) S j = T j) (e4 : ∀ j, n + 1 ≤ j → j < c → Q j = T j) (b : Below w.heap.size w wr) (hg2 : w.heap.size ≤ g2) (hne : g ≠ g2) :
    SpY E w (wr.setCell ⟨g2, n, none⟩ (.int .i64 (S (n + m - 1)))) g c1 g2 L m c n 0 (S (n + m - 1)) G T A S := by
  refine ⟨fun j => if j = n then S (n + m - 1) else Q j, ?_, ?_, if_pos rfl, e2, e3, fun j h1 h2 => ?_, b.setCell hg2 _⟩
  · rw [tab_congr (fun j _ => pmS_zero S G n _ j)]
    exact o1.other _ _ (by simp [Value.ownBlock]; omega)
  · have := o2.set n (S (n + m - 1))
    rw [tab_set] at this
    exact this
  · by_cases e : j = n
    · subst e
      show (if j = j then _ else _) = _
      rw [if_pos rfl, ← e3 j (by omega)]
      show _ = if j = j then S (j + m - 1) else _
      rw [if_pos rfl]
    · show (if j = n then _ else _) = _
      rw [if_neg e]; exact e4 j (by omega) h2

set_option maxHeartbeats 4000000 in
theorem specPartOf_yes (v u : Value) (xs ys : List Int) (w : World) (h : Rd w v xs) (h2 : Rd w u ys) (hb : ptB xs ys = true) (hG : ∀ j, j < ys.length → -3 ≤ ix ys j ∧ ix ys j ≤ 3) :
    Calls Try.prog 8 #[v, u] w (Parts 3 w (ptQ xs ys) (ptR xs ys) true) := by
  obtain ⟨i0, hi, hz0, hz1, hz2⟩ := info_parts infoInt
  have hb := ptB_of hb
  have hx := vrB_of hb.1
  have hy := divB_of hb.2.1
  have hl0 := hx.1
  have hv := specvalid_any v xs w h (by unfold maxLen; omega)
  have hd := fun w1 (b : Below w.heap.size w w1) => specvalid_any u ys w1 (h2.below b (Nat.le_refl _)) (by unfold maxLen; omega)
  rw [hb.1] at hv
  rw [hy.1] at hd
  obtain ⟨L, hL⟩ : ∃ L, L = xs.length := ⟨_, rfl⟩
  obtain ⟨m, hm⟩ : ∃ m, m = ys.length := ⟨_, rfl⟩
  obtain ⟨d, hd0⟩ : ∃ d, L = d + m := ⟨L - m, by omega⟩
  obtain ⟨c, hc⟩ : ∃ c, c = d + 1 := ⟨_, rfl⟩
  have eQ : ptQ xs ys = tab c (dvQ (ix ys) m c (ix xs)) := by
    unfold ptQ
    rw [← hm, ← hL, show L + 1 - m = c by omega]
  have eR : ptR xs ys = tab (m - 1) (dvA (ix ys) m c (ix xs)) := by
    unfold ptR
    rw [← hm, ← hL, show L + 1 - m = c by omega]
  rw [eQ, eR]
  have hrd := h
  obtain ⟨a, c1, rfl, -⟩ := h
  obtain ⟨b0, c2, rfl, h2⟩ := h2
  have hm0 : 0 < m := by omega
  rcases h2 with e0 | ⟨b, off, rfl, hlt, hcs⟩
  · rw [e0] at hm; simp at hm; omega
  have h1 := hy.2.2
  rw [← hL] at hv hx hl0 ⊢
  rw [← hm] at hd hcs hG h1 ⊢
  have HCS := Lib.hid hcs
  have HG := Lib.hid hG
  have HX := Lib.hid hx.2
  have HV := Lib.hid hv
  have HD := Lib.hid hd
  have HR := Lib.hid (show Rd w (.slice a L c1) xs by rw [hL]; exact hrd)
  have HT := Lib.hid (show xs = tab L (ix xs) by rw [hL]; exact (tab_self xs).symm)
  have HLX := Lib.hid hL
  obtain ⟨F, hF⟩ : ∃ F, F = ix xs := ⟨_, rfl⟩
  obtain ⟨G, hGe⟩ : ∃ G, G = ix ys := ⟨_, rfl⟩
  rw [← hF] at HX HT
  rw [← hGe] at HCS HG h1
  rw [← hF, ← hGe]
  have cl := hcs (m - 1) (by omega)
  rw [← hGe, h1] at cl
  have HCL := Lib.hid cl
  have HH := Lib.hid (show d + m ≤ 16 by omega)
  have HC := Lib.hid hc
  have HDL := Lib.hid hd0
  have e1 : (L : Int) - (m : Int) = (d : Int) := by omega
  have e2 : ((m : Int) == 0) = false := by rw [beq_eq_false_iff_ne]; omega
  have e3 : ¬ ((d : Int) < 0) := by omega
  have e4 : ((m : Int) - 1).toNat = m - 1 := by omega
  have e5 : (0 : Int) ≤ (m : Int) - 1 := by omega
  have e6 : (m : Int) - 1 < (m : Int) := by omega
  have a1 : -1000000 ≤ (d : Int) ∧ (d : Int) ≤ 1000000 := by omega
  have a2 : -1000000 ≤ (m : Int) - 1 ∧ (m : Int) - 1 ≤ 1000000 := by omega
  have a3 : -1000000 ≤ (d : Int) + 1 ∧ (d : Int) + 1 ≤ 1000000 := by omega
  have HI5 := Lib.hid (show (d : Int) + 1 = (c : Int) by omega)
  have j1 : IntKind.i64.wrap (d : Int) = (d : Int) := i64_small a1
  have j2 : IntKind.i64.wrap ((m : Int) - 1) = (m : Int) - 1 := i64_small a2
  have j3 : IntKind.i64.wrap ((d : Int) + 1) = (d : Int) + 1 := i64_small a3
  clear a1 a2 a3 hcs hG hx hy hv hd hrd hb hm hL eQ eR hF hGe hc hd0 h1
  go_enter Try.func8, Try.ntmps8
  go_wp2_with fail
  refine HV.out.mono ?_
  rintro e w1 ⟨rfl, b1⟩
  go_wp2_with fail
  refine (HD.out _ b1).mono ?_
  rintro e w2 ⟨rfl, b2⟩
  have b2 := b1.trans (b2.mono b1.size)
  have cl2 := (b2.cell (p := ⟨b, off + (m - 1), none⟩) hlt).trans HCL.out
  have h16 : L ≤ 16 := hl0
  go_wp2_with (at_builtin; refine app_many rfl _ _ 23 rfl w.heap.size 3 Try.underlying23 infoInt _ _ rfl (own_empty _ _ w2 b2.size) _ xs rfl ((HR.out.below b2 (Nat.le_refl _)).alloc _) ?c1 ?c2 ?_)
  case c1 => have := HLX.out; simp; omega
  case c2 => have := b2.size; simp; omega
  intro v3 w3 o3 g3
  have b3 := (b2.alloc b2.size (.cells #[] 3)).grown g3 (by have := b2.size; simp; omega) (by have := b2.size; simp [Value.ownBlock]; omega)
  replace o3 : Own 3 w.heap.size w3 v3 xs := o3
  obtain ⟨g, k1, rfl, hg, hgs⟩ := o3.form (by intro e; have h1 := congrArg List.length e; have h2 := HLX.out; rw [← h2] at h1; simp only [List.length_nil] at h1; omega)
  rw [← HLX.out] at o3 ⊢
  rw [HT.out] at o3
  have O3 := Lib.hid o3
  have B3 := Lib.hid b3
  clear o3 b3 g3 b1 b2 cl2
  go_wp2_with (at_make; refine wpList_make_full _ rfl _ _ 23 rfl w.heap.size 3 i0 (.int .i64 0) 1 Try.underlying23 hi hz0 hz1 _ _ _ _ c rfl rfl HI5.out HI5.out ?c3 ?c4 ?c5 ?_)
  case c3 => rw [hz2]; have := HC.out; have := HDL.out; omega
  case c4 => have := HC.out; have := HDL.out; unfold maxLen; omega
  case c5 => exact B3.out.size
  intro w4 o4 g4
  have b4 := B3.out.grown g4 B3.out.size (by simp)
  have o3 := O3.out.kept g4 (Or.inr (by simp [Value.ownBlock]))
  have o4 := own_made o4
  obtain ⟨g2, hg2⟩ : ∃ g2, g2 = w3.heap.size := ⟨_, rfl⟩
  have hb2 : w.heap.size ≤ g2 := by rw [hg2]; exact B3.out.size
  have hne : g ≠ g2 := by omega
  rw [← hg2] at o4 ⊢
  obtain ⟨T, hT⟩ : ∃ T, T = dvQ G m c F := ⟨_, rfl⟩
  obtain ⟨A, hA⟩ : ∃ A, A = dvA G m c F := ⟨_, rfl⟩
  have H0 := Lib.hid (show SpK 3 w w4 g k1 g2 L m c c G T A from ⟨F, fun _ => 0, o3, o4, hA.symm, fun j _ => by rw [hT], fun j h1 h2 => by omega, by rw [Nat.sub_self]; exact HX.out, b4⟩)
  have HTT := Lib.hid hT.symm
  have HAA := Lib.hid hA.symm
  clear o3 o4 b4 g4 hg2 hT hA O3 B3 hgs HV HD HT HX HLX HR
  go_wp2
  go_loopw [10] (fun i wr => ∃ k : Nat, k ≤ c ∧ i = .int .i64 ((k : Int) - 1) ∧ SpK 3 w wr g k1 g2 L m c k G T A) (fun i _ => (intOf i + 1).toNat)
  case atStart => exact ⟨c, Nat.le_refl _, by rw [show (c : Int) - 1 = (d : Int) by have := HI5.out; omega], H0.out⟩
  case round =>
    obtain ⟨k, hk, rfl, hP⟩ := hrel
    cases k with
    | succ n =>
      have e0 : ((n + 1 : Nat) : Int) - 1 = (n : Int) := by omega
      rw [e0]
      obtain ⟨S, Q, o1, o2, eA, eT, eQ, bS, bel⟩ := hP
      have hdl := HDL.out
      have hcc := HC.out
      have hnL : n + m ≤ L := by omega
      have d1 := o1.cell (n + m - 1) (by rw [len_tab]; omega)
      rw [ix_tab _ _ _ (by omega)] at d1
      have f1 := o2.frozen n
      have d3 := o2.cell n (by rw [len_tab]; omega)
      have HS := Lib.hid (SpK.start o1 o2 eA eT eQ bel hb2 hne)
      have HB := Lib.hid bS
      have hkc := Lib.hid hk
      have HZ := Lib.hid (show -(bdN (c - (n + 1))) ≤ S (n + m - 1) ∧ S (n + m - 1) ≤ bdN (c - (n + 1)) from bS _ (by omega))
      have HN := Lib.hid hnL
      obtain ⟨z, hz⟩ : ∃ z, z = S (n + m - 1) := ⟨_, rfl⟩
      rw [← hz] at d1 HS HZ
      have HZE := Lib.hid hz
      have q0 : (0 : Int) ≤ (n : Int) := by omega
      have q1 : (n : Int) < (c : Int) := by omega
      have q2 : (n : Int) + (m : Int) - 1 < (L : Int) := by omega
      have q3 : (0 : Int) ≤ (n : Int) + (m : Int) - 1 := by omega
      have q4 : ((n : Int) + (m : Int) - 1).toNat = n + m - 1 := by omega
      have a1 : -1000000 ≤ (n : Int) + (m : Int) ∧ (n : Int) + (m : Int) ≤ 1000000 := by omega
      have a2 : -1000000 ≤ (n : Int) + (m : Int) - 1 ∧ (n : Int) + (m : Int) - 1 ≤ 1000000 := by omega
      have a3 : -1000000 ≤ (n : Int) - 1 ∧ (n : Int) - 1 ≤ 1000000 := by omega
      have m1 : IntKind.i64.wrap ((n : Int) + (m : Int)) = (n : Int) + (m : Int) := i64_small a1
      have m2 : IntKind.i64.wrap ((n : Int) + (m : Int) - 1) = (n : Int) + (m : Int) - 1 := i64_small a2
      have m3 : IntKind.i64.wrap ((n : Int) - 1) = (n : Int) - 1 := i64_small a3
      clear a1 a2 a3 o1 o2 eA eT eQ bS bel hz hdl hcc hk hnL
      have a4 : bdN (c - (n + 1)) ≤ 4500000000000 := bdN_le _ (by have := HH.out; have := HC.out; omega)
      have HA4 := Lib.hid a4
      clear a4
      go_wp2
      go_loopw [11] (fun i wr => ∃ y : Nat, y ≤ m ∧ i = .int .i64 y ∧ SpY 3 w wr g k1 g2 L m c n y z G T A S) (fun i _ => m - (intOf i).toNat)
      case atStart => exact ⟨0, Nat.zero_le _, rfl, HS.out⟩
      case round =>
        obtain ⟨y, hy, rfl, hI⟩ := hrel
        clear d1 f1 d3 HS
        by_cases hyl : y < m
        · have HS := Lib.hid (hI.next hg hne)
          obtain ⟨Q2, p1, p2, eZ, -, -, -, bel⟩ := hI
          have hN := HN.out
          have d0 := p1.cell (n + y) (by rw [len_tab]; omega)
          rw [ix_tab _ _ _ (by omega), pmS_here] at d0
          have f0 := p1.frozen (n + y)
          have d2 := p2.cell n (by rw [len_tab]; omega)
          rw [ix_tab _ _ _ (by omega), eZ] at d2
          have cg : wr.cell? ⟨b, off + y, none⟩ = some (.int .i64 (G y)) := (bel.cell (p := ⟨b, off + y, none⟩) hlt).trans (HCS.out y hyl)
          have b1 := HB.out (n + y) (by omega)
          have b2 := mul_three HZ.out (HG.out y hyl)
          have b3 := HA4.out
          obtain ⟨s, hs⟩ : ∃ s, s = S (n + y) := ⟨_, rfl⟩
          obtain ⟨gy, hgy⟩ : ∃ gy, gy = G y := ⟨_, rfl⟩
          obtain ⟨p, hp⟩ : ∃ p, p = z * gy := ⟨_, rfl⟩
          rw [← hgy] at cg b2 HS
          rw [← hs] at d0 b1 HS
          rw [← hp] at b2 HS
          have u0 : (0 : Int) ≤ (n : Int) + (y : Int) := by omega
          have u1 : (n : Int) + (y : Int) < (L : Int) := by omega
          have u2 : ((n : Int) + (y : Int)).toNat = n + y := by omega
          have u3 : (y : Int) < (m : Int) := by omega
          have u4 : -9223372036854775808 ≤ p ∧ p ≤ 9223372036854775807 := by omega
          have u5 : -9223372036854775808 ≤ s - p ∧ s - p ≤ 9223372036854775807 := by omega
          have u6 : -1000000 ≤ (n : Int) + (y : Int) ∧ (n : Int) + (y : Int) ≤ 1000000 := by omega
          have u7 : -1000000 ≤ (y : Int) + 1 ∧ (y : Int) + 1 ≤ 1000000 := by omega
          have w1 : IntKind.i64.wrap p = p := IntWalk.i64_in _ (by omega)
          have w2 : IntKind.i64.wrap (s - p) = s - p := IntWalk.i64_in _ (by omega)
          have w3 : IntKind.i64.wrap ((n : Int) + (y : Int)) = (n : Int) + (y : Int) := i64_small u6
          have w4 : IntKind.i64.wrap ((y : Int) + 1) = (y : Int) + 1 := i64_small u7
          have hzp : z * gy = p := hp.symm
          clear u4 u5 u6 u7 b1 b2 b3 hs hgy hp p1 p2 bel eZ hN
          go_wp2
          go_still_tail 20, (by kernel_rfl)
          change wpList _ _ _ _ _ (World.drew wr)
          go_wp2
          go_roundw
          case rel => exact ⟨y + 1, by omega, by go_num, HS.out.drew 1⟩
          case measure => simp [intOf]; omega
        · obtain rfl : y = m := by omega
          have HK := Lib.hid (hI.done HZE.out (by have := HC.out; omega) hm0 HG.out HN.out HB.out)
          clear hI
          go_wp2
          go_roundw
          case rel => exact ⟨n, by have := hkc.out; omega, rfl, HK.out⟩
          case measure => simp [intOf]
    | zero =>
      have e0 : ((0 : Nat) : Int) - 1 = -1 := by omega
      rw [e0]
      obtain ⟨S, Q, o1, o2, eA, eT, eQ, bS, bel⟩ := hP
      have oa : Own 3 w.heap.size wr (.slice (some ⟨g2, 0, none⟩) c c) (tab c T) := by
        rw [← tab_congr (fun j hj => eQ j (Nat.zero_le _) hj)]; exact o2
      have ob : Own 3 w.heap.size wr (.slice (some ⟨g, 0, none⟩) (m - 1) k1) (tab (m - 1) A) := by
        have := own_front o1 (k := m - 1) (by have := HDL.out; omega)
        rw [tab_take _ _ _ (by have := HDL.out; omega)] at this
        have e : S = A := eA
        rw [← e]; exact this
      have OA := Lib.hid fun q => oa.below (below_drewN (Below.refl wr.heap.size wr) q) (Nat.le_refl _)
      have OB := Lib.hid fun q => ob.below (below_drewN (Below.refl wr.heap.size wr) q) (Nat.le_refl _)
      have HB := Lib.hid fun q => below_drewN bel q
      have hcap := own_cap1 o1
      have r1 : (m : Int) - 1 ≤ (k1 : Int) := by have := HDL.out; rw [len_tab] at hcap; omega
      clear o1 o2 eA eT eQ bS bel oa ob hcap
      go_wp2
      go_quiet (fail)
      go_wp2
      go_ret3
      exact ⟨.slice (some ⟨g2, 0, none⟩) c c, .slice (some ⟨g, 0, none⟩) (m - 1) k1, by simp [go_sem], by rw [HTT.out]; exact OA.out nq, by rw [HAA.out]; exact OB.out nq, .inr (by simp [Value.ownBlock]; omega), HB.out nq⟩

theorem ptB_no {xs ys : List Int} (h : ptB xs ys = false) (h1 : vrB xs = true) (h2 : vrB ys = true) (h3 : 0 < ys.length) (h4 : ys.length ≤ xs.length) : ix ys (ys.length - 1) ≠ 1 := by
  intro e
  unfold ptB divB at h
  rw [h1, h2, decide_eq_true h3, decide_eq_true h4, decide_eq_true e] at h
  cases h

set_option maxHeartbeats 4000000 in
theorem specPartOf_no (v u : Value) (xs ys : List Int) (w : World) (h : Rd w v xs) (h2 : Rd w u ys) (hl : xs.length ≤ 1048576) (hm : ys.length ≤ 1048576) (hb : ptB xs ys = false) :
    Calls Try.prog 8 #[v, u] w (Parts 3 w [] [] false) := by
  have HV := Lib.hid (specvalid_any v xs w h (by unfold maxLen; omega))
  have HD := Lib.hid fun w1 (b : Below w.heap.size w w1) => specvalid_any u ys w1 (h2.below b (Nat.le_refl _)) (by unfold maxLen; omega)
  have HN := Lib.hid fun w' => Own.nil 3 w.heap.size w'
  obtain ⟨a, c1, rfl, -⟩ := h
  obtain ⟨b0, c2, rfl, h2⟩ := h2
  obtain ⟨L, hL⟩ : ∃ L, L = xs.length := ⟨_, rfl⟩
  obtain ⟨m, hm'⟩ : ∃ m, m = ys.length := ⟨_, rfl⟩
  rw [← hL] at hl HV ⊢
  rw [← hm'] at hm h2 HD ⊢
  have a1 : -1048576 ≤ (L : Int) - (m : Int) ∧ (L : Int) - (m : Int) ≤ 1048576 := by omega
  have a2 : -1048576 ≤ (m : Int) - 1 ∧ (m : Int) - 1 ≤ 1048576 := by omega
  have j1 : IntKind.i64.wrap ((L : Int) - (m : Int)) = (L : Int) - (m : Int) := IntWalk.i64_in _ (by omega)
  have j2 : IntKind.i64.wrap ((m : Int) - 1) = (m : Int) - 1 := IntWalk.i64_in _ (by omega)
  clear a1 a2
  have HL := Lib.hid hL
  have HM := Lib.hid hm'
  cases q1 : vrB xs with
  | false =>
    rw [q1] at HV
    clear q1 hb HD h2 hL hm'
    go_enter Try.func8, Try.ntmps8
    go_wp2_with fail
    refine HV.out.mono ?_
    rintro e w1 ⟨rfl, b1⟩
    go_wp2
    go_ret3
    exact ⟨_, _, rfl, HN.out _, HN.out _, Or.inl rfl, b1⟩
  | true =>
    rw [q1] at HV
    cases q2 : vrB ys with
    | false =>
      rw [q2] at HD
      clear q1 q2 hb h2 hL hm'
      go_enter Try.func8, Try.ntmps8
      go_wp2_with fail
      refine HV.out.mono ?_
      rintro e w1 ⟨rfl, b1⟩
      go_wp2_with fail
      refine (HD.out _ b1).mono ?_
      rintro e w2 ⟨rfl, b2⟩
      have B2 := Lib.hid (b1.trans (b2.mono b1.size))
      clear b1 b2
      go_wp2
      go_ret3
      exact ⟨_, _, rfl, HN.out _, HN.out _, Or.inl rfl, B2.out⟩
    | true =>
      rw [q2] at HD
      rcases Nat.eq_zero_or_pos m with e0 | e0
      · subst e0
        clear q1 q2 hb h2 hL hm'
        go_enter Try.func8, Try.ntmps8
        go_wp2_with fail
        refine HV.out.mono ?_
        rintro e w1 ⟨rfl, b1⟩
        go_wp2_with fail
        refine (HD.out _ b1).mono ?_
        rintro e w2 ⟨rfl, b2⟩
        have B2 := Lib.hid (b1.trans (b2.mono b1.size))
        clear b1 b2
        go_wp2
        go_ret3
        exact ⟨_, _, rfl, HN.out _, HN.out _, Or.inl rfl, B2.out⟩
      · have e2 : ((m : Int) == 0) = false := by rw [beq_eq_false_iff_ne]; omega
        rcases Nat.lt_or_ge L m with e1 | e1
        · have e3 : (L : Int) - (m : Int) < 0 := by omega
          clear q1 q2 hb h2 hL hm' e0 e1
          go_enter Try.func8, Try.ntmps8
          go_wp2_with fail
          refine HV.out.mono ?_
          rintro e w1 ⟨rfl, b1⟩
          go_wp2_with fail
          refine (HD.out _ b1).mono ?_
          rintro e w2 ⟨rfl, b2⟩
          have B2 := Lib.hid (b1.trans (b2.mono b1.size))
          clear b1 b2
          go_wp2
          go_ret3
          exact ⟨_, _, rfl, HN.out _, HN.out _, Or.inl rfl, B2.out⟩
        · have e3 : ¬ ((L : Int) - (m : Int) < 0) := by omega
          have hne := ptB_no hb q1 q2 (by omega) (by omega)
          rw [← hm'] at hne
          rcases h2 with e | ⟨b, off, rfl, hlt, hcs⟩
          · rw [e] at hm'; simp at hm'; omega
          have cl := hcs (m - 1) (by omega)
          obtain ⟨z, hz⟩ : ∃ z, z = ix ys (m - 1) := ⟨_, rfl⟩
          rw [← hz] at cl hne
          have HCL := Lib.hid cl
          have e4 : ((m : Int) - 1).toNat = m - 1 := by omega
          have e5 : (0 : Int) ≤ (m : Int) - 1 := by omega
          have e6 : (m : Int) - 1 < (m : Int) := by omega
          have e7 : (z == 1) = false := by rw [beq_eq_false_iff_ne]; exact hne
          have e8 : (!z == 1) = true := by rw [e7]; rfl
          have e9 : (z != 1) = true := by simpa using hne
          clear q1 q2 hb hL hm' e0 e1 hcs hz cl
          go_enter Try.func8, Try.ntmps8
          go_wp2_with fail
          refine HV.out.mono ?_
          rintro e w1 ⟨rfl, b1⟩
          go_wp2_with fail
          refine (HD.out _ b1).mono ?_
          rintro e w2 ⟨rfl, b2⟩
          have b2 := b1.trans (b2.mono b1.size)
          have cl2 := (b2.cell (p := ⟨b, off + (m - 1), none⟩) hlt).trans HCL.out
          have B2 := Lib.hid b2
          clear b1 b2
          go_wp2
          go_ret3
          exact ⟨_, _, rfl, HN.out _, HN.out _, Or.inl rfl, B2.out⟩
end Go.Proofs.Ytagncoahobghpac
