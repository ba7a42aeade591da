/-
  Products of rows: the model, by its contracts.
-/
import Derived.Test.YtlglokbakmbpdaaMa1
import Derived.Test.YtlglokbakmbpdaaFnM
import Derived.Deep.RegionLaw
import Derived.IntWalk
import Derived.StillTailTactics
namespace Go.Proofs.Ytlglokbakmbpdaa
open Go.RowKit
set_option linter.unusedVariables false

/-- The product of two rows. -/
def mulL (xs ys : List Int) : List Int := if xs.length = 0 ∨ ys.length = 0 then [] else tab (xs.length + ys.length - 1) fun j => wrap64 (mulE (ix xs) (ix ys) xs.length ys.length j)
def timF (xs ys : List Int) : List Int := if vrB xs = true ∧ vrB ys = true then mulL xs ys else []
theorem timF_yes {xs ys : List Int} (h1 : vrB xs = true) (h2 : vrB ys = true) : timF xs ys = mulL xs ys := by unfold timF; exact if_pos ⟨h1, h2⟩
theorem timF_no {xs ys : List Int} (h : ¬ (vrB xs = true ∧ vrB ys = true)) : timF xs ys = [] := by unfold timF; exact if_neg h
theorem mulL_none {xs ys : List Int} (h : xs.length = 0 ∨ ys.length = 0) : mulL xs ys = [] := by unfold mulL; exact if_pos h
theorem mulL_some {xs ys : List Int} (h1 : xs.length ≠ 0) (h2 : ys.length ≠ 0) : mulL xs ys = tab (xs.length + ys.length - 1) fun j => wrap64 (mulE (ix xs) (ix ys) xs.length ys.length j) := by
  unfold mulL; exact if_neg fun h => h.elim h1 h2

/-- The product on the way. -/
def PdI (E : Nat) (w wr : World) (g N m x y : Nat) (F G : Nat → Int) : Prop :=
  Own E w.heap.size wr (.slice (some ⟨g, 0, none⟩) N N) (tab N fun j => wrap64 (mulP F G m x y j)) ∧ Below w.heap.size w wr
theorem PdI.step {E g N m x y : Nat} {w wr : World} {F G : Nat → Int} (h : PdI E w wr g N m x y F G) (hg : w.heap.size ≤ g) :
    PdI E w (wr.setCell ⟨g, x + y, none⟩ (.int .i64 (wrap64 (wrap64 (mulP F G m x y (x + y)) + wrap64 (F x * G y))))) g N m x (y + 1) F G := by
  refine ⟨?_, h.2.setCell hg _⟩
  have := h.1.set (x + y) (wrap64 (wrap64 (mulP F G m x y (x + y)) + wrap64 (F x * G y)))
  rw [tab_set, tab_congr (g := fun j => wrap64 (mulP F G m x (y + 1) j))] at this
  · exact this
  · intro j hj
    by_cases e : j = x + y
    · subst e; rw [if_pos rfl, mulP_step, if_pos rfl, w64_add]
    · rw [if_neg e, mulP_step, if_neg (fun q => e q.symm), Int.add_zero]
theorem PdI.next {E g N m x : Nat} {w wr : World} {F G : Nat → Int} (h : PdI E w wr g N m x m F G) : PdI E w wr g N m (x + 1) 0 F G := by
  refine ⟨?_, h.2⟩
  rw [tab_congr (g := fun j => wrap64 (mulP F G m x m j)) (fun j _ => by rw [mulP_next])]; exact h.1
theorem PdI.drew {E g N m x y : Nat} {w wr : World} {F G : Nat → Int} (h : PdI E w wr g N m x y F G) (n : Nat) : PdI E w (wr.drewN n) g N m x y F G :=
  ⟨h.1.below (below_drewN (Below.refl wr.heap.size wr) n) (Nat.le_refl _), below_drewN h.2 n⟩

set_option maxHeartbeats 4000000 in
set_option maxRecDepth 20000 in
theorem specproduct_any (u v : Value) (xs ys : List Int) (w : World) (hx : Rd w u xs) (hy : Rd w v ys) (hl1 : xs.length ≤ 64) (hl2 : ys.length ≤ 64) :
    Calls Try.prog 47 #[u, v] w (Made 3 w (mulL xs ys)) := by
  obtain ⟨i0, hi, hz0, hz1, hz2⟩ := info_parts infoInt
  obtain ⟨a1, c1, rfl, hx⟩ := hx
  obtain ⟨a2, c2, rfl, hy⟩ := hy
  by_cases h1 : xs.length = 0
  · have HZ := Lib.hid (mulL_none (ys := ys) (.inl h1))
    rw [h1]
    clear hx hy
    go_enter Try.func47, Try.ntmps47
    go_wp2
    go_ret
    exact ⟨_, rfl, by rw [HZ.out]; exact own_empty _ _ _ (Nat.le_refl _), (Below.refl _ _).alloc (Nat.le_refl _) _⟩
  · by_cases h2 : ys.length = 0
    · have HZ := Lib.hid (mulL_none (xs := xs) (.inr h2))
      have e1 : ((xs.length : Int) == 0) = false := by rw [beq_eq_false_iff_ne]; omega
      rw [h2]
      clear hx hy
      go_enter Try.func47, Try.ntmps47
      go_wp2
      go_ret
      exact ⟨_, rfl, by rw [HZ.out]; exact own_empty _ _ _ (Nat.le_refl _), (Below.refl _ _).alloc (Nat.le_refl _) _⟩
    · have HZ := Lib.hid (mulL_some h1 h2)
      rcases hx with hx | ⟨b1, o1, rfl, hb1, hc1⟩
      · exact absurd (by rw [hx]; rfl) h1
      rcases hy with hy | ⟨b2, o2, rfl, hb2, hc2⟩
      · exact absurd (by rw [hy]; rfl) h2
      obtain ⟨F, hF⟩ : ∃ F, F = ix xs := ⟨_, rfl⟩
      obtain ⟨G, hG⟩ : ∃ G, G = ix ys := ⟨_, rfl⟩
      obtain ⟨n, hn⟩ : ∃ n, n = xs.length := ⟨_, rfl⟩
      obtain ⟨m, hm⟩ : ∃ m, m = ys.length := ⟨_, rfl⟩
      rw [← hF, ← hG, ← hn, ← hm] at HZ
      rw [← hF, ← hn] at hc1
      rw [← hG, ← hm] at hc2
      rw [← hn] at h1 hl1 ⊢
      rw [← hm] at h2 hl2 ⊢
      obtain ⟨N, hN⟩ : ∃ N, N = n + m - 1 := ⟨_, rfl⟩
      rw [← hN] at HZ
      have HN := Lib.hid (show (n : Int) + (m : Int) - 1 = (N : Int) by omega)
      have HNN := Lib.hid hN
      have HC1 := Lib.hid hc1
      have HC2 := Lib.hid hc2
      have e1 : ((n : Int) == 0) = false := by rw [beq_eq_false_iff_ne]; omega
      have e2 : ((m : Int) == 0) = false := by rw [beq_eq_false_iff_ne]; omega
      have j1 : IntKind.i64.wrap ((n : Int) + (m : Int)) = (n : Int) + (m : Int) := IntWalk.i64_in _ (by omega)
      have j2 : IntKind.i64.wrap ((n : Int) + (m : Int) - 1) = (n : Int) + (m : Int) - 1 := IntWalk.i64_in _ (by omega)
      clear hF hG hn hm hN hc1 hc2 h1 h2
      go_enter Try.func47, Try.ntmps47
      go_wp2_with (at_make; refine wpList_make_full _ rfl _ _ 23 rfl w.heap.size 3 i0 (.int .i64 0) 1 Try.underlying23 hi hz0 hz1 _ _ _ _ N rfl rfl HN.out HN.out ?c1 ?c2 ?c3 ?_)
      case c1 => rw [hz2]; have := HNN.out; omega
      case c2 => have := HNN.out; unfold maxLen; omega
      case c3 => omega
      intro w1 hown hgrow
      have hI : PdI 3 w w1 w.heap.size N m 0 0 F G := by
        refine ⟨?_, (Below.refl w.heap.size w).grown hgrow (Nat.le_refl _) (by simp)⟩
        have := own_made hown
        rw [tab_congr (g := fun _ => 0) (fun j _ => by rw [mulP_zero]; exact w64_id (by omega))]; exact this
      clear hown hgrow j1 j2
      go_wp2
      go_loopw [6] (fun i wr => ∃ x : Nat, x ≤ n ∧ i = .int .i64 x ∧ PdI 3 w wr w.heap.size N m x 0 F G) (fun i _ => n - (intOf i).toNat)
      case atStart => exact ⟨0, Nat.zero_le _, rfl, hI⟩
      case round =>
        obtain ⟨x, hx, rfl, hIr⟩ := hrel
        clear hI
        by_cases hlt : x < n
        · have k0 : (x : Int) < (n : Int) := by omega
          go_wp2
          go_loopw [7] (fun i wr => ∃ y : Nat, y ≤ m ∧ i = .int .i64 y ∧ PdI 3 w wr w.heap.size N m x y F G) (fun i _ => m - (intOf i).toNat)
          case atStart => exact ⟨0, Nat.zero_le _, rfl, hIr⟩
          case round =>
            obtain ⟨y, hy, rfl, hIx⟩ := hrel
            clear hIr
            by_cases hyl : y < m
            · have hNN := HNN.out
              have d0 := hIx.1.cell (x + y) (by rw [len_tab]; omega)
              rw [ix_tab _ _ _ (by omega)] at d0
              have f0 := hIx.1.frozen (x + y)
              have ca : wr.cell? ⟨b1, o1 + x, none⟩ = some (.int .i64 (F x)) := by rw [hIx.2.cell (p := ⟨b1, o1 + x, none⟩) hb1, HC1.out x hlt]
              have cb : wr.cell? ⟨b2, o2 + y, none⟩ = some (.int .i64 (G y)) := by rw [hIx.2.cell (p := ⟨b2, o2 + y, none⟩) hb2, HC2.out y hyl]
              have HS := Lib.hid (hIx.step (Nat.le_refl _))
              have i1 : (x : Int) + (y : Int) < (N : Int) := by omega
              have i2 : (0 : Int) ≤ (x : Int) + (y : Int) := by omega
              have i3 : (y : Int) < (m : Int) := by omega
              have j1 : IntKind.i64.wrap ((x : Int) + (y : Int)) = (x : Int) + (y : Int) := IntWalk.i64_in _ (by omega)
              have j2 : ((x : Int) + (y : Int)).toNat = x + y := by omega
              obtain ⟨p0, hp0⟩ : ∃ p, p = wrap64 (mulP F G m x y (x + y)) := ⟨_, rfl⟩
              obtain ⟨q0, hq0⟩ : ∃ p, p = wrap64 (F x * G y) := ⟨_, rfl⟩
              obtain ⟨z, hz⟩ : ∃ z, z = wrap64 (p0 + q0) := ⟨_, rfl⟩
              rw [← hp0] at d0
              rw [← hp0, ← hq0, ← hz] at HS
              have j3 : IntKind.i64.wrap (F x * G y) = q0 := by rw [hq0, IntKind.wrap_i64]; unfold wrap64; rfl
              have j4 : IntKind.i64.wrap (p0 + q0) = z := by rw [hz, IntKind.wrap_i64]; unfold wrap64; rfl
              clear hIx hp0 hNN hq0 hz
              go_wp2
              go_still_tail 20, (by kernel_rfl)
              change wpList _ _ _ _ _ (World.drew wr)
              go_wp2
              go_roundw
              case rel => exact ⟨y + 1, by omega, by go_num, HS.out.drew 1⟩
              case measure => simp [intOf]; omega
            · obtain rfl : y = m := by omega
              have HS := Lib.hid hIx.next
              clear hIx
              go_wp2
              go_roundw
              case rel => exact ⟨x + 1, by omega, by go_num, HS.out⟩
              case measure => simp [intOf]; omega
        · obtain rfl : x = n := by omega
          have HO : Own 3 w.heap.size wr (.slice (some ⟨w.heap.size, 0, none⟩) N N) (mulL xs ys) := by
            rw [HZ.out, ← tab_congr (f := fun j => wrap64 (mulP F G m x 0 j)) (fun j _ => by rw [mulP_all])]; exact hIr.1
          have HO := Lib.hid HO
          have hB := hIr.2
          clear hIr
          go_wp2
          go_ret
          exact ⟨_, rfl, HO.out, hB⟩

theorem timF_len (xs ys : List Int) : (timF xs ys).length ≤ 1048576 := by
  unfold timF
  split
  · rename_i h
    have h1 := (vrB_of h.1).1
    have h2 := (vrB_of h.2).1
    unfold mulL
    split
    · simp
    · rw [len_tab]; omega
  · simp

theorem specTimesOf_any (u v : Value) (xs ys : List Int) (w : World) (hx : Rd w u xs) (hy : Rd w v ys) (hl1 : xs.length ≤ maxLen) (hl2 : ys.length ≤ maxLen) :
    Calls Try.prog 14 #[u, v] w (Made 3 w (timF xs ys)) := by
  have hv1 := specvalid_any u xs w hx hl1
  have HV2 := Lib.hid fun w1 (b : Below w.heap.size w w1) => specvalid_any v ys w1 (hy.below b (Nat.le_refl _)) hl2
  obtain ⟨a1, c1, he1, -⟩ := id hx
  obtain ⟨a2, c2, he2, -⟩ := id hy
  cases h1 : vrB xs with
  | false =>
    rw [h1] at hv1
    have HF := Lib.hid (timF_no (xs := xs) (ys := ys) fun q => by rw [h1] at q; cases q.1)
    subst he1 he2
    clear h1 hx hy
    go_enter Try.func14, Try.ntmps14
    go_wp2_with fail
    refine hv1.mono ?_
    rintro e w1 ⟨rfl, b1⟩
    go_wp2
    go_ret
    exact ⟨_, rfl, by rw [HF.out]; exact Own.nil _ _ _, b1⟩
  | true =>
    rw [h1] at hv1
    cases h2 : vrB ys with
    | false =>
      have HF := Lib.hid (timF_no (xs := xs) (ys := ys) fun q => by rw [h2] at q; cases q.2)
      rw [h2] at HV2
      subst he1 he2
      clear h1 h2 hx hy
      go_enter Try.func14, Try.ntmps14
      go_wp2_with fail
      refine hv1.mono ?_
      rintro e w1 ⟨rfl, b1⟩
      go_wp2_with fail
      refine (HV2.out _ b1).mono ?_
      rintro e w2 ⟨rfl, b2⟩
      go_wp2
      go_ret
      exact ⟨_, rfl, by rw [HF.out]; exact Own.nil _ _ _, b1.trans (b2.mono b1.size)⟩
    | true =>
      have HF := Lib.hid (timF_yes h1 h2)
      rw [h2] at HV2
      have n1 := (vrB_of h1).1
      have n2 := (vrB_of h2).1
      have HP := Lib.hid fun w1 (b : Below w.heap.size w w1) => specproduct_any u v xs ys w1 (hx.below b (Nat.le_refl _)) (hy.below b (Nat.le_refl _)) (by omega) (by omega)
      subst he1 he2
      clear h1 h2 hx hy n1 n2
      go_enter Try.func14, Try.ntmps14
      go_wp2_with fail
      refine hv1.mono ?_
      rintro e w1 ⟨rfl, b1⟩
      go_wp2_with fail
      refine (HV2.out _ b1).mono ?_
      rintro e w2 ⟨rfl, b2⟩
      have b1 := b1.trans (b2.mono b1.size)
      go_wp2_with fail
      refine (HP.out _ b1).mono ?_
      rintro e w3 ⟨v3, rfl, o3, b3⟩
      go_wp2
      go_ret
      exact ⟨_, rfl, by rw [HF.out]; exact o3.mono b1.size, b1.trans (b3.mono b1.size)⟩

end Go.Proofs.Ytlglokbakmbpdaa
