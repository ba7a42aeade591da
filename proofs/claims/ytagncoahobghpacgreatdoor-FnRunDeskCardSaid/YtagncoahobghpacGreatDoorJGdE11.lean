/-
  Joined texts: Edge, Deg, SSteps, Many, SEdge.
-/
import Derived.Test.YtagncoahobghpacGreatDoorJGdE10
import Derived.WalkMore
import Derived.StillTailTactics
import Derived.Test.YtagncoahobghpacGreatDoorJGdE08
namespace Go.Proofs.YtagncoahobghpacGreatDoor
open Go.RowKit
set_option linter.unusedVariables false
set_option linter.unusedSimpArgs false
set_option maxRecDepth 100000
attribute [local go_sem] Oper.semAt_some wide_fn wide_depth wide_round

def edgeL (xs : List Int) : List Int := tab xs.length fun k => wrap64 (dif (ix xs) k 0)

theorem Diff.put {xs : List Int} {k m : Nat} {v : Value} {W : World} (h : Diff xs k m v W) {l : Nat} {o : Obj} (o' : Obj) (hl : W.heap[l]? = some o) (ho : o.isCells = false) : Diff xs k m v (W.putObj l o') := by
  obtain ⟨g, off, n, cap, rfl, h1, h2, h3⟩ := h
  exact ⟨g, off, n, cap, rfl, h1, h2, fun j hj => cell_kept (h3 j hj) (grownBy_putObj' W l o') (fun r e => by cases e; exact ⟨o, hl, ho⟩)⟩

/-- EdgeOf on the way: k rounds are over. -/
def EdgeInv (E T Be : Nat) (w : World) (xs : List Int) (k : Nat) (W : World) : Prop :=
  ∃ ve, Boxed W Be T ve ∧ Own E w.heap.size W ve (tab k fun i => wrap64 (dif (ix xs) i 0)) ∧ Below w.heap.size w W
theorem EdgeInv.put {E T Be k : Nat} {w A : World} {xs : List Int} (h : EdgeInv E T Be w xs k A) {l : Nat} {o : Obj} (o' : Obj) (hl : w.heap.size ≤ l) (hA : A.heap[l]? = some o) (ho : o.isCells = false) : EdgeInv E T Be w xs k (A.putObj l o') := by
  obtain ⟨ve, h1, h2, h3⟩ := h
  refine ⟨ve, h1.kept (grownBy_putObj' A l o') ?_, ownsRow_putObj h2 o' hA ho, h3.grown (grownBy_putObj' A l o') h3.size (fun k e => by cases e; exact hl)⟩
  intro e
  injection e with e
  subst e
  rw [show A.heap[Be]? = _ from h1] at hA; cases hA; cases ho
theorem EdgeInv.below {E T Be k : Nat} {w A B : World} {xs : List Int} (h : EdgeInv E T Be w xs k A) (hb : Below A.heap.size A B) : EdgeInv E T Be w xs k B := by
  obtain ⟨ve, h1, h2, h3⟩ := h
  exact ⟨ve, (hb.block Be h1.lt).trans h1, h2.below hb (Nat.le_refl _), bel_nxt h3 hb⟩

theorem own_succ {E B n : Nat} {w : World} {v : Value} {f : Nat → Int} (h : Own E B w v (tab (n + 1) f)) : ∃ g cap, v = .slice (some ⟨g, 0, none⟩) (n + 1) cap := by
  unfold Own at h
  rw [len_tab] at h
  exact ownsRow_succ h
/-- Behind the append and the store of a round. -/
theorem edge_step {E T Be k m gx off n cx : Nat} {w W WD w5 : World} {xs : List Int} {ve v' : Value} {z : Int} (hTE : T ≠ E) (hv : Boxed WD Be T ve) (hrow : Own E w.heap.size WD ve (tab k fun i => wrap64 (dif (ix xs) i 0))) (hB : Below w.heap.size w WD)
    (hG : Diff xs k m (.slice (some ⟨gx, off, none⟩) n cx) WD) (hBw : w.heap.size ≤ Be) (hBe : Be < m) (hlt : ∀ j, ve.ownBlock = some j → j < m) (hc : WD.cell? ⟨gx, off, none⟩ = some (.int .i64 z)) (hKO : KeepsOthers W WD)
    (h1 : Own E w.heap.size w5 v' (tab (k + 1) fun i => wrap64 (dif (ix xs) i 0))) (h2 : WD.grownBy w5 ve.ownBlock) :
    Boxed w5 Be T ve ∧ w5.cell? ⟨gx, off, none⟩ = some (.int .i64 z) ∧ (w5.setCell ⟨Be, 0, none⟩ v').cell? ⟨gx, off, none⟩ = some (.int .i64 z) ∧ KeepsOthers W (w5.setCell ⟨Be, 0, none⟩ v') ∧
      Diff xs k m (.slice (some ⟨gx, off, none⟩) n cx) (w5.setCell ⟨Be, 0, none⟩ v') ∧ EdgeInv E T Be w xs (k + 1) (w5.setCell ⟨Be, 0, none⟩ v') := by
  obtain ⟨g', off', n', c', he, hn, hm, hcs⟩ := hG
  simp only [Value.slice.injEq, Option.some.injEq, Addr.mk.injEq, and_true] at he
  obtain ⟨⟨rfl, rfl⟩, rfl, rfl⟩ := he
  have hne : Be ≠ gx := by omega
  have hgne : ve.ownBlock ≠ some gx := fun e => by have := hlt gx e; omega
  have hv5 : Boxed w5 Be T ve := hv.kept h2 (hv.not_row hTE hrow)
  have hc5 : ∀ (j : Nat) (u : Value), WD.cell? ⟨gx, j, none⟩ = some u → w5.cell? ⟨gx, j, none⟩ = some u := fun j u h => h2.cell h (by exact fun e => hgne e.symm)
  have hcs5 : ∀ (j : Nat) (u : Value), WD.cell? ⟨gx, j, none⟩ = some u → (w5.setCell ⟨Be, 0, none⟩ v').cell? ⟨gx, j, none⟩ = some u := fun j u h => by
    rw [World.cell?_of_block (w := w5) (Below.heap_setCell _ _ _ _ (by exact fun e => hne e.symm))]; exact hc5 j u h
  refine ⟨hv5, hc5 _ _ hc, hcs5 _ _ hc, ?_, ⟨gx, off, n, cx, rfl, hn, hm, fun j hj => hcs5 _ _ (hcs j hj)⟩, v', hv5.set v', ?_, ?_⟩
  · refine (hKO.trans (KeepsOthers.of_grownBy h2 fun j o ej hj => ?_)).trans (KeepsOthers.setCell _ _ _)
    rcases hrow.2 with ⟨rfl, _⟩ | ⟨g, cap, cur, rfl, _, hgb, _⟩
    · simp [Value.ownBlock] at ej
    · obtain rfl : g = j := by simpa [Value.ownBlock] using ej
      rw [hgb] at hj; cases hj; rfl
  · exact World.ownsRow.kept h1 (grownBy_setCell' w5 Be v') (.inr (hv5.not_row hTE h1).symm)
  · refine (hB.grown h2 hB.size fun j ej => ?_).setCell (p := ⟨Be, 0, none⟩) hBw v'
    rcases hrow.2 with ⟨rfl, _⟩ | ⟨g, cap, cur, rfl, hb, _, _⟩
    · simp [Value.ownBlock] at ej
    · obtain rfl : g = j := by simpa [Value.ownBlock] using ej
      exact hb

set_option maxHeartbeats 2000000 in
set_option maxRecDepth 100000 in
theorem edge_in (v : Value) (xs : List Int) (w : World) (h : Rd w v xs) (hb : vrB xs = true) (hw : ∀ n ∈ xs, (Lit.int .i64 n).wf = true) :
    CallsIn Fence.wide 5 Tryz.prog 62 #[v] w (Made 3 w (edgeL xs)) := by
  have hx := (vrB_of hb).1
  have hM : xs.length ≤ maxLen := by unfold maxLen; omega
  have hv := implValid_any v xs w h hM
  rw [hb] at hv
  have HV := Lib.hid (callsIn_wide (n := 4).2 hv)
  have h0 := h
  obtain ⟨a, cap, rfl, -⟩ := h0
  have HD := Lib.hid fun w => callsIn_wide (n := 4).2 (diffRows_any a xs.length cap w)
  obtain ⟨i0, hi, hz0, hz1, hz2⟩ := info_parts infoInt
  clear hb hv hM
  refine callsIn_of_wp_marks Tryz.func62 rfl trivial ?_ rfl
  simp only [Tryz.ntmps62, List.size_toArray, List.length_cons, List.length_nil, Nat.reduceAdd, Nat.reduceSub, Array.replicate_succ, Array.replicate_zero, List.push_toArray, List.append_toArray, List.nil_append, List.cons_append]
  gi_wp2_with (first
    | (gi_at_call 73; refine HV.out.mono ?_; rintro e w1 ⟨rfl, b1⟩)
    | (gi_at_make; refine wpListIn_make_own _ rfl _ _ 35 rfl w.heap.size 3 i0 (.int .i64 0) 1 Tryz.underlying35 hi hz0 hz1 _ _ _ xs.length rfl rfl rfl ?c1 ?c2 ?c3 ?_))
  case c1 => rw [hz2]; omega
  case c2 => unfold maxLen; omega
  case c3 => exact b1.size
  intro w2 hown hgrow
  have b2 := b1.grown hgrow b1.size (by simp)
  clear hgrow
  generalize w1.heap.size = g at hown ⊢
  gi_wp2_with fail
  obtain ⟨Be, hBe⟩ : ∃ Be, Be = w2.heap.size := ⟨_, rfl⟩
  obtain ⟨wB, hwB⟩ : ∃ wB, wB = w2.alloc (.cells #[.slice (some ⟨g, 0, none⟩) 0 xs.length] 35) := ⟨_, rfl⟩
  have hI : EdgeInv 3 35 Be w xs 0 wB := by
    rw [hwB, hBe]
    exact ⟨_, Boxed.new w2 _ _, hown.alloc _, b2.alloc b2.size _⟩
  have hBw : w.heap.size ≤ Be := by rw [hBe]; exact b2.size
  have hR := h.below (B := w.heap.size) (w' := wB) (by rw [hwB]; exact b2.alloc b2.size _) (Nat.le_refl _)
  rw [← hwB, ← hBe]
  clear hwB hBe hown b1 b2 h HV
  refine (HD.out _).mono ?_
  rintro e wC ⟨rfl, rfl⟩
  gi_wp2_with fail
  have hIC : EdgeInv 3 35 Be w xs 0 (wB.alloc (.cells #[.slice a xs.length cap] 35)) := hI.below ((Below.refl _ _).alloc (Nat.le_refl _) _)
  have hRC := hR.below (w' := wB.alloc (.cells #[.slice a xs.length cap] 35)) ((Below.refl _ _).alloc (Nat.le_refl _) _) (Nat.le_refl _)
  have hHands := diffs_hands 4 (.slice a xs.length cap) xs wB.heap.size (wB.alloc (.cells #[.slice a xs.length cap] 35)) (by omega) hw (by rw [World.size_alloc]; omega)
    (by rw [World.cell?_alloc_at _ _ _ _ rfl]; rfl) hRC
  have hwC : w.heap.size ≤ (wB.alloc (.cells #[.slice a xs.length cap] 35)).heap.size := by obtain ⟨_, _, _, h⟩ := hIC; exact h.size
  refine wpIn_hands rfl (fun h => by cases h) (gf := 107) (lb := #[.pointer (some ⟨wB.heap.size, 0, none⟩)]) rfl trivial (enters_of Tryz.func107 (by kernel_rfl) rfl)
    hHands (fun k m v W l o o' hg hl ho => hg.put o' hl ho) (Below.refl _ _) rfl (fun k W => EdgeInv 3 35 Be w xs k W) (fun _ _ _ => False)
    (fun k A l o o' h hl hA ho => h.put o' (Nat.le_trans hwC hl) hA ho) (fun k A B h hb => h.below hb) (fun c k A l o o' h _ _ _ => h) hIC
    (fun x => { tmps := #[.slice a xs.length cap, undef, .slice none 0 0, .pointer (some ⟨Be, 0, none⟩), x, .slice a xs.length cap, .bool true, .bool false, .slice a xs.length cap, .int .i64 xs.length, .slice (some ⟨g, 0, none⟩) 0 xs.length, .slice a xs.length cap, .func (.func 107) #[] #[.pointer (some ⟨wB.heap.size, 0, none⟩)], x, undef, undef, undef, undef, undef, undef, undef], defers := [] }) ?assign ?body ?done ?stop
  case assign =>
    intro l x W K hK
    gi_wp2
    exact hK
  case body =>
    rintro l k x A W hkn hIA hA0 hAW hG
    obtain ⟨gx, off, n, cx, rfl, hn, hgx, hcx⟩ := hG
    have hc0 := hcx 0 (by omega)
    rw [Nat.add_zero] at hc0
    obtain ⟨ve, hv, hrow, hB⟩ := hIA
    have hvD : Boxed W.drew Be 35 ve := (hAW.block Be hv.lt).trans hv
    have hrowD := (hrow.below hAW (Nat.le_refl _)).drew
    have hBD := (bel_nxt hB hAW).drew
    have hB0 := hBD.size
    have hGD : Diff xs k A.heap.size (.slice (some ⟨gx, off, none⟩) n cx) W.drew := ⟨gx, off, n, cx, rfl, hn, hgx, hcx⟩
    have hcD : W.drew.cell? ⟨gx, off, none⟩ = some (.int .i64 (wrap64 (dif (ix xs) k 0))) := hc0
    have hlt : ∀ j, ve.ownBlock = some j → j < A.heap.size := fun j hj => (World.ownsRow.lt hrow j hj).2
    obtain ⟨z, hz⟩ : ∃ z, z = wrap64 (dif (ix xs) k 0) := ⟨_, rfl⟩
    rw [← hz] at hcD
    have HZ := Lib.hid hz
    clear hz
    have hnn : 0 < n := by omega
    have hni : (0 : Int) < (n : Int) := by omega
    have hBe1 := hv.lt
    have hKO := KeepsOthers.drew W
    gi_wp2
    refine region_round (S := fun w' => w'.cell? ⟨gx, off, none⟩ = some (.int .i64 z)) (by kernel_rfl) (by kernel_rfl) (by rintro ⟨a, w, h⟩; exact h) hcD (fun hHeld => ?_)
    generalize W.drew = WD at hvD hrowD hBD hB0 hGD hcD hHeld hKO ⊢
    have hedge := fun {v' : Value} {w5 : World} (h1 : Own 3 w.heap.size w5 v' (tab (k + 1) fun i => wrap64 (dif (ix xs) i 0))) (h2 : WD.grownBy w5 ve.ownBlock) => edge_step (T := 35) (by decide) hvD hrowD hBD hGD hBw hBe1 hlt hcD hKO h1 h2
    clear hAW hcx hc0 hv hrow hB
    change wpAnyH _ _ _ _ _ _ _ _ _
    refine wpAnyH_take (i := 1) (v := ?v1) rfl (by kernel_rfl) (by kernel_rfl) (by kernel_rfl) (fun _ _ _ h => h) (Or.inl ⟨by rfl, ?y1⟩) hHeld ?_
    case y1 => (intro w hSw; (try dsimp only at hSw); go_simp; try with_reducible rfl)
    go_simp
    refine wpAnyH_take (i := 2) (v := ?v2) rfl (by kernel_rfl) (by kernel_rfl) (by kernel_rfl) (fun _ _ _ h => h) (Or.inl ⟨by rfl, ?y2⟩) hHeld ?_
    case y2 => (intro w hSw; (try dsimp only at hSw); go_simp; try with_reducible rfl)
    go_simp
    refine wpAnyH_take (i := 3) (v := ?v3) rfl (by kernel_rfl) (by kernel_rfl) (by kernel_rfl) (fun _ _ _ h => h) (Or.inl ⟨by rfl, ?y3⟩) hHeld ?_
    case y3 => (intro w hSw; (try dsimp only at hSw); go_simp; try with_reducible rfl)
    go_simp
    clear hHeld
    have hvc := hvD.cell
    have hva : (WD.alloc (.cells #[.int .i64 z] 3)).cell? ⟨Be, 0, none⟩ = some ve := (hvD.alloc _).cell
    have hca : (WD.alloc (.cells #[.int .i64 z] 3)).cell? ⟨gx, off, none⟩ = some (.int .i64 z) := ((Below.refl WD.heap.size WD).alloc (Nat.le_refl _) _).cell (p := ⟨gx, off, none⟩) (World.block_lt_of_cell? WD _ hcD) |>.trans hcD
    refine wpAnyH_ready (rs := [0, 4]) (by kernel_rfl) (by simp) ?_
    refine AllReadyH.cons rfl (fun K hK => ?_) (AllReadyH.cons rfl (fun K hK => ?_) AllReadyH.nil)
    · go_simp
      refine hK.out _ _ hcD (fun hHeld => ?_)
      clear hK K hHeld
      refine wpAnyH_ready (rs := [4]) (by kernel_rfl) (by simp) ?_
      refine AllReadyH.cons rfl (fun K hK => ?_) AllReadyH.nil
      go_simp
      refine hK.out _ _ hca (fun hHeld => ?_)
      clear hK K hHeld
      refine wpAnyH_ready (rs := [5]) (by kernel_rfl) (by simp) ?_
      refine AllReadyH.cons rfl (fun K hK => ?_) AllReadyH.nil
      refine step_app_int WD rfl (.tmp 14) (.tmp 18) 35 rfl w.heap.size 3 Tryz.underlying35 infoInt ve _ rfl hrowD (World.grownBy_alloc WD _ none) ⟨WD.heap.size, 0, none⟩ rfl z (cell_new1 _ _ _) (by rw [len_tab]; omega) hB0 ?_
      intro v' w5 hO5 hg5
      rw [tab_snoc _ _ _ HZ.out] at hO5
      obtain ⟨gv, cv, rfl⟩ := own_succ hO5
      obtain ⟨f1, f2, f3, f4, f5, f6⟩ := hedge hO5 hg5
      simp only [Act.put, List.setIfInBounds_toArray, List.set_cons_zero, List.set_cons_succ]
      refine hK.out _ _ f2 (fun hHeld => ?_)
      clear hK K hHeld
      refine wpAnyH_ready (rs := [6]) (by kernel_rfl) (by simp) ?_
      refine AllReadyH.cons rfl (fun K hK => ?_) AllReadyH.nil
      have f1c := f1.cell
      have f1f := f1.frozen
      go_simp
      refine hK.out _ _ f3 (fun hHeld => ?_)
      clear hK K hHeld
      refine wpAnyH_done (by kernel_rfl) ?_ _
      exact ⟨f4, f5, f6⟩
    · go_simp
      refine hK.out _ _ hca (fun hHeld => ?_)
      clear hK K hHeld
      refine wpAnyH_ready (rs := [0]) (by kernel_rfl) (by simp) ?_
      refine AllReadyH.cons rfl (fun K hK => ?_) AllReadyH.nil
      go_simp
      refine hK.out _ _ hca (fun hHeld => ?_)
      clear hK K hHeld
      refine wpAnyH_ready (rs := [5]) (by kernel_rfl) (by simp) ?_
      refine AllReadyH.cons rfl (fun K hK => ?_) AllReadyH.nil
      refine step_app_int WD rfl (.tmp 14) (.tmp 18) 35 rfl w.heap.size 3 Tryz.underlying35 infoInt ve _ rfl hrowD (World.grownBy_alloc WD _ none) ⟨WD.heap.size, 0, none⟩ rfl z (cell_new1 _ _ _) (by rw [len_tab]; omega) hB0 ?_
      intro v' w5 hO5 hg5
      rw [tab_snoc _ _ _ HZ.out] at hO5
      obtain ⟨gv, cv, rfl⟩ := own_succ hO5
      obtain ⟨f1, f2, f3, f4, f5, f6⟩ := hedge hO5 hg5
      simp only [Act.put, List.setIfInBounds_toArray, List.set_cons_zero, List.set_cons_succ]
      refine hK.out _ _ f2 (fun hHeld => ?_)
      clear hK K hHeld
      refine wpAnyH_ready (rs := [6]) (by kernel_rfl) (by simp) ?_
      refine AllReadyH.cons rfl (fun K hK => ?_) AllReadyH.nil
      have f1c := f1.cell
      have f1f := f1.frozen
      go_simp
      refine hK.out _ _ f3 (fun hHeld => ?_)
      clear hK K hHeld
      refine wpAnyH_done (by kernel_rfl) ?_ _
      exact ⟨f4, f5, f6⟩
  case done =>
    rintro D A W hD hIW hK
    obtain ⟨ve, hv, hrow, hB⟩ := hIW
    have hvc := hv.cell
    gi_wp2
    refine ⟨by simp, .inl ⟨_, _, rfl, run_takeDeferred hK, ?_⟩⟩
    exact ⟨_, results_tmp rfl _ _ _, ve, rfl, ownsRow_putObj hrow _ hK rfl, hB.grown (grownBy_putObj' W D _) hB.size (fun k e => by cases e; exact Nat.le_trans hwC hD)⟩
  case stop =>
    rintro D c k W _ _ h _
    exact h.elim

def edgeF (xs : List Int) : List Int := if vrB xs = true then edgeL xs else []
theorem edgeF_len (xs : List Int) (h : xs.length ≤ 1048576) : (edgeF xs).length ≤ 1048576 := by unfold edgeF; split <;> simp [edgeL, h]

theorem implEdgeOf_any (v : Value) (xs : List Int) (w : World) (h : Rd w v xs) (hl : xs.length ≤ maxLen) (hw : ∀ n ∈ xs, (Lit.int .i64 n).wf = true) :
    Calls Tryz.prog 62 #[v] w (Made 3 w (edgeF xs)) := by
  cases hb : vrB xs with
  | true =>
    rw [show edgeF xs = edgeL xs by unfold edgeF; exact if_pos hb]
    exact callsIn_wide.1 (edge_in v xs w h hb hw)
  | false =>
    have hv := implValid_any v xs w h hl
    rw [hb] at hv
    have hF : Hid (edgeF xs = []) := by unfold edgeF; exact if_neg (by simp [hb])
    clear hb hw
    go_enter Tryz.func62, Tryz.ntmps62
    go_wp2_with fail
    refine hv.mono ?_
    rintro e w1 ⟨rfl, b1⟩
    go_wp2
    go_ret
    exact ⟨_, rfl, by rw [hF.out]; exact Own.nil _ _ _, b1⟩

end Go.Proofs.YtagncoahobghpacGreatDoor

namespace Go.Proofs.YtagncoahobghpacGreatDoor
open Go.RowKit
set_option linter.unusedVariables false
attribute [local go_sem] Oper.semAt_some wide_fn wide_depth wide_round

/-- The last index ahead of m at which the edge is not 0. -/
def degP (F : Nat → Int) : Nat → Int
  | 0 => -1
  | m + 1 => if wrap64 (dif F m 0) ≠ 0 then (m : Int) else degP F m
def degF (xs : List Int) : Int := if vrB xs = true then degP (ix xs) xs.length else -2
theorem degP_top {F : Nat → Int} {k n : Nat} (hk : k ≤ n) (h0 : ∀ i, k ≤ i → i < n → wrap64 (dif F i 0) = 0) (h1 : k = 0 ∨ wrap64 (dif F (k - 1) 0) ≠ 0) : degP F n = (k : Int) - 1 := by
  induction n with
  | zero => have : k = 0 := by omega
            subst this; rfl
  | succ n ih =>
    by_cases e : k = n + 1
    · subst e
      rcases h1 with h1 | h1
      · omega
      · simp only [Nat.add_sub_cancel] at h1
        rw [degP, if_pos h1]; omega
    · rw [degP, if_neg (by simpa using h0 n (by omega) (by omega))]
      exact ih (by omega) (fun i a b => h0 i a (by omega))
theorem dif_succ (F : Nat → Int) (k j : Nat) : wrap64 (dif F (k + 1) j) = wrap64 (wrap64 (dif F k (j + 1)) - wrap64 (dif F k j)) := by rw [w64_sub]; rfl
theorem zero_on {F : Nat → Int} {k n : Nat} (h : ∀ j, k + j < n → wrap64 (dif F k j) = 0) : ∀ d j, k + d + j < n → wrap64 (dif F (k + d) j) = 0 := by
  intro d
  induction d with
  | zero => intro j hj; exact h j (by omega)
  | succ d ih =>
    intro j hj
    rw [show k + (d + 1) = (k + d) + 1 by omega, dif_succ, ih (j + 1) (by omega), ih j (by omega)]
    decide +kernel
theorem w64_range (z : Int) : -9223372036854775808 ≤ wrap64 z ∧ wrap64 z ≤ 9223372036854775807 := by unfold wrap64; omega
theorem const_on {F : Nat → Int} {k n : Nat} (h : ∀ j, k + 1 + j < n → wrap64 (dif F (k + 1) j) = 0) : ∀ j, k + j < n → wrap64 (dif F k j) = wrap64 (dif F k 0) := by
  intro j
  induction j with
  | zero => intro _; rfl
  | succ j ih =>
    intro hj
    rw [← ih (by omega)]
    have e := h j (by omega)
    rw [dif_succ] at e
    have a := w64_range (dif F k (j + 1))
    have b := w64_range (dif F k j)
    generalize wrap64 (dif F k (j + 1)) = p at *
    generalize wrap64 (dif F k j) = q at *
    unfold wrap64 at e; omega
/-- Behind a row of noughts the degree is known. -/
theorem deg_stop {F : Nat → Int} {k n : Nat} (hk : k ≤ n) (h0 : ∀ j, k + j < n → wrap64 (dif F k j) = 0) (h1 : k = 0 ∨ ∃ j, k - 1 + j < n ∧ wrap64 (dif F (k - 1) j) ≠ 0) : degP F n = (k : Int) - 1 := by
  refine degP_top hk (fun i hi hn => ?_) ?_
  · have := zero_on h0 (i - k) 0 (by omega)
    rwa [show k + (i - k) = i by omega] at this
  · rcases h1 with h1 | ⟨j, hj, hne⟩
    · exact .inl h1
    · right
      by_cases hk0 : k = 0
      · subst hk0; simp at hj hne ⊢; exact absurd (h0 j (by omega)) hne
      · rw [const_on (k := k - 1) (n := n) (by rw [show k - 1 + 1 = k by omega]; exact h0) j hj] at hne
        exact hne
theorem deg_done {F : Nat → Int} {n : Nat} (h1 : n = 0 ∨ ∃ j, n - 1 + j < n ∧ wrap64 (dif F (n - 1) j) ≠ 0) : degP F n = (n : Int) - 1 := by
  refine deg_stop (Nat.le_refl n) (fun j hj => by omega) h1

/-- DegreeOf on the way: k rounds are over, each over a row with a number other than 0. -/
def DegInv (E Be : Nat) (w : World) (xs : List Int) (k : Nat) (W : World) : Prop :=
  (k = 0 ∨ ∃ j, k - 1 + j < xs.length ∧ wrap64 (dif (ix xs) (k - 1) j) ≠ 0) ∧ Boxed W Be E (.int .i64 ((k : Int) - 1)) ∧ Below w.heap.size w W
theorem DegInv.put {E Be k : Nat} {w A : World} {xs : List Int} (h : DegInv E Be w xs k A) {l : Nat} {o : Obj} (o' : Obj) (hl : w.heap.size ≤ l) (hA : A.heap[l]? = some o) (ho : o.isCells = false) : DegInv E Be w xs k (A.putObj l o') := by
  obtain ⟨h0, h1, h3⟩ := h
  refine ⟨h0, h1.kept (grownBy_putObj' A l o') ?_, h3.grown (grownBy_putObj' A l o') h3.size (fun k e => by cases e; exact hl)⟩
  intro e
  injection e with e
  subst e
  rw [show A.heap[Be]? = _ from h1] at hA; cases hA; cases ho
theorem DegInv.below {E Be k : Nat} {w A B : World} {xs : List Int} (h : DegInv E Be w xs k A) (hb : Below A.heap.size A B) : DegInv E Be w xs k B := by
  obtain ⟨h0, h1, h3⟩ := h
  exact ⟨h0, (hb.block Be h1.lt).trans h1, bel_nxt h3 hb⟩
/-- DegreeOf where a row of noughts was met. -/
def DegEnd (E Be id : Nat) (w : World) (xs : List Int) (c : Code) (k : Nat) (W : World) : Prop :=
  c = .exit id ∧ 1 ≤ k ∧ (∀ j, k - 1 + j < xs.length → wrap64 (dif (ix xs) (k - 1) j) = 0) ∧ DegInv E Be w xs (k - 1) W

end Go.Proofs.YtagncoahobghpacGreatDoor

namespace Go.Proofs.YtagncoahobghpacGreatDoor
open Go.RowKit
set_option linter.unusedVariables false

theorem own_same {E B : Nat} {w w' : World} {v : Value} {xs : List Int} (h : Own E B w v xs) (hh : w'.heap = w.heap) : Own E B w' v xs := by
  obtain ⟨h1, h2⟩ := h
  refine ⟨h1, ?_⟩
  rw [hh]; exact h2

end Go.Proofs.YtagncoahobghpacGreatDoor

namespace Go.Proofs.YtagncoahobghpacGreatDoor
open Go.RowKit
set_option linter.unusedVariables false

theorem run_append_none {P : Program} {w : World} {base : Nat} {size : Nat} (t ty e : TypeId) (i : TypeInfo) (ht : P.underlying t = some (.slice e)) (hi : P.info? e = some i) (c : Nat)
    (v : Value) (n : Nat) (xs : List Value) (hown : w.ownsRow base e size v n xs) :
    (Builtin.append_ #[t, t] ty #[v, .slice none 0 c]).run P w = .ok v w := by
  rcases hown.2 with ⟨rfl, rfl⟩ | ⟨g, cap, cur, rfl, _, _, hnc, _⟩
  · simp [Builtin.append_, run_underlying ht, sizeOf, typeInfo, hi, Builtin.lenOf, Builtin.firstCells]
  · simp [Builtin.append_, run_underlying ht, sizeOf, typeInfo, hi, Builtin.lenOf, Builtin.firstCells, hnc, storeCells]

theorem run_append_rd {P : Program} {w : World} (B E : Nat) (t ty : TypeId) (ht : P.underlying t = some (.slice E)) (hinfo : (P.info? E).map (fun i => (i.zero, i.size, i.bytes)) = some (some (.int .i64 0), 1, 8))
    (v : Value) (xs : List Int) (hown : Own E B w v xs) (u : Value) (ys : List Int) (hrd : Rd w u ys) (hlen : xs.length + ys.length ≤ 16777216) (hbase : B ≤ w.heap.size) :
    ∃ v' w', (Builtin.append_ #[t, t] ty #[v, u]).run P w = .ok v' w' ∧ Own E B w' v' (xs ++ ys) ∧ w.grownBy w' v.ownBlock := by
  obtain ⟨i0, hi, hz0, hz1, hz2⟩ := info_parts hinfo
  obtain ⟨ad, cap, rfl, h⟩ := hrd
  have key : ∀ A : Addr, ad = some A → (∀ j y, (ys.map (Value.int .i64))[j]? = some y → w.cell? (A.add j) = some y) →
      ∃ v' w', (Builtin.append_ #[t, t] ty #[v, .slice ad ys.length cap]).run P w = .ok v' w' ∧ Own E B w' v' (xs ++ ys) ∧ w.grownBy w' v.ownBlock := by
    intro A hA hc
    subst hA
    obtain ⟨v', w', hr, h1, h2, _⟩ := run_append_own (P := P) w B t ty E i0 (.int .i64 0) 1 8 ht hi hz0 hz1 hz2 rfl (by decide) v xs.length _ hown A ys.length cap (ys.map (Value.int .i64)) (by simp) hc (ints_oneCell _ _) (by unfold maxLen; omega) (by omega) hbase
    refine ⟨v', w', hr, ?_, h2⟩
    unfold Own
    rw [List.length_append, List.map_append]
    exact h1
  rcases h with rfl | ⟨b, off, rfl, hb, hc⟩
  · cases ad with
    | some A => exact key A rfl (by simp)
    | none =>
      exact ⟨v, w, run_append_none t ty E i0 ht hi cap v xs.length _ hown, by rw [List.append_nil]; exact hown, World.grownBy.refl _ _⟩
  · exact key _ rfl (ints_cells hc)

theorem app_many {P : Program} {w : World} {ops : Array Oper} {rest : List Oper} {o : Oper} {a : Act} {Q : Exit → Act → World → Prop} (hgd : o.guard = none) (s x : Operand) (t : TypeId)
    (ho : o.op = .call { callee := .builtin .append, args := #[s, x], argTypes := #[t, t] })
    (B E : Nat) (ht : P.underlying t = some (.slice E)) (hinfo : (P.info? E).map (fun i => (i.zero, i.size, i.bytes)) = some (some (.int .i64 0), 1, 8))
    (v : Value) (xs : List Int) (hs : a.eval s = v) (hown : Own E B w v xs) (u : Value) (ys : List Int) (hx : a.eval x = u) (hrd : Rd w u ys)
    (hlen : xs.length + ys.length ≤ 16777216) (hbase : B ≤ w.heap.size)
    (h : ∀ v' w', Own E B w' v' (xs ++ ys) → w.grownBy w' v.ownBlock → wpList P ops Q rest (a.put o.dst v') w') : wpList P ops Q (o :: rest) a w := by
  refine wpList_plain hgd fun K hK => ?_
  obtain ⟨v', w', hrun, h1, h2⟩ := run_append_rd (P := P) B E t o.type ht hinfo v xs hown u ys hrd hlen hbase
  unfold Oper.wp
  simp [execOp, ho, resolve, invoke, builtin, hs, hx, hrun, Result.andThen]
  exact hK _ _ (h v' w' h1 h2)

theorem Rd.alloc {w : World} {v : Value} {xs : List Int} (h : Rd w v xs) (o : Obj) : Rd (w.alloc o) v xs := h.below ((Below.refl w.heap.size w).alloc (Nat.le_refl _) o) (Nat.le_refl _)
end Go.Proofs.YtagncoahobghpacGreatDoor

namespace Go.Proofs.YtagncoahobghpacGreatDoor
open Go.RowKit
set_option linter.unusedVariables false
set_option linter.unusedSimpArgs false
set_option maxRecDepth 100000

/-- edge on the way: k numbers are out, the kth row, of m numbers, is at hand. -/
def EdgeS (E : Nat) (w : World) (xs : List Int) (k m : Nat) (out now : Value) (wr : World) : Prop :=
  ∃ B, w.heap.size ≤ B ∧ B ≤ wr.heap.size ∧ Own E w.heap.size wr out (tab k fun i => wrap64 (dif (ix xs) i 0)) ∧ (∀ j, out.ownBlock = some j → j < B) ∧ Own E B wr now (tab m fun j => wrap64 (dif (ix xs) k j)) ∧ Below w.heap.size w wr
theorem apart_of {E B : Nat} {w : World} {out now : Value} {ys : List Int} (h : ∀ j, out.ownBlock = some j → j < B) (o : Own E B w now ys) : now.ownBlock = none ∨ now.ownBlock ≠ out.ownBlock := by
  cases hn : now.ownBlock with
  | none => exact .inl rfl
  | some k => right; intro e; have := h k e.symm; have := (World.ownsRow.lt o k hn).1; omega
theorem own_slice {E B : Nat} {w : World} {v : Value} {xs : List Int} (h : Own E B w v xs) : ∃ a cap, v = .slice a xs.length cap := by
  rcases h.shape with ⟨rfl, rfl⟩ | ⟨g, cap, rfl, _⟩
  · exact ⟨none, 0, rfl⟩
  · exact ⟨_, _, rfl⟩
theorem grown_below {a b : World} {r : Option Nat} (h : a.grownBy b r) {B : Nat} (hB : B ≤ a.heap.size) (hr : ∀ k, r = some k → B ≤ k) : Below B a b := (Below.refl B a).grown h hB hr

set_option maxHeartbeats 4000000 in
theorem specedge_any (v : Value) (xs : List Int) (w : World) (h : Rd w v xs) (hx : xs.length ≤ 1048576) (hw : ∀ n ∈ xs, (Lit.int .i64 n).wf = true) :
    Calls Tryz.prog 32 #[v] w (Made 3 w (edgeL xs)) := by
  have h0 := h
  obtain ⟨ad, cap, rfl, -⟩ := h0
  have hR := (h.alloc (.cells #[] 3)).alloc (.cells #[] 3)
  have hO0 := (own_empty 3 w.heap.size w (Nat.le_refl _)).grow (.cells #[] 3)
  go_enter Tryz.func32, Tryz.ntmps32
  have hN0 := own_empty 3 (w.heap.size + 1) (w.alloc (.cells #[] 3)) (by simp)
  rw [World.size_alloc] at hN0
  go_wp2_with (at_builtin; refine app_many rfl _ _ 35 rfl (w.heap.size + 1) 3 Tryz.underlying35 infoInt _ _ rfl hN0 _ xs rfl hR ?c1 ?c2 ?_)
  case c1 => simp; omega
  case c2 => simp
  intro v1 w1 o1 g1
  have b1 : Below w.heap.size w w1 := (((Below.refl w.heap.size w).alloc (Nat.le_refl _) _).alloc (by simp) _).grown g1 (by simp; omega) (by intro q hq; simp [Value.ownBlock] at hq; omega)
  have hs1 := g1.size
  simp only [World.size_alloc] at hs1
  have hI : EdgeS 3 w xs 0 xs.length (.slice (some ⟨w.heap.size, 0, none⟩) 0 0) v1 w1 := by
    refine ⟨w.heap.size + 1, by omega, by omega, hO0.kept g1 (.inr (by simp [Value.ownBlock])), fun j hj => by simp [Value.ownBlock] at hj; omega, ?_, b1⟩
    rwa [tab_congr (g := fun j => ix xs j) (fun j _ => (dif_first hw j).symm), tab_self]
  obtain ⟨a1, c1, rfl⟩ := own_slice (E := 3) (B := w.heap.size + 1) (w := w1) (v := v1) (xs := xs) (by simpa using o1)
  clear o1 g1 b1 hs1 hO0 hN0 hR h
  go_wp2
  go_loopw [3, 4] (fun out now wr => ∃ k m a cap, now = .slice a m cap ∧ k + m = xs.length ∧ EdgeS 3 w xs k m out now wr) (fun _ now _ => match now with | .slice _ m _ => m | _ => 0)
  case atStart => exact ⟨0, xs.length, _, _, rfl, by omega, hI⟩
  case round =>
    obtain ⟨k, m, a, cp, rfl, hkm, B, hB1, hB2, hO, hlt, hN, hB⟩ := hrel
    clear hI
    by_cases hm : 0 < m
    · obtain ⟨g, c, hv, hg, hgs⟩ := hN.form (by intro e; have := congrArg List.length e; simp at this; omega)
      simp only [Value.slice.injEq, len_tab, true_and] at hv
      obtain ⟨rfl, rfl⟩ := hv
      have hc0 := hN.cell 0 (by simpa using hm)
      rw [ix_tab _ _ _ hm] at hc0
      have hmi : (0 : Int) < (m : Int) := by omega
      have hap := apart_of hlt hN
      obtain ⟨z, hz⟩ : ∃ z, z = wrap64 (dif (ix xs) k 0) := ⟨_, rfl⟩
      rw [← hz] at hc0
      have HZ := Lib.hid hz
      clear hz
      go_wp2_with (at_builtin; refine app_int rfl _ _ 35 rfl w.heap.size 3 Tryz.underlying35 infoInt _ _ rfl (hO.grow _) ⟨wr.heap.size, 0, none⟩ rfl z ?c1 ?c2 ?c3 ?_)
      case c1 => exact cell_new1 _ _ _
      case c2 => simp; omega
      case c3 => have := hB.size; simp; omega
      intro out' w2 hO' hg'
      have hB' := app_below hB hO hg'
      rw [tab_snoc _ _ _ HZ.out] at hO'
      have hN2 := (hN.grow (.cells #[.int .i64 z] 3)).kept hg' hap
      have hcs : ∀ j, j < m → w2.cell? ⟨g, j, none⟩ = some (.int .i64 (wrap64 (dif (ix xs) k j))) := fun j hj => by rw [hN2.cell j (by simpa using hj), ix_tab _ _ _ hj]
      have hg2 : g < w2.heap.size := by have := hg'.size; simp at this; omega
      have hlt2 : ∀ j, out'.ownBlock = some j → j < w2.heap.size := fun j hj => (World.ownsRow.lt hO' j hj).2
      have hs2 := hB'.size
      have HCS := Lib.hid hcs
      have HO := Lib.hid hO'
      have HB := Lib.hid hB'
      have HLT := Lib.hid hlt2
      clear hO hN hB hc0 hap hO' hg' hB' hN2 hcs hlt hlt2 hB1 hB2 hgs hg HZ
      go_wp2
      have hE := own_empty 3 w2.heap.size w2 (Nat.le_refl _)
      have hEB : Below w2.heap.size w2 (w2.alloc (.cells #[] 3)) := (Below.refl _ _).alloc (Nat.le_refl _) _
      go_loopw [5, 6] (fun nx i wr => ∃ p : Nat, p + 1 ≤ m ∧ i = .int .i64 ((p + 1 : Nat) : Int) ∧ Own 3 w2.heap.size wr nx (tab p fun j => wrap64 (dif (ix xs) (k + 1) j)) ∧ Below w2.heap.size w2 wr) (fun _ i _ => m - (intOf i).toNat)
      case atStart => exact ⟨0, by omega, by simp, hE, hEB⟩
      case round =>
        obtain ⟨p, hp, rfl, hOn, hBn⟩ := hrel
        clear hE hEB
        by_cases hpl : p + 1 < m
        · have hcx : wr.cell? ⟨g, p + 1, none⟩ = some (.int .i64 (wrap64 (dif (ix xs) k (p + 1)))) := (hBn.cell (p := ⟨g, p + 1, none⟩) hg2).trans (HCS.out (p + 1) hpl)
          have hcy : wr.cell? ⟨g, p, none⟩ = some (.int .i64 (wrap64 (dif (ix xs) k p))) := (hBn.cell (p := ⟨g, p, none⟩) hg2).trans (HCS.out p (by omega))
          have HD := Lib.hid (dif_succ (ix xs) k p)
          obtain ⟨z1, hz1⟩ : ∃ z, z = wrap64 (dif (ix xs) k (p + 1)) := ⟨_, rfl⟩
          obtain ⟨z0, hz0⟩ : ∃ z, z = wrap64 (dif (ix xs) k p) := ⟨_, rfl⟩
          have hdz : wrap64 (z1 - z0) = wrap64 (dif (ix xs) (k + 1) p) := by rw [HD.out, hz1, hz0]
          rw [← hz1] at hcx
          rw [← hz0] at hcy
          have HDZ := Lib.hid hdz
          clear hdz hz1 hz0 HD
          have i1 : (0 : Int) ≤ (p : Int) + 1 := by omega
          have i2 : (p : Int) + 1 < (m : Int) := by omega
          have i3 : (0 : Int) ≤ (p : Int) := by omega
          have i4 : (p : Int) < (m : Int) := by omega
          have i5 : IntKind.i64.wrap (p : Int) = (p : Int) := IntWalk.i64_in _ (by omega)
          have i6 : ((p : Int) + 1).toNat = p + 1 := by omega
          have i7 : IntKind.i64.wrap (z1 - z0) = wrap64 (z1 - z0) := IntWalk.i64_left _
          have HP : Hid (p + 1 < m ∧ m ≤ 1048576) := ⟨hpl, by omega⟩
          clear hp hpl
          go_wp2
          have HOn := Lib.hid hOn
          have HBn := Lib.hid hBn
          clear hOn hBn
          go_region_law (refine step_app_int wr rfl (.tmp 27) (.tmp 38) 35 rfl w2.heap.size 3 Tryz.underlying35 infoInt _ _ (by simp [Act.eval, Act.put]) HOn.out (grown_alloc_drew _ _) ⟨wr.heap.size, 0, none⟩ (by simp [Act.eval, Act.put]) (wrap64 (z1 - z0)) (cell_new1 _ _ _) (by have := HP.out; simp; omega) HBn.out.size ?_; intro v' w' hO' hg')
          all_goals
            have hB' := app_below0 HBn.out HOn.out hg'
            rw [tab_snoc p _ _ HDZ.out] at hO'
            obtain ⟨hn1, hn2⟩ := HP.out
            clear HOn HBn hg' i5 i6 i7
            go_wp2
            go_roundw
            case rel => exact ⟨p + 1, by omega, by go_num, hO', hB'⟩
            case measure => simp [intOf]; omega
        · have hpm : p + 1 = m := by omega
          obtain ⟨a3, c3, rfl⟩ := own_slice hOn
          rw [len_tab] at hOn ⊢
          clear HCS
          go_wp2
          go_roundw
          case rel => exact ⟨k + 1, p, _, _, rfl, by omega, w2.heap.size, hs2, hBn.size, HO.out.below hBn (Nat.le_refl _), HLT.out, hOn, bel_nxt HB.out hBn⟩
          case measure => simp; omega
    · obtain rfl : m = 0 := by omega
      have hk : k = xs.length := by omega
      go_wp2
      go_ret
      refine ⟨_, rfl, ?_, hB⟩
      unfold edgeL
      rw [← hk]; exact hO

end Go.Proofs.YtagncoahobghpacGreatDoor
