/-
  EdgeOf of the program, by its contract.
-/
import Derived.Test.YtpalmbcknjmmcaaDifs
namespace Go.Proofs.Ytpalmbcknjmmcaa
open Go.RowKit
set_option linter.unusedVariables false
attribute [local go_sem] Oper.semAt_some wide_fn wide_depth wide_round

def edgeL (xs : List Int) : List Int := tab xs.length fun k => wrap64 (dif (ix xs) k 0)

theorem Diff.put {xs : List Int} {k m : Nat} {v : Value} {W : World} (h : Diff xs k m v W) {l : Nat} {o : Obj} (o' : Obj) (hl : W.heap[l]? = some o) (ho : o.isCells = false) : Diff xs k m v (W.putObj l o') := by
  obtain ⟨g, off, n, cap, rfl, h1, h2, h3⟩ := h
  exact ⟨g, off, n, cap, rfl, h1, h2, fun j hj => cell_kept (h3 j hj) (grownBy_putObj' W l o') (fun r e => by cases e; exact ⟨o, hl, ho⟩)⟩

/-- EdgeOf on the way: k rounds are over. -/
def EdgeInv (E T Be : Nat) (w : World) (xs : List Int) (k : Nat) (W : World) : Prop :=
  ∃ ve, Boxed W Be T ve ∧ Own E w.heap.size W ve (tab k fun i => wrap64 (dif (ix xs) i 0)) ∧ Below w.heap.size w W
theorem EdgeInv.put {E T Be k : Nat} {w A : World} {xs : List Int} (h : EdgeInv E T Be w xs k A) {l : Nat} {o : Obj} (o' : Obj) (hl : w.heap.size ≤ l) (hA : A.heap[l]? = some o) (ho : o.isCells = false) : EdgeInv E T Be w xs k (A.putObj l o') := by
  obtain ⟨ve, h1, h2, h3⟩ := h
  refine ⟨ve, h1.kept (grownBy_putObj' A l o') ?_, ownsRow_putObj h2 o' hA ho, h3.grown (grownBy_putObj' A l o') h3.size (fun k e => by cases e; exact hl)⟩
  intro e
  injection e with e
  subst e
  rw [show A.heap[Be]? = _ from h1] at hA; cases hA; cases ho
theorem EdgeInv.below {E T Be k : Nat} {w A B : World} {xs : List Int} (h : EdgeInv E T Be w xs k A) (hb : Below A.heap.size A B) : EdgeInv E T Be w xs k B := by
  obtain ⟨ve, h1, h2, h3⟩ := h
  exact ⟨ve, (hb.block Be h1.lt).trans h1, h2.below hb (Nat.le_refl _), bel_nxt h3 hb⟩

theorem own_succ {E B n : Nat} {w : World} {v : Value} {f : Nat → Int} (h : Own E B w v (tab (n + 1) f)) : ∃ g cap, v = .slice (some ⟨g, 0, none⟩) (n + 1) cap := by
  unfold Own at h
  rw [len_tab] at h
  exact ownsRow_succ h
/-- Behind the append and the store of a round. -/
theorem edge_step {E T Be k m gx off n cx : Nat} {w W WD w5 : World} {xs : List Int} {ve v' : Value} {z : Int} (hTE : T ≠ E) (hv : Boxed WD Be T ve) (hrow : Own E w.heap.size WD ve (tab k fun i => wrap64 (dif (ix xs) i 0))) (hB : Below w.heap.size w WD)
    (hG : Diff xs k m (.slice (some ⟨gx, off, none⟩) n cx) WD) (hBw : w.heap.size ≤ Be) (hBe : Be < m) (hlt : ∀ j, ve.ownBlock = some j → j < m) (hc : WD.cell? ⟨gx, off, none⟩ = some (.int .i64 z)) (hKO : KeepsOthers W WD)
    (h1 : Own E w.heap.size w5 v' (tab (k + 1) fun i => wrap64 (dif (ix xs) i 0))) (h2 : WD.grownBy w5 ve.ownBlock) :
    Boxed w5 Be T ve ∧ w5.cell? ⟨gx, off, none⟩ = some (.int .i64 z) ∧ (w5.setCell ⟨Be, 0, none⟩ v').cell? ⟨gx, off, none⟩ = some (.int .i64 z) ∧ KeepsOthers W (w5.setCell ⟨Be, 0, none⟩ v') ∧
      Diff xs k m (.slice (some ⟨gx, off, none⟩) n cx) (w5.setCell ⟨Be, 0, none⟩ v') ∧ EdgeInv E T Be w xs (k + 1) (w5.setCell ⟨Be, 0, none⟩ v') := by
  obtain ⟨g', off', n', c', he, hn, hm, hcs⟩ := hG
  simp only [Value.slice.injEq, Option.some.injEq, Addr.mk.injEq, and_true] at he
  obtain ⟨⟨rfl, rfl⟩, rfl, rfl⟩ := he
  have hne : Be ≠ gx := by omega
  have hgne : ve.ownBlock ≠ some gx := fun e => by have := hlt gx e; omega
  have hv5 : Boxed w5 Be T ve := hv.kept h2 (hv.not_row hTE hrow)
  have hc5 : ∀ (j : Nat) (u : Value), WD.cell? ⟨gx, j, none⟩ = some u → w5.cell? ⟨gx, j, none⟩ = some u := fun j u h => h2.cell h (by exact fun e => hgne e.symm)
  have hcs5 : ∀ (j : Nat) (u : Value), WD.cell? ⟨gx, j, none⟩ = some u → (w5.setCell ⟨Be, 0, none⟩ v').cell? ⟨gx, j, none⟩ = some u := fun j u h => by
    rw [World.cell?_of_block (w := w5) (Below.heap_setCell _ _ _ _ (by exact fun e => hne e.symm))]; exact hc5 j u h
  refine ⟨hv5, hc5 _ _ hc, hcs5 _ _ hc, ?_, ⟨gx, off, n, cx, rfl, hn, hm, fun j hj => hcs5 _ _ (hcs j hj)⟩, v', hv5.set v', ?_, ?_⟩
  · refine (hKO.trans (KeepsOthers.of_grownBy h2 fun j o ej hj => ?_)).trans (KeepsOthers.setCell _ _ _)
    rcases hrow.2 with ⟨rfl, _⟩ | ⟨g, cap, cur, rfl, _, hgb, _⟩
    · simp [Value.ownBlock] at ej
    · obtain rfl : g = j := by simpa [Value.ownBlock] using ej
      rw [hgb] at hj; cases hj; rfl
  · exact World.ownsRow.kept h1 (grownBy_setCell' w5 Be v') (.inr (hv5.not_row hTE h1).symm)
  · refine (hB.grown h2 hB.size fun j ej => ?_).setCell (p := ⟨Be, 0, none⟩) hBw v'
    rcases hrow.2 with ⟨rfl, _⟩ | ⟨g, cap, cur, rfl, hb, _, _⟩
    · simp [Value.ownBlock] at ej
    · obtain rfl : g = j := by simpa [Value.ownBlock] using ej
      exact hb

set_option maxHeartbeats 2000000 in
set_option maxRecDepth 100000 in
theorem edge_in (v : Value) (xs : List Int) (w : World) (h : Rd w v xs) (hb : vrB xs = true) (hw : ∀ n ∈ xs, (Lit.int .i64 n).wf = true) :
    CallsIn Fence.wide 5 Try.prog 14 #[v] w (Made 3 w (edgeL xs)) := by
  have hx := (vrB_of hb).1
  have hM : xs.length ≤ maxLen := by unfold maxLen; omega
  have hv := implValid_any v xs w h hM
  rw [hb] at hv
  have HV := Lib.hid (callsIn_wide (n := 4).2 hv)
  have h0 := h
  obtain ⟨a, cap, rfl, -⟩ := h0
  have HD := Lib.hid fun w => callsIn_wide (n := 4).2 (diffRows_any a xs.length cap w)
  obtain ⟨i0, hi, hz0, hz1, hz2⟩ := info_parts infoInt
  clear hb hv hM
  refine callsIn_of_wp_marks Try.func14 rfl trivial ?_ rfl
  simp only [Try.ntmps14, List.size_toArray, List.length_cons, List.length_nil, Nat.reduceAdd, Nat.reduceSub, Array.replicate_succ, Array.replicate_zero, List.push_toArray, List.append_toArray, List.nil_append, List.cons_append]
  gi_wp2_with (first
    | (gi_at_call 17; refine HV.out.mono ?_; rintro e w1 ⟨rfl, b1⟩)
    | (gi_at_make; refine wpListIn_make_own _ rfl _ _ 23 rfl w.heap.size 3 i0 (.int .i64 0) 1 Try.underlying23 hi hz0 hz1 _ _ _ xs.length rfl rfl rfl ?c1 ?c2 ?c3 ?_))
  case c1 => rw [hz2]; omega
  case c2 => unfold maxLen; omega
  case c3 => exact b1.size
  intro w2 hown hgrow
  have b2 := b1.grown hgrow b1.size (by simp)
  clear hgrow
  generalize w1.heap.size = g at hown ⊢
  gi_wp2_with fail
  obtain ⟨Be, hBe⟩ : ∃ Be, Be = w2.heap.size := ⟨_, rfl⟩
  obtain ⟨wB, hwB⟩ : ∃ wB, wB = w2.alloc (.cells #[.slice (some ⟨g, 0, none⟩) 0 xs.length] 23) := ⟨_, rfl⟩
  have hI : EdgeInv 3 23 Be w xs 0 wB := by
    rw [hwB, hBe]
    exact ⟨_, Boxed.new w2 _ _, hown.alloc _, b2.alloc b2.size _⟩
  have hBw : w.heap.size ≤ Be := by rw [hBe]; exact b2.size
  have hR := h.below (B := w.heap.size) (w' := wB) (by rw [hwB]; exact b2.alloc b2.size _) (Nat.le_refl _)
  rw [← hwB, ← hBe]
  clear hwB hBe hown b1 b2 h HV
  refine (HD.out _).mono ?_
  rintro e wC ⟨rfl, rfl⟩
  gi_wp2_with fail
  have hIC : EdgeInv 3 23 Be w xs 0 (wB.alloc (.cells #[.slice a xs.length cap] 23)) := hI.below ((Below.refl _ _).alloc (Nat.le_refl _) _)
  have hRC := hR.below (w' := wB.alloc (.cells #[.slice a xs.length cap] 23)) ((Below.refl _ _).alloc (Nat.le_refl _) _) (Nat.le_refl _)
  have hHands := diffs_hands 4 (.slice a xs.length cap) xs wB.heap.size (wB.alloc (.cells #[.slice a xs.length cap] 23)) (by omega) hw (by rw [World.size_alloc]; omega)
    (by rw [World.cell?_alloc_at _ _ _ _ rfl]; rfl) hRC
  have hwC : w.heap.size ≤ (wB.alloc (.cells #[.slice a xs.length cap] 23)).heap.size := by obtain ⟨_, _, _, h⟩ := hIC; exact h.size
  refine wpIn_hands rfl (fun h => by cases h) (gf := 83) (lb := #[.pointer (some ⟨wB.heap.size, 0, none⟩)]) rfl trivial (enters_of Try.func83 (by kernel_rfl) rfl)
    hHands (fun k m v W l o o' hg hl ho => hg.put o' hl ho) (Below.refl _ _) rfl (fun k W => EdgeInv 3 23 Be w xs k W) (fun _ _ _ => False)
    (fun k A l o o' h hl hA ho => h.put o' (Nat.le_trans hwC hl) hA ho) (fun k A B h hb => h.below hb) (fun c k A l o o' h _ _ _ => h) hIC
    (fun x => { tmps := #[.slice a xs.length cap, undef, .slice none 0 0, .pointer (some ⟨Be, 0, none⟩), x, .slice a xs.length cap, .bool true, .bool false, .slice a xs.length cap, .int .i64 xs.length, .slice (some ⟨g, 0, none⟩) 0 xs.length, .slice a xs.length cap, .func (.func 83) #[] #[.pointer (some ⟨wB.heap.size, 0, none⟩)], x, undef, undef, undef, undef, undef, undef, undef], defers := [] }) ?assign ?body ?done ?stop
  case assign =>
    intro l x W K hK
    gi_wp2
    exact hK
  case body =>
    rintro l k x A W hkn hIA hA0 hAW hG
    obtain ⟨gx, off, n, cx, rfl, hn, hgx, hcx⟩ := hG
    have hc0 := hcx 0 (by omega)
    rw [Nat.add_zero] at hc0
    obtain ⟨ve, hv, hrow, hB⟩ := hIA
    have hvD : Boxed W.drew Be 23 ve := (hAW.block Be hv.lt).trans hv
    have hrowD := (hrow.below hAW (Nat.le_refl _)).drew
    have hBD := (bel_nxt hB hAW).drew
    have hB0 := hBD.size
    have hGD : Diff xs k A.heap.size (.slice (some ⟨gx, off, none⟩) n cx) W.drew := ⟨gx, off, n, cx, rfl, hn, hgx, hcx⟩
    have hcD : W.drew.cell? ⟨gx, off, none⟩ = some (.int .i64 (wrap64 (dif (ix xs) k 0))) := hc0
    have hlt : ∀ j, ve.ownBlock = some j → j < A.heap.size := fun j hj => (World.ownsRow.lt hrow j hj).2
    obtain ⟨z, hz⟩ : ∃ z, z = wrap64 (dif (ix xs) k 0) := ⟨_, rfl⟩
    rw [← hz] at hcD
    have HZ := Lib.hid hz
    clear hz
    have hnn : 0 < n := by omega
    have hni : (0 : Int) < (n : Int) := by omega
    have hBe1 := hv.lt
    have hKO := KeepsOthers.drew W
    gi_wp2
    refine region_round (S := fun w' => w'.cell? ⟨gx, off, none⟩ = some (.int .i64 z)) (by kernel_rfl) (by kernel_rfl) (by rintro ⟨a, w, h⟩; exact h) hcD (fun hHeld => ?_)
    generalize W.drew = WD at hvD hrowD hBD hB0 hGD hcD hHeld hKO ⊢
    have hedge := fun {v' : Value} {w5 : World} (h1 : Own 3 w.heap.size w5 v' (tab (k + 1) fun i => wrap64 (dif (ix xs) i 0))) (h2 : WD.grownBy w5 ve.ownBlock) => edge_step (T := 23) (by decide) hvD hrowD hBD hGD hBw hBe1 hlt hcD hKO h1 h2
    clear hAW hcx hc0 hv hrow hB
    change wpAnyH _ _ _ _ _ _ _ _ _
    refine wpAnyH_take (i := 1) (v := ?v1) rfl (by kernel_rfl) (by kernel_rfl) (by kernel_rfl) (fun _ _ _ h => h) (Or.inl ⟨by rfl, ?y1⟩) hHeld ?_
    case y1 => (intro w hSw; (try dsimp only at hSw); go_simp; try with_reducible rfl)
    go_simp
    refine wpAnyH_take (i := 2) (v := ?v2) rfl (by kernel_rfl) (by kernel_rfl) (by kernel_rfl) (fun _ _ _ h => h) (Or.inl ⟨by rfl, ?y2⟩) hHeld ?_
    case y2 => (intro w hSw; (try dsimp only at hSw); go_simp; try with_reducible rfl)
    go_simp
    refine wpAnyH_take (i := 3) (v := ?v3) rfl (by kernel_rfl) (by kernel_rfl) (by kernel_rfl) (fun _ _ _ h => h) (Or.inl ⟨by rfl, ?y3⟩) hHeld ?_
    case y3 => (intro w hSw; (try dsimp only at hSw); go_simp; try with_reducible rfl)
    go_simp
    clear hHeld
    have hvc := hvD.cell
    have hva : (WD.alloc (.cells #[.int .i64 z] 3)).cell? ⟨Be, 0, none⟩ = some ve := (hvD.alloc _).cell
    have hca : (WD.alloc (.cells #[.int .i64 z] 3)).cell? ⟨gx, off, none⟩ = some (.int .i64 z) := ((Below.refl WD.heap.size WD).alloc (Nat.le_refl _) _).cell (p := ⟨gx, off, none⟩) (World.block_lt_of_cell? WD _ hcD) |>.trans hcD
    refine wpAnyH_ready (rs := [0, 4]) (by kernel_rfl) (by simp) ?_
    refine AllReadyH.cons rfl (fun K hK => ?_) (AllReadyH.cons rfl (fun K hK => ?_) AllReadyH.nil)
    · go_simp
      refine hK.out _ _ hcD (fun hHeld => ?_)
      clear hK K hHeld
      refine wpAnyH_ready (rs := [4]) (by kernel_rfl) (by simp) ?_
      refine AllReadyH.cons rfl (fun K hK => ?_) AllReadyH.nil
      go_simp
      refine hK.out _ _ hca (fun hHeld => ?_)
      clear hK K hHeld
      refine wpAnyH_ready (rs := [5]) (by kernel_rfl) (by simp) ?_
      refine AllReadyH.cons rfl (fun K hK => ?_) AllReadyH.nil
      refine step_app_int WD rfl (.tmp 14) (.tmp 18) 23 rfl w.heap.size 3 Try.underlying23 infoInt ve _ rfl hrowD (World.grownBy_alloc WD _ none) ⟨WD.heap.size, 0, none⟩ rfl z (cell_new1 _ _ _) (by rw [len_tab]; omega) hB0 ?_
      intro v' w5 hO5 hg5
      rw [tab_snoc _ _ _ HZ.out] at hO5
      obtain ⟨gv, cv, rfl⟩ := own_succ hO5
      obtain ⟨f1, f2, f3, f4, f5, f6⟩ := hedge hO5 hg5
      simp only [Act.put, List.setIfInBounds_toArray, List.set_cons_zero, List.set_cons_succ]
      refine hK.out _ _ f2 (fun hHeld => ?_)
      clear hK K hHeld
      refine wpAnyH_ready (rs := [6]) (by kernel_rfl) (by simp) ?_
      refine AllReadyH.cons rfl (fun K hK => ?_) AllReadyH.nil
      have f1c := f1.cell
      have f1f := f1.frozen
      go_simp
      refine hK.out _ _ f3 (fun hHeld => ?_)
      clear hK K hHeld
      refine wpAnyH_done (by kernel_rfl) ?_ _
      exact ⟨f4, f5, f6⟩
    · go_simp
      refine hK.out _ _ hca (fun hHeld => ?_)
      clear hK K hHeld
      refine wpAnyH_ready (rs := [0]) (by kernel_rfl) (by simp) ?_
      refine AllReadyH.cons rfl (fun K hK => ?_) AllReadyH.nil
      go_simp
      refine hK.out _ _ hca (fun hHeld => ?_)
      clear hK K hHeld
      refine wpAnyH_ready (rs := [5]) (by kernel_rfl) (by simp) ?_
      refine AllReadyH.cons rfl (fun K hK => ?_) AllReadyH.nil
      refine step_app_int WD rfl (.tmp 14) (.tmp 18) 23 rfl w.heap.size 3 Try.underlying23 infoInt ve _ rfl hrowD (World.grownBy_alloc WD _ none) ⟨WD.heap.size, 0, none⟩ rfl z (cell_new1 _ _ _) (by rw [len_tab]; omega) hB0 ?_
      intro v' w5 hO5 hg5
      rw [tab_snoc _ _ _ HZ.out] at hO5
      obtain ⟨gv, cv, rfl⟩ := own_succ hO5
      obtain ⟨f1, f2, f3, f4, f5, f6⟩ := hedge hO5 hg5
      simp only [Act.put, List.setIfInBounds_toArray, List.set_cons_zero, List.set_cons_succ]
      refine hK.out _ _ f2 (fun hHeld => ?_)
      clear hK K hHeld
      refine wpAnyH_ready (rs := [6]) (by kernel_rfl) (by simp) ?_
      refine AllReadyH.cons rfl (fun K hK => ?_) AllReadyH.nil
      have f1c := f1.cell
      have f1f := f1.frozen
      go_simp
      refine hK.out _ _ f3 (fun hHeld => ?_)
      clear hK K hHeld
      refine wpAnyH_done (by kernel_rfl) ?_ _
      exact ⟨f4, f5, f6⟩
  case done =>
    rintro D A W hD hIW hK
    obtain ⟨ve, hv, hrow, hB⟩ := hIW
    have hvc := hv.cell
    gi_wp2
    refine ⟨by simp, .inl ⟨_, _, rfl, run_takeDeferred hK, ?_⟩⟩
    exact ⟨_, results_tmp rfl _ _ _, ve, rfl, ownsRow_putObj hrow _ hK rfl, hB.grown (grownBy_putObj' W D _) hB.size (fun k e => by cases e; exact Nat.le_trans hwC hD)⟩
  case stop =>
    rintro D c k W _ _ h _
    exact h.elim

def edgeF (xs : List Int) : List Int := if vrB xs = true then edgeL xs else []
theorem edgeF_len (xs : List Int) (h : xs.length ≤ 1048576) : (edgeF xs).length ≤ 1048576 := by unfold edgeF; split <;> simp [edgeL, h]

theorem implEdgeOf_any (v : Value) (xs : List Int) (w : World) (h : Rd w v xs) (hl : xs.length ≤ maxLen) (hw : ∀ n ∈ xs, (Lit.int .i64 n).wf = true) :
    Calls Try.prog 14 #[v] w (Made 3 w (edgeF xs)) := by
  cases hb : vrB xs with
  | true =>
    rw [show edgeF xs = edgeL xs by unfold edgeF; exact if_pos hb]
    exact callsIn_wide.1 (edge_in v xs w h hb hw)
  | false =>
    have hv := implValid_any v xs w h hl
    rw [hb] at hv
    have hF : Hid (edgeF xs = []) := by unfold edgeF; exact if_neg (by simp [hb])
    clear hb hw
    go_enter Try.func14, Try.ntmps14
    go_wp2_with fail
    refine hv.mono ?_
    rintro e w1 ⟨rfl, b1⟩
    go_wp2
    go_ret
    exact ⟨_, rfl, by rw [hF.out]; exact Own.nil _ _ _, b1⟩

end Go.Proofs.Ytpalmbcknjmmcaa
