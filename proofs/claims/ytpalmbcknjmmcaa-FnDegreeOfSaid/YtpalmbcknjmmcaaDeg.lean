/-
  DegreeOf of the program, by its contract.
-/
import Derived.Test.YtpalmbcknjmmcaaEdge
import Derived.WalkMore
namespace Go.Proofs.Ytpalmbcknjmmcaa
open Go.RowKit
set_option linter.unusedVariables false
attribute [local go_sem] Oper.semAt_some wide_fn wide_depth wide_round

/-- The last index ahead of m at which the edge is not 0. -/
def degP (F : Nat → Int) : Nat → Int
  | 0 => -1
  | m + 1 => if wrap64 (dif F m 0) ≠ 0 then (m : Int) else degP F m
def degF (xs : List Int) : Int := if vrB xs = true then degP (ix xs) xs.length else -2
theorem degP_top {F : Nat → Int} {k n : Nat} (hk : k ≤ n) (h0 : ∀ i, k ≤ i → i < n → wrap64 (dif F i 0) = 0) (h1 : k = 0 ∨ wrap64 (dif F (k - 1) 0) ≠ 0) : degP F n = (k : Int) - 1 := by
  induction n with
  | zero => have : k = 0 := by omega
            subst this; rfl
  | succ n ih =>
    by_cases e : k = n + 1
    · subst e
      rcases h1 with h1 | h1
      · omega
      · simp only [Nat.add_sub_cancel] at h1
        rw [degP, if_pos h1]; omega
    · rw [degP, if_neg (by simpa using h0 n (by omega) (by omega))]
      exact ih (by omega) (fun i a b => h0 i a (by omega))
theorem dif_succ (F : Nat → Int) (k j : Nat) : wrap64 (dif F (k + 1) j) = wrap64 (wrap64 (dif F k (j + 1)) - wrap64 (dif F k j)) := by rw [w64_sub]; rfl
theorem zero_on {F : Nat → Int} {k n : Nat} (h : ∀ j, k + j < n → wrap64 (dif F k j) = 0) : ∀ d j, k + d + j < n → wrap64 (dif F (k + d) j) = 0 := by
  intro d
  induction d with
  | zero => intro j hj; exact h j (by omega)
  | succ d ih =>
    intro j hj
    rw [show k + (d + 1) = (k + d) + 1 by omega, dif_succ, ih (j + 1) (by omega), ih j (by omega)]
    decide +kernel
theorem w64_range (z : Int) : -9223372036854775808 ≤ wrap64 z ∧ wrap64 z ≤ 9223372036854775807 := by unfold wrap64; omega
theorem const_on {F : Nat → Int} {k n : Nat} (h : ∀ j, k + 1 + j < n → wrap64 (dif F (k + 1) j) = 0) : ∀ j, k + j < n → wrap64 (dif F k j) = wrap64 (dif F k 0) := by
  intro j
  induction j with
  | zero => intro _; rfl
  | succ j ih =>
    intro hj
    rw [← ih (by omega)]
    have e := h j (by omega)
    rw [dif_succ] at e
    have a := w64_range (dif F k (j + 1))
    have b := w64_range (dif F k j)
    generalize wrap64 (dif F k (j + 1)) = p at *
    generalize wrap64 (dif F k j) = q at *
    unfold wrap64 at e; omega
/-- Behind a row of noughts the degree is known. -/
theorem deg_stop {F : Nat → Int} {k n : Nat} (hk : k ≤ n) (h0 : ∀ j, k + j < n → wrap64 (dif F k j) = 0) (h1 : k = 0 ∨ ∃ j, k - 1 + j < n ∧ wrap64 (dif F (k - 1) j) ≠ 0) : degP F n = (k : Int) - 1 := by
  refine degP_top hk (fun i hi hn => ?_) ?_
  · have := zero_on h0 (i - k) 0 (by omega)
    rwa [show k + (i - k) = i by omega] at this
  · rcases h1 with h1 | ⟨j, hj, hne⟩
    · exact .inl h1
    · right
      by_cases hk0 : k = 0
      · subst hk0; simp at hj hne ⊢; exact absurd (h0 j (by omega)) hne
      · rw [const_on (k := k - 1) (n := n) (by rw [show k - 1 + 1 = k by omega]; exact h0) j hj] at hne
        exact hne
theorem deg_done {F : Nat → Int} {n : Nat} (h1 : n = 0 ∨ ∃ j, n - 1 + j < n ∧ wrap64 (dif F (n - 1) j) ≠ 0) : degP F n = (n : Int) - 1 := by
  refine deg_stop (Nat.le_refl n) (fun j hj => by omega) h1

/-- DegreeOf on the way: k rounds are over, each over a row with a number other than 0. -/
def DegInv (E Be : Nat) (w : World) (xs : List Int) (k : Nat) (W : World) : Prop :=
  (k = 0 ∨ ∃ j, k - 1 + j < xs.length ∧ wrap64 (dif (ix xs) (k - 1) j) ≠ 0) ∧ Boxed W Be E (.int .i64 ((k : Int) - 1)) ∧ Below w.heap.size w W
theorem DegInv.put {E Be k : Nat} {w A : World} {xs : List Int} (h : DegInv E Be w xs k A) {l : Nat} {o : Obj} (o' : Obj) (hl : w.heap.size ≤ l) (hA : A.heap[l]? = some o) (ho : o.isCells = false) : DegInv E Be w xs k (A.putObj l o') := by
  obtain ⟨h0, h1, h3⟩ := h
  refine ⟨h0, h1.kept (grownBy_putObj' A l o') ?_, h3.grown (grownBy_putObj' A l o') h3.size (fun k e => by cases e; exact hl)⟩
  intro e
  injection e with e
  subst e
  rw [show A.heap[Be]? = _ from h1] at hA; cases hA; cases ho
theorem DegInv.below {E Be k : Nat} {w A B : World} {xs : List Int} (h : DegInv E Be w xs k A) (hb : Below A.heap.size A B) : DegInv E Be w xs k B := by
  obtain ⟨h0, h1, h3⟩ := h
  exact ⟨h0, (hb.block Be h1.lt).trans h1, bel_nxt h3 hb⟩
/-- DegreeOf where a row of noughts was met. -/
def DegEnd (E Be id : Nat) (w : World) (xs : List Int) (c : Code) (k : Nat) (W : World) : Prop :=
  c = .exit id ∧ 1 ≤ k ∧ (∀ j, k - 1 + j < xs.length → wrap64 (dif (ix xs) (k - 1) j) = 0) ∧ DegInv E Be w xs (k - 1) W

set_option maxHeartbeats 2000000 in
set_option maxRecDepth 100000 in
theorem deg_in (v : Value) (xs : List Int) (w : World) (h : Rd w v xs) (hb : vrB xs = true) (hw : ∀ n ∈ xs, (Lit.int .i64 n).wf = true) :
    CallsIn Fence.wide 5 Try.prog 22 #[v] w (Tells (degP (ix xs) xs.length) w) := by
  have hx := (vrB_of hb).1
  have hM : xs.length ≤ maxLen := by unfold maxLen; omega
  have hv := implValid_any v xs w h hM
  rw [hb] at hv
  have HV := Lib.hid (callsIn_wide (n := 4).2 hv)
  have h0 := h
  obtain ⟨a, cap, rfl, -⟩ := h0
  have HD := Lib.hid fun w => callsIn_wide (n := 4).2 (diffRows_any a xs.length cap w)
  clear hb hv hM
  refine callsIn_of_wp_marks Try.func22 rfl trivial ?_ rfl
  simp only [Try.ntmps22, List.size_toArray, List.length_cons, List.length_nil, Nat.reduceAdd, Nat.reduceSub, Array.replicate_succ, Array.replicate_zero, List.push_toArray, List.append_toArray, List.nil_append, List.cons_append]
  gi_wp2_with fail
  refine wpIn_wide.2 (wp_scope_straight ((wpIn_wide (n := 5)).1 ?_))
  gi_wp2_with (gi_at_call 17; refine HV.out.mono ?_; rintro e w1 ⟨rfl, b1⟩)
  refine wpIn_label ?_
  gi_wp2_with fail
  obtain ⟨Be, hBe⟩ : ∃ Be, Be = w1.heap.size := ⟨_, rfl⟩
  obtain ⟨wB, hwB⟩ : ∃ wB, wB = w1.alloc (.cells #[.int .i64 (-1)] 3) := ⟨_, rfl⟩
  have hI : DegInv 3 Be w xs 0 wB := by
    rw [hwB, hBe]
    exact ⟨.inl rfl, Boxed.new w1 _ _, b1.alloc b1.size _⟩
  have hBw : w.heap.size ≤ Be := by rw [hBe]; exact b1.size
  have hR := h.below (B := w.heap.size) (w' := wB) (by rw [hwB]; exact b1.alloc b1.size _) (Nat.le_refl _)
  rw [← hwB, ← hBe]
  clear hwB hBe b1 h HV
  refine (HD.out _).mono ?_
  rintro e wC ⟨rfl, rfl⟩
  gi_wp2_with fail
  have hIC : DegInv 3 Be w xs 0 (wB.alloc (.cells #[.slice a xs.length cap] 23)) := hI.below ((Below.refl _ _).alloc (Nat.le_refl _) _)
  have hRC := hR.below (w' := wB.alloc (.cells #[.slice a xs.length cap] 23)) ((Below.refl _ _).alloc (Nat.le_refl _) _) (Nat.le_refl _)
  have hHands := diffs_hands 4 (.slice a xs.length cap) xs wB.heap.size (wB.alloc (.cells #[.slice a xs.length cap] 23)) (by omega) hw (by rw [World.size_alloc]; omega)
    (by rw [World.cell?_alloc_at _ _ _ _ rfl]; rfl) hRC
  have hwC : w.heap.size ≤ (wB.alloc (.cells #[.slice a xs.length cap] 23)).heap.size := by obtain ⟨_, _, h⟩ := hIC; exact h.size
  refine wpIn_hands rfl (fun h => by cases h) (gf := 83) (lb := #[.pointer (some ⟨wB.heap.size, 0, none⟩)]) rfl trivial (enters_of Try.func83 (by kernel_rfl) rfl)
    hHands (fun k m v W l o o' hg hl ho => hg.put o' hl ho) (Below.refl _ _) rfl (fun k W => DegInv 3 Be w xs k W) (fun c k W => DegEnd 3 Be 0 w xs c k W)
    (fun k A l o o' h hl hA ho => h.put o' (Nat.le_trans hwC hl) hA ho) (fun k A B h hb => h.below hb) (fun c k A l o o' h hl hA ho => ⟨h.1, h.2.1, h.2.2.1, h.2.2.2.put o' (Nat.le_trans hwC hl) hA ho⟩) hIC
    (fun x => { tmps := #[.slice a xs.length cap, undef, .int .i64 0, .pointer (some ⟨Be, 0, none⟩), x, undef, undef, .slice a xs.length cap, .bool true, .bool false, .slice a xs.length cap, .func (.func 83) #[] #[.pointer (some ⟨wB.heap.size, 0, none⟩)], x, undef, undef, undef, undef, undef, undef, undef, undef, undef, undef, undef, undef], defers := [] }) ?assign ?body ?done ?stop
  case assign =>
    intro l x W K hK
    gi_wp2
    exact hK
  case body =>
    rintro l k x A W hkn hIA hA0 hAW hG
    have hGG := Lib.hid hG
    obtain ⟨gx, off, n, cx, rfl, hn, hgx, hcx⟩ := hG
    have hIW := hIA.below hAW
    have hBe1 := hIA.2.1.lt
    obtain ⟨hprev, hbox, hBW⟩ := hIW
    have hbc := hbox.cell
    have hbf := hbox.frozen
    have HP := Lib.hid hprev
    have HBX := Lib.hid hbox
    clear hIA hprev hbox hAW
    gi_wp2
    gi_loop [15] (fun i => ∃ j : Nat, j ≤ n ∧ i = .int .i64 j ∧ Hid (∀ i, i < j → wrap64 (dif (ix xs) k i) = 0)) (fun i => n - (intOf i).toNat)
    case atStart => exact ⟨0, Nat.zero_le _, rfl, fun i hi => absurd hi (Nat.not_lt_zero i)⟩
    case round =>
      obtain ⟨j, hj, rfl, hz⟩ := hrel
      by_cases hlt : j < n
      · have hcj := hcx j hlt
        obtain ⟨z, hzz⟩ : ∃ z, z = wrap64 (dif (ix xs) k j) := ⟨_, rfl⟩
        rw [← hzz] at hcj
        have HZ := Lib.hid hzz
        clear hzz hcx
        by_cases h0 : z = 0
        · have e1 : (z != 0) = false := by simpa using h0
          have e2 : (z == 0) = true := by simpa using h0
          have HH := Lib.hid h0
          clear h0
          gi_wp2
          go_round
          case rel =>
            refine ⟨j + 1, by omega, by go_num, fun i hi => ?_⟩
            by_cases hij : i = j
            · subst hij; rw [← HZ.out]; exact HH.out
            · exact hz.out i (by omega)
          case measure => simp [intOf]; omega
        · have e1 : (z != 0) = true := by simpa using h0
          have e2 : (z == 0) = false := by simpa using h0
          have HH := Lib.hid h0
          clear h0
          gi_wp2
          refine ⟨KeepsOthers.setCell _ _ _, ?_, .inr ⟨j, by omega, ?_⟩, ?_, hBW.setCell (p := ⟨Be, 0, none⟩) hBw _⟩
          · obtain ⟨g', off', n', c', he, hn', hm', hcs⟩ := hGG.out
            refine ⟨g', off', n', c', he, hn', hm', fun i hi => ?_⟩
            rw [World.cell?_of_block (w := W) (Below.heap_setCell _ _ _ _ (by show g' ≠ Be; omega))]
            exact hcs i hi
          · rw [Nat.add_sub_cancel, ← HZ.out]; exact HH.out
          · have := HBX.out.set (.int .i64 ((k + 1 : Nat) - 1 : Int))
            simpa using this
      · obtain rfl : j = n := by omega
        clear hcx
        gi_wp2
        refine ⟨KeepsOthers.refl _, rfl, by omega, fun i hi => ?_, ?_⟩
        · rw [Nat.add_sub_cancel]; exact hz.out i (by omega)
        · rw [Nat.add_sub_cancel]; exact ⟨HP.out, HBX.out, hBW⟩
  case done =>
    rintro D A W hD ⟨hprev, hbox, hBW⟩ hK
    have hbc := hbox.cell
    have HR := Lib.hid (deg_done hprev)
    clear hprev
    gi_wp2
    refine ⟨by simp, .inl ⟨_, _, rfl, run_takeDeferred hK, ?_⟩⟩
    exact ⟨_, results_tmp rfl _ _ _, by rw [HR.out]; rfl, hBW.grown (grownBy_putObj' W D _) hBW.size (fun k e => by cases e; exact Nat.le_trans hwC hD)⟩
  case stop =>
    rintro D c k W hD hkn ⟨rfl, hk1, hzero, hprev, hbox, hBW⟩ hK
    have hbc := hbox.cell
    have HR := Lib.hid (deg_stop (k := k - 1) (n := xs.length) (by omega) hzero hprev)
    clear hprev hzero
    gi_wp2
    refine ⟨by simp, .inl ⟨_, _, rfl, run_takeDeferred hK, ?_⟩⟩
    exact ⟨_, results_tmp rfl _ _ _, by rw [HR.out]; rfl, hBW.grown (grownBy_putObj' W D _) hBW.size (fun k e => by cases e; exact Nat.le_trans hwC hD)⟩

theorem implDegreeOf_any (v : Value) (xs : List Int) (w : World) (h : Rd w v xs) (hl : xs.length ≤ maxLen) (hw : ∀ n ∈ xs, (Lit.int .i64 n).wf = true) :
    Calls Try.prog 22 #[v] w (Tells (degF xs) w) := by
  cases hb : vrB xs with
  | true =>
    rw [show degF xs = degP (ix xs) xs.length by unfold degF; exact if_pos hb]
    exact callsIn_wide.1 (deg_in v xs w h hb hw)
  | false =>
    have hv := implValid_any v xs w h hl
    rw [hb] at hv
    have hF : Hid (degF xs = -2) := by unfold degF; exact if_neg (by simp [hb])
    have HV := Lib.hid ((callsIn_wide (n := 4)).2 hv)
    obtain ⟨a, cap, rfl, -⟩ := h
    clear hb hw hv
    refine (callsIn_wide (n := 5)).1 ?_
    refine callsIn_of_wp_marks Try.func22 rfl trivial ?_ rfl
    simp only [Try.ntmps22, List.size_toArray, List.length_cons, List.length_nil, Nat.reduceAdd, Nat.reduceSub, Array.replicate_succ, Array.replicate_zero, List.push_toArray, List.append_toArray, List.nil_append, List.cons_append]
    gi_wp2_with fail
    refine wpIn_wide.2 (wp_scope_straight ((wpIn_wide (n := 5)).1 ?_))
    gi_wp2_with (gi_at_call 17; refine HV.out.mono ?_; rintro e w1 ⟨rfl, b1⟩)
    exact ⟨_, results_tmp rfl _ _ _, by rw [hF.out]; rfl, b1⟩

end Go.Proofs.Ytpalmbcknjmmcaa
