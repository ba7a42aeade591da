/-
  EdgeOf of the model, by its contract.
-/
import Derived.Test.YtpalmbcknjmmcaaDeg
import Derived.Test.YtpalmbcknjmmcaaSSteps
import Derived.Test.YtpalmbcknjmmcaaMany
namespace Go.Proofs.Ytpalmbcknjmmcaa
open Go.RowKit
set_option linter.unusedVariables false

/-- edge on the way: k numbers are out, the kth row, of m numbers, is at hand. -/
def EdgeS (E : Nat) (w : World) (xs : List Int) (k m : Nat) (out now : Value) (wr : World) : Prop :=
  ∃ B, w.heap.size ≤ B ∧ B ≤ wr.heap.size ∧ Own E w.heap.size wr out (tab k fun i => wrap64 (dif (ix xs) i 0)) ∧ (∀ j, out.ownBlock = some j → j < B) ∧ Own E B wr now (tab m fun j => wrap64 (dif (ix xs) k j)) ∧ Below w.heap.size w wr
theorem apart_of {E B : Nat} {w : World} {out now : Value} {ys : List Int} (h : ∀ j, out.ownBlock = some j → j < B) (o : Own E B w now ys) : now.ownBlock = none ∨ now.ownBlock ≠ out.ownBlock := by
  cases hn : now.ownBlock with
  | none => exact .inl rfl
  | some k => right; intro e; have := h k e.symm; have := (World.ownsRow.lt o k hn).1; omega
theorem own_slice {E B : Nat} {w : World} {v : Value} {xs : List Int} (h : Own E B w v xs) : ∃ a cap, v = .slice a xs.length cap := by
  rcases h.shape with ⟨rfl, rfl⟩ | ⟨g, cap, rfl, _⟩
  · exact ⟨none, 0, rfl⟩
  · exact ⟨_, _, rfl⟩
theorem grown_below {a b : World} {r : Option Nat} (h : a.grownBy b r) {B : Nat} (hB : B ≤ a.heap.size) (hr : ∀ k, r = some k → B ≤ k) : Below B a b := (Below.refl B a).grown h hB hr

set_option maxHeartbeats 4000000 in
theorem specedge_any (v : Value) (xs : List Int) (w : World) (h : Rd w v xs) (hx : xs.length ≤ 1048576) (hw : ∀ n ∈ xs, (Lit.int .i64 n).wf = true) :
    Calls Try.prog 55 #[v] w (Made 3 w (edgeL xs)) := by
  have h0 := h
  obtain ⟨ad, cap, rfl, -⟩ := h0
  have hR := (h.alloc (.cells #[] 3)).alloc (.cells #[] 3)
  have hO0 := (own_empty 3 w.heap.size w (Nat.le_refl _)).grow (.cells #[] 3)
  go_enter Try.func55, Try.ntmps55
  have hN0 := own_empty 3 (w.heap.size + 1) (w.alloc (.cells #[] 3)) (by simp)
  rw [World.size_alloc] at hN0
  go_wp2_with (at_builtin; refine app_many rfl _ _ 23 rfl (w.heap.size + 1) 3 Try.underlying23 infoInt _ _ rfl hN0 _ xs rfl hR ?c1 ?c2 ?_)
  case c1 => simp; omega
  case c2 => simp
  intro v1 w1 o1 g1
  have b1 : Below w.heap.size w w1 := (((Below.refl w.heap.size w).alloc (Nat.le_refl _) _).alloc (by simp) _).grown g1 (by simp; omega) (by intro q hq; simp [Value.ownBlock] at hq; omega)
  have hs1 := g1.size
  simp only [World.size_alloc] at hs1
  have hI : EdgeS 3 w xs 0 xs.length (.slice (some ⟨w.heap.size, 0, none⟩) 0 0) v1 w1 := by
    refine ⟨w.heap.size + 1, by omega, by omega, hO0.kept g1 (.inr (by simp [Value.ownBlock])), fun j hj => by simp [Value.ownBlock] at hj; omega, ?_, b1⟩
    rwa [tab_congr (g := fun j => ix xs j) (fun j _ => (dif_first hw j).symm), tab_self]
  obtain ⟨a1, c1, rfl⟩ := own_slice (E := 3) (B := w.heap.size + 1) (w := w1) (v := v1) (xs := xs) (by simpa using o1)
  clear o1 g1 b1 hs1 hO0 hN0 hR h
  go_wp2
  go_loopw [3, 4] (fun out now wr => ∃ k m a cap, now = .slice a m cap ∧ k + m = xs.length ∧ EdgeS 3 w xs k m out now wr) (fun _ now _ => match now with | .slice _ m _ => m | _ => 0)
  case atStart => exact ⟨0, xs.length, _, _, rfl, by omega, hI⟩
  case round =>
    obtain ⟨k, m, a, cp, rfl, hkm, B, hB1, hB2, hO, hlt, hN, hB⟩ := hrel
    clear hI
    by_cases hm : 0 < m
    · obtain ⟨g, c, hv, hg, hgs⟩ := hN.form (by intro e; have := congrArg List.length e; simp at this; omega)
      simp only [Value.slice.injEq, len_tab, true_and] at hv
      obtain ⟨rfl, rfl⟩ := hv
      have hc0 := hN.cell 0 (by simpa using hm)
      rw [ix_tab _ _ _ hm] at hc0
      have hmi : (0 : Int) < (m : Int) := by omega
      have hap := apart_of hlt hN
      obtain ⟨z, hz⟩ : ∃ z, z = wrap64 (dif (ix xs) k 0) := ⟨_, rfl⟩
      rw [← hz] at hc0
      have HZ := Lib.hid hz
      clear hz
      go_wp2_with (at_builtin; refine app_int rfl _ _ 23 rfl w.heap.size 3 Try.underlying23 infoInt _ _ rfl (hO.grow _) ⟨wr.heap.size, 0, none⟩ rfl z ?c1 ?c2 ?c3 ?_)
      case c1 => exact cell_new1 _ _ _
      case c2 => simp; omega
      case c3 => have := hB.size; simp; omega
      intro out' w2 hO' hg'
      have hB' := app_below hB hO hg'
      rw [tab_snoc _ _ _ HZ.out] at hO'
      have hN2 := (hN.grow (.cells #[.int .i64 z] 3)).kept hg' hap
      have hcs : ∀ j, j < m → w2.cell? ⟨g, j, none⟩ = some (.int .i64 (wrap64 (dif (ix xs) k j))) := fun j hj => by rw [hN2.cell j (by simpa using hj), ix_tab _ _ _ hj]
      have hg2 : g < w2.heap.size := by have := hg'.size; simp at this; omega
      have hlt2 : ∀ j, out'.ownBlock = some j → j < w2.heap.size := fun j hj => (World.ownsRow.lt hO' j hj).2
      have hs2 := hB'.size
      have HCS := Lib.hid hcs
      have HO := Lib.hid hO'
      have HB := Lib.hid hB'
      have HLT := Lib.hid hlt2
      clear hO hN hB hc0 hap hO' hg' hB' hN2 hcs hlt hlt2 hB1 hB2 hgs hg HZ
      go_wp2
      have hE := own_empty 3 w2.heap.size w2 (Nat.le_refl _)
      have hEB : Below w2.heap.size w2 (w2.alloc (.cells #[] 3)) := (Below.refl _ _).alloc (Nat.le_refl _) _
      go_loopw [5, 6] (fun nx i wr => ∃ p : Nat, p + 1 ≤ m ∧ i = .int .i64 ((p + 1 : Nat) : Int) ∧ Own 3 w2.heap.size wr nx (tab p fun j => wrap64 (dif (ix xs) (k + 1) j)) ∧ Below w2.heap.size w2 wr) (fun _ i _ => m - (intOf i).toNat)
      case atStart => exact ⟨0, by omega, by simp, hE, hEB⟩
      case round =>
        obtain ⟨p, hp, rfl, hOn, hBn⟩ := hrel
        clear hE hEB
        by_cases hpl : p + 1 < m
        · have hcx : wr.cell? ⟨g, p + 1, none⟩ = some (.int .i64 (wrap64 (dif (ix xs) k (p + 1)))) := (hBn.cell (p := ⟨g, p + 1, none⟩) hg2).trans (HCS.out (p + 1) hpl)
          have hcy : wr.cell? ⟨g, p, none⟩ = some (.int .i64 (wrap64 (dif (ix xs) k p))) := (hBn.cell (p := ⟨g, p, none⟩) hg2).trans (HCS.out p (by omega))
          have HD := Lib.hid (dif_succ (ix xs) k p)
          obtain ⟨z1, hz1⟩ : ∃ z, z = wrap64 (dif (ix xs) k (p + 1)) := ⟨_, rfl⟩
          obtain ⟨z0, hz0⟩ : ∃ z, z = wrap64 (dif (ix xs) k p) := ⟨_, rfl⟩
          have hdz : wrap64 (z1 - z0) = wrap64 (dif (ix xs) (k + 1) p) := by rw [HD.out, hz1, hz0]
          rw [← hz1] at hcx
          rw [← hz0] at hcy
          have HDZ := Lib.hid hdz
          clear hdz hz1 hz0 HD
          have i1 : (0 : Int) ≤ (p : Int) + 1 := by omega
          have i2 : (p : Int) + 1 < (m : Int) := by omega
          have i3 : (0 : Int) ≤ (p : Int) := by omega
          have i4 : (p : Int) < (m : Int) := by omega
          have i5 : IntKind.i64.wrap (p : Int) = (p : Int) := IntWalk.i64_in _ (by omega)
          have i6 : ((p : Int) + 1).toNat = p + 1 := by omega
          have i7 : IntKind.i64.wrap (z1 - z0) = wrap64 (z1 - z0) := IntWalk.i64_left _
          have HP : Hid (p + 1 < m ∧ m ≤ 1048576) := ⟨hpl, by omega⟩
          clear hp hpl
          go_wp2
          have HOn := Lib.hid hOn
          have HBn := Lib.hid hBn
          clear hOn hBn
          go_region_law (refine step_app_int wr rfl (.tmp 27) (.tmp 38) 23 rfl w2.heap.size 3 Try.underlying23 infoInt _ _ (by simp [Act.eval, Act.put]) HOn.out (grown_alloc_drew _ _) ⟨wr.heap.size, 0, none⟩ (by simp [Act.eval, Act.put]) (wrap64 (z1 - z0)) (cell_new1 _ _ _) (by have := HP.out; simp; omega) HBn.out.size ?_; intro v' w' hO' hg')
          all_goals
            have hB' := app_below0 HBn.out HOn.out hg'
            rw [tab_snoc p _ _ HDZ.out] at hO'
            obtain ⟨hn1, hn2⟩ := HP.out
            clear HOn HBn hg' i5 i6 i7
            go_wp2
            go_roundw
            case rel => exact ⟨p + 1, by omega, by go_num, hO', hB'⟩
            case measure => simp [intOf]; omega
        · have hpm : p + 1 = m := by omega
          obtain ⟨a3, c3, rfl⟩ := own_slice hOn
          rw [len_tab] at hOn ⊢
          clear HCS
          go_wp2
          go_roundw
          case rel => exact ⟨k + 1, p, _, _, rfl, by omega, w2.heap.size, hs2, hBn.size, HO.out.below hBn (Nat.le_refl _), HLT.out, hOn, bel_nxt HB.out hBn⟩
          case measure => simp; omega
    · obtain rfl : m = 0 := by omega
      have hk : k = xs.length := by omega
      go_wp2
      go_ret
      refine ⟨_, rfl, ?_, hB⟩
      unfold edgeL
      rw [← hk]; exact hO

theorem specEdgeOf_any (v : Value) (xs : List Int) (w : World) (h : Rd w v xs) (hl : xs.length ≤ maxLen) (hw : ∀ n ∈ xs, (Lit.int .i64 n).wf = true) :
    Calls Try.prog 16 #[v] w (Made 3 w (edgeF xs)) := by
  have hv := specvalid_any v xs w h hl
  cases hb : vrB xs with
  | true =>
    rw [hb] at hv
    have hF : Hid (edgeF xs = edgeL xs) := by unfold edgeF; exact if_pos hb
    have hM := vr_max hb
    go_enter Try.func16, Try.ntmps16
    go_wp2_with fail
    refine hv.mono ?_
    rintro e w1 ⟨rfl, b1⟩
    go_wp2_with fail
    refine (specedge_any v xs _ (h.below b1 (Nat.le_refl _)) hM hw).mono ?_
    rintro e w2 ⟨g, rfl, o2, b2⟩
    go_wp2
    go_ret
    exact ⟨_, rfl, by rw [hF.out]; exact o2.mono b1.size, bel_nxt b1 b2⟩
  | false =>
    rw [hb] at hv
    have hF : Hid (edgeF xs = []) := by unfold edgeF; exact if_neg (by simp [hb])
    go_enter Try.func16, Try.ntmps16
    go_wp2_with fail
    refine hv.mono ?_
    rintro e w1 ⟨rfl, b1⟩
    go_wp2
    go_ret
    exact ⟨_, rfl, by rw [hF.out]; exact Own.nil _ _ _, b1⟩

set_option maxHeartbeats 2000000 in
theorem specDegreeOf_any (v : Value) (xs : List Int) (w : World) (h : Rd w v xs) (hl : xs.length ≤ maxLen) (hw : ∀ n ∈ xs, (Lit.int .i64 n).wf = true) :
    Calls Try.prog 23 #[v] w (Tells (degF xs) w) := by
  have hv := specvalid_any v xs w h hl
  cases hb : vrB xs with
  | true =>
    rw [hb] at hv
    have hF : Hid (degF xs = degP (ix xs) xs.length) := by unfold degF; exact if_pos hb
    have hM := vr_max hb
    have HE := Lib.hid fun w (h : Rd w v xs) => specedge_any v xs w h hM hw
    clear hb
    go_enter Try.func23, Try.ntmps23
    go_wp2_with fail
    refine hv.mono ?_
    rintro e w1 ⟨rfl, b1⟩
    go_wp2_with fail
    refine (HE.out _ (h.below b1 (Nat.le_refl _))).mono ?_
    rintro e w2 ⟨u, rfl, o2, b2⟩
    have bb := bel_nxt b1 b2
    obtain ⟨F, hFF⟩ : ∃ F, F = ix xs := ⟨_, rfl⟩
    obtain ⟨n, hn⟩ : ∃ n, n = xs.length := ⟨_, rfl⟩
    unfold edgeL at o2
    rw [← hn, ← hFF] at o2
    rw [← hn, ← hFF] at hF
    rw [← hn] at hM
    have hr := o2.rd
    clear o2 b1 b2 hFF hn h hv hl HE
    obtain ⟨a, cap, rfl, hr⟩ := hr
    rw [len_tab] at hr ⊢
    go_wp2
    go_loop [4, 5] (fun d i => ∃ k : Nat, k ≤ n ∧ i = .int .i64 k ∧ d = .int .i64 (degP F k)) (fun _ i => n - (intOf i).toNat)
    case atStart => exact ⟨0, Nat.zero_le _, rfl, rfl⟩
    case round =>
      obtain ⟨k, hk, rfl, rfl⟩ := hrel
      by_cases hlt : k < n
      · rcases hr with hr | ⟨b, off, rfl, hbs, hcs⟩
        · have := congrArg List.length hr; simp at this; omega
        have hck := hcs k hlt
        rw [ix_tab _ _ _ hlt] at hck
        have HP : Hid (degP F (k + 1) = if wrap64 (dif F k 0) ≠ 0 then (k : Int) else degP F k) := rfl
        obtain ⟨z, hz⟩ : ∃ z, z = wrap64 (dif F k 0) := ⟨_, rfl⟩
        rw [← hz] at hck HP
        obtain ⟨d, hd⟩ : ∃ d, d = degP F k := ⟨_, rfl⟩
        rw [← hd] at HP ⊢
        clear hcs hz hd
        by_cases h0 : z = 0
        · have e1 : (z != 0) = false := by simpa using h0
          have hP : Hid (degP F (k + 1) = d) := by show _ = _; rw [HP.out, if_neg (by simpa using h0)]
          clear h0 HP
          go_wp2
          go_round
          case rel => exact ⟨k + 1, by omega, by go_num, by rw [hP.out]⟩
          case measure => simp [intOf]; omega
        · have e1 : (z != 0) = true := by simpa using h0
          have hP : Hid (degP F (k + 1) = (k : Int)) := by show _ = _; rw [HP.out, if_pos h0]
          clear h0 HP
          go_wp2
          go_round
          case rel => exact ⟨k + 1, by omega, by go_num, by rw [hP.out]⟩
          case measure => simp [intOf]; omega
      · obtain rfl : k = n := by omega
        go_wp2
        go_ret
        exact ⟨by rw [hF.out]; rfl, bb⟩
  | false =>
    rw [hb] at hv
    have hF : Hid (degF xs = -2) := by unfold degF; exact if_neg (by simp [hb])
    clear hb
    go_enter Try.func23, Try.ntmps23
    go_wp2_with fail
    refine hv.mono ?_
    rintro e w1 ⟨rfl, b1⟩
    go_wp2
    go_ret
    exact ⟨by rw [hF.out]; rfl, b1⟩

end Go.Proofs.Ytpalmbcknjmmcaa
