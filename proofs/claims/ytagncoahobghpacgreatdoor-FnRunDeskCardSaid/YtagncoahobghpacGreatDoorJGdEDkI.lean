/-
  The desk of the program: what its calls of the library say in a world in which the listed variables hold what they are laid with; rowOf; listOf; functionOf.
-/
import Derived.Test.YtagncoahobghpacGreatDoorJGdE08
import Derived.Test.YtagncoahobghpacGreatDoorShD
import Derived.OwnWalk
import Derived.Lib.SmallJoins
import Derived.Lib.AtoiErrMem
import Derived.Lib.AppendIntMem
import Derived.Lib.SplitLaws
import Derived.Lib.SlicesS
namespace Go.Proofs.YtagncoahobghpacGreatDoor
open Go Go.RowKit Go.Shelf
set_option linter.unusedVariables false

/-- The listed variables hold what they are laid with. -/
structure Dsk (w : World) : Prop where
  ml : ∃ m, w.cell? ⟨2, 0, none⟩ = some (.int .i64 m)
  tab : Lib.TabIs Tryz.prog w "internal/strconv.uint64pow10" .u64 Lib.pow10Tab
  syn : ∃ te pe, w.cell? ⟨3, 0, none⟩ = some (.iface te pe)
  rng : ∃ te pe, w.cell? ⟨4, 0, none⟩ = some (.iface te pe)
  unk : ∃ b, w.cell? ⟨0, 0, none⟩ = some (.iface 179 (.pointer (some b)))
  ety : w.cell? ⟨1, 0, none⟩ = some (.iface 93 (.agg #[.pointer (some ⟨10, 44, none⟩)]))
  lo : 10 ≤ w.heap.size

theorem Dsk.below {w w' : World} (h : Dsk w) (hb : Below w.heap.size w w') : Dsk w' := by
  have hl := h.lo
  have c : ∀ g, g < 10 → w'.cell? ⟨g, 0, none⟩ = w.cell? ⟨g, 0, none⟩ := fun g hg => hb.cell (p := ⟨g, 0, none⟩) (show g < w.heap.size by omega)
  refine ⟨?_, Go.Joins.tab_stays (g := 5) (by kernel_rfl) h.tab hb (Nat.le_refl _), ?_, ?_, ?_, ?_, Nat.le_trans hl hb.size⟩
  · rw [c _ (by decide)]; exact h.ml
  · rw [c _ (by decide)]; exact h.syn
  · rw [c _ (by decide)]; exact h.rng
  · rw [c _ (by decide)]; exact h.unk
  · rw [c _ (by decide)]; exact h.ety

theorem dsk_tape {w : World} (h : Dsk w) (τ : Nat → Question → Nat) (d : Nat) : Dsk { w with tape := τ, drawn := d } := ⟨h.ml, h.tab, h.syn, h.rng, h.unk, h.ety, h.lo⟩

theorem itoa_any (n : Int) (w : World) (h : Dsk w) (h0 : -9223372036854775808 ≤ n ∧ n ≤ 9223372036854775807) :
    Calls Tryz.prog 46 #[.int .i64 n] w fun e w' => e = .returned (.string (bs (Lib.itoa n))) ∧ Below w.heap.size w w' :=
  (strconv_Itoa n h0.1 h0.2 w h.tab).mono fun e w' ⟨h1, k, os, h2⟩ => ⟨h1, by rw [h2]; exact Lib.below_grow _ _ (Nat.le_refl _) _ _⟩

theorem atoi_any (s : ByteArray) (w : World) (h : Dsk w) (hs : s.size ≤ 1048576) :
    Calls Tryz.prog 72 #[.string s] w fun e w' => Below w.heap.size w w' ∧
      ((∃ v, Lib.atoiAll s.data.toList = .ok v ∧ e = .returned (.tuple #[.int .i64 v, .nilIface])) ∨ (∃ z N, (∀ v, Lib.atoiAll s.data.toList ≠ .ok v) ∧ e = .returned (.tuple #[.int .i64 z, .iface 147 (.pointer (some ⟨N, 0, none⟩))]))) := by
  rcases e : Lib.atoiAll s.data.toList with v | _ | _
  · refine (strconv_Atoi_ok s (by omega) v e w).mono fun q w' ⟨h1, h2⟩ => ⟨?_, .inl ⟨v, rfl, h1⟩⟩
    rcases h2 with rfl | ⟨t, rfl⟩
    · exact Below.refl _ _
    · exact Lib.bytesWorld_below _ _ _
  · obtain ⟨te, pe, hc⟩ := h.syn
    exact (strconv_Atoi_syntax s (by omega) e _ w hc (.inr ⟨te, pe, rfl⟩)).mono fun q w' ⟨N, h1, _, _, h4⟩ => ⟨h4, .inr ⟨_, N, (fun v => by simp), h1⟩⟩
  · obtain ⟨te, pe, hc⟩ := h.rng
    exact (strconv_Atoi_range s (by omega) e _ w hc (.inr ⟨te, pe, rfl⟩)).mono fun q w' ⟨N, h1, _, _, h4⟩ => ⟨h4, .inr ⟨_, N, (fun v => by simp), h1⟩⟩

theorem ix_memD {xs : List Int} {k : Nat} (h : k < xs.length) : ix xs k ∈ xs := by
  simp [ix, List.getD, List.getElem?_eq_getElem h]

/-- What rowOf hands back. -/
def RowRet (w : World) (s : ByteArray) (v e : Value) (w' : World) : Prop :=
  Below w.heap.size w w' ∧ match rowT s with
    | some xs => Own 3 w.heap.size w' v xs ∧ e = .nilIface
    | none => v = .slice none 0 0 ∧ e = .iface 56 (.agg #[.string s])

theorem parts_len (s : ByteArray) : (partsP s).length = Lib.countB s ⟨#[44]⟩ + 1 := Lib.splitB_all ⟨#[44]⟩ (by decide) 0 _ s rfl
theorem parts_le (s : ByteArray) : (partsP s).length ≤ s.size + 1 := by
  rw [parts_len]
  have := Lib.countB_le ⟨#[44]⟩ (by decide) s.size s (Nat.le_refl _)
  omega
theorem splitB_size (sep : ByteArray) : ∀ (k : Nat) (s : ByteArray), ∀ p ∈ Lib.splitB sep 0 k s, p.size ≤ s.size
  | 0, s, p, h => by rw [Lib.splitB_zero] at h; rw [List.mem_singleton.1 h]; exact Nat.le_refl _
  | k + 1, s, p, h => by
    unfold Lib.splitB at h
    split at h
    · rw [List.mem_singleton.1 h]; exact Nat.le_refl _
    · rcases List.mem_cons.1 h with rfl | h
      · rw [ByteArray.size_extract]; omega
      · have := splitB_size sep k _ p h
        rw [ByteArray.size_extract] at this; omega

set_option maxHeartbeats 8000000 in
set_option maxRecDepth 100000 in
theorem rowOf_any (s : ByteArray) (w : World) (h : Dsk w) (hs : s.size ≤ 1048576) :
    Calls Tryz.prog 45 #[.string s] w fun e w' => ∃ v er, e = .returned (.tuple #[v, er]) ∧ RowRet w s v er w' := by
  obtain ⟨m, hm⟩ := h.ml
  have HSP := Lib.hid (strings_Split s ⟨#[44]⟩ m w (by omega) hm (by decide))
  obtain ⟨ps, hps⟩ : ∃ ps, ps = partsP s := ⟨_, rfl⟩
  have HPS := Lib.hid hps
  have hlen : Lib.countB s ⟨#[44]⟩ + 1 = ps.length := by rw [hps, parts_len]
  have hle : ps.length ≤ 1048577 := by have := parts_le s; rw [← hps] at this; omega
  have HSZ := Lib.hid fun k => show (ps.getD k .empty).size ≤ 1048576 by
    by_cases hk : k < ps.length
    · have : ps.getD k .empty ∈ ps := by simp [List.getD, List.getElem?_eq_getElem hk]
      rw [hps] at this ⊢
      exact Nat.le_trans (splitB_size _ _ _ _ this) hs
    · rw [List.getD, List.getElem?_eq_none (by omega)]; decide
  obtain ⟨n, hn⟩ : ∃ n, n = ps.length := ⟨_, rfl⟩
  have HN := Lib.hid hn
  rw [show Lib.splitB ⟨#[44]⟩ 0 (Lib.countB s ⟨#[44]⟩) s = ps from hps.symm, hlen, ← hn] at HSP
  rw [← hn] at hle
  clear hps hlen hm hs hn
  go_enter Tryz.func45, Tryz.ntmps45
  go_wp2_with fail
  refine HSP.out.mono ?_
  rintro e w1 ⟨rfl, hw1⟩
  have hb1 : Below w.heap.size w w1 := by rw [hw1]; exact (Below.refl _ w).alloc (Nat.le_refl _) _
  have hgl : w.heap.size < w1.heap.size := by rw [hw1, World.size_alloc]; omega
  have HC := Lib.hid fun j (hj : j < n) => show w1.cell? ⟨w.heap.size, j, none⟩ = some (.string (ps.getD j .empty)) by
    rw [hw1, World.cell?_alloc_at _ _ _ _ rfl]
    have hj' : j < ps.length := by rw [← HN.out]; exact hj
    simp [List.getElem?_eq_getElem hj', List.getD]
  have hD1 := h.below hb1
  have HA := Lib.hid fun k w (hd : Dsk w) => atoi_any (ps.getD k .empty) w hd (HSZ.out k)
  have HI := Lib.hid fun v w (hd : Dsk w) (hv : -9223372036854775808 ≤ v ∧ v ≤ 9223372036854775807) => itoa_any v w hd hv
  have hnil : Own 3 w1.heap.size w1 (.slice none 0 0) (tab 0 fun j => numV (ps.getD j .empty)) := Own.nil _ _ _
  clear hw1 h HSP
  go_wp2
  go_loopw [12, 4] (fun i o wr => ∃ k : Nat, k ≤ n ∧ i = .int .i64 k ∧ Own 3 w1.heap.size wr o (tab k fun j => numV (ps.getD j .empty)) ∧ Below w1.heap.size w1 wr ∧ Hid (∀ j, j < k → numP (ps.getD j .empty) ≠ none)) (fun i _ _ => n - (intOf i).toNat)
  case atStart => exact ⟨0, Nat.zero_le _, rfl, hnil, Below.refl _ _, Lib.hid fun j hj => absurd hj (Nat.not_lt_zero j)⟩
  case round =>
    obtain ⟨k, hk, rfl, hO, hB, hall⟩ := hrel
    clear hnil
    by_cases hlt : k < n
    · have hc := (hB.cell (p := ⟨w.heap.size, k, none⟩) hgl).trans (HC.out k hlt)
      have hD := hD1.below hB
      have hA := HA.out k
      have HKZ := Lib.hid (show k < ps.length by rw [← HN.out]; exact hlt)
      have i1 : (k : Int) < (n : Int) := by omega
      have HNO := Lib.hid fun (q : numP (ps.getD k .empty) = none) => rowT_no (s := s) (by rw [← HPS.out, allP_no HKZ.out q]; simp)
      have HYES := Lib.hid fun (v : Int) (q : numP (ps.getD k .empty) = some v) j (hj : j < k + 1) => show numP (ps.getD j .empty) ≠ none by
        by_cases e : j = k
        · subst e; rw [q]; simp
        · exact hall.out j (by omega)
      have HNB := Lib.hid fun (v : Int) => numP_bad (p := ps.getD k .empty)
      have HOK := Lib.hid fun (v : Int) => numP_ok (p := ps.getD k .empty) (v := v)
      have HOT := Lib.hid fun (v : Int) => numP_other (p := ps.getD k .empty) (v := v)
      have HTB := Lib.hid (tab_snoc k (fun j => numV (ps.getD j .empty)) _ rfl)
      obtain ⟨p, hp⟩ : ∃ p, p = ps.getD k .empty := ⟨_, rfl⟩
      rw [← hp] at hc hA HNO HYES HNB HOK HOT
      have HPE := Lib.hid hp
      clear hp
      go_wp2_with fail
      refine (hA wr hD).mono ?_
      rintro e w3 ⟨b3, (⟨v, hv, rfl⟩ | ⟨z, N, hv, rfl⟩)⟩
      · have hD3 := hD.below b3
        have hO := hO.below b3 (Nat.le_refl _)
        have hB := hB.trans (b3.mono hB.size)
        have hvr := atoi_range hv
        by_cases he : bs (Lib.itoa v) = p
        · have hpv := HOK.out v hv he
          have hy := Lib.hid (HYES.out v hpv)
          have HV : Hid (numV (ps.getD k .empty) = v) := Lib.hid (by rw [← HPE.out]; unfold numV; rw [hpv]; rfl)
          clear hv hpv HNO HYES HNB HOK HOT HPE hall hA
          go_wp2_with fail
          refine (HI.out v w3 hD3 hvr).mono ?_
          rintro e w4 ⟨rfl, b4⟩
          have hO := hO.below b4 (Nat.le_refl _)
          have hB := hB.trans (b4.mono hB.size)
          rw [he]
          clear b4 b3 hvr
          go_wp2_with (at_builtin; refine app_int rfl _ _ 35 rfl w1.heap.size 3 Tryz.underlying35 infoInt _ _ rfl (hO.grow _) ⟨w4.heap.size, 0, none⟩ rfl v ?q1 ?q2 ?q3 ?_)
          case q1 => exact cell_new1 _ _ _
          case q2 => rw [len_tab]; omega
          case q3 => have := hB.size; simp; omega
          intro v' w5 hO' hg'
          have hB' := app_below hB hO hg'
          rw [tab_snoc k _ _ HV.out.symm] at hO'
          clear hO hB hg'
          go_wp2
          go_roundw
          case rel => exact ⟨k + 1, by omega, by go_num, hO', hB', hy⟩
          case measure => simp [intOf]; omega
        · have HF := Lib.hid (HNO.out (HOT.out v hv he))
          clear hv HNO HYES HNB HOK HOT HPE hall hA
          go_wp2_with fail
          refine (HI.out v w3 hD3 hvr).mono ?_
          rintro e w4 ⟨rfl, b4⟩
          have hB := hB.trans (b4.mono hB.size)
          have hBB := hb1.trans (hB.mono hb1.size)
          obtain ⟨q, hq⟩ : ∃ q, q = bs (Lib.itoa v) := ⟨_, rfl⟩
          rw [← hq] at he ⊢
          have e1 : (q.toList == p.toList) = false := (Lib.bytes_beq_false_iff q p).2 he
          have e2 : (q.toList != p.toList) = true := by simp [bne, e1]
          clear b4 b3 hvr hO hq he
          go_wp2
          go_ret2
          exact ⟨_, _, rfl, hBB, by rw [HF.out]; exact ⟨rfl, rfl⟩⟩
      · have HF := Lib.hid (HNO.out (HNB.out 0 hv))
        have hB := hB.trans (b3.mono hB.size)
        have hBB := hb1.trans (hB.mono hb1.size)
        clear hv HNO HYES HNB HOK HOT HTB HPE HC hall hO hA
        go_wp2
        go_ret2
        exact ⟨_, _, rfl, hBB, by rw [HF.out]; exact ⟨rfl, rfl⟩⟩
    · have hkn : k = n := by omega
      have HL := Lib.hid (show (tab k fun j => numV (ps.getD j .empty)) = numsP (partsP s) by rw [numsP_tab, ← HPS.out, ← HN.out, hkn])
      have HAL := Lib.hid (show allP (partsP s) = true by
        rw [← HPS.out]
        exact allP_yes fun j hj => hall.out j (by rw [hkn, HN.out]; exact hj))
      obtain ⟨xs, hxs⟩ : ∃ xs, xs = tab k fun j => numV (ps.getD j .empty) := ⟨_, rfl⟩
      have hxl : xs.length ≤ maxLen := by rw [hxs, len_tab]; unfold maxLen; omega
      rw [← hxs] at hO HL
      have HV := Lib.hid fun v w (hr : Rd w v xs) => implValid_any v xs w hr hxl
      have hr := hO.rd
      clear hxs hall HA HC
      subst hkn
      go_wp2_with fail
      refine (HV.out _ _ hr).mono ?_
      rintro e w3 ⟨rfl, b3⟩
      have hB := hB.trans (b3.mono hB.size)
      have hBB := hb1.trans (hB.mono hb1.size)
      have hO := (hO.below b3 (Nat.le_refl _)).mono hb1.size
      cases hv : vrB xs with
      | false =>
        have HF := Lib.hid (rowT_no (s := s) (by rw [← HL.out, hv]; simp))
        clear hv HL HAL HV hr hO
        go_wp2
        go_ret2
        exact ⟨_, _, rfl, hBB, by rw [HF.out]; exact ⟨rfl, rfl⟩⟩
      | true =>
        have HF : Hid (rowT s = some xs) := Lib.hid (by rw [rowT_yes HAL.out (by rw [← HL.out]; exact hv), ← HL.out])
        clear hv HL HAL HV hr
        go_wp2
        go_ret2
        exact ⟨_, _, rfl, hBB, by rw [HF.out]; exact ⟨hO, rfl⟩⟩

theorem infoStr : (Tryz.prog.info? 9).map (fun i => (i.zero, i.size, i.bytes)) = some (some (.string ⟨#[]⟩), 1, 16) := by kernel_rfl
theorem strs_made {B n : Nat} {w : World} {g : Nat} (h : w.ownsRow B 9 1 (.slice (some ⟨g, 0, none⟩) n n) n (madeCells #[Value.string ⟨#[]⟩] n).toList) : w.heap[g]? = some (.cells (tabS n fun _ => ByteArray.empty).toArray 9 (0, 0)) := by
  rcases h.2 with ⟨h', _⟩ | ⟨g', cap', cur, h', _, hg, hnc, _, hcs, htake⟩
  · simp at h'
  · simp only [Value.slice.injEq, Option.some.injEq, Addr.mk.injEq, and_true] at h'
    obtain ⟨rfl, -, rfl⟩ := h'
    rw [List.take_of_length_le (by simp [hcs])] at htake
    rw [hg, show cur = (tabS n fun _ => ByteArray.empty).toArray from ?_]
    refine Array.ext' ?_
    rw [htake, toList_madeCells_one]
    refine List.ext_getElem (by simp [tabS]) fun j h1 h2 => ?_
    simp [tabS]
    rfl

set_option maxHeartbeats 8000000 in
set_option maxRecDepth 100000 in
theorem listOf_any (v : Value) (xs : List Int) (w : World) (hr : Rd w v xs) (h : Dsk w) (hl : xs.length ≤ 1048576) (hw : ∀ n ∈ xs, -9223372036854775808 ≤ n ∧ n ≤ 9223372036854775807) (hj : (Lib.join (xs.map Lib.itoa) [44]).length ≤ 140737488355328) :
    Calls Tryz.prog 28 #[v] w fun e w' => e = .returned (.string (listT xs)) ∧ Below w.heap.size w w' := by
  obtain ⟨a, cap, rfl, hr⟩ := hr
  obtain ⟨i0, hi, hz0, hz1, hz2⟩ := info_parts infoStr
  obtain ⟨n, hn⟩ : ∃ n, n = xs.length := ⟨_, rfl⟩
  have HN := Lib.hid hn
  have HR := Lib.hid hr
  have HW := Lib.hid hw
  have HJ := Lib.hid hj
  rw [← hn] at hl ⊢
  clear hn hr hw hj
  go_enter Tryz.func28, Tryz.ntmps28
  go_wp2_with (at_make; refine wpList_make_full _ rfl _ _ 23 rfl w.heap.size 9 i0 (.string ⟨#[]⟩) 1 Tryz.underlying23 hi hz0 hz1 _ _ _ _ n rfl rfl rfl rfl ?c1 ?c2 ?c3 ?_)
  case c1 => rw [hz2]; omega
  case c2 => unfold maxLen; omega
  case c3 => omega
  intro w1 hown hgrow
  have hH := strs_made hown
  have hB := (Below.refl w.heap.size w).grown hgrow (Nat.le_refl _) (by simp)
  clear hown hgrow
  have hH0 : w1.heap[w.heap.size]? = some (.cells (tabS n fun j => if j < 0 then bs (Lib.itoa (ix xs j)) else ByteArray.empty).toArray 9 (0, 0)) := hH
  have HI := Lib.hid fun v w (hd : Dsk w) (hv : -9223372036854775808 ≤ v ∧ v ≤ 9223372036854775807) => itoa_any v w hd hv
  clear hH
  go_wp2
  go_loopw [11] (fun i wr => ∃ k : Nat, k ≤ n ∧ i = .int .i64 k ∧ wr.heap[w.heap.size]? = some (.cells (tabS n fun j => if j < k then bs (Lib.itoa (ix xs j)) else ByteArray.empty).toArray 9 (0, 0)) ∧ Below w.heap.size w wr) (fun i _ => n - (intOf i).toNat)
  case atStart => exact ⟨0, Nat.zero_le _, rfl, hH0, hB⟩
  case round =>
    obtain ⟨k, hk, rfl, hH, hB⟩ := hrel
    clear hH0
    by_cases hlt : k < n
    · have hkx : k < xs.length := by rw [← HN.out]; exact hlt
      obtain ⟨b, off, rfl, hbl, hc⟩ : ∃ b off, a = some ⟨b, off, none⟩ ∧ b < w.heap.size ∧ w.cell? ⟨b, off + k, none⟩ = some (.int .i64 (ix xs k)) := by
        rcases HR.out with h | ⟨b, off, h, hb, hc⟩
        · rw [h] at hkx; exact absurd hkx (Nat.not_lt_zero k)
        · exact ⟨b, off, h, hb, hc k hkx⟩
      have hcw := (hB.cell (p := ⟨b, off + k, none⟩) hbl).trans hc
      have hD := h.below hB
      have hv := HW.out _ (ix_memD hkx)
      have i1 : (k : Int) < (n : Int) := by omega
      have hgl := (Array.getElem?_eq_some_iff.1 hH).1
      have HS := Lib.hid (tabS_set (n := n) (f := fun j => if j < k then bs (Lib.itoa (ix xs j)) else ByteArray.empty) (g := fun j => if j < k + 1 then bs (Lib.itoa (ix xs j)) else ByteArray.empty) (k := k) (u := bs (Lib.itoa (ix xs k))) (if_pos (Nat.lt_succ_self k)) (fun j hj => by by_cases q : j < k <;> simp only [q, if_true, if_false] <;> split <;> first | rfl | omega))
      have hcg : ((tabS n fun j => if j < k then bs (Lib.itoa (ix xs j)) else ByteArray.empty).toArray)[k]? = some (.string ByteArray.empty) := by rw [tabS_get _ hlt, if_neg (Nat.lt_irrefl k)]
      obtain ⟨z, hz⟩ : ∃ z, z = ix xs k := ⟨_, rfl⟩
      rw [← hz] at hcw hv HS
      clear hz hc
      go_wp2_with fail
      refine (HI.out z wr hD hv).mono ?_
      rintro e w4 ⟨rfl, b4⟩
      have hH4 := (b4.block _ hgl).trans hH
      have hB := hB.trans (b4.mono hB.size)
      have c4 : w4.cell? ⟨w.heap.size, k, none⟩ = some (.string ByteArray.empty) := by rw [Lib.cell_of_heap hH4, hcg]
      have f4 := Lib.frozen_of_heap hH4 k
      have hH5 := Lib.heap_setCell_same (i := k) hH4 (.string (bs (Lib.itoa z)))
      rw [HS.out] at hH5
      have hB5 := hB.setCell (p := ⟨w.heap.size, k, none⟩) (Nat.le_refl _) (.string (bs (Lib.itoa z)))
      clear hH hH4 hB b4 hv hcg hD hcw hkx
      go_wp2
      go_roundw
      case rel => exact ⟨k + 1, by omega, by go_num, hH5, hB5⟩
      case measure => simp [intOf]; omega
    · have hkn : k = n := by omega
      have HL := Lib.hid (show (tabS n fun j => if j < k then bs (Lib.itoa (ix xs j)) else ByteArray.empty) = (xs.map fun z => bs (Lib.itoa z)).map Value.string by
        rw [List.map_map]
        refine List.ext_getElem (by simp [tabS, HN.out]) fun j h1 h2 => ?_
        have hj : j < n := by simpa [tabS] using h1
        have hjx : j < xs.length := by rw [← HN.out]; exact hj
        simp [tabS, hkn, hj, ix, List.getD, List.getElem?_eq_getElem hjx])
      rw [HL.out] at hH
      have hgl := (Array.getElem?_eq_some_iff.1 hH).1
      have HJN := Lib.hid (strings_Join w.heap.size 0 n (xs.map fun z => bs (Lib.itoa z)) ⟨#[44]⟩ wr (fun j x hj => by
          rw [Lib.cell_of_heap hH, Nat.zero_add]
          simp only [List.getElem?_toArray, List.getElem?_map, hj, Option.map_some]) hgl (by rw [List.length_map, ← HN.out]; omega) (by rw [List.length_map, ← HN.out]; exact Nat.le_refl _) (by rw [List.map_map]; exact HJ.out))
      rw [List.length_map, ← HN.out, List.map_map] at HJN
      have HF := Lib.hid (show (⟨(Lib.join (xs.map ((fun x => x.data.toList) ∘ fun z => bs (Lib.itoa z))) [44]).toArray⟩ : ByteArray) = listT xs from rfl)
      clear HL hH hgl
      subst hkn
      go_wp2_with fail
      refine HJN.out.mono ?_
      rintro e w5 ⟨rfl, b5⟩
      have hBB := hB.trans (b5.mono hB.size)
      go_wp2
      go_ret
      exact ⟨rfl, hBB⟩

/-- What a word of the desk stands for. -/
def wordF (s : ByteArray) : Value :=
  if s = ⟨#[101, 100, 103, 101]⟩ then .func (.func 62) #[] #[] else
  if s = ⟨#[115, 105, 103, 110, 115]⟩ then .func (.func 63) #[] #[] else
  if s = ⟨#[119, 97, 118, 101]⟩ then .func (.func 64) #[] #[] else
  if s = ⟨#[104, 97, 108, 118, 101]⟩ then .func (.func 65) #[] #[] else
  if s = ⟨#[108, 101, 97, 112]⟩ then .func (.func 66) #[] #[] else
  if s = ⟨#[115, 101, 108, 102]⟩ then .func (.func 67) #[] #[] else .nilFunc

set_option maxHeartbeats 4000000 in
set_option maxRecDepth 100000 in
theorem functionOf_any (s : ByteArray) (w : World) : Calls Tryz.prog 43 #[.string s] w fun e w' => e = .returned (wordF s) ∧ w' = w := by
  by_cases h0 : s = ⟨#[101, 100, 103, 101]⟩
  · subst h0
    go_enter Tryz.func43, Tryz.ntmps43
    go_wp2
    go_ret
    exact ⟨rfl, rfl⟩
  have e0 : (s.toList == [101, 100, 103, 101]) = false := (congrArg (fun l => (s.toList == l)) (ByteArray.toList_eq ⟨#[101, 100, 103, 101]⟩)).symm.trans ((Lib.bytes_beq_false_iff _ _).2 h0)
  by_cases h1 : s = ⟨#[115, 105, 103, 110, 115]⟩
  · subst h1
    go_enter Tryz.func43, Tryz.ntmps43
    go_wp2
    go_ret
    exact ⟨rfl, rfl⟩
  have e1 : (s.toList == [115, 105, 103, 110, 115]) = false := (congrArg (fun l => (s.toList == l)) (ByteArray.toList_eq ⟨#[115, 105, 103, 110, 115]⟩)).symm.trans ((Lib.bytes_beq_false_iff _ _).2 h1)
  by_cases h2 : s = ⟨#[119, 97, 118, 101]⟩
  · subst h2
    go_enter Tryz.func43, Tryz.ntmps43
    go_wp2
    go_ret
    exact ⟨rfl, rfl⟩
  have e2 : (s.toList == [119, 97, 118, 101]) = false := (congrArg (fun l => (s.toList == l)) (ByteArray.toList_eq ⟨#[119, 97, 118, 101]⟩)).symm.trans ((Lib.bytes_beq_false_iff _ _).2 h2)
  by_cases h3 : s = ⟨#[104, 97, 108, 118, 101]⟩
  · subst h3
    go_enter Tryz.func43, Tryz.ntmps43
    go_wp2
    go_ret
    exact ⟨rfl, rfl⟩
  have e3 : (s.toList == [104, 97, 108, 118, 101]) = false := (congrArg (fun l => (s.toList == l)) (ByteArray.toList_eq ⟨#[104, 97, 108, 118, 101]⟩)).symm.trans ((Lib.bytes_beq_false_iff _ _).2 h3)
  by_cases h4 : s = ⟨#[108, 101, 97, 112]⟩
  · subst h4
    go_enter Tryz.func43, Tryz.ntmps43
    go_wp2
    go_ret
    exact ⟨rfl, rfl⟩
  have e4 : (s.toList == [108, 101, 97, 112]) = false := (congrArg (fun l => (s.toList == l)) (ByteArray.toList_eq ⟨#[108, 101, 97, 112]⟩)).symm.trans ((Lib.bytes_beq_false_iff _ _).2 h4)
  by_cases h5 : s = ⟨#[115, 101, 108, 102]⟩
  · subst h5
    go_enter Tryz.func43, Tryz.ntmps43
    go_wp2
    go_ret
    exact ⟨rfl, rfl⟩
  have e5 : (s.toList == [115, 101, 108, 102]) = false := (congrArg (fun l => (s.toList == l)) (ByteArray.toList_eq ⟨#[115, 101, 108, 102]⟩)).symm.trans ((Lib.bytes_beq_false_iff _ _).2 h5)
  have HF : Hid (wordF s = .nilFunc) := Lib.hid (by unfold wordF; rw [if_neg h0, if_neg h1, if_neg h2, if_neg h3, if_neg h4, if_neg h5])
  clear h0 h1 h2 h3 h4 h5
  go_enter Tryz.func43, Tryz.ntmps43
  go_wp2
  go_ret
  exact ⟨by rw [HF.out]; rfl, rfl⟩

end Go.Proofs.YtagncoahobghpacGreatDoor
