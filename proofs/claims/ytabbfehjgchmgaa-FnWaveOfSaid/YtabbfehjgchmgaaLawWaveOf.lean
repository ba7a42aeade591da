/-
  The law FnWaveOf, as a contract.
-/
import Derived.Test.YtabbfehjgchmgaaHelpF
import Derived.Test.YtabbfehjgchmgaaHelpR
import Derived.Test.YtabbfehjgchmgaaDraw3
import Derived.Test.YtabbfehjgchmgaaWvY
import Derived.Test.YtabbfehjgchmgaaWvZ
import Derived.Deep.RegionHeld3
namespace Go.Proofs.Ytabbfehjgchmgaa
open Go.RowKit
set_option linter.unusedVariables false

theorem Own.drewN {E B : Nat} {w : World} {v : Value} {xs : List Int} (h : Own E B w v xs) (n : Nat) : Own E B (w.drewN n) v xs := h

set_option maxHeartbeats 8000000 in
set_option maxRecDepth 100000 in
theorem lawWaveOf_any (v : Value) (n : Nat) (w : World) (h : RdB w v n) :
    Calls Try.prog 6 #[v] w (Says true w) := by
  have h0 := h
  obtain ⟨a, cap, rfl, h1, h2, -⟩ := h0
  unfold maxLen at h2
  by_cases hbig : n ≤ 1048576
  · go_enter Try.func6, Try.ntmps6
    go_wp2_with fail
    refine (drawWaveOf_any _ n _ h).mono ?_
    rintro e w1 ⟨v, xs, rfl, o, hl, hw, bb⟩
    clear h h1 h2 hbig
    have HI := Lib.hid fun w (v : Value) (h : Rd w v xs) => implWaveOf_any v xs w h (Own.max64 hl)
    have HS := Lib.hid fun w (v : Value) (h : Rd w v xs) => specWaveOf_any v xs w h (Own.max64 hl)
    have hM := Own.max64 hl
    obtain ⟨ys, hys⟩ : ∃ ys, ys = waveF xs := ⟨_, rfl⟩
    rw [← hys] at HI HS
    have hyl : ys.length ≤ 64 := by rw [hys]; exact (by unfold waveF; split <;> simp; exact hl)
    have hyM := Own.max64 hyl
    have HE := Lib.hid fun w (a b : Value) (h1 : Rd w a ys) (h2 : Rd w b ys) => equalInts_any a b ys ys w h1 h2 hyM hyM
    have HYS := Lib.hid hys
    clear hys
    go_wp2_with fail
    refine (HI.out _ _ o.rd).mono ?_
    rintro e w2 ⟨u, rfl, p, b2⟩
    have o := o.below b2 (Nat.le_refl _)
    have bb := bel_nxt bb b2
    go_wp2_with fail
    refine (HS.out _ _ o.rd).mono ?_
    rintro e w3 ⟨u3, rfl, p3, b3⟩
    have o := o.below b3 (Nat.le_refl _)
    have p := p.below b3 (Nat.le_refl _)
    have bb := bel_nxt bb b3
    go_wp2_with fail
    refine (HE.out _ _ _ p.rd p3.rd).mono ?_
    rintro e w4 ⟨rfl, b4⟩
    rw [eqB_self]
    have o := o.below b4 (Nat.le_refl _)
    have p := p.below b4 (Nat.le_refl _)
    have bb := bel_nxt bb b4
    clear b2 b3 b4 p3
    by_cases hy0 : ys.length = 0
    · obtain ⟨a1, c1, rfl⟩ := own_slD p
      rw [hy0]
      rw [hy0] at p
      go_wp2_with fail
      refine (HS.out _ _ o.rd).mono ?_
      rintro e w5 ⟨u5, rfl, p5, b5⟩
      have p := p.below b5 (Nat.le_refl _)
      have bb := bel_nxt bb b5
      go_wp2_with fail
      refine (HE.out _ _ _ p.rd p5.rd).mono ?_
      rintro e w6 ⟨rfl, b6⟩
      rw [eqB_self]
      have bb := bel_nxt bb b6
      go_wp2
      go_ret
      exact ⟨rfl, bb⟩
    · have hcb : vsB xs = true := by
        cases hb : vsB xs with
        | true => rfl
        | false => have q := HYS.out; rw [waveF_no hb] at q; rw [q] at hy0; simp at hy0
      have hyL : ys = waveR xs := by rw [HYS.out]; exact waveF_yes hcb
      have hV := (vsB_iff xs).1 hcb
      have hYV := vs_wave hV
      have hyn : ys.length = xs.length := by rw [hyL, len_waveR]
      obtain ⟨hn0, hn1, hdv⟩ : 0 < xs.length ∧ xs.length ≤ 96 ∧ 96 % xs.length = 0 := ⟨hV.some, hV.few, hV.div⟩
      have hrt := rt_bd hn0 hn1 hdv
      have HRT := Lib.hid fun w => implRootOf_any xs.length w
      rw [rootF_yes hn0 hn1 hdv] at HRT
      have HT := Lib.hid fun w (v : Value) (h : Rd w v xs) => implTurnOf_any v xs 1 w h hM
      rw [show turnF xs 1 = turnL 1 xs from turnF_yes (k := 1) hcb (by omega)] at HT
      have HW := Lib.hid fun w (v : Value) (h : Rd w v (turnL 1 xs)) => implWaveOf_any v _ w h (by rw [len_turnL]; exact hM)
      rw [waveF_yes ((vsB_iff _).2 (vs_turn hV 1))] at HW
      have HK := Lib.hid fun k (hk : k < xs.length) => show ix (waveR (turnL 1 xs)) k = (ix ys k * (pm (rtN xs.length) k : Nat)) % 97 by
        rw [hyL, wave_turn hV 1 hk, Nat.one_mul]
        exact c_mulC rfl (by rw [pm_pw, Int.emod_emod_of_dvd _ (Int.dvd_refl 97)])
      have HU := Lib.hid fun w (v : Value) (h : Rd w v ys) => implUnwaveOf_any v ys w h hyM
      rw [show unwF ys = xs by rw [hyL, unwF_yes ((vsB_iff _).2 hYV)]; exact unwave_wave hV] at HU
      have HX := Lib.hid fun w (a b : Value) (h1 : Rd w a xs) (h2 : Rd w b xs) => equalInts_any a b xs xs w h1 h2 hM hM
      have HTO := Lib.hid fun w (v : Value) (h : Rd w v xs) => total_q v xs w h (by omega)
      have hfst : ix ys 0 = wrap64 (sumN (ix xs) xs.length) % 97 := by
        have hb := sumN_bound (f := ix xs) (n := xs.length) (c := 96) (by decide) (fun i hi => by have := hV.rest i hi; omega)
        rw [hyL, wave_first hV, w64_id (by omega)]
      have hT0 : 0 ≤ wrap64 (sumN (ix xs) xs.length) := by
        have hb := sumN_bound (f := ix xs) (n := xs.length) (c := 96) (by decide) (fun i hi => by have := hV.rest i hi; omega)
        have h0 : 0 ≤ sumN (ix xs) xs.length := by
          have := sumN_le (f := fun _ => 0) (g := ix xs) (n := xs.length) (fun i hi => (hV.rest i hi).1)
          rw [sumN_zero (fun _ _ => rfl)] at this
          exact this
        rw [w64_id (by omega)]
        exact h0
      have hyr : ∀ j, j < xs.length → 0 ≤ ix ys j ∧ ix ys j ≤ 96 := fun j hj => by rw [hyL]; exact hYV.rest j (by rw [len_waveR]; exact hj)
      have hml : (waveR (turnL 1 xs)).length = xs.length := by simp
      obtain ⟨ms, hms⟩ : ∃ ms, ms = waveR (turnL 1 xs) := ⟨_, rfl⟩
      rw [← hms] at HW HK hml
      obtain ⟨r, hr⟩ : ∃ r, r = rtN xs.length := ⟨_, rfl⟩
      rw [← hr] at HRT HK hrt
      obtain ⟨T, hTT⟩ : ∃ T, T = wrap64 (sumN (ix xs) xs.length) := ⟨_, rfl⟩
      rw [← hTT] at HTO hfst hT0
      obtain ⟨g1, d1, rfl, -, -⟩ := o.form (by intro e; rw [e] at hn0; simp at hn0)
      obtain ⟨g2, d2, rfl, -, -⟩ := p.form (by intro e; rw [e] at hy0; simp at hy0)
      obtain ⟨n, hn⟩ : ∃ n, n = xs.length := ⟨_, rfl⟩
      have HN := Lib.hid hn
      have HYN := Lib.hid (hyn.trans hn.symm)
      have HML := Lib.hid (hml.trans hn.symm)
      rw [hyn] at p ⊢
      rw [← hn] at o p HRT HK hyr hn0 hn1 hl ⊢
      obtain ⟨hr0, hr1⟩ := hrt
      have i5 : ((n : Int) == 0) = false := by rw [beq_eq_false_iff_ne]; omega
      have i6 : (0 : Int) < (n : Int) := by omega
      have HF := Lib.hid hfst
      have HHY := Lib.hid hyr
      clear hV hYV hyL hyn hcb hdv hms hr hTT hfst hyr hn hml hy0 HI HS HE HYS
      go_wp2_with fail
      refine (HRT.out _).mono ?_
      rintro e w5 ⟨rfl, b5⟩
      have o := o.below b5 (Nat.le_refl _)
      have p := p.below b5 (Nat.le_refl _)
      have bb := bel_nxt bb b5
      go_wp2_with fail
      refine (HT.out _ _ o.rd).mono ?_
      rintro e w6 ⟨u6, rfl, p6, b6⟩
      have o := o.below b6 (Nat.le_refl _)
      have p := p.below b6 (Nat.le_refl _)
      have bb := bel_nxt bb b6
      go_wp2_with fail
      refine (HW.out _ _ p6.rd).mono ?_
      rintro e w7 ⟨u7, rfl, q, b7⟩
      have o := o.below b7 (Nat.le_refl _)
      have p := p.below b7 (Nat.le_refl _)
      have bb := bel_nxt bb b7
      obtain ⟨g3, d3, rfl, -, -⟩ := q.form (by intro e; have := HML.out; rw [e] at this; simp at this; omega)
      rw [HML.out] at q ⊢
      clear b5 b6 b7 p6 HT HW HRT
      go_wp2
      go_loopw [8] (fun i wr => ∃ k : Nat, k ≤ n ∧ i = .int .i64 k ∧ Own 3 w1.heap.size wr (.slice (some ⟨g2, 0, none⟩) n d2) ys ∧ Own 3 w.heap.size wr (.slice (some ⟨g1, 0, none⟩) n d1) xs ∧ Own 3 w6.heap.size wr (.slice (some ⟨g3, 0, none⟩) n d3) ms ∧ Below w.heap.size w wr) (fun i _ => n - (intOf i).toNat)
      case atStart => exact ⟨0, Nat.zero_le _, rfl, p, o, q, bb⟩
      case round =>
        obtain ⟨k, hk, rfl, p, o, q, bb⟩ := hrel
        by_cases hlt : k < n
        · have hcm := q.cell k (by rw [HML.out]; exact hlt)
          have hco := p.cell k (by rw [HYN.out]; exact hlt)
          rw [HK.out k hlt] at hcm
          have hy := HHY.out k hlt
          have HR := Lib.hid fun w => raised_any r k w hr1 (by omega)
          have hpl := pm_lt r k
          obtain ⟨y, hyy⟩ : ∃ y, y = ix ys k := ⟨_, rfl⟩
          obtain ⟨z, hz⟩ : ∃ z, z = pm r k := ⟨_, rfl⟩
          rw [← hyy] at hcm hco hy
          rw [← hz] at hcm HR hpl
          have hyz0 : 0 ≤ y * (z : Int) := Int.mul_nonneg hy.1 (by omega)
          have hyz1 : y * (z : Int) ≤ 96 * 96 := Int.mul_le_mul hy.2 (by omega) (by omega) (by omega)
          obtain ⟨t, ht⟩ : ∃ t, t = y * (z : Int) % 97 := ⟨_, rfl⟩
          rw [← ht] at hcm
          have j1 : IntKind.i64.wrap (y * (z : Int)) = y * (z : Int) := IntWalk.i64_in _ (by omega)
          have j2 : Int.tmod (y * (z : Int)) 97 = t := by rw [Int.tmod_eq_emod_of_nonneg hyz0, ← ht]
          have j3 : (t != t) = false := by simp
          have ki : (k : Int) < (n : Int) := by omega
          clear hyy hz ht hy hyz0 hyz1
          go_wp2
          go_quiet ((first | (go_at_call 15; exact Calls.quiet_of_same ((HR.out _).mono fun _ _ ⟨h1, h2⟩ => ⟨h1, h2.symm⟩))))
          clear j1 j2 j3
          go_wp2
          go_roundw
          case rel => exact ⟨k + 1, by omega, by go_num, p.drewN _, o.drewN _, q.drewN _, below_drewN bb _⟩
          case measure => simp [intOf]; omega
        · obtain rfl : k = n := by omega
          have hc2 := p.cell 0 (by rw [HYN.out]; exact hn0)
          obtain ⟨z0, hz0⟩ : ∃ z0, z0 = ix ys 0 := ⟨_, rfl⟩
          have HZ : Hid (ix ys 0 = z0) := hz0.symm
          rw [← hz0] at hc2
          have j2 : Int.tmod T 97 = z0 := by rw [Int.tmod_eq_emod_of_nonneg hT0, hz0]; exact HF.out.symm
          have j3 : (z0 == z0) = true := by simp
          have HLY := HYN
          have hpos : 0 < ys.length := by rw [HYN.out]; exact hn0
          have oD := o.drew
          have pD := p.drew
          have bbD := bb.drew
          clear hz0 q hT0
          go_wp2
          go_region_held3 (fun w' => w'.cell? ⟨g2, 0, none⟩ = some (.int .i64 z0)) (first | exact hc2 | go_keep)
            (first
              | (go_at_call 27; refine (HU.out _ _ pD.rd).mono ?_; rintro e wb ⟨u8, rfl, p8, b8⟩; have oD := oD.below b8 (Nat.le_refl _); have pD := pD.below b8 (Nat.le_refl _); have bbD := bel_nxt bbD b8; have hc2 := pD.cell 0 hpos; rw [HZ.out] at hc2)
              | (go_at_call 24; refine (HX.out _ _ _ p8.rd oD.rd).mono ?_; rintro e wc ⟨rfl, b9⟩; rw [eqB_self]; have oD := oD.below b9 (Nat.le_refl _); have pD := pD.below b9 (Nat.le_refl _); have bbD := bel_nxt bbD b9; have hc2 := pD.cell 0 hpos; rw [HZ.out] at hc2)
              | (go_at_call 28; refine (HTO.out _ _ oD.rd).mono ?_; rintro e wd ⟨rfl, rfl⟩))
          all_goals go_wp2
          all_goals go_ret
          all_goals exact ⟨rfl, bbD⟩
  · clear h
    go_enter Try.func6, Try.ntmps6
    go_wp2
    go_ret
    exact ⟨rfl, Below.refl _ _⟩

end Go.Proofs.Ytabbfehjgchmgaa
