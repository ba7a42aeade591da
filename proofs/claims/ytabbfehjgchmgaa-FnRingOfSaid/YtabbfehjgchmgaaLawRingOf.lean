/-
  The law FnRingOf, as a contract.
-/
import Derived.Test.YtabbfehjgchmgaaHelpF
import Derived.Test.YtabbfehjgchmgaaHelpT
import Derived.Test.YtabbfehjgchmgaaDraw3
import Derived.Test.YtabbfehjgchmgaaWvY
import Derived.Test.YtabbfehjgchmgaaWvZ
namespace Go.Proofs.Ytabbfehjgchmgaa
open Go.RowKit
set_option linter.unusedVariables false

set_option maxHeartbeats 8000000 in
set_option maxRecDepth 100000 in
theorem lawRingOf_any (v : Value) (n : Nat) (w : World) (h : RdB w v n) :
    Calls Try.prog 8 #[v] w (Says true w) := by
  have h0 := h
  obtain ⟨a, cap, rfl, h1, h2, -⟩ := h0
  unfold maxLen at h2
  by_cases hbig : n ≤ 1048576
  · go_enter Try.func8, Try.ntmps8
    go_wp2_with fail
    refine (drawRingOf_any _ n _ h).mono ?_
    rintro e w1 ⟨u0, v0, xs, bs, rfl, o, o', hl, hl', hw, hw', bb⟩
    clear h h1 h2 hbig
    have HI := Lib.hid fun w (u v : Value) (h : Rd w u xs) (h' : Rd w v bs) => implRingOf_any u v xs bs w h h' (Own.max64 hl) (Own.max64 hl')
    have HS := Lib.hid fun w (u v : Value) (h : Rd w u xs) (h' : Rd w v bs) => specRingOf_any u v xs bs w h h' (Own.max64 hl) (Own.max64 hl')
    have hM := Own.max64 hl
    obtain ⟨ys, hys⟩ : ∃ ys, ys = ringF xs bs := ⟨_, rfl⟩
    rw [← hys] at HI HS
    have hyl : ys.length ≤ 64 := by rw [hys]; exact (by unfold ringF; split <;> simp; exact hl)
    have hyM := Own.max64 hyl
    have HE := Lib.hid fun w (a b : Value) (h1 : Rd w a ys) (h2 : Rd w b ys) => equalInts_any a b ys ys w h1 h2 hyM hyM
    have HYS := Lib.hid hys
    clear hys
    go_wp2_with fail
    refine (HI.out _ _ _ o.rd o'.rd).mono ?_
    rintro e w2 ⟨u, rfl, p, b2⟩
    have o := o.below b2 (Nat.le_refl _)
    have o' := o'.below b2 (Nat.le_refl _)
    have bb := bel_nxt bb b2
    go_wp2_with fail
    refine (HS.out _ _ _ o.rd o'.rd).mono ?_
    rintro e w3 ⟨u3, rfl, p3, b3⟩
    have o := o.below b3 (Nat.le_refl _)
    have o' := o'.below b3 (Nat.le_refl _)
    have p := p.below b3 (Nat.le_refl _)
    have bb := bel_nxt bb b3
    go_wp2_with fail
    refine (HE.out _ _ _ p.rd p3.rd).mono ?_
    rintro e w4 ⟨rfl, b4⟩
    rw [eqB_self]
    have o := o.below b4 (Nat.le_refl _)
    have o' := o'.below b4 (Nat.le_refl _)
    have p := p.below b4 (Nat.le_refl _)
    have bb := bel_nxt bb b4
    clear b2 b3 b4 p3
    by_cases hy0 : ys.length = 0
    · obtain ⟨a1, c1, rfl⟩ := own_slD p
      rw [hy0]
      rw [hy0] at p
      go_wp2_with fail
      refine (HS.out _ _ _ o.rd o'.rd).mono ?_
      rintro e w5 ⟨u5, rfl, p5, b5⟩
      have p := p.below b5 (Nat.le_refl _)
      have bb := bel_nxt bb b5
      go_wp2_with fail
      refine (HE.out _ _ _ p.rd p5.rd).mono ?_
      rintro e w6 ⟨rfl, b6⟩
      rw [eqB_self]
      have bb := bel_nxt bb b6
      go_wp2
      go_ret
      exact ⟨rfl, bb⟩
    · have hcb : ringB xs bs = true := by
        cases hb : ringB xs bs with
        | true => rfl
        | false => have q := HYS.out; rw [ringF_no hb] at q; rw [q] at hy0; simp at hy0
      have hyL : ys = ringL xs bs := by rw [HYS.out]; exact ringF_yes hcb
      have hvv : vsB xs = true ∧ vsB bs = true ∧ xs.length = bs.length := by
        have q := hcb
        unfold ringB at q
        simpa [Bool.and_eq_true] using q
      obtain ⟨hva, hvb, hlen⟩ := hvv
      have hA := (vsB_iff xs).1 hva
      have hB := (vsB_iff bs).1 hvb
      have hYV : Vs ys := by rw [hyL]; exact vs_ring hA bs
      have hyn : ys.length = xs.length := by rw [hyL, len_ringL]
      obtain ⟨hn0, hn1⟩ : 0 < xs.length ∧ xs.length ≤ 96 := ⟨hA.some, hA.few⟩
      have HWA := Lib.hid fun w (v : Value) (h : Rd w v xs) => implWaveOf_any v xs w h hM
      rw [waveF_yes hva] at HWA
      have HWB := Lib.hid fun w (v : Value) (h : Rd w v bs) => implWaveOf_any v bs w h (Own.max64 hl')
      rw [waveF_yes hvb] at HWB
      have HTM := Lib.hid fun w (u v : Value) (h : Rd w u (waveR xs)) (h' : Rd w v (waveR bs)) => lawTimes_any u v _ _ w h h' (by rw [len_waveR]; omega) (by rw [len_waveR, len_waveR, hlen])
      have HW := Lib.hid fun w (v : Value) (h : Rd w v ys) => implWaveOf_any v ys w h hyM
      rw [waveF_yes ((vsB_iff _).2 hYV)] at HW
      have HBA := Lib.hid fun w (u v : Value) (h : Rd w u bs) (h' : Rd w v xs) => implRingOf_any u v bs xs w h h' (Own.max64 hl') hM
      rw [show ringF bs xs = ys by rw [hyL, ringF_yes (show ringB bs xs = true by unfold ringB; rw [hva, hvb]; simp [hlen])]; exact ring_comm xs bs hlen.symm] at HBA
      have hwr : ∀ k, k < xs.length → ix (timesL (waveR xs) (waveR bs)) k % 97 = ix (waveR ys) k := by
        intro k hk
        have r1 := (vs_wave hA).rest k (by rw [len_waveR]; exact hk)
        have r2 := (vs_wave hB).rest k (by rw [len_waveR, ← hlen]; exact hk)
        have m0 : 0 ≤ ix (waveR xs) k * ix (waveR bs) k := Int.mul_nonneg r1.1 r2.1
        have m1 : ix (waveR xs) k * ix (waveR bs) k ≤ 96 * 96 := Int.mul_le_mul r1.2 r2.2 r2.1 (by omega)
        unfold timesL
        rw [ix_tab _ _ _ (by rw [len_waveR]; exact hk), w64_id (by omega), hyL, wave_ring hA hlen.symm hk]
      have htb : ∀ k, k < xs.length → 0 ≤ ix (timesL (waveR xs) (waveR bs)) k := by
        intro k hk
        have r1 := (vs_wave hA).rest k (by rw [len_waveR]; exact hk)
        have r2 := (vs_wave hB).rest k (by rw [len_waveR, ← hlen]; exact hk)
        have m0 : 0 ≤ ix (waveR xs) k * ix (waveR bs) k := Int.mul_nonneg r1.1 r2.1
        have m1 : ix (waveR xs) k * ix (waveR bs) k ≤ 96 * 96 := Int.mul_le_mul r1.2 r2.2 r2.1 (by omega)
        unfold timesL
        rw [ix_tab _ _ _ (by rw [len_waveR]; exact hk), w64_id (by omega)]
        exact m0
      have hzl : (timesL (waveR xs) (waveR bs)).length = xs.length := by simp [timesL]
      obtain ⟨ts, hts⟩ : ∃ ts, ts = timesL (waveR xs) (waveR bs) := ⟨_, rfl⟩
      have HTM : Hid (∀ (w : World) (u v : Value), Rd w u (waveR xs) → Rd w v (waveR bs) → Calls Try.prog 34 #[u, v] w (Made 3 w ts)) := by
        rw [hts]; exact HTM.out
      rw [← hts] at hwr htb hzl
      obtain ⟨ms, hms⟩ : ∃ ms, ms = waveR ys := ⟨_, rfl⟩
      rw [← hms] at HW hwr
      have hml : ms.length = xs.length := by rw [hms, len_waveR, hyn]
      have HXM := Lib.hid fun w (a b : Value) (h1 : Rd w a ms) (h2 : Rd w b ms) => equalInts_any a b ms ms w h1 h2 (by rw [hml]; exact hM) (by rw [hml]; exact hM)
      obtain ⟨n, hn⟩ : ∃ n, n = xs.length := ⟨_, rfl⟩
      rw [← hn] at hwr htb hzl hml
      have HMS := Lib.hid (show tab n (upto n (fun j => ix ts j % 97) (ix ts)) = ms by
        rw [upto_all]
        refine ext_ix (by rw [len_tab, hml]) fun j hj => ?_
        rw [len_tab] at hj
        rw [ix_tab _ _ _ hj]
        exact hwr j hj)
      have HTS := Lib.hid (show ts = tab n (upto 0 (fun j => ix ts j % 97) (ix ts)) by
        rw [upto_none, ← hzl]; exact (tab_self ts).symm)
      have HTL := Lib.hid hzl
      have HTB := Lib.hid htb
      have hn0' : 0 < n := by omega
      have hn1' : n ≤ 96 := by omega
      obtain ⟨a1, c1, rfl⟩ := own_slD o
      obtain ⟨a2, c2, rfl⟩ := own_slD o'
      obtain ⟨a3, c3, rfl⟩ := own_slD p
      have i5 : ((ys.length : Int) == 0) = false := by rw [beq_eq_false_iff_ne]; omega
      clear hA hB hYV hyL hyn hcb hva hvb hwr htb hzl hts hms hml hn hlen hy0 hn0 hn1 HI HS HYS
      go_wp2_with fail
      refine (HWA.out _ _ o.rd).mono ?_
      rintro e w5 ⟨u5, rfl, q5, b5⟩
      have o := o.below b5 (Nat.le_refl _)
      have o' := o'.below b5 (Nat.le_refl _)
      have p := p.below b5 (Nat.le_refl _)
      have bb := bel_nxt bb b5
      go_wp2_with fail
      refine (HWB.out _ _ o'.rd).mono ?_
      rintro e w6 ⟨u6, rfl, q6, b6⟩
      have o := o.below b6 (Nat.le_refl _)
      have o' := o'.below b6 (Nat.le_refl _)
      have p := p.below b6 (Nat.le_refl _)
      have q5 := q5.below b6 (Nat.le_refl _)
      have bb := bel_nxt bb b6
      go_wp2_with fail
      refine (HTM.out _ _ _ q5.rd q6.rd).mono ?_
      rintro e w7 ⟨u7, rfl, q7, b7⟩
      have ap1 := Own.apart o q7
      have ap2 := Own.apart o' q7
      have ap3 := Own.apart p q7
      have o := o.below b7 (Nat.le_refl _)
      have o' := o'.below b7 (Nat.le_refl _)
      have p := p.below b7 (Nat.le_refl _)
      have bs7 := bb.size
      have bb := bel_nxt bb b7
      obtain ⟨g, d, rfl, hg, -⟩ := q7.form (by intro e; have := HTL.out; rw [e] at this; simp at this; omega)
      rw [HTL.out] at q7 ⊢
      rw [HTS.out] at q7
      have ap1 := ap1.1
      have ap2 := ap2.1
      have ap3 := ap3.1
      have hwg : w.heap.size ≤ g := by omega
      clear q5 q6 b5 b6 b7 HWA HWB HTM hg bs7
      go_wp2
      go_loopw [7] (fun i wr => ∃ k : Nat, k ≤ n ∧ i = .int .i64 k ∧ Own 3 w6.heap.size wr (.slice (some ⟨g, 0, none⟩) n d) (tab n (upto k (fun j => ix ts j % 97) (ix ts))) ∧ w7.grownBy wr (some g)) (fun i _ => n - (intOf i).toNat)
      case atStart => exact ⟨0, Nat.zero_le _, rfl, q7, World.grownBy.refl _ _⟩
      case round =>
        obtain ⟨k, hk, rfl, q, gr⟩ := hrel
        by_cases hlt : k < n
        · have hck := q.cell k (by simpa using hlt)
          rw [ix_tab _ _ _ hlt, upto_at] at hck
          have hfk := q.frozen k
          have hb := HTB.out k hlt
          have ki : (k : Int) < (n : Int) := by omega
          have Q := q.set k (ix ts k % 97)
          rw [upto_set n k (fun j => ix ts j % 97) (ix ts)] at Q
          have Q := Lib.hid Q
          have GR := Lib.hid (grown_set gr k (.int .i64 (ix ts k % 97)))
          obtain ⟨t, ht⟩ : ∃ t, t = ix ts k := ⟨_, rfl⟩
          rw [← ht] at hck hb Q GR
          clear q gr ht q7 o o' p ap1 ap2 ap3 bb
          go_wp2
          go_roundw
          case rel => exact ⟨k + 1, by omega, by go_num, Q.out, GR.out⟩
          case measure => simp [intOf]; omega
        · obtain rfl : k = n := by omega
          rw [HMS.out] at q
          have o := o.kept gr ap1
          have o' := o'.kept gr ap2
          have p := p.kept gr ap3
          have bb := bb.grown gr bb.size (fun j hj => by injection hj with hj; omega)
          clear q7 ap1 ap2 ap3 gr
          go_wp2_with fail
          refine (HW.out _ _ p.rd).mono ?_
          rintro e w8 ⟨u8, rfl, p8, b8⟩
          have o := o.below b8 (Nat.le_refl _)
          have o' := o'.below b8 (Nat.le_refl _)
          have p := p.below b8 (Nat.le_refl _)
          have q := q.below b8 (Nat.le_refl _)
          have bb := bel_nxt bb b8
          go_wp2_with fail
          refine (HXM.out _ _ _ p8.rd q.rd).mono ?_
          rintro e w9 ⟨rfl, b9⟩
          rw [eqB_self]
          have o := o.below b9 (Nat.le_refl _)
          have o' := o'.below b9 (Nat.le_refl _)
          have p := p.below b9 (Nat.le_refl _)
          have bb := bel_nxt bb b9
          go_wp2_with fail
          refine (HBA.out _ _ _ o'.rd o.rd).mono ?_
          rintro e w10 ⟨u10, rfl, p10, b10⟩
          have p := p.below b10 (Nat.le_refl _)
          have bb := bel_nxt bb b10
          go_wp2_with fail
          refine (HE.out _ _ _ p10.rd p.rd).mono ?_
          rintro e w11 ⟨rfl, b11⟩
          rw [eqB_self]
          have bb := bel_nxt bb b11
          go_wp2
          go_ret
          exact ⟨rfl, bb⟩
  · clear h
    go_enter Try.func8, Try.ntmps8
    go_wp2
    go_ret
    exact ⟨rfl, Below.refl _ _⟩

end Go.Proofs.Ytabbfehjgchmgaa
