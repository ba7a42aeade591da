/-
  The law FnMatchesOf, as a contract.
-/
import Derived.Test.YtagncoahobghpaaDoorFnM
import Derived.Test.YtagncoahobghpaaDoorHelpF
import Derived.Test.YtagncoahobghpaaDoorHelpM
import Derived.Test.YtagncoahobghpaaDoorMsS
import Derived.Test.YtagncoahobghpaaDoorDrawT
namespace Go.Proofs.YtagncoahobghpaaDoor
open Go.RowKit
set_option linter.unusedVariables false

theorem Rd.drewN {w : World} {v : Value} {xs : List Int} (h : Rd w v xs) (n : Nat) : Rd (w.drewN n) v xs := h

set_option maxHeartbeats 8000000 in
set_option maxRecDepth 100000 in
theorem lawMatchesOf_any (v : Value) (n : Nat) (w : World) (h : RdB w v n) :
    Calls Tryd.prog 3 #[v] w (Says true w) := by
  have h0 := h
  obtain ⟨a, cap, rfl, h1, h2, -⟩ := h0
  unfold maxLen at h2
  by_cases hbig : n ≤ 1048576
  · go_enter Tryd.func3, Tryd.ntmps3
    go_wp2_with fail
    refine (drawMatchesOf_any _ n _ h).mono ?_
    rintro e w1 ⟨s, p, rfl, hs, hp, bb⟩
    clear h h1 h2 hbig
    have HI := Lib.hid fun w => implMatchesOf_any s p w (by omega) (by omega)
    have HS := Lib.hid fun w => specMatchesOf_any s p w (by omega) (by omega)
    have hl := mtF_len s p
    obtain ⟨zs, hz⟩ : ∃ zs, zs = mtF s p := ⟨_, rfl⟩
    rw [← hz] at HI HS hl
    have hM : zs.length ≤ maxLen := by unfold maxLen; omega
    go_wp2_with fail
    refine (HI.out _).mono ?_
    rintro e w2 ⟨v1, rfl, o1, b2⟩
    have bb := bel_nxt bb b2
    clear b2
    go_wp2_with fail
    refine (HS.out _).mono ?_
    rintro e w3 ⟨v2, rfl, o2, b3⟩
    have o1 := o1.below b3 (Nat.le_refl _)
    have bb := bel_nxt bb b3
    clear b3
    go_wp2_with fail
    refine (equalInts_any _ _ zs zs _ o1.rd o2.rd hM hM).mono ?_
    rintro e w4 ⟨rfl, b4⟩
    have o1 := o1.below b4 (Nat.le_refl _)
    have bb := bel_nxt bb b4
    clear b4 o2
    rw [eqB_self]
    have HMI := Lib.hid fun w => implMissesOf_any s p w (by omega) (by omega)
    have hml := msgF_len s p
    obtain ⟨ms, hms⟩ : ∃ ms, ms = msgF s p := ⟨_, rfl⟩
    rw [← hms] at HMI hml
    by_cases hp0 : p.size = 0
    · have i1 := empty_yes hp0
      clear hz hl hs hp hp0 hms
      go_wp2_with fail
      refine (HS.out _).mono ?_
      rintro e w5 ⟨v2, rfl, o2, b5⟩
      have o1 := o1.below b5 (Nat.le_refl _)
      have bb := bel_nxt bb b5
      clear b5
      go_wp2_with fail
      refine (equalInts_any _ _ zs zs _ o1.rd o2.rd hM hM).mono ?_
      rintro e w6 ⟨rfl, b6⟩
      have bb := bel_nxt bb b6
      rw [eqB_self]
      go_wp2
      go_ret
      exact ⟨rfl, bb⟩
    · have i1 := empty_no hp0
      obtain ⟨n, hn⟩ : ∃ n, n = ms.length := ⟨_, rfl⟩
      have HN := Lib.hid hn
      by_cases h0 : n = 0
      · have i2 : ((n : Int) == 0) = true := by simp [h0]
        clear hz hl hs hp h0 hms hp0 hn
        go_wp2_with fail
        refine (HMI.out _).mono ?_
        rintro e w5 ⟨v3, rfl, o3, b5⟩
        obtain ⟨a3, c3, rfl⟩ := own_slN o3 HN.out.symm
        have o1 := o1.below b5 (Nat.le_refl _)
        have bb := bel_nxt bb b5
        clear b5
        go_wp2_with fail
        refine (HS.out _).mono ?_
        rintro e w7 ⟨v2, rfl, o2, b7⟩
        have o1 := o1.below b7 (Nat.le_refl _)
        have bb := bel_nxt bb b7
        clear b7
        go_wp2_with fail
        refine (equalInts_any _ _ zs zs _ o1.rd o2.rd hM hM).mono ?_
        rintro e w8 ⟨rfl, b8⟩
        have bb := bel_nxt bb b8
        rw [eqB_self]
        go_wp2
        go_ret
        exact ⟨rfl, bb⟩
      · have hg : mgB s p = true := by
          cases e : mgB s p with
          | true => rfl
          | false => exact absurd (by rw [hn, hms]; unfold msgF; rw [e]; rfl) h0
        have e1 : ms = msL s p := by rw [hms]; unfold msgF; rw [if_pos hg]
        have e2 : zs = mtL s p := by rw [hz]; unfold mtF; rw [if_pos hg]
        have hn1 : n = s.size + 1 - p.size := by rw [hn, e1]; unfold msL; rw [len_tab]
        have hzl : zs.length ≤ n := by rw [e2, hn1]; exact fil_len _ _
        have HIN := Lib.hid (fun k (hk : k < n) => show decide ((k : Int) ∈ zs) = (ix ms k == 0) by
          rw [e2, e1]
          unfold mtL msL
          rw [ix_tab _ _ _ (by omega)]
          by_cases q : msN (bI s) (bI p) p.size k = 0
          · rw [q]; exact decide_eq_true ((fil_mem _ _ _).mpr ⟨k, by omega, by simp [q], rfl⟩)
          · have e3 : (msN (bI s) (bI p) p.size k == 0) = false := by simp [q]
            rw [e3]
            refine decide_eq_false fun h => ?_
            obtain ⟨i, _, hi, hk2⟩ := (fil_mem _ _ _).mp h
            have : i = k := by omega
            subst this
            exact q (by simpa using hi))
        have HASC := Lib.hid (show ∀ j, j + 1 < zs.length → ix zs j < ix zs (j + 1) from fun j hj => by
          rw [e2] at hj ⊢
          exact fil_asc _ _ hj)
        have i2 : ((n : Int) == 0) = false := by simp; omega
        have hn21 : n ≤ 21 := by omega
        obtain ⟨m, hm⟩ : ∃ m, m = zs.length := ⟨_, rfl⟩
        obtain ⟨a1, c1, rfl⟩ := own_slN o1 hm.symm
        have i3 : (m : Int) ≤ (n : Int) := by omega
        have hzb : zs.length ≤ 1048576 := by omega
        have r1 := o1.rd
        clear hz hl hs hp h0 hms hp0 hg e1 e2 hn1 hzl o1 HI HS hn hm hml hM
        go_wp2_with fail
        refine (HMI.out _).mono ?_
        rintro e w5 ⟨v3, rfl, o3, b5⟩
        obtain ⟨a3, c3, rfl⟩ := own_slN o3 HN.out.symm
        have r1 := r1.below b5 (Nat.le_refl _)
        have bb := bel_nxt bb b5
        clear b5 o3
        go_wp2_with fail
        refine (HMI.out _).mono ?_
        rintro e w6 ⟨v4, rfl, o4, b6⟩
        obtain ⟨a4, c4, rfl⟩ := own_slN o4 HN.out.symm
        have r1 := r1.below b6 (Nat.le_refl _)
        have bb := bel_nxt bb b6
        have r4 := o4.rd
        clear b6 o4
        go_wp2
        go_loopw [7] (fun i wr => ∃ k : Nat, k ≤ n ∧ i = .int .i64 k ∧ Below w6.heap.size w6 wr) (fun i _ => n - (intOf i).toNat)
        case atStart => exact ⟨0, Nat.zero_le _, rfl, Below.refl _ _⟩
        case round =>
          obtain ⟨k, hk, rfl, hB⟩ := hrel
          by_cases hlt : k < n
          · have hkz : k < ms.length := by rw [← HN.out]; exact hlt
            obtain ⟨b, off, ha, hbl, hc⟩ : ∃ b off, a4 = some ⟨b, off, none⟩ ∧ b < w6.heap.size ∧ w6.cell? ⟨b, off + k, none⟩ = some (.int .i64 (ix ms k)) := by
              obtain ⟨a', c', he, h⟩ := r4
              simp only [Value.slice.injEq] at he
              obtain ⟨rfl, -, -⟩ := he
              rcases h with h | ⟨b, off, h, hb, hc⟩
              · rw [h] at hkz; exact absurd hkz (Nat.not_lt_zero k)
              · exact ⟨b, off, h, hb, hc k hkz⟩
            subst ha
            have hcw := (hB.cell (p := ⟨b, off + k, none⟩) hbl).trans hc
            have hin := HIN.out k hlt
            obtain ⟨z, hze⟩ : ∃ z, z = ix ms k := ⟨_, rfl⟩
            rw [← hze] at hcw hin
            have HII := Lib.hid fun q => isIn_at _ zs (k : Int) (wr.drewN q) ((r1.below hB (Nat.le_refl _)).drewN q) hzb
            rw [hin] at HII
            obtain ⟨B, hBe⟩ : ∃ B, B = (z == 0) := ⟨_, rfl⟩
            rw [← hBe] at HII
            have e3 : (z == 0) = B := hBe.symm
            have q3 : (!(B == B)) = false := by simp
            have q4 : (B != B) = false := by simp
            have i5 : (k : Int) < (n : Int) := by omega
            have HB := Lib.hid hB
            clear hze hin hBe hkz hc hB
            go_wp2
            go_quiet ((go_at_call 10; exact Calls.quiet_of_same ((HII.out _).mono fun _ _ ⟨h1, h2⟩ => ⟨h1, h2.symm⟩)))
            go_wp2
            go_roundw
            case rel => exact ⟨k + 1, by omega, by go_num, below_drewN HB.out _⟩
            case measure => simp [intOf]; omega
          · obtain rfl : k = n := by omega
            have HAS := Lib.hid (ascends_at _ zs _ (r1.below hB (Nat.le_refl _)) hzb HASC.out)
            have bb := bb.trans (hB.mono bb.size)
            clear hB
            go_wp2_with fail
            refine HAS.out.mono ?_
            rintro e w8 ⟨rfl, b8⟩
            have bb := bel_nxt bb b8
            go_wp2
            go_ret
            exact ⟨rfl, bb⟩
  · clear h
    go_enter Tryd.func3, Tryd.ntmps3
    go_wp2
    go_ret
    exact ⟨rfl, Below.refl _ _⟩

end Go.Proofs.YtagncoahobghpaaDoor
