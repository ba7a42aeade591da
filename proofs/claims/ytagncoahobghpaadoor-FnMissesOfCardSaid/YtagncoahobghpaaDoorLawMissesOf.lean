/-
  The law FnMissesOf, as a contract.
-/
import Derived.Test.YtagncoahobghpaaDoorFnM
import Derived.Test.YtagncoahobghpaaDoorHelpF
import Derived.Test.YtagncoahobghpaaDoorMsS
import Derived.Test.YtagncoahobghpaaDoorDrawT
namespace Go.Proofs.YtagncoahobghpaaDoor
open Go.RowKit
set_option linter.unusedVariables false

theorem ltN_le (p : Nat → Int) (m : Nat) : 0 ≤ ltN p m ∧ ltN p m ≤ m := by
  induction m with
  | zero => exact ⟨Int.le_refl _, Int.le_refl _⟩
  | succ m ih =>
    have e : ltN p (m + 1) = ltN p m + if p m ≠ 63 then 1 else 0 := rfl
    rw [e]; split <;> omega

set_option maxHeartbeats 8000000 in
set_option maxRecDepth 100000 in
theorem lawMissesOf_any (v : Value) (n : Nat) (w : World) (h : RdB w v n) :
    Calls Tryd.prog 4 #[v] w (Says true w) := by
  have h0 := h
  obtain ⟨a, cap, rfl, h1, h2, -⟩ := h0
  unfold maxLen at h2
  by_cases hbig : n ≤ 1048576
  · go_enter Tryd.func4, Tryd.ntmps4
    go_wp2_with fail
    refine (drawMissesOf_any _ n _ h).mono ?_
    rintro e w1 ⟨s, p, rfl, hs, hp, bb⟩
    clear h h1 h2 hbig
    have HI := Lib.hid fun w => implMissesOf_any s p w (by omega) (by omega)
    have HS := Lib.hid fun w => specMissesOf_any s p w (by omega) (by omega)
    have hl := msgF_len s p
    obtain ⟨zs, hz⟩ : ∃ zs, zs = msgF s p := ⟨_, rfl⟩
    rw [← hz] at HI HS hl
    have hM : zs.length ≤ maxLen := by unfold maxLen; omega
    go_wp2_with fail
    refine (HI.out _).mono ?_
    rintro e w2 ⟨v1, rfl, o1, b2⟩
    have bb := bel_nxt bb b2
    clear b2
    go_wp2_with fail
    refine (HS.out _).mono ?_
    rintro e w3 ⟨v2, rfl, o2, b3⟩
    have o1 := o1.below b3 (Nat.le_refl _)
    have bb := bel_nxt bb b3
    clear b3
    go_wp2_with fail
    refine (equalInts_any _ _ zs zs _ o1.rd o2.rd hM hM).mono ?_
    rintro e w4 ⟨rfl, b4⟩
    have o1 := o1.below b4 (Nat.le_refl _)
    have bb := bel_nxt bb b4
    clear b4 o2
    rw [eqB_self]
    obtain ⟨n, hn⟩ : ∃ n, n = zs.length := ⟨_, rfl⟩
    obtain ⟨a1, c1, rfl⟩ := own_slN o1 hn.symm
    by_cases h0 : n = 0
    · have i1 : ((n : Int) == 0) = true := by simp [h0]
      clear hz h0 hn hl
      go_wp2_with fail
      refine (HS.out _).mono ?_
      rintro e w5 ⟨v2, rfl, o2, b5⟩
      have o1 := o1.below b5 (Nat.le_refl _)
      have bb := bel_nxt bb b5
      clear b5
      go_wp2_with fail
      refine (equalInts_any _ _ zs zs _ o1.rd o2.rd hM hM).mono ?_
      rintro e w6 ⟨rfl, b6⟩
      have bb := bel_nxt bb b6
      rw [eqB_self]
      go_wp2
      go_ret
      exact ⟨rfl, bb⟩
    · have hg : mgB s p = true := by
        cases e : mgB s p with
        | true => rfl
        | false => exact absurd (by rw [hn, hz]; unfold msgF; rw [e]; rfl) h0
      have e1 : zs = msL s p := by rw [hz]; unfold msgF; rw [if_pos hg]
      have hn1 : n = s.size + 1 - p.size := by rw [hn, e1]; unfold msL; rw [len_tab]
      have hle : p.size ≤ s.size := by omega
      have i1 : ((n : Int) == 0) = false := by simp; omega
      have r1 := o1.rd
      have HC := Lib.hid (fun k (hk : k < n) => show ix zs k = msN (bI s) (bI p) p.size k by rw [e1]; unfold msL; rw [ix_tab _ _ _ (by omega)])
      have HR := Lib.hid fun k => msN_range (bI s) (bI p) p.size k
      have hp20 := vp_len (mgB_of hg).2.1
      have HEND := Lib.hid (show (s.size : Int) - (p.size : Int) + 1 = (n : Int) by omega)
      have hn21 : n ≤ 21 := by omega
      have hs20 := vp_len (mgB_of hg).1
      clear hz h0 hl hg hn1 e1 hs hp
      go_wp2
      go_loop [7, 6] (fun i m => ∃ k : Nat, k ≤ p.size ∧ i = .int .i64 k ∧ m = .int .i64 (ltN (bI p) k)) (fun i _ => p.size - (intOf i).toNat)
      case atStart => exact ⟨0, Nat.zero_le _, rfl, rfl⟩
      case round =>
        obtain ⟨k, hk, rfl, rfl⟩ := hrel
        by_cases hlt : k < p.size
        · have hd := bt_at hlt
          have hnx : ltN (bI p) (k + 1) = ltN (bI p) k + if bI p k ≠ 63 then 1 else 0 := rfl
          have hb := ltN_le (bI p) k
          rw [show bI p k = ((bt p k : Nat) : Int) from rfl] at hnx
          obtain ⟨d, hde⟩ : ∃ d, d = bt p k := ⟨_, rfl⟩
          obtain ⟨m, hm⟩ : ∃ m, m = ltN (bI p) k := ⟨_, rfl⟩
          rw [← hde] at hd hnx
          rw [← hm] at hnx hb ⊢
          by_cases h63 : d = 63
          · have e1 : ((d : Int) != 63) = false := by simp [h63]
            have HN := Lib.hid (show ltN (bI p) (k + 1) = m by rw [hnx, if_neg (by omega)]; omega)
            clear hnx hde hm hb h63
            go_wp2
            go_round
            case rel => exact ⟨k + 1, by omega, by go_num, by rw [HN.out]⟩
            case measure => simp [intOf]; omega
          · have e1 : ((d : Int) != 63) = true := by simp; omega
            have HN := Lib.hid (show ltN (bI p) (k + 1) = m + 1 by rw [hnx, if_pos (by omega)])
            have j1 : IntKind.i64.wrap (m + 1) = m + 1 := IntWalk.i64_in _ (by omega)
            clear hnx hde hm hb h63
            go_wp2
            go_round
            case rel => exact ⟨k + 1, by omega, by go_num, by rw [HN.out]⟩
            case measure => simp [intOf]; omega
        · obtain rfl : k = p.size := by omega
          obtain ⟨m, hm⟩ : ∃ m, m = ltN (bI p) p.size := ⟨_, rfl⟩
          rw [← hm] at HR ⊢
          clear hm
          go_wp2
          go_loop [8] (fun i => ∃ k : Nat, k ≤ n ∧ i = .int .i64 k) (fun i => n - (intOf i).toNat)
          case atStart => exact ⟨0, Nat.zero_le _, rfl⟩
          case round =>
            obtain ⟨k, hk, rfl⟩ := hrel
            by_cases hlt : k < n
            · have hkz : k < zs.length := by rw [← hn]; exact hlt
              obtain ⟨b, off, ha, hc⟩ : ∃ b off, a1 = some ⟨b, off, none⟩ ∧ w4.cell? ⟨b, off + k, none⟩ = some (.int .i64 (ix zs k)) := by
                obtain ⟨a', c', he, h⟩ := r1
                simp only [Value.slice.injEq] at he
                obtain ⟨rfl, -, -⟩ := he
                rcases h with h | ⟨b, off, h, _, hc⟩
                · rw [h] at hkz; exact absurd hkz (Nat.not_lt_zero k)
                · exact ⟨b, off, h, hc k hkz⟩
              subst ha
              have hr := HR.out k
              rw [← HC.out k hlt] at hr
              obtain ⟨z, hze⟩ : ∃ z, z = ix zs k := ⟨_, rfl⟩
              rw [← hze] at hc hr
              have i3 : (k : Int) < (n : Int) := by omega
              have i4 : ¬ z < 0 := by omega
              have i5 : ¬ m < z := by omega
              clear hze hkz hr
              go_wp2
              go_round
              case rel => exact ⟨k + 1, by omega, by go_num⟩
              case measure => simp [intOf]; omega
            · obtain rfl : k = n := by omega
              have b1 : -1000000 ≤ (s.size : Int) - (p.size : Int) ∧ (s.size : Int) - (p.size : Int) ≤ 1000000 := by omega
              have b2 : -1000000 ≤ (s.size : Int) - (p.size : Int) + 1 ∧ (s.size : Int) - (p.size : Int) + 1 ≤ 1000000 := by omega
              have he := HEND.out
              have j1 : IntKind.i64.wrap ((s.size : Int) - (p.size : Int)) = (s.size : Int) - (p.size : Int) := IntWalk.i64_in _ (by omega)
              have j2 : IntKind.i64.wrap ((s.size : Int) - (p.size : Int) + 1) = (k : Int) := by rw [← he]; exact IntWalk.i64_in _ (by clear j1; omega)
              clear b1 b2 he
              go_wp2
              go_ret
              exact ⟨rfl, bb⟩
  · clear h
    go_enter Tryd.func4, Tryd.ntmps4
    go_wp2
    go_ret
    exact ⟨rfl, Below.refl _ _⟩

end Go.Proofs.YtagncoahobghpaaDoor
