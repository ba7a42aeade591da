/-
  BelowOf and UnbelowOf of the model, by their contracts.
-/
import Derived.Test.YtjdlolahjikegaaBelow
import Derived.Test.YtjdlolahjikegaaMany
namespace Go.Proofs.Ytjdlolahjikegaa
open Go.RowKit
set_option linter.unusedVariables false

set_option maxHeartbeats 4000000 in
theorem below_any (v : Value) (xs : List Int) (s : Int) (w : World) (h : Rd w v xs) (hw : ∀ n ∈ xs, (Lit.int .i64 n).wf = true) (hs : s = 1 ∨ s = -1) (hcube : cubeB xs = true) :
    Calls Try.prog 65 #[v, .int .i64 s] w (Made 3 w (belowL s xs)) := by
  obtain ⟨hvr, k, hk4, hk⟩ := cubeB_of hcube
  have h16 := (vrB_of hvr).1
  obtain ⟨F, hF⟩ : ∃ F, F = ix xs := ⟨_, rfl⟩
  have HL : Hid (belowL s xs = tab xs.length fun x => wrap64 (bpass s F k x)) := by
    show belowL s xs = _
    unfold belowL
    rw [hk, bitsN_pow hk4 rfl, hF]; rfl
  obtain ⟨n, hn⟩ : ∃ n, n = xs.length := ⟨_, rfl⟩
  have HK : Hid (n = 2 ^ k) := hn.trans hk
  have hn1 : 1 ≤ n := by rw [HK.out]; exact Nat.one_le_two_pow
  have HN := Lib.hid hn
  have hs1 : -1 ≤ s := by omega
  have hs2 : s ≤ 1 := by omega
  have h0 := h
  obtain ⟨ad, cap, rfl, -⟩ := h0
  clear hk hs hcube hvr
  go_enter Try.func65, Try.ntmps65
  go_wp2_with (at_builtin; refine app_many rfl _ _ 23 rfl w.heap.size 3 Try.underlying23 infoInt _ _ rfl (own_empty _ _ w (Nat.le_refl _)) _ xs rfl (h.alloc _) ?c1 ?c2 ?_)
  case c1 => simp; omega
  case c2 => simp
  intro v1 w1 o1 g1
  have b1 : Below w.heap.size w w1 := ((Below.refl w.heap.size w).alloc (Nat.le_refl _) _).grown g1 (by simp) (by intro q hq; simp [Value.ownBlock] at hq; omega)
  obtain ⟨g, c, rfl, hg, hgs⟩ := o1.form (by intro e; rw [e] at hn; simp at hn; omega)
  have hI : BelInv 3 w.heap.size w w1 g n c s (2 ^ 0) (bpass s F 0) 0 := by
    refine ⟨?_, b1⟩
    rw [tab_congr (g := fun j => wrap64 (ix xs j)) (fun j _ => by rw [midB_zero, hF]; rfl), hn, ← tab_wf hw]
    simpa using o1
  rw [← hn]
  rw [← hn] at h16
  clear o1 g1 b1 hF h hn hgs
  go_wp2
  go_loopw [6] (fun jj wr => ∃ j : Nat, j ≤ k ∧ jj = .int .i64 j ∧ BelInv 3 w.heap.size w wr g n c s (2 ^ j) (bpass s F j) 0) (fun jj _ => k - (intOf jj).toNat)
  case atStart => exact ⟨0, Nat.zero_le _, rfl, hI⟩
  case round =>
    obtain ⟨j, hj, rfl, hIr⟩ := hrel
    obtain ⟨d, hd⟩ : ∃ d, 2 ^ j = d := ⟨_, rfl⟩
    have HPW := Lib.hid fun w => power_any j d w (by omega) hd
    have HBT := Lib.hid fun (x : Nat) w (hx : x ≤ 1048576) => bit_any x j d w hx (by omega) hd
    have hd1 : 1 ≤ d := by rw [← hd]; exact Nat.one_le_two_pow
    have Hd := Lib.hid hd
    clear hd hI
    by_cases hlt : d < n
    · have hjk : j + 1 ≤ k := by
        rcases Nat.lt_or_ge j k with h1 | h1
        · exact h1
        · obtain rfl : j = k := by omega
          have := HK.out; have := Hd.out; omega
      obtain ⟨wo, rfl⟩ : ∃ wo : World, wo = wr := ⟨_, rfl⟩
      obtain ⟨G, hG⟩ : ∃ G, G = bpass s F j := ⟨_, rfl⟩
      rw [Hd.out, ← hG] at hIr
      have HG := Lib.hid hG
      clear hG
      go_wp2_with fail
      refine (HPW.out _).mono ?_
      rintro e w' ⟨rfl, rfl⟩
      go_wp2
      go_loopw [7] (fun i wr => ∃ x : Nat, x ≤ n ∧ i = .int .i64 x ∧ BelInv 3 w.heap.size w wr g n c s d G x) (fun i _ => n - (intOf i).toNat)
      case atStart => exact ⟨0, Nat.zero_le _, rfl, hIr⟩
      case round =>
        obtain ⟨x, hx, rfl, hIx⟩ := hrel
        by_cases hxl : x < n
        · have HBX := Lib.hid fun w => HBT.out x w (by omega)
          by_cases hbit : x / d % 2 = 1
          · have hle : d ≤ x := bit_le hbit
            have hcx := hIx.cellx hxl
            have hcy := hIx.celly hxl hd1 hbit
            have hf := hIx.1.frozen x
            have HS := Lib.hid (hIx.step hg hd1 hbit)
            have HB := Lib.hid hbit
            have i1 : (x : Int) - (d : Int) = ((x - d : Nat) : Int) := by omega
            have i2 : (0 : Int) ≤ (x : Int) := by omega
            have i3 : (x : Int) < (n : Int) := by omega
            have i4 : ((x - d : Nat) : Int) < (n : Int) := by omega
            have i5 : (0 : Int) ≤ ((x - d : Nat) : Int) := by omega
            have i6 : IntKind.i64.wrap ((x - d : Nat) : Int) = ((x - d : Nat) : Int) := IntWalk.i64_in _ (by omega)
            clear hIx hIr hbit
            go_wp2_with fail
            refine (HBX.out _).mono ?_
            rintro e w' ⟨rfl, rfl⟩
            rw [HB.out]
            go_wp2_with fail
            go_region_law (go_simp; go_at_call 73; refine (HPW.out _).mono ?_; rintro e w' ⟨rfl, rfl⟩)
            all_goals
              clear hcx hcy hf i1 i2 i3 i4 i5 i6
              go_wp2
              go_roundw
              case rel => exact ⟨x + 1, by omega, by go_num, HS.out.drew⟩
              case measure => simp [intOf]; omega
          · have HS := Lib.hid (hIx.skip hbit)
            have HB : Hid (x / d % 2 = 0) := by show x / d % 2 = 0; omega
            clear hIx hIr hbit
            go_wp2_with fail
            refine (HBX.out _).mono ?_
            rintro e w' ⟨rfl, rfl⟩
            rw [HB.out]
            go_wp2
            go_roundw
            case rel => exact ⟨x + 1, by omega, by go_num, HS.out⟩
            case measure => simp [intOf]; omega
        · have hxn : x = n := by omega
          subst hxn
          have HS : Hid (BelInv 3 w.heap.size w wr g x c s (2 ^ (j + 1)) (bpass s F (j + 1)) 0) := by
            have := hIx
            rw [HG.out, ← Hd.out] at this
            exact this.next
          clear hIx hIr
          go_wp2
          go_roundw
          case rel => exact ⟨j + 1, hjk, by go_num, HS.out⟩
          case measure => simp [intOf]; omega
    · have hjk : j = k := by
        rcases Nat.lt_or_ge j k with h1 | h1
        · have h2 : 2 ^ (j + 1) ≤ 2 ^ k := Nat.pow_le_pow_right (by omega) h1
          have := HK.out; have := Hd.out; rw [Nat.pow_succ] at h2; have := Nat.two_pow_pos j; omega
        · omega
      subst hjk
      go_wp2_with fail
      refine (HPW.out _).mono ?_
      rintro e w' ⟨rfl, rfl⟩
      go_wp2
      go_ret
      refine ⟨_, rfl, ?_, hIr.2⟩
      have := hIr.1
      rw [tab_congr (g := fun y => wrap64 (bpass s F j y)) (fun y _ => by rw [midB_zero]), HN.out, ← HL.out] at this
      rw [HN.out]
      exact this

theorem specBelowOf_any (v : Value) (xs : List Int) (w : World) (h : Rd w v xs) (hl : xs.length ≤ maxLen) (hw : ∀ n ∈ xs, (Lit.int .i64 n).wf = true) :
    Calls Try.prog 37 #[v] w (Made 3 w (belowF 1 xs)) := by
  have hv := validCube_any v xs w h hl
  cases hb : cubeB xs with
  | true =>
    rw [hb] at hv
    have hF : Hid (belowF 1 xs = belowL 1 xs) := by unfold belowF; exact if_pos hb
    have hM := cube_max hb
    
    go_enter Try.func37, Try.ntmps37
    go_wp2_with fail
    refine hv.mono ?_
    rintro e w1 ⟨rfl, b1⟩
    go_wp2_with fail
    refine (below_any v xs 1 _ (h.below b1 (Nat.le_refl _)) hw (by simp) hb).mono ?_
    rintro e w2 ⟨g, rfl, o2, b2⟩
    go_wp2
    go_ret
    exact ⟨_, rfl, by rw [hF.out]; exact o2.mono b1.size, bel_nxt b1 b2⟩
  | false =>
    rw [hb] at hv
    have hF : Hid (belowF 1 xs = []) := by unfold belowF; exact if_neg (by simp [hb])
    go_enter Try.func37, Try.ntmps37
    go_wp2_with fail
    refine hv.mono ?_
    rintro e w1 ⟨rfl, b1⟩
    go_wp2
    go_ret
    exact ⟨_, rfl, by rw [hF.out]; exact Own.nil _ _ _, b1⟩

theorem specUnbelowOf_any (v : Value) (xs : List Int) (w : World) (h : Rd w v xs) (hl : xs.length ≤ maxLen) (hw : ∀ n ∈ xs, (Lit.int .i64 n).wf = true) :
    Calls Try.prog 40 #[v] w (Made 3 w (belowF (-1) xs)) := by
  have hv := validCube_any v xs w h hl
  cases hb : cubeB xs with
  | true =>
    rw [hb] at hv
    have hF : Hid (belowF (-1) xs = belowL (-1) xs) := by unfold belowF; exact if_pos hb
    have hM := cube_max hb
    
    go_enter Try.func40, Try.ntmps40
    go_wp2_with fail
    refine hv.mono ?_
    rintro e w1 ⟨rfl, b1⟩
    go_wp2_with fail
    refine (below_any v xs (-1) _ (h.below b1 (Nat.le_refl _)) hw (by simp) hb).mono ?_
    rintro e w2 ⟨g, rfl, o2, b2⟩
    go_wp2
    go_ret
    exact ⟨_, rfl, by rw [hF.out]; exact o2.mono b1.size, bel_nxt b1 b2⟩
  | false =>
    rw [hb] at hv
    have hF : Hid (belowF (-1) xs = []) := by unfold belowF; exact if_neg (by simp [hb])
    go_enter Try.func40, Try.ntmps40
    go_wp2_with fail
    refine hv.mono ?_
    rintro e w1 ⟨rfl, b1⟩
    go_wp2
    go_ret
    exact ⟨_, rfl, by rw [hF.out]; exact Own.nil _ _ _, b1⟩

end Go.Proofs.Ytjdlolahjikegaa
