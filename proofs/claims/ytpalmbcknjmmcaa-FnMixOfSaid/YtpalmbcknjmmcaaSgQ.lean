/-
  UnsignsOf of the program, by its contract.
-/
import Derived.Test.YtpalmbcknjmmcaaSgP
namespace Go.Proofs.Ytpalmbcknjmmcaa
open Go.RowKit
set_option linter.unusedVariables false

set_option maxHeartbeats 2000000 in
theorem implUnsignsOf_any (v : Value) (xs : List Int) (w : World) (h : Rd w v xs) (hl : xs.length ≤ maxLen) (hw : ∀ n ∈ xs, (Lit.int .i64 n).wf = true) :
    Calls Try.prog 32 #[v] w (MadeB 3 w (unsL xs) (okU xs)) := by
  have hv := implSignsOf_any v xs w h hl hw
  cases hb : cubeB xs with
  | true =>
    have hle := (vrB_of (cubeB_of hb).1).1
    have hpos := cube_pos hb
    have HB := Lib.hid hb
    have HSM := Lib.hid (signs_small hb)
    have hsF : signsF xs = signsL xs := by unfold signsF; exact if_pos hb
    rw [hsF] at hv
    have HV := Lib.hid hv
    clear hb hv hsF hw
    go_enter Try.func32, Try.ntmps32
    go_wp2_with fail
    refine HV.out.mono ?_
    rintro e w2 ⟨v2, rfl, o2, b2⟩
    clear HV
    obtain ⟨F, hF⟩ : ∃ F, F = ix (signsL xs) := ⟨_, rfl⟩
    have HF := Lib.hid hF
    have hI : UdInv 3 w w2 v2 xs.length 0 F := by
      refine ⟨?_, b2⟩
      rw [tab_congr (g := fun j => ix (signsL xs) j) (fun j _ => by unfold uD; rw [if_neg (by omega), hF]), show xs.length = (signsL xs).length from (len_signsL xs).symm, tab_self]
      exact o2
    obtain ⟨g, c, rfl, hg, hgs⟩ := hI.1.form (by intro e; have := congrArg List.length e; rw [len_tab] at this; simp only [List.length_nil] at this; omega)
    rw [len_tab] at hI ⊢
    rw [← hF] at HSM
    clear o2 b2 hF hgs
    obtain ⟨n, hn⟩ : ∃ n, n = xs.length := ⟨_, rfl⟩
    have HN := Lib.hid hn
    rw [← hn] at hI hle hpos HSM ⊢
    have hn0 : ((n : Int) == 0) = false := by simp; omega
    clear hn h hl
    go_wp2
    go_loopw [13] (fun i wr => ∃ k : Nat, k ≤ n ∧ i = .int .i64 k ∧ Hid (∀ j, j < k → F j % (n : Int) = 0) ∧ UdInv 3 w wr (.slice (some ⟨g, 0, none⟩) n c) n k F) (fun i _ => n - (intOf i).toNat)
    case atStart => exact ⟨0, Nat.zero_le _, rfl, fun j hj => absurd hj (Nat.not_lt_zero j), hI⟩
    case round =>
      obtain ⟨k, hk, rfl, hd, hIr⟩ := hrel
      by_cases hlt : k < n
      · have hcx := hIr.1.cell k (by simpa using hlt)
        rw [ix_tab _ _ _ hlt, uD_at] at hcx
        have hf := hIr.1.frozen k
        have hB := hIr.2
        have hsm := HSM.out k hlt
        have hstep := Lib.hid (hIr.step hg)
        by_cases hdv : F k % (n : Int) = 0
        · have hd2 : Hid (∀ j, j < k + 1 → F j % (n : Int) = 0) := by
            intro j hj
            by_cases e : j = k
            · rw [e]; exact hdv
            · exact hd.out j (by omega)
          clear hIr hI hd
          obtain ⟨z, hz⟩ : ∃ z, F k = z := ⟨_, rfl⟩
          rw [hz] at hcx hsm hdv hstep
          clear hz
          obtain ⟨s1, s2, -⟩ := hsm
          have e1 : (z.tmod (n : Int) != 0) = false := by rw [Int.tmod_eq_zero_of_dvd (Int.dvd_of_emod_eq_zero hdv)]; rfl
          clear hdv
          go_wp2
          go_roundw
          case rel => exact ⟨k + 1, by omega, by go_num, hd2, hstep.out⟩
          case measure => simp [intOf]; omega
        · have hno : Hid (okU xs = false) := okU_no (j := k) (by rw [← HN.out]; exact hlt) (by rw [← HN.out, ← HF.out]; exact hdv)
          clear hIr hI hd hstep
          obtain ⟨z, hz⟩ : ∃ z, F k = z := ⟨_, rfl⟩
          rw [hz] at hcx hsm hdv
          clear hz
          obtain ⟨s1, s2, -⟩ := hsm
          have e1 : (z.tmod (n : Int) != 0) = true := by
            have : ¬ z.tmod (n : Int) = 0 := fun e => hdv (Int.emod_eq_zero_of_dvd (Int.dvd_of_tmod_eq_zero e))
            simp [this]
          clear hdv
          go_wp2
          go_ret2
          exact ⟨_, by rw [hno.out]; rfl, by rw [unsL_no hno.out]; exact Own.nil _ _ _, hB⟩
      · obtain rfl : k = n := by omega
        have hok : Hid (okU xs = true) := okU_yes HB.out (by rw [← HN.out, ← HF.out]; exact hd.out)
        clear hd
        go_wp2
        go_ret2
        refine ⟨_, by rw [hok.out]; rfl, ?_, hIr.2⟩
        rw [unsL_yes hok.out, ← HN.out, ← HF.out, tab_congr (g := uD F k k) (fun j hj => by unfold uD; rw [if_pos hj])]
        exact hIr.1
  | false =>
    have hs : signsF xs = [] := by unfold signsF; exact if_neg (by simp [hb])
    rw [hs] at hv
    have HU := Lib.hid (okU_bad hb)
    go_enter Try.func32, Try.ntmps32
    go_wp2_with fail
    refine hv.mono ?_
    rintro e w1 ⟨v1, rfl, o1, b1⟩
    obtain ⟨a, c, rfl⟩ : ∃ a cap, v1 = .slice a 0 cap := by
      rcases o1.shape with ⟨rfl, _⟩ | ⟨g, cap, rfl, _, _⟩
      · exact ⟨none, 0, rfl⟩
      · exact ⟨some ⟨g, 0, none⟩, cap, rfl⟩
    clear hv hs
    go_wp2
    refine wp_loop_rounds 1 ?_
    rw [rounds_succ]
    go_wp2
    go_ret2
    exact ⟨_, by rw [HU.out]; rfl, by rw [unsL_no HU.out]; exact o1, b1⟩

end Go.Proofs.Ytpalmbcknjmmcaa
