/-
  UnwaveOf, TurnOf, RingOf of the model, by their contracts.
-/
import Derived.Test.YtabbfehjgchmgaaWvQ
import Derived.Test.YtabbfehjgchmgaaWvT
import Derived.Test.YtabbfehjgchmgaaWvR
import Derived.StillTailTactics
namespace Go.Proofs.Ytabbfehjgchmgaa
open Go.RowKit
set_option linter.unusedVariables false

set_option maxHeartbeats 4000000 in
theorem specUnwaveOf_any (v : Value) (xs : List Int) (w : World) (h : Rd w v xs) (hl : xs.length ≤ maxLen) :
    Calls Try.prog 30 #[v] w (Made 3 w (unwF xs)) := by
  have hv := specvalidRests_any v xs w h hl
  cases hb : vsB xs with
  | true =>
    rw [hb] at hv
    have hV := (vsB_iff xs).1 hb
    obtain ⟨hn0, hn1, hdv⟩ : 0 < xs.length ∧ xs.length ≤ 96 ∧ 96 % xs.length = 0 := ⟨hV.some, hV.few, hV.div⟩
    have hr1 := (rt_bd hn0 hn1 hdv).2
    have HR := Lib.hid fun w => root_any xs.length w hn0 (by omega) hdv
    have hi1 : invN (rtN xs.length) < 97 := pm_lt _ 95
    have hi2 : invN xs.length < 97 := pm_lt _ 95
    have HF := Lib.hid (show unwF xs = tab xs.length (fun j => ix (waveL xs (invN (rtN xs.length))) j * (invN xs.length : Int) % 97) from unwF_yes hb)
    have HB := Lib.hid (specwave_any v xs (invN (rtN xs.length)) w h hi1 hV.irt hn1 hV.rest)
    have hG := waveL_rest xs (invN (rtN xs.length))
    have HG := Lib.hid (show waveL xs (invN (rtN xs.length)) = tab xs.length (tmW (ix (waveL xs (invN (rtN xs.length)))) (invN xs.length : Nat) 0) by
      unfold tmW; rw [upto_none]
      have := tab_self (waveL xs (invN (rtN xs.length))); rw [len_waveL] at this; exact this.symm)
    have HLW : Hid ((waveL xs (invN (rtN xs.length))).length = xs.length) := len_waveL _ _
    rw [len_waveL] at hG
    have HI := Lib.hid fun w => specinverse_any (rtN xs.length) w hr1
    have HI2 := Lib.hid fun w => specinverse_any xs.length w (by omega)
    obtain ⟨r, hr⟩ : ∃ r, r = rtN xs.length := ⟨_, rfl⟩
    rw [← hr] at HR HF HB HG HI hG HLW hi1
    obtain ⟨ri, hri⟩ : ∃ ri, ri = invN r := ⟨_, rfl⟩
    rw [← hri] at HF HB HG HI hG HLW hi1
    obtain ⟨z, hz⟩ : ∃ z, z = invN xs.length := ⟨_, rfl⟩
    rw [← hz] at HF HG HI2 hi2
    obtain ⟨zs, hzs⟩ : ∃ zs, zs = waveL xs ri := ⟨_, rfl⟩
    rw [← hzs] at HF HB HG hG HLW
    obtain ⟨G, hGG⟩ : ∃ G, G = ix zs := ⟨_, rfl⟩
    rw [← hGG] at HF HG hG
    obtain ⟨a, cap, rfl, -⟩ := h
    obtain ⟨n, hn⟩ : ∃ n, n = xs.length := ⟨_, rfl⟩
    rw [← hn] at hn0 hn1 HF HG hG HI2 HR HLW hv HB ⊢
    clear hb hV hdv hr hri hz hzs hGG hn hr1
    go_enter Try.func30, Try.ntmps30
    go_wp2_with fail
    refine hv.mono ?_
    rintro e w1 ⟨rfl, rfl⟩
    go_wp2_with fail
    refine (HR.out _).mono ?_
    rintro e w1 ⟨rfl, rfl⟩
    go_wp2_with fail
    refine (HI.out _).mono ?_
    rintro e w1 ⟨rfl, rfl⟩
    go_wp2_with fail
    refine HB.out.mono ?_
    rintro e w2 ⟨v2, rfl, p2, b2⟩
    obtain ⟨g, c, rfl, hg, -⟩ := p2.form (by intro e; have := HLW.out; rw [e] at this; simp at this; omega)
    rw [HLW.out] at p2 ⊢
    rw [HG.out] at p2
    clear hv
    go_wp2
    go_loopw [5] (fun i wr => ∃ k : Nat, k ≤ n ∧ i = .int .i64 k ∧ Own 3 w.heap.size wr (.slice (some ⟨g, 0, none⟩) n c) (tab n (tmW G z k)) ∧ Below w.heap.size w wr) (fun i _ => n - (intOf i).toNat)
    case atStart => exact ⟨0, Nat.zero_le _, rfl, p2, b2⟩
    case round =>
      obtain ⟨k, hk, rfl, hO, hB⟩ := hrel
      clear p2 b2
      by_cases hlt : k < n
      · have hcw := hO.cell k (by simpa using hlt)
        rw [ix_tab _ _ _ hlt, tmW_at] at hcw
        have hfw := hO.frozen k
        have hGk := hG k hlt
        have hki : (k : Int) < (n : Int) := by omega
        have HN := hO.set k (G k * (z : Int) % 97)
        rw [tmW_set] at HN
        have HN := Lib.hid HN.drew
        have HB2 := Lib.hid (below_drewN (hB.setCell (p := ⟨g, k, none⟩) hg (.int .i64 (G k * (z : Int) % 97))) 1)
        obtain ⟨y, hy⟩ : ∃ y, y = G k := ⟨_, rfl⟩
        rw [← hy] at hcw hGk HN HB2
        obtain ⟨hy0, hy1⟩ := hGk
        have hp0 : 0 ≤ y * (z : Int) := Int.mul_nonneg hy0 (by omega)
        have hp1 : y * (z : Int) ≤ 96 * 96 := Int.mul_le_mul hy1 (by omega) (by omega) (by omega)
        have HM := Lib.hid fun w => mod_any (y * (z : Int)) w hp0 (by omega)
        have j1 : IntKind.i64.wrap (y * (z : Int)) = y * (z : Int) := IntWalk.i64_in _ (by omega)
        clear hG hO hB hy hp0 hp1
        go_wp2
        go_still_tail 10, (by kernel_rfl)
        repeat still_step
        still_call ((HI2.out _).mono (by rintro e w' ⟨rfl, rfl⟩; exact ⟨rfl, rfl⟩))
        repeat still_step
        still_call ((HM.out _).mono (by rintro e w' ⟨rfl, rfl⟩; exact ⟨rfl, rfl⟩))
        repeat still_step
        refine wpStill_nil ?_
        change wpList _ _ _ _ _ (World.drew wr)
        clear j1
        go_wp2
        go_roundw
        case rel => exact ⟨k + 1, by omega, by go_num, HN.out, HB2.out⟩
        case measure => simp [intOf]; omega
      · obtain rfl : k = n := by omega
        have HE : Hid (tab k (tmW G z k) = unwF xs) := by
          show _ = _
          rw [HF.out]; exact upto_all _ _ _
        rw [HE.out] at hO
        have HP := Lib.hid hO
        clear hO HE hG
        go_wp2
        go_ret
        exact ⟨_, rfl, HP.out, hB⟩
  | false =>
    rw [hb] at hv
    have HF := Lib.hid (unwF_no hb)
    clear hb
    go_enter Try.func30, Try.ntmps30
    go_wp2_with fail
    refine hv.mono ?_
    rintro e w1 ⟨rfl, rfl⟩
    go_wp2
    go_ret
    exact ⟨_, rfl, by rw [HF.out]; exact Own.nil _ _ _, Below.refl _ _⟩

set_option maxHeartbeats 4000000 in
theorem specTurnOf_any (v : Value) (xs : List Int) (k : Int) (w : World) (h : Rd w v xs) (hl : xs.length ≤ maxLen) :
    Calls Try.prog 36 #[v, .int .i64 k] w (Made 3 w (turnF xs k)) := by
  have hv := specvalidRests_any v xs w h hl
  cases hb : vsB xs with
  | true =>
    rw [hb] at hv
    by_cases hk : 0 ≤ k ∧ k ≤ 16
    · have hin := inR_yes hk
      obtain ⟨m, rfl⟩ : ∃ m : Nat, k = (m : Int) := ⟨k.toNat, by omega⟩
      have hm1 : m ≤ 16 := by omega
      have hV := (vsB_iff xs).1 hb
      obtain ⟨hn0, hn1⟩ : 0 < xs.length ∧ xs.length ≤ 96 := ⟨hV.some, hV.few⟩
      have HF := Lib.hid (turnF_yes hb hm1)
      have HT := Lib.hid (tnW_all m hn0)
      obtain ⟨a, cap, rfl, h⟩ := h
      obtain ⟨i0, hi, hz0, hz1, hz2⟩ := info_parts infoInt
      rcases h with rfl | ⟨b, off, rfl, hbl, hc⟩
      · simp at hn0
      obtain ⟨n, hn⟩ : ∃ n, n = xs.length := ⟨_, rfl⟩
      obtain ⟨F, hFF⟩ : ∃ F, F = ix xs := ⟨_, rfl⟩
      rw [← hn, ← hFF] at HT
      rw [← hFF, ← hn] at hc
      rw [← hn] at hn0 hn1 hv ⊢
      have e0 : ((n : Int) == 0) = false := by rw [beq_eq_false_iff_ne]; omega
      have hni : (0 : Int) < (n : Int) := by omega
      clear hV hb hk hn hFF
      go_enter Try.func36, Try.ntmps36
      go_wp2_with fail
      refine hv.mono ?_
      rintro e w1 ⟨rfl, rfl⟩
      clear hv
      go_wp2_with fail
      refine (inRange_any _ _ _ _).mono ?_
      rintro e w1 ⟨rfl, rfl⟩
      rw [hin]
      clear hin
      go_wp2_with (at_make; refine wpList_make_full _ rfl _ _ 27 rfl w.heap.size 3 i0 (.int .i64 0) 1 Try.underlying27 hi hz0 hz1 _ _ _ _ n rfl rfl rfl rfl ?c1 ?c2 ?c3 ?_)
      case c1 => rw [hz2]; omega
      case c2 => unfold maxLen; omega
      case c3 => omega
      intro w1 hown hgrow
      have hO := own_made hown
      have hB := (Below.refl w.heap.size w).grown hgrow (Nat.le_refl _) (by simp)
      clear hown hgrow hi hz0 hz1 hz2
      go_wp2
      go_loopw [6] (fun i wr => ∃ q : Nat, q ≤ n ∧ i = .int .i64 q ∧ Own 3 w.heap.size wr (.slice (some ⟨w.heap.size, 0, none⟩) n n) (tab n (tnW F n m q)) ∧ Below w.heap.size w wr)
        (fun i _ => n - (intOf i).toNat)
      case atStart => exact ⟨0, Nat.zero_le _, rfl, by rw [tnW_zero]; exact hO, hB⟩
      case round =>
        obtain ⟨q, hq, rfl, hOr, hBr⟩ := hrel
        by_cases hlt : q < n
        · have hcx : wr.cell? ⟨b, off + q, none⟩ = some (.int .i64 (F q)) := (hBr.cell (by exact hbl)).trans (hc q hlt)
          have hdl : (q + m) % n < n := Nat.mod_lt _ hn0
          have hck := hOr.cell ((q + m) % n) (by simpa using hdl)
          have hfk := hOr.frozen ((q + m) % n)
          have HO := hOr.set ((q + m) % n) (F q)
          rw [tnW_set F hlt] at HO
          have HO := Lib.hid HO.drew
          have HB := Lib.hid (below_drewN (hBr.setCell (p := ⟨w.heap.size, (q + m) % n, none⟩) (Nat.le_refl _) (.int .i64 (F q))) 1)
          obtain ⟨d, hd⟩ : ∃ d, d = (q + m) % n := ⟨_, rfl⟩
          have hmod : ((q : Int) + (m : Int)) % (n : Int) = (d : Int) := by rw [← Int.natCast_add, ← Int.natCast_emod, hd]
          rw [← hd] at hdl hck hfk HO HB
          have hdi : (d : Int) < (n : Int) := by omega
          have hqi : (q : Int) < (n : Int) := by omega
          obtain ⟨f, hf⟩ : ∃ f, f = F q := ⟨_, rfl⟩
          rw [← hf] at hcx HO HB
          clear hO hB hOr hBr hc hd hf
          go_wp2
          go_region
          go_wp2
          go_roundw
          case rel => exact ⟨q + 1, by omega, by go_num, HO.out, HB.out⟩
          case measure => simp [intOf]; omega
        · obtain rfl : q = n := by omega
          rw [HT.out] at hOr
          have HO := Lib.hid hOr
          clear hOr hO hB
          go_wp2
          go_ret
          exact ⟨_, rfl, by rw [HF.out]; exact HO.out, hBr⟩
    · have hin := inR_no hk
      have HF := Lib.hid (turnF_no (xs := xs) (k := k) (fun q => hk q.2))
      clear hk hb h
      go_enter Try.func36, Try.ntmps36
      go_wp2_with fail
      refine hv.mono ?_
      rintro e w1 ⟨rfl, rfl⟩
      go_wp2_with fail
      refine (inRange_any _ _ _ _).mono ?_
      rintro e w1 ⟨rfl, rfl⟩
      rw [hin]
      clear hin
      go_wp2
      go_ret
      exact ⟨_, rfl, by rw [HF.out]; exact Own.nil _ _ _, Below.refl _ _⟩
  | false =>
    rw [hb] at hv
    have HF := Lib.hid (turnF_no (xs := xs) (k := k) (fun q => by rw [hb] at q; exact absurd q.1 (by simp)))
    clear hb h
    go_enter Try.func36, Try.ntmps36
    go_wp2_with fail
    refine hv.mono ?_
    rintro e w1 ⟨rfl, rfl⟩
    go_wp2
    go_ret
    exact ⟨_, rfl, by rw [HF.out]; exact Own.nil _ _ _, Below.refl _ _⟩

set_option maxHeartbeats 8000000 in
theorem specring_any (u v : Value) (xs ys : List Int) (w : World) (h : Rd w u xs) (h' : Rd w v ys) (hX : Vs xs) (hY : Vs ys) (he : ys.length = xs.length) :
    Calls Try.prog 62 #[u, v] w (Made 3 w (ringL xs ys)) := by
  obtain ⟨hn0, hn1⟩ : 0 < xs.length ∧ xs.length ≤ 96 := ⟨hX.some, hX.few⟩
  obtain ⟨a, cap, rfl, h⟩ := h
  obtain ⟨a', cap', rfl, h'⟩ := h'
  obtain ⟨i0, hi, hz0, hz1, hz2⟩ := info_parts infoInt
  rcases h with rfl | ⟨b, off, rfl, hb, hc⟩
  · simp at hn0
  rcases h' with rfl | ⟨b', off', rfl, hb', hc'⟩
  · simp at he; omega
  have hrx := hX.rest
  have hry := hY.rest
  obtain ⟨F, hF⟩ : ∃ F, F = ix xs := ⟨_, rfl⟩
  obtain ⟨G, hG⟩ : ∃ G, G = ix ys := ⟨_, rfl⟩
  obtain ⟨n, hn⟩ : ∃ n, n = xs.length := ⟨_, rfl⟩
  have HDONE := Lib.hid fun (wr : World) (h : RgI 3 w.heap.size w wr w.heap.size n n 0 F G) => show Own 3 w.heap.size wr (.slice (some ⟨w.heap.size, 0, none⟩) n n) (ringL xs ys) by
    rw [hn, hF, hG] at h
    rw [hn]
    exact h.done
  rw [he] at hry hc' ⊢
  rw [← hn] at hrx hry hc hc' hn0 hn1 ⊢
  rw [← hF] at hrx hc
  rw [← hG] at hry hc'
  have HC := Lib.hid hc
  have HC' := Lib.hid hc'
  have e0 : ((n : Int) == 0) = false := by rw [beq_eq_false_iff_ne]; omega
  clear hX hY he hF hG hn hc hc'
  go_enter Try.func62, Try.ntmps62
  go_wp2_with (at_make; refine wpList_make_full _ rfl _ _ 27 rfl w.heap.size 3 i0 (.int .i64 0) 1 Try.underlying27 hi hz0 hz1 _ _ _ _ n rfl rfl rfl rfl ?c1 ?c2 ?c3 ?_)
  case c1 => rw [hz2]; omega
  case c2 => unfold maxLen; omega
  case c3 => omega
  intro w1 hown hgrow
  have hO : Own 3 w.heap.size w1 (.slice (some ⟨w.heap.size, 0, none⟩) n n) (tab n fun _ => 0) := own_made hown
  have hB0 : Below w.heap.size w w1 := (Below.refl w.heap.size w).grown hgrow (Nat.le_refl _) (by simp)
  have hg0 : w.grownBy w1 (some w.heap.size) := by
    exact ⟨hgrow.os, hgrow.tape, hgrow.output, hgrow.size, fun i hi hne => hgrow.block i hi (by simp)⟩
  have hI : RgI 3 w.heap.size w w1 w.heap.size n 0 0 F G := by
    refine ⟨?_, hg0⟩
    rw [tab_congr (g := fun _ => 0) (fun j _ => by rw [mP_zero]; rfl)]
    exact hO
  clear hown hgrow hO hB0 hg0 hi hz0 hz1 hz2
  go_wp2
  go_loopw [6] (fun i wr => ∃ x : Nat, x ≤ n ∧ i = .int .i64 x ∧ RgI 3 w.heap.size w wr w.heap.size n x 0 F G) (fun i _ => n - (intOf i).toNat)
  case atStart => exact ⟨0, Nat.zero_le _, rfl, hI⟩
  case round =>
    obtain ⟨x, hx, rfl, hJ⟩ := hrel
    by_cases hlt : x < n
    · have hxi : (x : Int) < (n : Int) := by omega
      obtain ⟨hfx0, hfx1⟩ := hrx x hlt
      clear hI hrx
      go_wp2
      go_loopw [7] (fun i wr => ∃ y : Nat, y ≤ n ∧ i = .int .i64 y ∧ RgI 3 w.heap.size w wr w.heap.size n x y F G) (fun i _ => n - (intOf i).toNat)
      case atStart => exact ⟨0, Nat.zero_le _, rfl, hJ⟩
      case round =>
        obtain ⟨y, hy, rfl, hK⟩ := hrel
        by_cases hyl : y < n
        · have hyi : (y : Int) < (n : Int) := by omega
          have hca := hK.grow.cell (HC.out x hlt) (by simp; omega)
          have hcb := hK.grow.cell (HC'.out y hyl) (by simp; omega)
          obtain ⟨hgy0, hgy1⟩ := hry y hyl
          have hdl : rop n x y < n := Nat.mod_lt _ hn0
          have hmod : ((x : Int) + (y : Int)) % (n : Int) = ((rop n x y : Nat) : Int) := by show _ = (((x + y) % n : Nat) : Int); rw [Int.natCast_emod, Int.natCast_add]
          obtain ⟨d, hd⟩ : ∃ d, rop n x y = d := ⟨_, rfl⟩
          rw [hd] at hmod hdl
          have hcs := hK.cell hdl
          have hfs := hK.own.frozen d
          have hdi : (d : Int) < (n : Int) := by omega
          have HS := hK.step hd
          obtain ⟨m, hm⟩ : ∃ m, m = mP (rop n) F G n x y d % 97 := ⟨_, rfl⟩
          have hmb : 0 ≤ m ∧ m ≤ 96 := by omega
          rw [← hm] at hcs HS
          obtain ⟨fx, hfx⟩ : ∃ fx, fx = F x := ⟨_, rfl⟩
          obtain ⟨fy, hfy⟩ : ∃ fy, fy = G y := ⟨_, rfl⟩
          rw [← hfx] at hca hfx0 hfx1
          rw [← hfy] at hcb hgy0 hgy1
          rw [← hfx, ← hfy] at HS
          have hp0 : 0 ≤ fx * fy := Int.mul_nonneg hfx0 hgy0
          have hp1 : fx * fy ≤ 96 * 96 := Int.mul_le_mul hfx1 hgy1 hgy0 (by omega)
          obtain ⟨t, ht⟩ : ∃ t, t = m + fx * fy := ⟨_, rfl⟩
          have HM := Lib.hid fun w => mod_any t w (by omega) (by omega)
          rw [show (m + fx * fy % 97) % 97 = t % 97 by omega] at HS
          have HS := Lib.hid HS.drew
          have j1 : IntKind.i64.wrap (fx * fy) = fx * fy := IntWalk.i64_in _ (by omega)
          have j2 : IntKind.i64.wrap (m + fx * fy) = t := by rw [← ht]; exact IntWalk.i64_in _ (by omega)
          clear hJ hK hd hm hfx hfy hry hp0 hp1 ht
          go_wp2
          go_still_tail 17, (by kernel_rfl)
          repeat still_step
          still_call ((HM.out _).mono (by rintro e w' ⟨rfl, rfl⟩; exact ⟨rfl, rfl⟩))
          repeat still_step
          refine wpStill_nil ?_
          change wpList _ _ _ _ _ (World.drew wr)
          clear j1 j2
          go_wp2
          go_roundw
          case rel => exact ⟨y + 1, by omega, by go_num, HS.out⟩
          case measure => simp [intOf]; omega
        · obtain rfl : y = n := by omega
          have HK := Lib.hid hK.next
          clear hK hJ hry
          go_wp2
          go_roundw
          case rel => exact ⟨x + 1, by omega, by go_num, HK.out⟩
          case measure => simp [intOf]; omega
    · obtain rfl : x = n := by omega
      have hD := Lib.hid (HDONE.out _ hJ)
      have hB := (Below.refl w.heap.size w).grown hJ.grow (Nat.le_refl _) (fun k hk => by injection hk with hk; omega)
      clear hJ hI hrx hry
      go_wp2
      go_ret
      exact ⟨_, rfl, hD.out, hB⟩

set_option maxHeartbeats 2000000 in
theorem specRingOf_any (u v : Value) (xs ys : List Int) (w : World) (h : Rd w u xs) (h' : Rd w v ys) (hl : xs.length ≤ maxLen) (hl' : ys.length ≤ maxLen) :
    Calls Try.prog 33 #[u, v] w (Made 3 w (ringF xs ys)) := by
  have hv := specvalidRests_any u xs w h hl
  have hv' := specvalidRests_any v ys w h' hl'
  cases hb : vsB xs with
  | false =>
    have HF := Lib.hid (ringF_no (show ringB xs ys = false by unfold ringB; rw [hb]; rfl))
    rw [hb] at hv
    clear hb hv'
    obtain ⟨a, c, rfl, -⟩ := h
    obtain ⟨a', c', rfl, -⟩ := h'
    go_enter Try.func33, Try.ntmps33
    go_wp2_with fail
    refine hv.mono ?_
    rintro e w1 ⟨rfl, rfl⟩
    go_wp2
    go_ret
    exact ⟨_, rfl, by rw [HF.out]; exact Own.nil _ _ _, Below.refl _ _⟩
  | true =>
    rw [hb] at hv
    cases hb' : vsB ys with
    | false =>
      have HF := Lib.hid (ringF_no (show ringB xs ys = false by unfold ringB; rw [hb, hb']; rfl))
      rw [hb'] at hv'
      clear hb hb'
      obtain ⟨a, c, rfl, -⟩ := h
      obtain ⟨a', c', rfl, -⟩ := h'
      go_enter Try.func33, Try.ntmps33
      go_wp2_with fail
      refine hv.mono ?_
      rintro e w1 ⟨rfl, rfl⟩
      go_wp2_with fail
      refine hv'.mono ?_
      rintro e w1 ⟨rfl, rfl⟩
      go_wp2
      go_ret
      exact ⟨_, rfl, by rw [HF.out]; exact Own.nil _ _ _, Below.refl _ _⟩
    | true =>
      rw [hb'] at hv'
      by_cases he : ys.length = xs.length
      · have HF := Lib.hid (ringF_yes (show ringB xs ys = true by unfold ringB; rw [hb, hb']; simp [he]))
        have HR := Lib.hid (specring_any u v xs ys w h h' ((vsB_iff xs).1 hb) ((vsB_iff ys).1 hb') he)
        obtain ⟨a, c, rfl, -⟩ := h
        obtain ⟨a', c', rfl, -⟩ := h'
        rw [he] at hv' HR ⊢
        clear hb hb' he
        go_enter Try.func33, Try.ntmps33
        go_wp2_with fail
        refine hv.mono ?_
        rintro e w1 ⟨rfl, rfl⟩
        go_wp2_with fail
        refine hv'.mono ?_
        rintro e w1 ⟨rfl, rfl⟩
        go_wp2_with fail
        refine HR.out.mono ?_
        rintro e w2 ⟨g, rfl, o2, b2⟩
        go_wp2
        go_ret
        exact ⟨_, rfl, by rw [HF.out]; exact o2, b2⟩
      · have HF := Lib.hid (ringF_no (show ringB xs ys = false by unfold ringB; rw [hb, hb']; simp; omega))
        obtain ⟨a, c, rfl, -⟩ := h
        obtain ⟨a', c', rfl, -⟩ := h'
        have e1 : ((xs.length : Int) == (ys.length : Int)) = false := by rw [beq_eq_false_iff_ne]; omega
        have e2 : ((xs.length : Int) != (ys.length : Int)) = true := by rw [bne_iff_ne]; omega
        clear hb hb' he
        go_enter Try.func33, Try.ntmps33
        go_wp2_with fail
        refine hv.mono ?_
        rintro e w1 ⟨rfl, rfl⟩
        go_wp2_with fail
        refine hv'.mono ?_
        rintro e w1 ⟨rfl, rfl⟩
        go_wp2
        go_ret
        exact ⟨_, rfl, by rw [HF.out]; exact Own.nil _ _ _, Below.refl _ _⟩

end Go.Proofs.Ytabbfehjgchmgaa
