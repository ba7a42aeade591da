/-
  Sums with signs of the model.
-/
import Derived.Test.YtpalmbcknjmmcaaSgI
namespace Go.Proofs.Ytpalmbcknjmmcaa
open Go.RowKit
set_option linter.unusedVariables false

theorem ones4_le (x : Nat) : ones4 x ≤ 4 := by
  unfold ones4
  have h1 := Nat.mod_lt x (show 0 < 2 by omega)
  have h2 := Nat.mod_lt (x / 2) (show 0 < 2 by omega)
  have h3 := Nat.mod_lt (x / 4) (show 0 < 2 by omega)
  have h4 := Nat.mod_lt (x / 8) (show 0 < 2 by omega)
  generalize x % 2 = a at *
  generalize x / 2 % 2 = b at *
  generalize x / 4 % 2 = c at *
  generalize x / 8 % 2 = d at *
  omega
theorem ones4_half : ∀ k, k < 16 → ones4 k = k % 2 + ones4 (k / 2) := by decide +kernel

set_option maxHeartbeats 1000000 in
theorem specOnes_any (x : Nat) (w : World) (hx : x < 16) :
    Calls Try.prog 73 #[.int .i64 x] w fun e w' => e = .returned (.int .i64 (ones4 x)) ∧ w = w' := by
  go_enter Try.func73, Try.ntmps73
  go_wp2
  go_loop [0, 3] (fun r n => ∃ k m : Nat, k < 16 ∧ r = .int .i64 k ∧ n = .int .i64 m ∧ m ≤ 4 ∧ Hid (m + ones4 k = ones4 x)) (fun r _ => (intOf r).toNat)
  case atStart => exact ⟨x, 0, hx, rfl, rfl, by omega, by show 0 + ones4 x = ones4 x; omega⟩
  case round =>
    obtain ⟨k, m, hk, rfl, rfl, hm, hs⟩ := hrel
    by_cases h0 : k = 0
    · subst h0
      have e : m = ones4 x := by have := hs.out; simpa [ones4] using this
      have HE := Lib.hid e
      clear e hs
      go_wp2
      go_ret
      exact ⟨ret_int (by rw [HE.out]), rfl⟩
    · have hs2 : Hid ((m + k % 2) + ones4 (k / 2) = ones4 x) := by
        have := hs.out
        have e := ones4_half k hk
        show (m + k % 2) + ones4 (k / 2) = ones4 x
        rw [← this, e, Nat.add_assoc]
      have hm2 : m + k % 2 ≤ 4 := by
        have h1 := hs2.out
        have h2 := ones4_le x
        generalize ones4 (k / 2) = p at h1
        generalize ones4 x = q at h1 h2
        omega
      clear hs
      go_wp2
      go_round
      case rel => exact ⟨k / 2, m + k % 2, by omega, by go_num, by go_num, hm2, hs2⟩
      case measure => simp [intOf]; omega

set_option maxHeartbeats 2000000 in
theorem specsigns_any (v : Value) (xs : List Int) (w : World) (h : Rd w v xs) (hl : xs.length ≤ 16) (h0 : 0 < xs.length) :
    Calls Try.prog 66 #[v] w (Made 3 w (signsL xs)) := by
  obtain ⟨a, cap, rfl, h⟩ := h
  rcases h with rfl | ⟨b, off, rfl, hb, hc⟩
  · simp at h0
  go_enter Try.func66, Try.ntmps66
  go_wp2
  go_loopw [3, 4] (fun v i wr => ∃ k : Nat, k ≤ xs.length ∧ i = .int .i64 k ∧ Own 3 w.heap.size wr v (tab k fun y => wrap64 (sgE (ix xs) xs.length y)) ∧ Below w.heap.size w wr)
    (fun _ i _ => xs.length - (intOf i).toNat)
  case atStart => exact ⟨0, Nat.zero_le _, rfl, own_empty _ _ _ (Nat.le_refl _), (Below.refl _ _).alloc (Nat.le_refl _) _⟩
  case round =>
    obtain ⟨y, hk, rfl, hO, hB⟩ := hrel
    by_cases hlt : y < xs.length
    · have hc2 : Hid (∀ j, j < xs.length → wr.cell? ⟨b, off + j, none⟩ = some (.int .i64 (ix xs j))) := fun j hj => (hB.cell (by exact hb)).trans (hc j hj)
      clear hc
      go_wp2
      go_loop [5, 6] (fun s i => ∃ x : Nat, x ≤ xs.length ∧ i = .int .i64 x ∧ s = .int .i64 (wrap64 (sumN (fun x => sg x y * ix xs x) x))) (fun _ i => xs.length - (intOf i).toNat)
      case atStart => exact ⟨0, Nat.zero_le _, rfl, by simp [sumN, wrap64]⟩
      case round =>
        obtain ⟨x, hx, rfl, rfl⟩ := hrel
        by_cases hxl : x < xs.length
        · have hcx := hc2.out x hxl
          have HA := and16 x (by omega) y (by omega)
          have hz := and_lt 4 (by omega) x (by omega) y (by omega)
          have HG : Hid (sg x y = if ones4 (x &&& y) % 2 = 0 then 1 else -1) := rfl
          generalize x &&& y = z at HA hz HG
          have hO4 := specOnes_any z
          have ho4 := ones4_le z
          generalize ones4 z = o at HG hO4 ho4
          have HO4 := Lib.hid hO4
          clear hO4
          have HSt : Hid (sumN (fun x => sg x y * ix xs x) (x + 1) = sumN (fun x => sg x y * ix xs x) x + sg x y * ix xs x) := rfl
          by_cases hev : o % 2 = 0
          · have e1 : ((o : Int) % 2 == 0) = true := by
              have : (o : Int) % 2 = 0 := by omega
              rw [this]; rfl
            have HW : Hid (wrap64 (wrap64 (sumN (fun x => sg x y * ix xs x) x) + ix xs x) = wrap64 (sumN (fun x => sg x y * ix xs x) (x + 1))) := by
              show _ = _
              rw [w64_addL, HSt.out, HG.out, if_pos hev, Int.one_mul]
            clear HG hev HSt
            go_wp2_with fail
            refine (HO4.out _ hz).mono ?_
            rintro e w2 ⟨rfl, rfl⟩
            go_wp2
            go_round
            case rel => exact ⟨x + 1, by omega, by go_num, by rw [HW.out]⟩
            case measure => simp [intOf]; omega
          · have e1 : ((o : Int) % 2 == 0) = false := by
              have : (o : Int) % 2 = 1 := by omega
              rw [this]; rfl
            have HW : Hid (wrap64 (wrap64 (sumN (fun x => sg x y * ix xs x) x) - ix xs x) = wrap64 (sumN (fun x => sg x y * ix xs x) (x + 1))) := by
              show _ = _
              rw [w64_subL, HSt.out, HG.out, if_neg hev]
              congr 1; omega
            clear HG hev HSt
            go_wp2_with fail
            refine (HO4.out _ hz).mono ?_
            rintro e w2 ⟨rfl, rfl⟩
            go_wp2
            go_round
            case rel => exact ⟨x + 1, by omega, by go_num, by rw [HW.out]⟩
            case measure => simp [intOf]; omega
        · have hxl : x = xs.length := by omega
          subst hxl
          have HS := Lib.hid (show wrap64 (sumN (fun x => sg x y * ix xs x) xs.length) = wrap64 (sgE (ix xs) xs.length y) from rfl)
          go_wp2_with (at_builtin; refine app_int rfl _ _ 23 rfl w.heap.size 3 Try.underlying23 infoInt _ _ rfl (hO.grow _) ⟨wr.heap.size, 0, none⟩ rfl (wrap64 (sgE (ix xs) xs.length y)) ?c1 ?c2 ?c3 ?_)
          case c1 => first | (rw [← HS.out]; done) | (rw [← HS.out]; exact cell_new1 _ _ _)
          case c2 => first | (simp; done) | (simp; omega) | omega
          case c3 => have := hB.size; first | (simp; done) | (simp; omega) | omega
          intro v' w1 hO' hg'
          have hB' := app_below hB hO hg'
          have hO2 : Own 3 w.heap.size w1 v' (tab (y + 1) fun y => wrap64 (sgE (ix xs) xs.length y)) := by rw [← tab_snoc y _ _ rfl]; exact hO'
          clear hO hB hO' hg'
          go_wp2
          go_roundw
          case rel => exact ⟨y + 1, by omega, by go_num, hO2, hB'⟩
          case measure => simp [intOf]; omega
    · have hkl : y = xs.length := by omega
      subst hkl
      go_wp2
      go_ret
      exact ⟨_, rfl, hO, hB⟩

theorem cube_pos {xs : List Int} (h : cubeB xs = true) : 0 < xs.length := by
  obtain ⟨-, k, -, e⟩ := cubeB_of h
  rw [e]; exact Nat.two_pow_pos k
def signsF (xs : List Int) : List Int := if cubeB xs = true then signsL xs else []
theorem signsF_len (xs : List Int) (h : xs.length ≤ 1048576) : (signsF xs).length ≤ 1048576 := by unfold signsF; split <;> simp [signsL, h]

set_option maxHeartbeats 1000000 in
theorem specEnergyOf_any (v : Value) (xs : List Int) (w : World) (h : Rd w v xs) (hl : xs.length ≤ maxLen) :
    Calls Try.prog 46 #[v] w (Tells (energyF xs) w) := by
  have hv := specvalid_any v xs w h hl
  have h0 := h
  obtain ⟨a, cap, rfl, h⟩ := h
  cases hb : vrB xs with
  | true =>
    rw [hb] at hv
    have hF : Hid (energyF xs = wrap64 (sq (ix xs) xs.length)) := by show energyF xs = _; unfold energyF; exact if_pos hb
    have hM := (vrB_of hb).1
    have hbd := Lib.hid (vrB_of hb).2
    go_enter Try.func46, Try.ntmps46
    go_wp2_with fail
    refine hv.mono ?_
    rintro e w1 ⟨rfl, b1⟩
    clear hb hv
    go_wp2
    go_loopw [3, 4] (fun s i wr => ∃ k : Nat, k ≤ xs.length ∧ i = .int .i64 k ∧ s = .int .i64 (wrap64 (sq (ix xs) k)) ∧ Below w.heap.size w wr) (fun _ i _ => xs.length - (intOf i).toNat)
    case atStart => exact ⟨0, Nat.zero_le _, rfl, by simp [sq, sumN, wrap64], b1⟩
    case round =>
      obtain ⟨k, hk, rfl, rfl, hB⟩ := hrel
      by_cases hlt : k < xs.length
      · rcases h with rfl | ⟨b, off, rfl, hb, hc⟩
        · simp at hlt
        have hcx : wr.cell? ⟨b, off + k, none⟩ = some (.int .i64 (ix xs k)) := (hB.cell (by exact hb)).trans (hc k hlt)
        have HW : Hid (wrap64 (wrap64 (sq (ix xs) k) + wrap64 (ix xs k * ix xs k)) = wrap64 (sq (ix xs) (k + 1))) := by
          show _ = _
          rw [w64_add]; rfl
        have HB := Lib.hid hB
        clear hc hB h0
        go_wp2
        go_region
        go_wp2
        go_roundw
        case rel => exact ⟨k + 1, by omega, by go_num, by rw [HW.out], HB.out.drew⟩
        case measure => simp [intOf]; omega
      · have hkl : k = xs.length := by omega
        subst hkl
        go_wp2
        go_ret
        exact ⟨ret_int (by rw [hF.out]), hB⟩
  | false =>
    rw [hb] at hv
    have hF : Hid (energyF xs = -1) := by show energyF xs = _; unfold energyF; exact if_neg (by simp [hb])
    go_enter Try.func46, Try.ntmps46
    go_wp2_with fail
    refine hv.mono ?_
    rintro e w1 ⟨rfl, b1⟩
    go_wp2
    go_ret
    exact ⟨ret_int (by rw [hF.out]), b1⟩

end Go.Proofs.Ytpalmbcknjmmcaa
