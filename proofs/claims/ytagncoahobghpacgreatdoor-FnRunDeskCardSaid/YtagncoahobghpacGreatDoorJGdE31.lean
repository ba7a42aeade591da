/-
  Joined texts: SgS, SgU, SgP.
-/
import Derived.Test.YtagncoahobghpacGreatDoorJGdE29
namespace Go.Proofs.YtagncoahobghpacGreatDoor
open Go.RowKit
set_option linter.unusedVariables false
set_option maxRecDepth 100000

theorem ones4_le (x : Nat) : ones4 x ≤ 4 := by
  unfold ones4
  have h1 := Nat.mod_lt x (show 0 < 2 by omega)
  have h2 := Nat.mod_lt (x / 2) (show 0 < 2 by omega)
  have h3 := Nat.mod_lt (x / 4) (show 0 < 2 by omega)
  have h4 := Nat.mod_lt (x / 8) (show 0 < 2 by omega)
  generalize x % 2 = a at *
  generalize x / 2 % 2 = b at *
  generalize x / 4 % 2 = c at *
  generalize x / 8 % 2 = d at *
  omega
theorem ones4_half : ∀ k, k < 16 → ones4 k = k % 2 + ones4 (k / 2) := by decide +kernel

set_option maxHeartbeats 1000000 in
theorem specOnes_any (x : Nat) (w : World) (hx : x < 16) :
    Calls Tryz.prog 55 #[.int .i64 x] w fun e w' => e = .returned (.int .i64 (ones4 x)) ∧ w = w' := by
  go_enter Tryz.func55, Tryz.ntmps55
  go_wp2
  go_loop [0, 3] (fun r n => ∃ k m : Nat, k < 16 ∧ r = .int .i64 k ∧ n = .int .i64 m ∧ m ≤ 4 ∧ Hid (m + ones4 k = ones4 x)) (fun r _ => (intOf r).toNat)
  case atStart => exact ⟨x, 0, hx, rfl, rfl, by omega, by show 0 + ones4 x = ones4 x; omega⟩
  case round =>
    obtain ⟨k, m, hk, rfl, rfl, hm, hs⟩ := hrel
    by_cases h0 : k = 0
    · subst h0
      have e : m = ones4 x := by have := hs.out; simpa [ones4] using this
      have HE := Lib.hid e
      clear e hs
      go_wp2
      go_ret
      exact ⟨ret_int (by rw [HE.out]), rfl⟩
    · have hs2 : Hid ((m + k % 2) + ones4 (k / 2) = ones4 x) := by
        have := hs.out
        have e := ones4_half k hk
        show (m + k % 2) + ones4 (k / 2) = ones4 x
        rw [← this, e, Nat.add_assoc]
      have hm2 : m + k % 2 ≤ 4 := by
        have h1 := hs2.out
        have h2 := ones4_le x
        generalize ones4 (k / 2) = p at h1
        generalize ones4 x = q at h1 h2
        omega
      clear hs
      go_wp2
      go_round
      case rel => exact ⟨k / 2, m + k % 2, by omega, by go_num, by go_num, hm2, hs2⟩
      case measure => simp [intOf]; omega

set_option maxHeartbeats 2000000 in
theorem specsigns_any (v : Value) (xs : List Int) (w : World) (h : Rd w v xs) (hl : xs.length ≤ 16) (h0 : 0 < xs.length) :
    Calls Tryz.prog 34 #[v] w (Made 3 w (signsL xs)) := by
  obtain ⟨a, cap, rfl, h⟩ := h
  rcases h with rfl | ⟨b, off, rfl, hb, hc⟩
  · simp at h0
  go_enter Tryz.func34, Tryz.ntmps34
  go_wp2
  go_loopw [3, 4] (fun v i wr => ∃ k : Nat, k ≤ xs.length ∧ i = .int .i64 k ∧ Own 3 w.heap.size wr v (tab k fun y => wrap64 (sgE (ix xs) xs.length y)) ∧ Below w.heap.size w wr)
    (fun _ i _ => xs.length - (intOf i).toNat)
  case atStart => exact ⟨0, Nat.zero_le _, rfl, own_empty _ _ _ (Nat.le_refl _), (Below.refl _ _).alloc (Nat.le_refl _) _⟩
  case round =>
    obtain ⟨y, hk, rfl, hO, hB⟩ := hrel
    by_cases hlt : y < xs.length
    · have hc2 : Hid (∀ j, j < xs.length → wr.cell? ⟨b, off + j, none⟩ = some (.int .i64 (ix xs j))) := fun j hj => (hB.cell (by exact hb)).trans (hc j hj)
      clear hc
      go_wp2
      go_loop [5, 6] (fun s i => ∃ x : Nat, x ≤ xs.length ∧ i = .int .i64 x ∧ s = .int .i64 (wrap64 (sumN (fun x => sg x y * ix xs x) x))) (fun _ i => xs.length - (intOf i).toNat)
      case atStart => exact ⟨0, Nat.zero_le _, rfl, by simp [sumN, wrap64]⟩
      case round =>
        obtain ⟨x, hx, rfl, rfl⟩ := hrel
        by_cases hxl : x < xs.length
        · have hcx := hc2.out x hxl
          have HA := and16 x (by omega) y (by omega)
          have hz := and_lt 4 (by omega) x (by omega) y (by omega)
          have HG : Hid (sg x y = if ones4 (x &&& y) % 2 = 0 then 1 else -1) := rfl
          generalize x &&& y = z at HA hz HG
          have hO4 := specOnes_any z
          have ho4 := ones4_le z
          generalize ones4 z = o at HG hO4 ho4
          have HO4 := Lib.hid hO4
          clear hO4
          have HSt : Hid (sumN (fun x => sg x y * ix xs x) (x + 1) = sumN (fun x => sg x y * ix xs x) x + sg x y * ix xs x) := rfl
          by_cases hev : o % 2 = 0
          · have e1 : ((o : Int) % 2 == 0) = true := by
              have : (o : Int) % 2 = 0 := by omega
              rw [this]; rfl
            have HW : Hid (wrap64 (wrap64 (sumN (fun x => sg x y * ix xs x) x) + ix xs x) = wrap64 (sumN (fun x => sg x y * ix xs x) (x + 1))) := by
              show _ = _
              rw [w64_addL, HSt.out, HG.out, if_pos hev, Int.one_mul]
            clear HG hev HSt
            go_wp2_with fail
            refine (HO4.out _ hz).mono ?_
            rintro e w2 ⟨rfl, rfl⟩
            go_wp2
            go_round
            case rel => exact ⟨x + 1, by omega, by go_num, by rw [HW.out]⟩
            case measure => simp [intOf]; omega
          · have e1 : ((o : Int) % 2 == 0) = false := by
              have : (o : Int) % 2 = 1 := by omega
              rw [this]; rfl
            have HW : Hid (wrap64 (wrap64 (sumN (fun x => sg x y * ix xs x) x) - ix xs x) = wrap64 (sumN (fun x => sg x y * ix xs x) (x + 1))) := by
              show _ = _
              rw [w64_subL, HSt.out, HG.out, if_neg hev]
              congr 1; omega
            clear HG hev HSt
            go_wp2_with fail
            refine (HO4.out _ hz).mono ?_
            rintro e w2 ⟨rfl, rfl⟩
            go_wp2
            go_round
            case rel => exact ⟨x + 1, by omega, by go_num, by rw [HW.out]⟩
            case measure => simp [intOf]; omega
        · have hxl : x = xs.length := by omega
          subst hxl
          have HS := Lib.hid (show wrap64 (sumN (fun x => sg x y * ix xs x) xs.length) = wrap64 (sgE (ix xs) xs.length y) from rfl)
          go_wp2_with (at_builtin; refine app_int rfl _ _ 35 rfl w.heap.size 3 Tryz.underlying35 infoInt _ _ rfl (hO.grow _) ⟨wr.heap.size, 0, none⟩ rfl (wrap64 (sgE (ix xs) xs.length y)) ?c1 ?c2 ?c3 ?_)
          case c1 => first | (rw [← HS.out]; done) | (rw [← HS.out]; exact cell_new1 _ _ _)
          case c2 => first | (simp; done) | (simp; omega) | omega
          case c3 => have := hB.size; first | (simp; done) | (simp; omega) | omega
          intro v' w1 hO' hg'
          have hB' := app_below hB hO hg'
          have hO2 : Own 3 w.heap.size w1 v' (tab (y + 1) fun y => wrap64 (sgE (ix xs) xs.length y)) := by rw [← tab_snoc y _ _ rfl]; exact hO'
          clear hO hB hO' hg'
          go_wp2
          go_roundw
          case rel => exact ⟨y + 1, by omega, by go_num, hO2, hB'⟩
          case measure => simp [intOf]; omega
    · have hkl : y = xs.length := by omega
      subst hkl
      go_wp2
      go_ret
      exact ⟨_, rfl, hO, hB⟩

theorem cube_pos {xs : List Int} (h : cubeB xs = true) : 0 < xs.length := by
  obtain ⟨-, k, -, e⟩ := cubeB_of h
  rw [e]; exact Nat.two_pow_pos k
def signsF (xs : List Int) : List Int := if cubeB xs = true then signsL xs else []
theorem signsF_len (xs : List Int) (h : xs.length ≤ 1048576) : (signsF xs).length ≤ 1048576 := by unfold signsF; split <;> simp [signsL, h]

end Go.Proofs.YtagncoahobghpacGreatDoor

namespace Go.Proofs.YtagncoahobghpacGreatDoor
open Go.RowKit
set_option linter.unusedVariables false
set_option maxRecDepth 100000

/-- Are all sums with signs divided by how many numbers there are? -/
def okU (xs : List Int) : Bool := cubeB xs && decide (∀ j, j < xs.length → ix (signsL xs) j % (xs.length : Int) = 0)
def unsL (xs : List Int) : List Int := if okU xs = true then tab xs.length fun j => Int.tdiv (ix (signsL xs) j) xs.length else []
/-- What a call makes that hands back a fresh slice of ints and a bool. -/
def MadeB (E : Nat) (w : World) (xs : List Int) (b : Bool) (e : Ending) (w' : World) : Prop := ∃ v, e = .returned (.tuple #[v, .bool b]) ∧ Own E w.heap.size w' v xs ∧ Below w.heap.size w w'
theorem okU_yes {xs : List Int} (hc : cubeB xs = true) (h : ∀ j, j < xs.length → ix (signsL xs) j % (xs.length : Int) = 0) : okU xs = true := by simp only [okU, hc, Bool.true_and, decide_eq_true_eq]; exact h
theorem okU_no {xs : List Int} {j : Nat} (hj : j < xs.length) (h : ¬ ix (signsL xs) j % (xs.length : Int) = 0) : okU xs = false := by
  simp only [okU, Bool.and_eq_false_iff, decide_eq_false_iff_not]; exact .inr fun e => h (e j hj)
theorem okU_bad {xs : List Int} (hc : cubeB xs = false) : okU xs = false := by simp [okU, hc]
theorem unsL_yes {xs : List Int} (h : okU xs = true) : unsL xs = tab xs.length fun j => Int.tdiv (ix (signsL xs) j) xs.length := by unfold unsL; exact if_pos h
theorem unsL_no {xs : List Int} (h : okU xs = false) : unsL xs = [] := by unfold unsL; exact if_neg (by simp [h])
theorem unsL_len (xs : List Int) (h : xs.length ≤ 1048576) : (unsL xs).length ≤ 1048576 := by unfold unsL; split <;> simp [h]
/-- The sums with signs, the first k of them divided. -/
def uD (F : Nat → Int) (n : Int) (k j : Nat) : Int := if j < k then Int.tdiv (F j) n else F j
theorem uD_at (F : Nat → Int) (n : Int) (k : Nat) : uD F n k k = F k := by unfold uD; exact if_neg (Nat.lt_irrefl _)
theorem uD_step (F : Nat → Int) (n : Int) (k j : Nat) : (if j = k then Int.tdiv (F k) n else uD F n k j) = uD F n (k + 1) j := by
  unfold uD
  by_cases h : j = k
  · rw [if_pos h, if_pos (by omega), h]
  · rw [if_neg h]
    by_cases h2 : j < k
    · rw [if_pos h2, if_pos (by omega)]
    · rw [if_neg h2, if_neg (by omega)]
def UdInv (E : Nat) (w wr : World) (v : Value) (n k : Nat) (F : Nat → Int) : Prop := Own E w.heap.size wr v (tab n (uD F n k)) ∧ Below w.heap.size w wr
theorem UdInv.step {E g n c k : Nat} {w wr : World} {F : Nat → Int} (h : UdInv E w wr (.slice (some ⟨g, 0, none⟩) n c) n k F) (hg : w.heap.size ≤ g) :
    UdInv E w (wr.setCell ⟨g, k, none⟩ (.int .i64 (Int.tdiv (F k) n))) (.slice (some ⟨g, 0, none⟩) n c) n (k + 1) F := by
  refine ⟨?_, h.2.setCell hg _⟩
  have := h.1.set k (Int.tdiv (F k) n)
  rw [tab_set, tab_congr (fun j _ => uD_step F n k j)] at this
  exact this
theorem signs_small {xs : List Int} (h : cubeB xs = true) (j : Nat) (hj : j < xs.length) : -16000 ≤ ix (signsL xs) j ∧ ix (signsL xs) j ≤ 16000 ∧ ix (signsL xs) j = sgE (ix xs) xs.length j := by
  have hv := vrB_of (cubeB_of h).1
  have hs := sgE_bound (F := ix xs) (n := xs.length) (c := 1000) (by omega) hv.2 j
  have e : ix (signsL xs) j = sgE (ix xs) xs.length j := by
    unfold signsL; rw [ix_tab _ _ _ hj]; exact w64_id (by have := hv.1; omega)
  have h16 := hv.1
  have hm : (xs.length : Int) * 1000 ≤ 16000 := by omega
  refine ⟨?_, ?_, e⟩ <;> rw [e] <;> omega

theorem sg_noughts (xs : List Int) (h : xs.length ≤ 16) (y : Nat) : sgE (ix xs) 16 y = sgE (ix xs) xs.length y :=
  sumN_more h fun i h1 _ => by rw [show ix xs i = 0 by simp [ix, List.getD, List.getElem?_eq_none h1]]; exact Int.mul_zero _
theorem sq_noughts (xs : List Int) (h : xs.length ≤ 16) : sq (ix xs) 16 = sq (ix xs) xs.length :=
  sumN_more h fun i h1 _ => by rw [show ix xs i = 0 by simp [ix, List.getD, List.getElem?_eq_none h1]]; rfl

end Go.Proofs.YtagncoahobghpacGreatDoor

namespace Go.Proofs.YtagncoahobghpacGreatDoor
open Go.RowKit
set_option linter.unusedVariables false
set_option maxRecDepth 100000

/-- The sums with signs on the way: those ahead of k are made. -/
def sK (F : Nat → Int) (k j : Nat) : Int := if j < k then wrap64 (sgE F 16 j) else 0
theorem sK_step (F : Nat → Int) (k j : Nat) : (if j = k then wrap64 (sgE F 16 k) else sK F k j) = sK F (k + 1) j := by
  unfold sK
  by_cases h : j = k
  · rw [if_pos h, if_pos (by omega), h]
  · rw [if_neg h]
    by_cases h2 : j < k
    · rw [if_pos h2, if_pos (by omega)]
    · rw [if_neg h2, if_neg (by omega)]
def SgInv (E : Nat) (w wr : World) (g0 g1 n c k : Nat) (F : Nat → Int) : Prop :=
  Own E (g0 + 1) wr (.slice (some ⟨g1, 0, none⟩) n c) (tab n (sK F k)) ∧ wr.heap[g0]? = some (.cells (arr F) 110 (0, 0)) ∧ Below w.heap.size w wr
theorem SgInv.call {E g0 g1 n c k : Nat} {w wr w2 : World} {F : Nat → Int} (h : SgInv E w wr g0 g1 n c k F) (b : Below wr.heap.size wr w2) : SgInv E w w2 g0 g1 n c k F := by
  obtain ⟨h1, h2, h3⟩ := h
  refine ⟨h1.below b (Nat.le_refl _), ?_, bel_nxt h3 b⟩
  rw [b.block g0 (Array.getElem?_eq_some_iff.1 h2).1]; exact h2
theorem SgInv.step {E g0 g1 n c k : Nat} {w wr : World} {F : Nat → Int} (h : SgInv E w wr g0 g1 n c k F) (hg : w.heap.size ≤ g0) (hg1 : g0 + 1 ≤ g1) :
    SgInv E w (wr.setCell ⟨g1, k, none⟩ (.int .i64 (wrap64 (sgE F 16 k)))) g0 g1 n c (k + 1) F := by
  obtain ⟨h1, h2, h3⟩ := h
  refine ⟨?_, ?_, h3.setCell (by show w.heap.size ≤ g1; omega) _⟩
  · have := h1.set k (wrap64 (sgE F 16 k))
    rw [tab_set, tab_congr (fun j _ => sK_step F k j)] at this
    exact this
  · rw [Below.heap_setCell _ _ _ _ (by show g0 ≠ g1; omega)]; exact h2

set_option maxHeartbeats 2000000 in
theorem implSignsOf_any (v : Value) (xs : List Int) (w : World) (h : Rd w v xs) (hl : xs.length ≤ maxLen) (hw : ∀ n ∈ xs, (Lit.int .i64 n).wf = true) :
    Calls Tryz.prog 63 #[v] w (Made 3 w (signsF xs)) := by
  have hv := isBinaryRow_any v xs w h hl
  cases hb : cubeB xs with
  | true =>
    rw [hb] at hv
    have hle := (vrB_of (cubeB_of hb).1).1
    have hpos := cube_pos hb
    obtain ⟨F, hFF⟩ : ∃ F, F = ix xs := ⟨_, rfl⟩
    obtain ⟨n, hn⟩ : ∃ n, n = xs.length := ⟨_, rfl⟩
    have hF : Hid (signsF xs = tab n (sK F n)) := by
      show signsF xs = _
      unfold signsF
      rw [if_pos hb, signsL, ← hn]
      exact tab_congr fun j hj => by unfold sK; rw [if_pos hj, hFF, sg_noughts xs hle j, hn]
    obtain ⟨i0, hi, hz0, hz1, hz2⟩ := info_parts infoInt
    have h0 := h
    obtain ⟨ad, cap, rfl, hr⟩ := h0
    have HN := Lib.hid hn
    go_enter Tryz.func63, Tryz.ntmps63
    go_wp2_with fail
    refine hv.mono ?_
    rintro e w1 ⟨rfl, b1⟩
    go_wp2_with fail
    refine (cellsOf_any _ xs _ (h.below b1 (Nat.le_refl _)) hle).mono ?_
    rintro e w2 ⟨rfl, b2⟩
    rw [← hFF]
    rw [← hn] at hle hpos ⊢
    have hst := store_new F w2
    have bb := bel_nxt b1 b2
    clear hb hv h hFF hn hr hl b1 b2 hw
    go_wp2_with (first | with_reducible refine wpList_storev rfl (.tmp 3) (.tmp 10) 110 rfl _ rfl _ rfl hst ?_ | (at_make; refine wpList_make_full _ rfl _ _ 35 rfl (w2.heap.size + 1) 3 i0 (.int .i64 0) 1 Tryz.underlying35 hi hz0 hz1 _ _ _ _ n rfl rfl rfl rfl ?c1 ?c2 ?c3 ?_))
    case c1 => rw [hz2]; omega
    case c2 => unfold maxLen; omega
    case c3 => rw [size_one]; omega
    intro w3 hown hgrow
    have hO := own_made hown
    have hB3 : Below (w2.heap.size + 1) (w2.alloc (.cells (arr F) 110)) w3 := (Below.refl (w2.heap.size + 1) (w2.alloc (.cells (arr F) 110))).grown hgrow (by rw [size_one]; omega) (by simp)
    have hH : w3.heap[w2.heap.size]? = some (.cells (arr F) 110 (0, 0)) := by rw [hB3.block w2.heap.size (by omega)]; exact heap_alloc_last _ _
    have hB4 : Below w.heap.size w w3 := (bb.alloc bb.size (.cells (arr F) 110)).trans (hB3.mono (by have := bb.size; omega))
    have hg0 := bb.size
    obtain ⟨g0, hg⟩ : ∃ g0, g0 = w2.heap.size := ⟨_, rfl⟩
    rw [← hg] at hH hO hg0 ⊢
    have hI : SgInv 3 w w3 g0 (g0 + 1) n n 0 F := by
      refine ⟨?_, hH, hB4⟩
      rw [tab_congr (g := fun _ => 0) (fun j _ => by unfold sK; rw [if_neg (by omega)])]
      exact hO
    obtain ⟨g1, hg1e⟩ : ∃ g1, g1 = g0 + 1 := ⟨_, rfl⟩
    have hg1 : g0 + 1 ≤ g1 := by omega
    rw [← hg1e] at hI ⊢
    clear hst bb hown hgrow hO hB3 hH hB4 hg hg1e hi hz0 hz1 hz2
    go_wp2
    go_loopw [16] (fun i wr => ∃ k : Nat, k ≤ n ∧ i = .int .i64 k ∧ SgInv 3 w wr g0 g1 n n k F) (fun i _ => n - (intOf i).toNat)
    case atStart => exact ⟨0, Nat.zero_le _, rfl, hI⟩
    case round =>
      obtain ⟨k, hk, rfl, hIr⟩ := hrel
      by_cases hlt : k < n
      · have hld := load_arr hIr.2.1
        have hf := hIr.1.frozen k
        have hcx := hIr.1.cell k (by simpa using hlt)
        clear hI
        go_wp2_with (with_reducible refine wpList_loadv rfl (.tmp 3) 110 rfl _ rfl _ hld ?_)
        refine (weighSg_any F k _ (by omega)).mono ?_
        rintro e w5 ⟨rfl, b5⟩
        have hI5 := hIr.call b5
        have hf := hI5.1.frozen k
        have hcx := hI5.1.cell k (by simpa using hlt)
        have HS := Lib.hid (hI5.step hg0 hg1)
        clear hld hIr hI5
        go_wp2
        go_roundw
        case rel => exact ⟨k + 1, by omega, by go_num, HS.out⟩
        case measure => simp [intOf]; omega
      · obtain rfl : k = n := by omega
        go_wp2
        go_ret
        exact ⟨_, rfl, by rw [hF.out]; exact hIr.1.mono (by omega), hIr.2.2⟩
  | false =>
    rw [hb] at hv
    have hF : Hid (signsF xs = []) := by show signsF xs = _; unfold signsF; exact if_neg (by simp [hb])
    go_enter Tryz.func63, Tryz.ntmps63
    go_wp2_with fail
    refine hv.mono ?_
    rintro e w1 ⟨rfl, b1⟩
    go_wp2
    go_ret
    exact ⟨_, rfl, by rw [hF.out]; exact Own.nil _ _ _, b1⟩

end Go.Proofs.YtagncoahobghpacGreatDoor
