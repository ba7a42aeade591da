/-
  answer of the model.
-/
import Derived.Test.YtagncoahobghpacGreatDoorJGdE13
import Derived.Test.YtagncoahobghpacGreatDoorJGdE37
import Derived.Test.YtagncoahobghpacGreatDoorJGdE11
import Derived.Test.YtagncoahobghpacGreatDoorJGdE31
import Derived.Test.YtagncoahobghpacGreatDoorJGdE38
import Derived.Test.YtagncoahobghpacGreatDoorJGdE27
import Derived.Test.YtagncoahobghpacGreatDoorJGdE35
import Derived.Test.YtagncoahobghpacGreatDoorJGdE22
namespace Go.Proofs.YtagncoahobghpacGreatDoor
open Go Go.RowKit
set_option linter.unusedVariables false
set_option linter.unusedSimpArgs false
set_option maxRecDepth 100000

theorem fin_row {line : ByteArray} {L : List Int} (h : workP line = .row L) : Value.string (listT L) = Value.string (ansT (workP line)) := by rw [h]; rfl
/-- What a line of two words comes to. -/
def twoP (p q : ByteArray) : Ans := if knW p = true then (match rowT q with | none => .wrong | some xs => if wordL p xs = [] then .wrong else .row (wordL p xs)) else .what
theorem workP_two {line : ByteArray} {a b : List UInt8} (h : splitL 32 line.data.toList = [a, b]) : workP line = twoP (bs a) (bs b) := by
  have hc := splitL_len 32 line.data.toList
  rw [h] at hc
  have h1 : Lib.countByte line.data.toList 32 = 1 := by
    unfold Lib.countByte
    simp only [List.length_cons, List.length_nil] at hc
    omega
  have h2 : cutP line = (bs a, bs b) := by
    unfold cutP
    rw [cut_two h]
  unfold workP twoP
  rw [h2]
  by_cases hk : knW (bs a) = true
  · rw [if_pos ⟨hk, h1⟩, if_pos hk]
    dsimp only
    cases rowT (bs b) <;> rfl
  · rw [if_neg (fun q => hk q.1), if_neg hk]
theorem workP_other {line : ByteArray} (h : (splitL 32 line.data.toList).length ≠ 2) : workP line = .what := by
  refine if_neg fun q => h ?_
  rw [splitL_len]
  have := q.2
  unfold Lib.countByte at this
  rw [this]

theorem specvalidRests_b (v : Value) (xs : List Int) (w : World) (h : Rd w v xs) (hl : xs.length ≤ maxLen) : Calls Tryz.prog 35 #[v] w (Says (vsB xs) w) :=
  (specvalidRests_any v xs w h hl).mono fun e w' ⟨h1, h2⟩ => ⟨h1, by rw [← h2]; exact Below.refl _ _⟩
theorem piece_size {c : UInt8} : ∀ {l p : List UInt8}, p ∈ splitL c l → p.length ≤ l.length
  | [], p, hp => by simp [splitL] at hp; subst hp; exact Nat.le_refl _
  | x :: l, p, hp => by
    rw [splitL_cons] at hp
    split at hp
    · rcases List.mem_cons.1 hp with rfl | hp
      · exact Nat.zero_le _
      · exact Nat.le_succ_of_le (piece_size hp)
    · cases h : splitL c l with
      | nil => exact absurd h (splitL_ne c l)
      | cons q qs =>
        rw [h] at hp
        dsimp only at hp
        rcases List.mem_cons.1 hp with rfl | hp
        · have := piece_size (c := c) (l := l) (p := q) (by rw [h]; exact List.mem_cons_self)
          simp only [List.length_cons]
          omega
        · exact Nat.le_succ_of_le (piece_size (by rw [h]; exact List.mem_cons_of_mem _ hp))

set_option maxHeartbeats 16000000 in
theorem answer_any (line : ByteArray) (w : World) (hs : line.size ≤ 1048576) : Calls Tryz.prog 24 #[.string line] w fun e w' => e = .returned (.string (ansT (workP line))) ∧ Below w.heap.size w w' := by
  have HSP := Lib.hid (splitAt_any line 32 w hs)
  have HOT := Lib.hid (workP_other (line := line))
  have HTW := Lib.hid fun a b => workP_two (line := line) (a := a) (b := b)
  have HSZ := Lib.hid fun (b : List UInt8) (h : b ∈ splitL 32 line.data.toList) => piece_size h
  have hL : line.data.toList.length = line.size := Array.length_toList
  obtain ⟨W, hW⟩ : ∃ W, W = splitL 32 line.data.toList := ⟨_, rfl⟩
  rw [← hW] at HSP HOT HSZ
  have HTW := Lib.hid fun a b (h : W = [a, b]) => HTW.out a b (hW.symm.trans h)
  obtain ⟨ans, hans⟩ : ∃ ans, ans = workP line := ⟨_, rfl⟩
  rw [← hans] at HOT ⊢
  simp only [← hans] at HTW
  rw [hL] at HSZ
  clear hW hans hL
  go_enter Tryz.func24, Tryz.ntmps24
  go_wp2_with fail
  refine HSP.out.mono ?_
  rintro e w1 ⟨v, rfl, hT, b1⟩
  obtain ⟨n, hn⟩ : ∃ n, n = W.length := ⟨_, rfl⟩
  have HN := Lib.hid hn
  obtain ⟨va, vc, rfl⟩ : ∃ va vc, v = .slice va n vc := by
    rcases hT.2 with ⟨rfl, e0⟩ | ⟨g, cap, cur, rfl, _⟩
    · exact ⟨none, 0, by rw [hn, show W.length = 0 by rw [← List.length_map (f := bs)]; exact e0]⟩
    · exact ⟨_, cap, by rw [hn, List.length_map]⟩
  clear hn HSP
  by_cases h2 : n = 2
  · obtain ⟨a, b, hab⟩ : ∃ a b, W = [a, b] := by
      have h := HN.out
      rw [h2] at h
      rcases W with _ | ⟨a, W⟩
      · cases h
      rcases W with _ | ⟨b, W⟩
      · cases h
      rcases W with _ | ⟨c, W⟩
      · exact ⟨a, b, rfl⟩
      · simp at h
    subst h2
    have HA := Lib.hid (HTW.out a b hab)
    have hz := HSZ.out b (by rw [hab]; simp)
    rw [hab] at hT
    obtain ⟨g, cap, hv, _, _, c0⟩ := hT.get (j := 0) (s := bs a) rfl
    obtain ⟨g', cap', hv', _, _, c1⟩ := hT.get (j := 1) (s := bs b) rfl
    simp only [Value.slice.injEq, List.length_map, List.length_cons, List.length_nil] at hv hv'
    obtain ⟨rfl, -, rfl⟩ := hv
    obtain ⟨hg, -, -⟩ := hv'
    simp only [Option.some.injEq, Addr.mk.injEq, and_true] at hg
    subst hg
    have hbz : (bs b).size ≤ 1048576 := by rw [bs_size]; omega
    obtain ⟨p, hp⟩ : ∃ p, p = bs a := ⟨_, rfl⟩
    obtain ⟨q, hq⟩ : ∃ q, q = bs b := ⟨_, rfl⟩
    rw [← hp] at HA c0
    rw [← hq] at HA c1 hbz
    have HR := Lib.hid (readRow_any q w1 hbz)
    have hgl := World.block_lt_of_cell? w1 _ c0
    clear hp hq hT HN HOT HTW HSZ hab hz hbz hs
    go_wp2_with fail
    refine HR.out.mono ?_
    rintro e w2 ⟨v, ok, rfl, b2, hm⟩
    rw [row_same] at hm
    have c0 := (b2.cell (p := ⟨g, 0, none⟩) hgl).trans c0
    have bb := bel_nxt b1 b2
    clear HR b1 c1 hgl
    unfold twoP at HA
    by_cases hk : knW p = true
    · rw [if_pos hk] at HA
      replace hk := of_decide_eq_true hk
      cases hr : rowT q with
      | none =>
        rw [hr] at hm HA
        subst hm
        have HF : Hid (ansT ans = ⟨#[119, 114, 111, 110, 103]⟩) := Lib.hid (by rw [HA.out]; rfl)
        clear HA hr b2
        rcases hk with rfl | rfl | rfl | rfl | rfl | rfl
        · unfold wEdge at c0
          go_wp2
          go_ret
          exact ⟨by rw [HF.out]; rfl, bb⟩
        · unfold wSigns at c0
          go_wp2
          go_ret
          exact ⟨by rw [HF.out]; rfl, bb⟩
        · unfold wWave at c0
          go_wp2
          go_ret
          exact ⟨by rw [HF.out]; rfl, bb⟩
        · unfold wHalve at c0
          go_wp2
          go_ret
          exact ⟨by rw [HF.out]; rfl, bb⟩
        · unfold wLeap at c0
          go_wp2
          go_ret
          exact ⟨by rw [HF.out]; rfl, bb⟩
        · unfold wSelf at c0
          go_wp2
          go_ret
          exact ⟨by rw [HF.out]; rfl, bb⟩
      | some xs =>
        rw [hr] at hm HA
        obtain ⟨hO, rfl⟩ := hm
        have hvr := rowT_vr hr
        have hp0 := rowT_pos hr
        have hrd := hO.rd
        have h16 := (vrB_of hvr).1
        have hml : xs.length ≤ maxLen := by unfold maxLen; omega
        clear hr b2
        rcases hk with rfl | rfl | rfl | rfl | rfl | rfl
        · unfold wEdge at c0
          have HWL : Hid (wordL wEdge xs = edgeF xs) := Lib.hid (by unfold wordL; rw [if_pos rfl])
          have HE : Hid (edgeF xs = (edgeL xs)) := Lib.hid (by unfold edgeF; exact if_pos hvr)
          have hlen : ((edgeL xs)).length = xs.length := by simp [edgeL]
          have HNE : Hid ((edgeL xs) ≠ []) := Lib.hid (fun e => by rw [e, List.length_nil] at hlen; omega)
          have hll : ((edgeL xs)).length ≤ 1048576 := by omega
          clear hlen
          have HF : Hid (ansT ans = listT (edgeL xs)) := Lib.hid (by rw [HA.out]; show ansT (if wordL wEdge xs = [] then _ else _) = _; rw [HWL.out, HE.out, if_neg HNE.out]; rfl)
          have HC := Lib.hid (specedge_any _ xs w2 hrd (by omega) (row_wf hvr))
          have HSM : Hid (Sm64 (edgeL xs)) := Lib.hid (edge_sm hvr)
          clear HA HWL HNE
          go_wp2_with fail
          refine HC.out.mono ?_
          rintro e w4 ⟨vl, rfl, hO4, b4⟩
          have HLT := Lib.hid (listText_any vl _ w4 hO4.rd hll HSM.out)
          have bb := bel_nxt bb b4
          clear HC HSM hO4 b4 c0 hrd hO HE
          go_wp2_with fail
          refine HLT.out.mono ?_
          rintro e w5 ⟨rfl, rfl⟩
          go_wp2
          go_ret
          exact ⟨by rw [HF.out]; rfl, bb⟩
        · unfold wSigns at c0
          have HWL : Hid (wordL wSigns xs = signsF xs) := Lib.hid (by unfold wordL; rw [if_neg (by decide)]; rw [if_pos rfl])
          have HG := Lib.hid (validCube_any _ xs w2 hrd hml)
          go_wp2_with fail
          refine HG.out.mono ?_
          rintro e w3 ⟨rfl, b3⟩
          have hrd := hrd.below b3 (Nat.le_refl _)
          have c0 := (b3.cell (p := ⟨g, 0, none⟩) (World.block_lt_of_cell? w2 _ c0)).trans c0
          have bb := bel_nxt bb b3
          clear b3 HG
          cases hb : cubeB xs with
          | false =>
            have HF : Hid (ansT ans = ⟨#[119, 114, 111, 110, 103]⟩) := Lib.hid (by rw [HA.out]; show ansT (if wordL wSigns xs = [] then _ else _) = _; rw [HWL.out, if_pos (by unfold signsF; exact if_neg (by simp [hb]))]; rfl)
            clear HA HWL hb hrd hO
            go_wp2
            go_ret
            exact ⟨by rw [HF.out]; rfl, bb⟩
          | true =>
            have HE : Hid (signsF xs = (signsL xs)) := Lib.hid (by unfold signsF; exact if_pos hb)
            have hlen : ((signsL xs)).length = xs.length := by simp [signsL]
            have HNE : Hid ((signsL xs) ≠ []) := Lib.hid (fun e => by rw [e, List.length_nil] at hlen; omega)
            have hll : ((signsL xs)).length ≤ 1048576 := by omega
            clear hlen
            have HF : Hid (ansT ans = listT (signsL xs)) := Lib.hid (by rw [HA.out]; show ansT (if wordL wSigns xs = [] then _ else _) = _; rw [HWL.out, HE.out, if_neg HNE.out]; rfl)
            have HC := Lib.hid (specsigns_any _ xs w3 hrd h16 hp0)
            have HSM : Hid (Sm64 (signsL xs)) := Lib.hid (signs_sm hvr)
            clear HA HWL HNE
            go_wp2_with fail
            refine HC.out.mono ?_
            rintro e w4 ⟨vl, rfl, hO4, b4⟩
            have HLT := Lib.hid (listText_any vl _ w4 hO4.rd hll HSM.out)
            have bb := bel_nxt bb b4
            clear HC HSM hO4 b4 c0 hrd hO HE
            go_wp2_with fail
            refine HLT.out.mono ?_
            rintro e w5 ⟨rfl, rfl⟩
            go_wp2
            go_ret
            exact ⟨by rw [HF.out]; rfl, bb⟩
        · unfold wWave at c0
          have HWL : Hid (wordL wWave xs = waveF xs) := Lib.hid (by unfold wordL; rw [if_neg (by decide)]; rw [if_neg (by decide)]; rw [if_pos rfl])
          have HG := Lib.hid (specvalidRests_b _ xs w2 hrd hml)
          go_wp2_with fail
          refine HG.out.mono ?_
          rintro e w3 ⟨rfl, b3⟩
          have hrd := hrd.below b3 (Nat.le_refl _)
          have c0 := (b3.cell (p := ⟨g, 0, none⟩) (World.block_lt_of_cell? w2 _ c0)).trans c0
          have bb := bel_nxt bb b3
          clear b3 HG
          cases hb : vsB xs with
          | false =>
            have HF : Hid (ansT ans = ⟨#[119, 114, 111, 110, 103]⟩) := Lib.hid (by rw [HA.out]; show ansT (if wordL wWave xs = [] then _ else _) = _; rw [HWL.out, if_pos (by unfold waveF; exact if_neg (by simp [hb]))]; rfl)
            clear HA HWL hb hrd hO
            go_wp2
            go_ret
            exact ⟨by rw [HF.out]; rfl, bb⟩
          | true =>
            have HE : Hid (waveF xs = (waveR xs)) := Lib.hid (by unfold waveF; exact if_pos hb)
            have hlen : ((waveR xs)).length = xs.length := by simp [len_waveR]
            have HNE : Hid ((waveR xs) ≠ []) := Lib.hid (fun e => by rw [e, List.length_nil] at hlen; omega)
            have hll : ((waveR xs)).length ≤ 1048576 := by omega
            clear hlen
            have HF : Hid (ansT ans = listT (waveR xs)) := Lib.hid (by rw [HA.out]; show ansT (if wordL wWave xs = [] then _ else _) = _; rw [HWL.out, HE.out, if_neg HNE.out]; rfl)
            have HC := Lib.hid (specWaveOf_any _ xs w3 hrd hml)
            have HSM : Hid (Sm64 (waveR xs)) := Lib.hid (wave_sm xs)
            clear HA HWL HNE
            go_wp2_with fail
            refine HC.out.mono ?_
            rintro e w4 ⟨vl, rfl, hO4, b4⟩
            rw [HE.out] at hO4
            have HLT := Lib.hid (listText_any vl _ w4 hO4.rd hll HSM.out)
            have bb := bel_nxt bb b4
            clear HC HSM hO4 b4 c0 hrd hO HE
            go_wp2_with fail
            refine HLT.out.mono ?_
            rintro e w5 ⟨rfl, rfl⟩
            go_wp2
            go_ret
            exact ⟨by rw [HF.out]; rfl, bb⟩
        · unfold wHalve at c0
          have HWL : Hid (wordL wHalve xs = halF xs) := Lib.hid (by unfold wordL; rw [if_neg (by decide)]; rw [if_neg (by decide)]; rw [if_neg (by decide)]; rw [if_pos rfl])
          have HG := Lib.hid (validEven_any _ xs w2 hrd hml)
          go_wp2_with fail
          refine HG.out.mono ?_
          rintro e w3 ⟨rfl, b3⟩
          have hrd := hrd.below b3 (Nat.le_refl _)
          have c0 := (b3.cell (p := ⟨g, 0, none⟩) (World.block_lt_of_cell? w2 _ c0)).trans c0
          have bb := bel_nxt bb b3
          clear b3 HG
          cases hb : evB xs with
          | false =>
            have HF : Hid (ansT ans = ⟨#[119, 114, 111, 110, 103]⟩) := Lib.hid (by rw [HA.out]; show ansT (if wordL wHalve xs = [] then _ else _) = _; rw [HWL.out, if_pos (by unfold halF; exact if_neg (by simp [hb]))]; rfl)
            clear HA HWL hb hrd hO
            go_wp2
            go_ret
            exact ⟨by rw [HF.out]; rfl, bb⟩
          | true =>
            have HE : Hid (halF xs = (halL xs)) := Lib.hid (by unfold halF; exact if_pos hb)
            have hlen : ((halL xs)).length = xs.length := by simp [len_halL]
            have HNE : Hid ((halL xs) ≠ []) := Lib.hid (fun e => by rw [e, List.length_nil] at hlen; omega)
            have hll : ((halL xs)).length ≤ 1048576 := by omega
            clear hlen
            have HF : Hid (ansT ans = listT (halL xs)) := Lib.hid (by rw [HA.out]; show ansT (if wordL wHalve xs = [] then _ else _) = _; rw [HWL.out, HE.out, if_neg HNE.out]; rfl)
            obtain ⟨m, hm2⟩ : ∃ m, xs.length = 2 * m := ⟨xs.length / 2, by have := (evB_of hb).2; omega⟩
            have HC := Lib.hid ((show Calls Tryz.prog 38 _ w3 (Made 3 w3 (halL xs)) from by have := spechalve_any _ xs m w3 hrd hm2 (by omega) (fun j _ => by have := ix_at hvr j; omega); rw [show halL xs = tab (2 * m) (hS m (ix xs)) by unfold halL; rw [hm2, Nat.mul_div_cancel_left _ (by omega)]]; exact this))
            have HSM : Hid (Sm64 (halL xs)) := Lib.hid (halve_sm hvr)
            clear HA HWL HNE
            go_wp2_with fail
            refine HC.out.mono ?_
            rintro e w4 ⟨vl, rfl, hO4, b4⟩
            have HLT := Lib.hid (listText_any vl _ w4 hO4.rd hll HSM.out)
            have bb := bel_nxt bb b4
            clear HC HSM hO4 b4 c0 hrd hO HE
            go_wp2_with fail
            refine HLT.out.mono ?_
            rintro e w5 ⟨rfl, rfl⟩
            go_wp2
            go_ret
            exact ⟨by rw [HF.out]; rfl, bb⟩
        · unfold wLeap at c0
          have HWL : Hid (wordL wLeap xs = lepF xs) := Lib.hid (by unfold wordL; rw [if_neg (by decide)]; rw [if_neg (by decide)]; rw [if_neg (by decide)]; rw [if_neg (by decide)]; rw [if_pos rfl])
          have HG := Lib.hid (validEven_any _ xs w2 hrd hml)
          go_wp2_with fail
          refine HG.out.mono ?_
          rintro e w3 ⟨rfl, b3⟩
          have hrd := hrd.below b3 (Nat.le_refl _)
          have c0 := (b3.cell (p := ⟨g, 0, none⟩) (World.block_lt_of_cell? w2 _ c0)).trans c0
          have bb := bel_nxt bb b3
          clear b3 HG
          cases hb : evB xs with
          | false =>
            have HF : Hid (ansT ans = ⟨#[119, 114, 111, 110, 103]⟩) := Lib.hid (by rw [HA.out]; show ansT (if wordL wLeap xs = [] then _ else _) = _; rw [HWL.out, if_pos (by unfold lepF; exact if_neg (by simp [hb]))]; rfl)
            clear HA HWL hb hrd hO
            go_wp2
            go_ret
            exact ⟨by rw [HF.out]; rfl, bb⟩
          | true =>
            have HE : Hid (lepF xs = (lepL xs)) := Lib.hid (by unfold lepF; exact if_pos hb)
            have hlen : ((lepL xs)).length = xs.length := by simp [len_lepL]
            have HNE : Hid ((lepL xs) ≠ []) := Lib.hid (fun e => by rw [e, List.length_nil] at hlen; omega)
            have hll : ((lepL xs)).length ≤ 1048576 := by omega
            clear hlen
            have HF : Hid (ansT ans = listT (lepL xs)) := Lib.hid (by rw [HA.out]; show ansT (if wordL wLeap xs = [] then _ else _) = _; rw [HWL.out, HE.out, if_neg HNE.out]; rfl)
            obtain ⟨m, hm2⟩ : ∃ m, xs.length = 2 * m := ⟨xs.length / 2, by have := (evB_of hb).2; omega⟩
            have HC := Lib.hid ((show Calls Tryz.prog 39 _ w3 (Made 3 w3 (lepL xs)) from by have := specleap_any _ xs m w3 hrd hm2 (by omega) (fun j _ => by have := ix_at hvr j; omega); rw [show lepL xs = tab (2 * m) (lpF m (ix xs)) by unfold lepL; rw [hm2, Nat.mul_div_cancel_left _ (by omega)]]; exact this))
            have HSM : Hid (Sm64 (lepL xs)) := Lib.hid (leap_sm hvr (evB_of hb).2)
            clear HA HWL HNE
            go_wp2_with fail
            refine HC.out.mono ?_
            rintro e w4 ⟨vl, rfl, hO4, b4⟩
            have HLT := Lib.hid (listText_any vl _ w4 hO4.rd hll HSM.out)
            have bb := bel_nxt bb b4
            clear HC HSM hO4 b4 c0 hrd hO HE
            go_wp2_with fail
            refine HLT.out.mono ?_
            rintro e w5 ⟨rfl, rfl⟩
            go_wp2
            go_ret
            exact ⟨by rw [HF.out]; rfl, bb⟩
        · unfold wSelf at c0
          have HWL : Hid (wordL wSelf xs = selF xs) := Lib.hid (by unfold wordL; rw [if_neg (by decide)]; rw [if_neg (by decide)]; rw [if_neg (by decide)]; rw [if_neg (by decide)]; rw [if_neg (by decide)]; rw [if_pos rfl])
          have HE : Hid (selF xs = (selL xs)) := Lib.hid (by exact selF_yes hvr)
          have hlen : ((selL xs)).length = xs.length := by simp [len_selL]
          have HNE : Hid ((selL xs) ≠ []) := Lib.hid (fun e => by rw [e, List.length_nil] at hlen; omega)
          have hll : ((selL xs)).length ≤ 1048576 := by omega
          clear hlen
          have HF : Hid (ansT ans = listT (selL xs)) := Lib.hid (by rw [HA.out]; show ansT (if wordL wSelf xs = [] then _ else _) = _; rw [HWL.out, HE.out, if_neg HNE.out]; rfl)
          have HC := Lib.hid (specitself_any _ xs w2 hrd (by omega))
          have HSM : Hid (Sm64 (selL xs)) := Lib.hid (self_sm hvr)
          clear HA HWL HNE
          go_wp2_with fail
          refine HC.out.mono ?_
          rintro e w4 ⟨vl, rfl, hO4, b4⟩
          have HLT := Lib.hid (listText_any vl _ w4 hO4.rd hll HSM.out)
          have bb := bel_nxt bb b4
          clear HC HSM hO4 b4 c0 hrd hO HE
          go_wp2_with fail
          refine HLT.out.mono ?_
          rintro e w5 ⟨rfl, rfl⟩
          go_wp2
          go_ret
          exact ⟨by rw [HF.out]; rfl, bb⟩
    · rw [if_neg hk] at HA
      have hk' : knW p = false := by simpa using hk
      replace hk' := of_decide_eq_false hk'
      simp only [not_or] at hk'
      obtain ⟨k0, k1, k2, k3, k4, k5⟩ := hk'
      have HF : Hid (ansT ans = ⟨#[119, 104, 97, 116]⟩) := Lib.hid (by rw [HA.out]; rfl)
      have n0 : (p.toList == [101, 100, 103, 101]) = false := (congrArg (fun l => (p.toList == l)) (ByteArray.toList_eq ⟨#[101, 100, 103, 101]⟩)).symm.trans ((Lib.bytes_beq_false_iff _ _).2 k0)
      have n1 : (p.toList == [115, 105, 103, 110, 115]) = false := (congrArg (fun l => (p.toList == l)) (ByteArray.toList_eq ⟨#[115, 105, 103, 110, 115]⟩)).symm.trans ((Lib.bytes_beq_false_iff _ _).2 k1)
      have n2 : (p.toList == [119, 97, 118, 101]) = false := (congrArg (fun l => (p.toList == l)) (ByteArray.toList_eq ⟨#[119, 97, 118, 101]⟩)).symm.trans ((Lib.bytes_beq_false_iff _ _).2 k2)
      have n3 : (p.toList == [104, 97, 108, 118, 101]) = false := (congrArg (fun l => (p.toList == l)) (ByteArray.toList_eq ⟨#[104, 97, 108, 118, 101]⟩)).symm.trans ((Lib.bytes_beq_false_iff _ _).2 k3)
      have n4 : (p.toList == [108, 101, 97, 112]) = false := (congrArg (fun l => (p.toList == l)) (ByteArray.toList_eq ⟨#[108, 101, 97, 112]⟩)).symm.trans ((Lib.bytes_beq_false_iff _ _).2 k4)
      have n5 : (p.toList == [115, 101, 108, 102]) = false := (congrArg (fun l => (p.toList == l)) (ByteArray.toList_eq ⟨#[115, 101, 108, 102]⟩)).symm.trans ((Lib.bytes_beq_false_iff _ _).2 k5)
      clear HA hk k0 k1 k2 k3 k4 k5 b2 hm
      go_wp2
      go_ret
      exact ⟨by rw [HF.out]; rfl, bb⟩
  · have HF : Hid (ansT ans = ⟨#[119, 104, 97, 116]⟩) := Lib.hid (by rw [HOT.out (by rw [← HN.out]; exact h2)]; rfl)
    have i1 : ((n : Int) != 2) = true := bne_iff_ne.2 (by omega)
    clear HTW HSZ HOT HN hT
    go_wp2
    go_ret
    exact ⟨by rw [HF.out]; rfl, b1⟩
end Go.Proofs.YtagncoahobghpacGreatDoor
