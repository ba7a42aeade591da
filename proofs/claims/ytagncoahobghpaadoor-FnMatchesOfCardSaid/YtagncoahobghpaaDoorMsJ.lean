/-
  MissesOf and MatchesOf of the program.
-/
import Derived.Test.YtagncoahobghpaaDoorMsI
import Derived.Test.YtagncoahobghpaaDoorInfo
import Derived.OwnWalk
namespace Go.Proofs.YtagncoahobghpaaDoor
open Go.RowKit Go.Shelf
set_option linter.unusedVariables false

theorem bt_extract {s : ByteArray} {a m k : Nat} (h : a + m ≤ s.size) (hk : k < m) : bt (s.extract a (a + m)) k = bt s (a + k) := by
  have h1 : k < (s.extract a (a + m)).size := by rw [ByteArray.size_extract]; omega
  rw [← bt_at h1, ← bt_at (show a + k < s.size by omega)]
  congr 1
  exact ByteArray.getElem_extract h1
theorem msN_extract {s p : ByteArray} {a : Nat} (h : a + p.size ≤ s.size) : msN (bI (s.extract a (a + p.size))) (bI p) p.size 0 = msN (bI s) (bI p) p.size a := by
  unfold msN
  refine sumN_congr fun k hk => ?_
  have e : bI (s.extract a (a + p.size)) (0 + k) = bI s (a + k) := by
    unfold bI; rw [Nat.zero_add, bt_extract h hk]
  rw [e]
theorem empty_yes {p : ByteArray} (h : p.size = 0) : p.toList.isEmpty = true := by
  rw [ByteArray.toList_eq]
  have : p.data.toList = [] := List.eq_nil_of_length_eq_zero (by simpa using h)
  rw [this]; rfl
theorem empty_no {p : ByteArray} (h : p.size ≠ 0) : p.toList.isEmpty = false := by
  rw [ByteArray.toList_eq]
  cases e : p.data.toList with
  | nil => exact absurd (by simpa using congrArg List.length e) h
  | cons a r => rfl
theorem fil_congr {P Q : Nat → Bool} {n : Nat} (h : ∀ i, i < n → P i = Q i) : fil P n = fil Q n := by
  induction n with
  | zero => rfl
  | succ n ih => unfold fil; rw [ih fun i hi => h i (by omega), h n (by omega)]
theorem mtF_fil (s p : ByteArray) : fil (fun i => ix (msgF s p) i == 0) (msgF s p).length = mtF s p := by
  unfold msgF mtF
  by_cases h : mgB s p = true
  · rw [if_pos h, if_pos h]
    unfold msL mtL
    rw [len_tab]
    exact fil_congr fun i hi => by rw [ix_tab _ _ _ hi]
  · rw [if_neg h, if_neg h]; rfl

theorem own_eq {E B : Nat} {w : World} {v : Value} {xs ys : List Int} (h : Own E B w v xs) (e : xs = ys) : Own E B w v ys := e ▸ h
theorem letters_s (s : ByteArray) (w : World) (hs : s.size ≤ 1048576) : Calls Tryd.prog 18 #[.string s, .string ⟨#[97, 98, 99, 100]⟩] w (Says (vpB s false) w) :=
  isOfLetters_at s _ false [97, 98, 99, 100] w hs rfl ok_abcd (by decide) (ascii_of_all (by decide))
theorem letters_p (s : ByteArray) (w : World) (hs : s.size ≤ 1048576) : Calls Tryd.prog 18 #[.string s, .string ⟨#[97, 98, 99, 100, 63]⟩] w (Says (vpB s true) w) :=
  isOfLetters_at s _ true [97, 98, 99, 100, 63] w hs rfl ok_any (by decide) (ascii_of_all (by decide))

set_option maxHeartbeats 8000000 in
theorem implMissesOf_any (s p : ByteArray) (w : World) (hs : s.size ≤ 1048576) (hp : p.size ≤ 1048576) :
    Calls Tryd.prog 9 #[.string s, .string p] w (Made 3 w (msgF s p)) := by
  have hS := fun w => letters_s s w hs
  have hP := fun w => letters_p p w hp
  cases q1 : vpB s false with
  | false =>
    have e : msgF s p = [] := if_neg (by unfold mgB; rw [q1]; simp)
    rw [q1] at hS
    rw [e]
    clear q1 e hP hs hp
    go_enter Tryd.func9, Tryd.ntmps9
    go_wp2_with fail
    refine (hS _).mono ?_
    rintro e w1 ⟨rfl, b1⟩
    go_wp2
    go_ret
    exact ⟨_, rfl, Own.nil _ _ _, b1⟩
  | true =>
    cases q2 : vpB p true with
    | false =>
      have e : msgF s p = [] := if_neg (by unfold mgB; rw [q2]; simp)
      rw [q1] at hS
      rw [q2] at hP
      rw [e]
      clear q1 q2 e hs hp
      go_enter Tryd.func9, Tryd.ntmps9
      go_wp2_with fail
      refine (hS _).mono ?_
      rintro e w1 ⟨rfl, b1⟩
      go_wp2_with fail
      refine (hP _).mono ?_
      rintro e w2 ⟨rfl, b2⟩
      have bb := bel_nxt b1 b2
      clear b1 b2
      go_wp2
      go_ret
      exact ⟨_, rfl, Own.nil _ _ _, bb⟩
    | true =>
      have hn20 := vp_len q1
      have hm20 := vp_len q2
      by_cases h0 : p.size = 0
      · have e : msgF s p = [] := if_neg (by unfold mgB; rw [h0]; simp)
        have i1 := empty_yes h0
        rw [q1] at hS
        rw [q2] at hP
        rw [e]
        clear q1 q2 e hs hp h0 hn20 hm20
        go_enter Tryd.func9, Tryd.ntmps9
        go_wp2_with fail
        refine (hS _).mono ?_
        rintro e w1 ⟨rfl, b1⟩
        go_wp2_with fail
        refine (hP _).mono ?_
        rintro e w2 ⟨rfl, b2⟩
        have bb := bel_nxt b1 b2
        clear b1 b2
        go_wp2
        go_ret
        exact ⟨_, rfl, Own.nil _ _ _, bb⟩
      · have e : msgF s p = msL s p := if_pos (by unfold mgB; rw [q1, q2]; simp [h0])
        have i1 := empty_no h0
        rw [q1] at hS
        rw [q2] at hP
        rw [e]
        have HEX := Lib.hid fun a (h : a + p.size ≤ s.size) => msN_extract (s := s) (p := p) (a := a) h
        have HSZ := Lib.hid fun a (h : a + p.size ≤ s.size) => show (s.extract a (a + p.size)).size = p.size by rw [ByteArray.size_extract]; omega
        have HCM := Lib.hid fun t w (h : t.size = p.size) => countMisses_any t p w h hm20
        have HL := Lib.hid (show msL s p = tab (s.size + 1 - p.size) fun i => msN (bI s) (bI p) p.size i from rfl)
        clear q1 q2 e hs hp
        go_enter Tryd.func9, Tryd.ntmps9
        go_wp2_with fail
        refine (hS _).mono ?_
        rintro e w1 ⟨rfl, b1⟩
        go_wp2_with fail
        refine (hP _).mono ?_
        rintro e w2 ⟨rfl, b2⟩
        have bb := bel_nxt b1 b2
        have hnil : Own 3 w.heap.size w2 (.slice none 0 0) (tab 0 fun i => msN (bI s) (bI p) p.size i) := Own.nil _ _ _
        clear b1 b2 hS hP
        go_wp2
        go_loopw [6, 5] (fun i o wr => ∃ k : Nat, k ≤ s.size + 1 - p.size ∧ i = .int .i64 ((p.size : Int) + (k : Int)) ∧ Own 3 w.heap.size wr o (tab k fun i => msN (bI s) (bI p) p.size i) ∧ Below w.heap.size w wr) (fun i _ _ => 41 - (intOf i).toNat)
        case atStart => exact ⟨0, Nat.zero_le _, by simp, hnil, bb⟩
        case round =>
          obtain ⟨k, hk, rfl, hO, hB⟩ := hrel
          clear hnil bb
          by_cases hlt : k + p.size ≤ s.size
          · have hex := HEX.out k hlt
            have hsz := HSZ.out k hlt
            have i2 : (p.size : Int) + (k : Int) ≤ (s.size : Int) := by omega
            have i3 : (p.size : Int) + (k : Int) - (p.size : Int) = (k : Int) := by omega
            have i4 : ((p.size : Int) + (k : Int)).toNat = k + p.size := by omega
            have i5 : (0 : Int) ≤ (p.size : Int) + (k : Int) := by omega
            have i6 : k ≤ k + p.size := by omega
            have i7 : (k : Int) ≤ (p.size : Int) + (k : Int) := by omega
            have b1 : -1000000 ≤ (k : Int) ∧ (k : Int) ≤ 1000000 := by omega
            have b2 : -1000000 ≤ (p.size : Int) + (k : Int) + 1 ∧ (p.size : Int) + (k : Int) + 1 ≤ 1000000 := by omega
            have HC := Lib.hid fun w => HCM.out _ w hsz
            rw [hex] at HC
            have j1 : IntKind.i64.wrap (k : Int) = (k : Int) := IntWalk.i64_in _ (by omega)
            have j2 : IntKind.i64.wrap ((p.size : Int) + (k : Int) + 1) = (p.size : Int) + (k : Int) + 1 := IntWalk.i64_in _ (by clear j1; omega)
            have HK := Lib.hid (show k + 1 ≤ s.size + 1 - p.size by clear j1 j2; omega)
            have HK2 := Lib.hid (show k ≤ 21 by clear j1 j2; omega)
            clear hex hsz b1 b2
            go_wp2_with fail
            refine (HC.out _).mono ?_
            rintro e w3 ⟨rfl, b3⟩
            have hO := hO.below b3 (Nat.le_refl _)
            have hB := hB.trans (b3.mono hB.size)
            clear b3
            go_wp2_with (at_builtin; refine app_int rfl _ _ 25 rfl w.heap.size 3 Tryd.underlying25 infoInt _ _ rfl (hO.grow _) ⟨w3.heap.size, 0, none⟩ rfl (msN (bI s) (bI p) p.size k) ?q1 ?q2 ?q3 ?_)
            case q1 => exact cell_new1 _ _ _
            case q2 => rw [len_tab]; have := HK2.out; omega
            case q3 => have := hB.size; simp; omega
            intro v' w4 hO' hg'
            have hB' := app_below hB hO hg'
            rw [tab_snoc k _ _ rfl] at hO'
            clear hO hB hg'
            go_wp2
            go_roundw
            case rel => exact ⟨k + 1, HK.out, by go_num, hO', hB'⟩
            case measure => simp [intOf]; omega
          · have HF := Lib.hid (show k = s.size + 1 - p.size by omega)
            have i2 : ¬ (p.size : Int) + (k : Int) ≤ (s.size : Int) := by omega
            go_wp2
            go_ret
            exact ⟨_, rfl, by rw [HL.out, ← HF.out]; exact hO, hB⟩

set_option maxHeartbeats 8000000 in
theorem implMatchesOf_any (s p : ByteArray) (w : World) (hs : s.size ≤ 1048576) (hp : p.size ≤ 1048576) :
    Calls Tryd.prog 6 #[.string s, .string p] w (Made 3 w (mtF s p)) := by
  have hM := fun w => implMissesOf_any s p w hs hp
  have hl := msgF_len s p
  have HF := Lib.hid (mtF_fil s p)
  obtain ⟨zs, hz⟩ : ∃ zs, zs = msgF s p := ⟨_, rfl⟩
  rw [← hz] at hM HF hl
  obtain ⟨n, hn⟩ : ∃ n, n = zs.length := ⟨_, rfl⟩
  have HN := Lib.hid hn
  rw [← hn] at hl
  clear hz hs hp hn
  have hnil : Own 3 w.heap.size w (.slice none 0 0) (fil (fun i => ix zs i == 0) 0) := Own.nil _ _ _
  go_enter Tryd.func6, Tryd.ntmps6
  go_wp2_with fail
  refine (hM _).mono ?_
  rintro e w1 ⟨v1, rfl, o1, bb⟩
  obtain ⟨a1, c1, rfl⟩ := own_slN o1 HN.out.symm
  have r1 := o1.rd
  have hnil := hnil.below bb (Nat.le_refl _)
  have hwlt := bb.size
  have HAP := Lib.hid (show ∀ k, (Value.slice a1 n c1).ownBlock = some k → w.heap.size ≤ k ∧ k < w1.heap.size from fun k h => World.ownsRow.lt o1 k h)
  have hO0 := o1
  clear hM
  go_wp2
  go_loopw [12, 5] (fun i o wr => ∃ k : Nat, k ≤ n ∧ i = .int .i64 k ∧ Own 3 w1.heap.size wr o (fil (fun i => ix zs i == 0) k) ∧ Below w1.heap.size w1 wr) (fun i _ _ => n - (intOf i).toNat)
  case atStart => exact ⟨0, Nat.zero_le _, rfl, Own.nil _ _ _, Below.refl _ _⟩
  case round =>
    obtain ⟨k, hk, rfl, hO, hB⟩ := hrel
    clear hnil hO0
    by_cases hlt : k < n
    · have hkz : k < zs.length := by rw [← HN.out]; exact hlt
      obtain ⟨b, off, ha, hbl, hc⟩ : ∃ b off, a1 = some ⟨b, off, none⟩ ∧ b < w1.heap.size ∧ w1.cell? ⟨b, off + k, none⟩ = some (.int .i64 (ix zs k)) := by
        obtain ⟨a', c', he, h⟩ := r1
        simp only [Value.slice.injEq] at he
        obtain ⟨rfl, -, -⟩ := he
        rcases h with h | ⟨b, off, h, hb, hc⟩
        · rw [h] at hkz; exact absurd hkz (Nat.not_lt_zero k)
        · exact ⟨b, off, h, hb, hc k hkz⟩
      subst ha
      have hcw := (hB.cell (p := ⟨b, off + k, none⟩) hbl).trans hc
      have hfl := fil_len (fun i => ix zs i == 0) k
      obtain ⟨z, hz⟩ : ∃ z, z = ix zs k := ⟨_, rfl⟩
      rw [← hz] at hcw
      have i1 : (k : Int) < (n : Int) := by omega
      by_cases hz0 : z = 0
      · have e1 : (z == 0) = true := by simp [hz0]
        have hyes := Lib.hid (fil_yes (P := fun i => ix zs i == 0) (n := k) (by show (ix zs k == 0) = true; rw [← hz]; exact e1))
        clear hz hz0 hc hkz
        go_wp2_with (at_builtin; refine app_int rfl _ _ 25 rfl w1.heap.size 3 Tryd.underlying25 infoInt _ _ rfl (hO.grow _) ⟨wr.heap.size, 0, none⟩ rfl (k : Int) ?q1 ?q2 ?q3 ?_)
        case q1 => exact cell_new1 _ _ _
        case q2 => omega
        case q3 => have := hB.size; simp; omega
        intro v' w4 hO' hg'
        have hB' := app_below hB hO hg'
        rw [← hyes.out] at hO'
        clear hO hB hg'
        go_wp2
        go_roundw
        case rel => exact ⟨k + 1, by omega, by go_num, hO', hB'⟩
        case measure => simp [intOf]; omega
      · have e1 : (z == 0) = false := by simp [hz0]
        have hno := fil_no (P := fun i => ix zs i == 0) (n := k) (by show ¬ (ix zs k == 0) = true; rw [← hz, e1]; simp)
        have hO' := own_eq hO hno.symm
        clear hz hz0 hc hkz hno hO
        go_wp2
        go_roundw
        case rel => exact ⟨k + 1, by omega, by go_num, hO', hB⟩
        case measure => simp [intOf]; omega
    · have HE := Lib.hid (show k = n by omega)
      go_wp2
      go_ret
      refine ⟨_, rfl, ?_, bb.trans (hB.mono hwlt)⟩
      rw [← HF.out, ← HN.out, ← HE.out]
      exact hO.mono hwlt
end Go.Proofs.YtagncoahobghpaaDoor
