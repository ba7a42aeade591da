/-
  MissesOf and MatchesOf of the model.
-/
import Derived.Test.YtagncoahobghpaaDoorMsJ
namespace Go.Proofs.YtagncoahobghpaaDoor
open Go.RowKit Go.Shelf
set_option linter.unusedVariables false

theorem Own.drewN {E B : Nat} {w : World} {v : Value} {xs : List Int} (h : Own E B w v xs) (n : Nat) : Own E B (w.drewN n) v xs := h

set_option maxHeartbeats 4000000 in
theorem validPattern_any (s : ByteArray) (op : Bool) (w : World) (hl : s.size ≤ 1048576) :
    Calls Tryd.prog 16 #[.string s, .bool op] w fun e w' => e = .returned (.bool (vpB s op)) ∧ w = w' := by
  go_enter Tryd.func16, Tryd.ntmps16
  go_wp2
  go_loop [5] (fun i => ∃ k : Nat, k ≤ s.size ∧ i = .int .i64 k ∧ Hid (∀ j, j < k → okC op (bt s j) = true)) (fun i => s.size - (intOf i).toNat)
  case atStart => exact ⟨0, Nat.zero_le _, rfl, Lib.hid fun j hj => absurd hj (Nat.not_lt_zero j)⟩
  case round =>
    obtain ⟨k, hk, rfl, hok⟩ := hrel
    by_cases hlt : k < s.size
    · have hc := bt_at hlt
      have hyes := Lib.hid (fun (h : okC op (bt s k) = true) j (hj : j < k + 1) => show okC op (bt s j) = true by
        by_cases e : j = k
        · subst e; exact h
        · exact hok.out j (by omega))
      have hno := Lib.hid (fun (h : okC op (bt s k) = false) => vp_no hlt h)
      obtain ⟨c, hce⟩ : ∃ c, c = bt s k := ⟨_, rfl⟩
      rw [← hce] at hc hyes hno
      clear hce hok
      by_cases h1 : 97 ≤ c
      · by_cases h2 : c ≤ 100
        · have HY := Lib.hid (hyes.out (by unfold okC; simp [h1, h2]))
          have i1 : ¬ (c : Int) < 97 := by omega
          have i2 : ¬ (100 : Int) < (c : Int) := by omega
          clear hyes hno h1 h2
          go_wp2
          go_round
          case rel => exact ⟨k + 1, by omega, by go_num, HY⟩
          case measure => simp [intOf]; omega
        · have HN := Lib.hid (hno.out (by unfold okC; rw [decide_eq_false h2, show (c == 63) = false by simp; omega]; simp))
          have i1 : ¬ (c : Int) < 97 := by omega
          have i2 : (100 : Int) < (c : Int) := by omega
          have i3 : ((c : Int) != 63) = true := by simp; omega
          clear hyes hno h1 h2
          cases op with
          | false =>
            go_wp2
            go_ret
            exact ⟨ret_bool HN.out.symm, rfl⟩
          | true =>
            go_wp2
            go_ret
            exact ⟨ret_bool HN.out.symm, rfl⟩
      · have i1 : (c : Int) < 97 := by omega
        cases op with
        | false =>
          have HN := Lib.hid (hno.out (by unfold okC; rw [decide_eq_false h1]; simp))
          clear hyes hno h1
          go_wp2
          go_ret
          exact ⟨ret_bool HN.out.symm, rfl⟩
        | true =>
          by_cases h3 : c = 63
          · have HY := Lib.hid (hyes.out (by unfold okC; rw [h3]; rfl))
            have i3 : ((c : Int) != 63) = false := by simp [h3]
            clear hyes hno h1 h3
            go_wp2
            go_round
            case rel => exact ⟨k + 1, by omega, by go_num, HY⟩
            case measure => simp [intOf]; omega
          · have HN := Lib.hid (hno.out (by unfold okC; rw [decide_eq_false h1, show (c == 63) = false by simp [h3]]; simp))
            have i3 : ((c : Int) != 63) = true := by simp; omega
            clear hyes hno h1 h3
            go_wp2
            go_ret
            exact ⟨ret_bool HN.out.symm, rfl⟩
    · obtain rfl : k = s.size := by omega
      have HE := Lib.hid (vp_end hok.out)
      clear hok
      go_wp2
      go_ret
      exact ⟨ret_bool (by rw [HE.out]; apply decide_eq_decide.2; omega), rfl⟩

set_option maxHeartbeats 8000000 in
theorem specMissesOf_any (s p : ByteArray) (w : World) (hs : s.size ≤ 1048576) (hp : p.size ≤ 1048576) :
    Calls Tryd.prog 13 #[.string s, .string p] w (Made 3 w (msgF s p)) := by
  have hS := fun w => validPattern_any s false w hs
  have hP := fun w => validPattern_any p true w hp
  cases q1 : vpB s false with
  | false =>
    have e : msgF s p = [] := if_neg (by unfold mgB; rw [q1]; simp)
    rw [q1] at hS
    rw [e]
    clear q1 e hP hs hp
    go_enter Tryd.func13, Tryd.ntmps13
    go_wp2_with fail
    refine (hS _).mono ?_
    rintro e w1 ⟨rfl, rfl⟩
    go_wp2
    go_ret
    exact ⟨_, rfl, Own.nil _ _ _, Below.refl _ _⟩
  | true =>
    cases q2 : vpB p true with
    | false =>
      have e : msgF s p = [] := if_neg (by unfold mgB; rw [q2]; simp)
      rw [q1] at hS
      rw [q2] at hP
      rw [e]
      clear q1 q2 e hs hp
      go_enter Tryd.func13, Tryd.ntmps13
      go_wp2_with fail
      refine (hS _).mono ?_
      rintro e w1 ⟨rfl, rfl⟩
      go_wp2_with fail
      refine (hP _).mono ?_
      rintro e w2 ⟨rfl, rfl⟩
      go_wp2
      go_ret
      exact ⟨_, rfl, Own.nil _ _ _, Below.refl _ _⟩
    | true =>
      have hn20 := vp_len q1
      have hm20 := vp_len q2
      by_cases h0 : p.size = 0
      · have e : msgF s p = [] := if_neg (by unfold mgB; rw [h0]; simp)
        have i1 := empty_yes h0
        rw [q1] at hS
        rw [q2] at hP
        rw [e]
        clear q1 q2 e hs hp h0 hn20 hm20
        go_enter Tryd.func13, Tryd.ntmps13
        go_wp2_with fail
        refine (hS _).mono ?_
        rintro e w1 ⟨rfl, rfl⟩
        go_wp2_with fail
        refine (hP _).mono ?_
        rintro e w2 ⟨rfl, rfl⟩
        go_wp2
        go_ret
        exact ⟨_, rfl, Own.nil _ _ _, Below.refl _ _⟩
      · have e : msgF s p = msL s p := if_pos (by unfold mgB; rw [q1, q2]; simp [h0])
        have i1 := empty_no h0
        rw [q1] at hS
        rw [q2] at hP
        rw [e]
        have HL := Lib.hid (show msL s p = tab (s.size + 1 - p.size) fun i => msN (bI s) (bI p) p.size i from rfl)
        have hnil := own_eq (own_empty 3 w.heap.size w (Nat.le_refl _)) (show [] = tab 0 fun i => msN (bI s) (bI p) p.size i from rfl)
        have bb := (Below.refl w.heap.size w).alloc (Nat.le_refl _) (.cells #[] 3)
        clear q1 q2 e hs hp
        go_enter Tryd.func13, Tryd.ntmps13
        go_wp2_with fail
        refine (hS _).mono ?_
        rintro e w1 ⟨rfl, rfl⟩
        go_wp2_with fail
        refine (hP _).mono ?_
        rintro e w2 ⟨rfl, rfl⟩
        clear hS hP
        go_wp2
        go_loopw [6, 5] (fun i o wr => ∃ k : Nat, k ≤ s.size + 1 - p.size ∧ i = .int .i64 (k : Int) ∧ Own 3 w.heap.size wr o (tab k fun i => msN (bI s) (bI p) p.size i) ∧ Below w.heap.size w wr) (fun i _ _ => 41 - (intOf i).toNat)
        case atStart => exact ⟨0, Nat.zero_le _, rfl, hnil, bb⟩
        case round =>
          obtain ⟨k, hk, rfl, hO, hB⟩ := hrel
          clear hnil bb
          by_cases hlt : k + p.size ≤ s.size
          · have i2 : (k : Int) + (p.size : Int) ≤ (s.size : Int) := by omega
            have hk21 : k ≤ 21 := by omega
            go_wp2
            go_loopw [8, 7] (fun j n wr' => ∃ l : Nat, l ≤ p.size ∧ j = .int .i64 l ∧ n = .int .i64 (msN (bI s) (bI p) l k) ∧ ∃ q, wr' = wr.drewN q) (fun j _ _ => p.size - (intOf j).toNat)
            case atStart => exact ⟨0, Nat.zero_le _, rfl, rfl, 0, rfl⟩
            case round =>
              obtain ⟨l, hl, rfl, rfl, q, rfl⟩ := hrel
              by_cases hlm : l < p.size
              · have hks : k + l < s.size := by omega
                have hc := bt_at hks
                have hd := bt_at hlm
                have hmb := msN_le (bI s) (bI p) l k
                have hnx := msN_next (bI s) (bI p) l k
                rw [show bI s (k + l) = ((bt s (k + l) : Nat) : Int) from rfl, show bI p l = ((bt p l : Nat) : Int) from rfl] at hnx
                obtain ⟨c, hce⟩ : ∃ c, c = bt s (k + l) := ⟨_, rfl⟩
                obtain ⟨d, hde⟩ : ∃ d, d = bt p l := ⟨_, rfl⟩
                obtain ⟨m, hm⟩ : ∃ m, m = msN (bI s) (bI p) l k := ⟨_, rfl⟩
                rw [← hce] at hc hnx
                rw [← hde] at hd hnx
                rw [← hm] at hnx hmb ⊢
                have i3 : (k : Int) + (l : Int) < (s.size : Int) := by omega
                have i4 : ((k : Int) + (l : Int)).toNat = k + l := by omega
                have i5 : (0 : Int) ≤ (k : Int) + (l : Int) := by omega
                by_cases h63 : d = 63
                · have e1 : ((d : Int) != 63) = false := by simp [h63]
                  have HN := Lib.hid (show msN (bI s) (bI p) (l + 1) k = m by rw [hnx, if_neg (by omega)]; omega)
                  clear hnx hce hde hm hmb h63
                  go_wp2
                  go_quiet (fail)
                  go_wp2
                  go_roundw
                  case rel => exact ⟨l + 1, by omega, by go_num, by rw [HN.out], _, rfl⟩
                  case measure => simp [intOf]; omega
                · have e1 : ((d : Int) != 63) = true := by simp; omega
                  by_cases hdc : d = c
                  · have e2 : ((d : Int) != (c : Int)) = false := by simp [hdc]
                    have HN := Lib.hid (show msN (bI s) (bI p) (l + 1) k = m by rw [hnx, if_neg (by omega)]; omega)
                    clear hnx hce hde hm hmb h63 hdc
                    have j0 : IntKind.i64.wrap ((k : Int) + (l : Int)) = (k : Int) + (l : Int) := IntWalk.i64_in _ (by omega)
                    go_wp2
                    go_quiet (fail)
                    go_wp2
                    go_roundw
                    case rel => exact ⟨l + 1, by omega, by go_num, by rw [HN.out], _, rfl⟩
                    case measure => simp [intOf]; omega
                  · have e2 : ((d : Int) != (c : Int)) = true := by simp; omega
                    have HN := Lib.hid (show msN (bI s) (bI p) (l + 1) k = m + 1 by rw [hnx, if_pos (by omega)])
                    have b2 : -1000000 ≤ m + 1 ∧ m + 1 ≤ 1000000 := by omega
                    clear hnx hce hde hm hmb h63 hdc
                    have j0 : IntKind.i64.wrap ((k : Int) + (l : Int)) = (k : Int) + (l : Int) := IntWalk.i64_in _ (by omega)
                    have j1 : IntKind.i64.wrap (m + 1) = m + 1 := IntWalk.i64_in _ (by clear j0; omega)
                    clear b2
                    go_wp2
                    go_quiet (fail)
                    go_wp2
                    go_roundw
                    case rel => exact ⟨l + 1, by omega, by go_num, by rw [HN.out], _, rfl⟩
                    case measure => simp [intOf]; omega
              · obtain rfl : l = p.size := by omega
                have hO2 := hO.drewN q
                have hB2 := below_drewN hB q
                clear hO hB
                obtain ⟨wq, hwq⟩ : ∃ wq, wq = wr.drewN q := ⟨_, rfl⟩
                rw [← hwq] at hO2 hB2 ⊢
                clear hwq
                go_wp2_with (at_builtin; refine app_int rfl _ _ 25 rfl w.heap.size 3 Tryd.underlying25 infoInt _ _ rfl (hO2.grow _) ⟨wq.heap.size, 0, none⟩ rfl (msN (bI s) (bI p) p.size k) ?q1 ?q2 ?q3 ?_)
                case q1 => exact cell_new1 _ _ _
                case q2 => rw [len_tab]; omega
                case q3 => have := hB2.size; simp; omega
                intro v' w4 hO' hg'
                have hB' := app_below hB2 hO2 hg'
                rw [tab_snoc k _ _ rfl] at hO'
                clear hO2 hB2 hg'
                go_wp2
                go_roundw
                case rel => exact ⟨k + 1, by omega, by go_num, hO', hB'⟩
                case measure => simp [intOf]; omega
          · have HF := Lib.hid (show k = s.size + 1 - p.size by omega)
            have i2 : ¬ (k : Int) + (p.size : Int) ≤ (s.size : Int) := by omega
            go_wp2
            go_ret
            exact ⟨_, rfl, by rw [HL.out, ← HF.out]; exact hO, hB⟩

theorem sq255 {e : Int} (h1 : -255 ≤ e) (h2 : e ≤ 255) : 0 ≤ e * e ∧ e * e ≤ 65025 := by
  refine ⟨(sq_pos e).1, ?_⟩
  rcases Int.le_total 0 e with q | q
  · exact Int.le_trans (Int.mul_le_mul h2 h2 q (by decide)) (by decide)
  · have : e * e = (-e) * (-e) := by rw [Int.neg_mul_neg]
    rw [this]
    exact Int.le_trans (Int.mul_le_mul (show -e ≤ 255 by omega) (show -e ≤ 255 by omega) (by omega) (by decide)) (by decide)
theorem mtS_next (s p : Nat → Int) (m i : Nat) : mtS s p (m + 1) i = mtS s p m i + if p m = 63 then 0 else (p m - s (i + m)) * (p m - s (i + m)) := rfl
theorem mtS_le (s p : ByteArray) (m i : Nat) : 0 ≤ mtS (bI s) (bI p) m i ∧ mtS (bI s) (bI p) m i ≤ 65025 * m := by
  induction m with
  | zero => exact ⟨Int.le_refl _, Int.le_refl _⟩
  | succ m ih =>
    have h1 := bt_lt s (i + m)
    have h2 := bt_lt p m
    have := sq255 (e := bI p m - bI s (i + m)) (by unfold bI; omega) (by unfold bI; omega)
    rw [mtS_next]; split <;> omega

set_option maxHeartbeats 8000000 in
theorem matches_any (s p : ByteArray) (w : World) (hn20 : s.size ≤ 20) (hm20 : p.size ≤ 20) (h0 : p.size ≠ 0) :
    Calls Tryd.prog 17 #[.string s, .string p] w (Made 3 w (mtL s p)) := by
  have HL := Lib.hid (show mtL s p = fil (fun i => msN (bI s) (bI p) p.size i == 0) (s.size + 1 - p.size) from rfl)
  have hnil := own_eq (own_empty 3 w.heap.size w (Nat.le_refl _)) (show [] = fil (fun i => msN (bI s) (bI p) p.size i == 0) 0 from rfl)
  have bb := (Below.refl w.heap.size w).alloc (Nat.le_refl _) (.cells #[] 3)
  go_enter Tryd.func17, Tryd.ntmps17
  go_wp2
  go_loopw [6, 5] (fun i o wr => ∃ k : Nat, k ≤ s.size + 1 - p.size ∧ i = .int .i64 (k : Int) ∧ Own 3 w.heap.size wr o (fil (fun i => msN (bI s) (bI p) p.size i == 0) k) ∧ Below w.heap.size w wr) (fun i _ _ => 41 - (intOf i).toNat)
  case atStart => exact ⟨0, Nat.zero_le _, rfl, hnil, bb⟩
  case round =>
    obtain ⟨k, hk, rfl, hO, hB⟩ := hrel
    clear hnil bb
    by_cases hlt : k + p.size ≤ s.size
    · have i2 : (k : Int) + (p.size : Int) ≤ (s.size : Int) := by omega
      have hk21 : k ≤ 20 := by omega
      have hk1 : k + 1 ≤ s.size + 1 - p.size := by omega
      go_wp2
      go_loopw [8, 7] (fun j n wr' => ∃ l : Nat, l ≤ p.size ∧ j = .int .i64 l ∧ n = .int .i64 (mtS (bI s) (bI p) l k) ∧ ∃ q, wr' = wr.drewN q) (fun j _ _ => p.size - (intOf j).toNat)
      case atStart => exact ⟨0, Nat.zero_le _, rfl, rfl, 0, rfl⟩
      case round =>
        obtain ⟨l, hl, rfl, rfl, q, rfl⟩ := hrel
        by_cases hlm : l < p.size
        · have hks : k + l < s.size := by omega
          have hc := bt_at hks
          have hd := bt_at hlm
          have hcl := bt_lt s (k + l)
          have hdl := bt_lt p l
          have hmb := mtS_le s p l k
          have hnx := mtS_next (bI s) (bI p) l k
          rw [show bI s (k + l) = ((bt s (k + l) : Nat) : Int) from rfl, show bI p l = ((bt p l : Nat) : Int) from rfl] at hnx
          obtain ⟨c, hce⟩ : ∃ c, c = bt s (k + l) := ⟨_, rfl⟩
          obtain ⟨d, hde⟩ : ∃ d, d = bt p l := ⟨_, rfl⟩
          obtain ⟨m, hm⟩ : ∃ m, m = mtS (bI s) (bI p) l k := ⟨_, rfl⟩
          rw [← hce] at hc hnx hcl
          rw [← hde] at hd hnx hdl
          rw [← hm] at hnx hmb ⊢
          have i3 : (k : Int) + (l : Int) < (s.size : Int) := by omega
          have i4 : ((k : Int) + (l : Int)).toNat = k + l := by omega
          have i5 : (0 : Int) ≤ (k : Int) + (l : Int) := by omega
          by_cases h63 : d = 63
          · have e1 : ((d : Int) != 63) = false := by simp [h63]
            have HN := Lib.hid (show mtS (bI s) (bI p) (l + 1) k = m by rw [hnx, if_pos (by omega)]; omega)
            clear hnx hce hde hm hmb h63 hcl hdl
            go_wp2
            go_roundw
            case rel => exact ⟨l + 1, by omega, by go_num, by rw [HN.out], _, rfl⟩
            case measure => simp [intOf]; omega
          · have e1 : ((d : Int) != 63) = true := by simp; omega
            obtain ⟨e, he⟩ : ∃ e, e = (d : Int) - (c : Int) := ⟨_, rfl⟩
            have hsq := sq255 (e := e) (by omega) (by omega)
            rw [if_neg (by omega), ← he] at hnx
            obtain ⟨z, hz⟩ : ∃ z, z = e * e := ⟨_, rfl⟩
            rw [← hz] at hsq hnx
            have HN := Lib.hid hnx
            have b0 : -1000000 ≤ (k : Int) + (l : Int) ∧ (k : Int) + (l : Int) ≤ 1000000 := by omega
            have b1 : -1000000 ≤ e ∧ e ≤ 1000000 := by omega
            have b2 : -1000000 ≤ z ∧ z ≤ 1000000 := by omega
            have b3 : -9223372036854775808 ≤ m + z ∧ m + z ≤ 9223372036854775807 := by omega
            have g1 : (d : Int) - (c : Int) = e := he.symm
            have g2 : e * e = z := hz.symm
            have HV := Lib.hid (show wrap64 (m + wrap64 (wrap64 (wrap64 (d : Int) - wrap64 (c : Int)) * wrap64 (wrap64 (d : Int) - wrap64 (c : Int)))) = m + z by
              rw [w64_id (a := (d : Int)) (by omega), w64_id (a := (c : Int)) (by omega), g1, w64_id (a := e) (by omega), g2, w64_id (a := z) (by omega), w64_id (by omega)])
            clear hnx hce hde hm hmb h63 hcl hdl hsq he hz
            have j0 : IntKind.i64.wrap ((k : Int) + (l : Int)) = (k : Int) + (l : Int) := IntWalk.i64_in _ (by omega)
            have j1 : IntKind.i64.wrap e = e := IntWalk.i64_in _ (by clear j0; omega)
            have j2 : IntKind.i64.wrap z = z := IntWalk.i64_in _ (by clear j0 j1; omega)
            have j3 : IntKind.i64.wrap (m + z) = m + z := IntWalk.i64_in _ (by clear j0 j1 j2; omega)
            clear b0 b1 b2 b3
            go_wp2
            go_quiet (fail)
            go_wp2
            go_roundw
            case rel => exact ⟨l + 1, by omega, by go_num, by rw [HN.out, HV.out], _, rfl⟩
            case measure => simp [intOf]; omega
        · obtain rfl : l = p.size := by omega
          have hO2 := hO.drewN q
          have hB2 := below_drewN hB q
          have hz := mtS_zero (bI s) (bI p) p.size k
          have hfl := fil_len (fun i => msN (bI s) (bI p) p.size i == 0) k
          clear hO hB
          obtain ⟨wq, hwq⟩ : ∃ wq, wq = wr.drewN q := ⟨_, rfl⟩
          rw [← hwq] at hO2 hB2 ⊢
          obtain ⟨m, hm⟩ : ∃ m, m = mtS (bI s) (bI p) p.size k := ⟨_, rfl⟩
          rw [← hm] at hz ⊢
          clear hwq hm
          by_cases hm0 : m = 0
          · have e1 : (m == 0) = true := by simp [hm0]
            have hyes := Lib.hid (fil_yes (P := fun i => msN (bI s) (bI p) p.size i == 0) (n := k) (by simpa using hz.2.mp hm0))
            clear hz hm0
            go_wp2_with (at_builtin; refine app_int rfl _ _ 25 rfl w.heap.size 3 Tryd.underlying25 infoInt _ _ rfl (hO2.grow _) ⟨wq.heap.size, 0, none⟩ rfl (k : Int) ?q1 ?q2 ?q3 ?_)
            case q1 => exact cell_new1 _ _ _
            case q2 => omega
            case q3 => have := hB2.size; simp; omega
            intro v' w4 hO' hg'
            have hB' := app_below hB2 hO2 hg'
            rw [← hyes.out] at hO'
            clear hO2 hB2 hg'
            go_wp2
            go_roundw
            case rel => exact ⟨k + 1, hk1, by go_num, hO', hB'⟩
            case measure => simp [intOf]; omega
          · have e1 : (m == 0) = false := by simp [hm0]
            have hno := fil_no (P := fun i => msN (bI s) (bI p) p.size i == 0) (n := k) (by simpa using fun h => hm0 (hz.2.mpr h))
            have hO' := own_eq hO2 hno.symm
            clear hz hm0 hno hO2
            go_wp2
            go_roundw
            case rel => exact ⟨k + 1, hk1, by go_num, hO', hB2⟩
            case measure => simp [intOf]; omega
    · have HF := Lib.hid (show k = s.size + 1 - p.size by omega)
      have i2 : ¬ (k : Int) + (p.size : Int) ≤ (s.size : Int) := by omega
      go_wp2
      go_ret
      exact ⟨_, rfl, by rw [HL.out, ← HF.out]; exact hO, hB⟩

set_option maxHeartbeats 8000000 in
theorem specMatchesOf_any (s p : ByteArray) (w : World) (hs : s.size ≤ 1048576) (hp : p.size ≤ 1048576) :
    Calls Tryd.prog 8 #[.string s, .string p] w (Made 3 w (mtF s p)) := by
  have hS := fun w => validPattern_any s false w hs
  have hP := fun w => validPattern_any p true w hp
  cases q1 : vpB s false with
  | false =>
    have e : mtF s p = [] := if_neg (by unfold mgB; rw [q1]; simp)
    rw [q1] at hS
    rw [e]
    clear q1 e hP hs hp
    go_enter Tryd.func8, Tryd.ntmps8
    go_wp2_with fail
    refine (hS _).mono ?_
    rintro e w1 ⟨rfl, rfl⟩
    go_wp2
    go_ret
    exact ⟨_, rfl, Own.nil _ _ _, Below.refl _ _⟩
  | true =>
    cases q2 : vpB p true with
    | false =>
      have e : mtF s p = [] := if_neg (by unfold mgB; rw [q2]; simp)
      rw [q1] at hS
      rw [q2] at hP
      rw [e]
      clear q1 q2 e hs hp
      go_enter Tryd.func8, Tryd.ntmps8
      go_wp2_with fail
      refine (hS _).mono ?_
      rintro e w1 ⟨rfl, rfl⟩
      go_wp2_with fail
      refine (hP _).mono ?_
      rintro e w2 ⟨rfl, rfl⟩
      go_wp2
      go_ret
      exact ⟨_, rfl, Own.nil _ _ _, Below.refl _ _⟩
    | true =>
      have hn20 := vp_len q1
      have hm20 := vp_len q2
      by_cases h0 : p.size = 0
      · have e : mtF s p = [] := if_neg (by unfold mgB; rw [h0]; simp)
        have i1 := empty_yes h0
        rw [q1] at hS
        rw [q2] at hP
        rw [e]
        clear q1 q2 e hs hp h0 hn20 hm20
        go_enter Tryd.func8, Tryd.ntmps8
        go_wp2_with fail
        refine (hS _).mono ?_
        rintro e w1 ⟨rfl, rfl⟩
        go_wp2_with fail
        refine (hP _).mono ?_
        rintro e w2 ⟨rfl, rfl⟩
        go_wp2
        go_ret
        exact ⟨_, rfl, Own.nil _ _ _, Below.refl _ _⟩
      · have e : mtF s p = mtL s p := if_pos (by unfold mgB; rw [q1, q2]; simp [h0])
        have i1 := empty_no h0
        rw [q1] at hS
        rw [q2] at hP
        rw [e]
        have HM := Lib.hid fun w => matches_any s p w hn20 hm20 h0
        clear q1 q2 e hs hp h0 hn20 hm20
        go_enter Tryd.func8, Tryd.ntmps8
        go_wp2_with fail
        refine (hS _).mono ?_
        rintro e w1 ⟨rfl, rfl⟩
        go_wp2_with fail
        refine (hP _).mono ?_
        rintro e w2 ⟨rfl, rfl⟩
        go_wp2_with fail
        refine (HM.out _).mono ?_
        rintro e w3 ⟨v, rfl, o, b⟩
        go_wp2
        go_ret
        exact ⟨_, rfl, o, b⟩
end Go.Proofs.YtagncoahobghpaaDoor
