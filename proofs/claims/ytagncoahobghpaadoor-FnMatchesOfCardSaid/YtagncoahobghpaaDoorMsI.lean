/-
  Texts of letters of the program: isOfLetters, countMisses.
-/
import Derived.Test.YtagncoahobghpaaDoorTrL
import Derived.Test.YtagncoahobghpaaDoorMsT
import Derived.Test.YtagncoahobghpaaDoorApp2
import Derived.Deep.QuietTactic
namespace Go.Proofs.YtagncoahobghpaaDoor
open Go.RowKit Go.Shelf
set_option linter.unusedVariables false

theorem ok_abcd (b : UInt8) : ([97, 98, 99, 100] : List UInt8).contains b = okC false b.toNat := by
  have h : ∀ n, n < 256 → ([97, 98, 99, 100] : List UInt8).contains (UInt8.ofNat n) = okC false (UInt8.ofNat n).toNat := by decide +kernel
  have := h b.toNat (UInt8.toNat_lt b)
  rwa [UInt8.ofNat_toNat] at this
theorem ok_any (b : UInt8) : ([97, 98, 99, 100, 63] : List UInt8).contains b = okC true b.toNat := by
  have h : ∀ n, n < 256 → ([97, 98, 99, 100, 63] : List UInt8).contains (UInt8.ofNat n) = okC true (UInt8.ofNat n).toNat := by decide +kernel
  have := h b.toNat (UInt8.toNat_lt b)
  rwa [UInt8.ofNat_toNat] at this
theorem trim_ok (s : ByteArray) (op : Bool) (cs : List UInt8) (h : ∀ b : UInt8, cs.contains b = okC op b.toNat) : Lib.trimS s.data.toList cs = [] ↔ ∀ k, k < s.size → okC op (bt s k) = true := by
  rw [trim_all, bt_mem (fun b => cs.contains b = true)]
  constructor
  · intro q k hk; rw [← bt_at hk, ← h]; exact q k hk
  · intro q k hk; rw [h, bt_at hk]; exact q k hk
theorem mk_nil {l : List UInt8} (h : l = []) : (⟨l.toArray⟩ : ByteArray) = ⟨#[]⟩ := by subst h; rfl
theorem mk_not {l : List UInt8} (h : ¬ l = []) : (⟨l.toArray⟩ : ByteArray).toList.isEmpty = false := by
  rw [ByteArray.toList_eq]
  cases l with
  | nil => exact absurd rfl h
  | cons a r => rfl

set_option maxHeartbeats 2000000 in
theorem isOfLetters_at (s t : ByteArray) (op : Bool) (cs : List UInt8) (w : World) (hs : s.size ≤ 1048576) (ht : t = ⟨cs.toArray⟩) (hc : ∀ b : UInt8, cs.contains b = okC op b.toNat) (h1 : t.size < 4294967281) (h2 : ∀ (j : Nat) (b : UInt8), t.data.toList[j]? = some b → b.toNat < 128) :
    Calls Tryd.prog 18 #[.string s, .string t] w (Says (vpB s op) w) := by
  have hcon := Any.strings_Trim_laid lays160 (by kernel_rfl) s t w (by omega) h1 h2
  change Calls Tryd.prog 23 _ _ (fun e w' => e = .returned (.string ⟨(Lib.trimS s.data.toList t.data.toList).toArray⟩) ∧ Below w.heap.size w w') at hcon
  have ecs : t.data.toList = cs := by rw [ht]
  rw [ecs] at hcon
  clear ht h1 h2
  by_cases h20 : s.size ≤ 20
  · have i1 : (s.size : Int) ≤ 20 := by omega
    by_cases hall : ∀ k, k < s.size → okC op (bt s k) = true
    · have hv : vpB s op = true := by rw [vp_end hall]; exact decide_eq_true h20
      rw [mk_nil ((trim_ok s op cs hc).mpr hall)] at hcon
      rw [hv]
      clear hall hv h20 hc ecs
      go_enter Tryd.func18, Tryd.ntmps18
      go_wp2_with (go_at_call 23; refine hcon.mono ?_; rintro e w' ⟨rfl, hB⟩)
      go_ret
      exact ⟨rfl, hB⟩
    · have hv : vpB s op = false := by
        cases e : vpB s op with
        | false => rfl
        | true => exact absurd (vp_ok e) hall
      have hne := mk_not (fun e => hall ((trim_ok s op cs hc).mp e))
      generalize (⟨(Lib.trimS s.data.toList cs).toArray⟩ : ByteArray) = r at hcon hne
      rw [hv]
      clear hall hv h20 hc ecs
      go_enter Tryd.func18, Tryd.ntmps18
      go_wp2_with (go_at_call 23; refine hcon.mono ?_; rintro e w' ⟨rfl, hB⟩)
      go_ret
      exact ⟨rfl, hB⟩
  · have i1 : ¬ (s.size : Int) ≤ 20 := by omega
    have hv : vpB s op = false := by
      cases e : vpB s op with
      | false => rfl
      | true => exact absurd (vp_len e) h20
    rw [hv]
    clear hcon hv hc h20 ecs
    go_enter Tryd.func18, Tryd.ntmps18
    go_wp2
    go_ret
    exact ⟨rfl, Below.refl _ _⟩

theorem msN_next (s p : Nat → Int) (m i : Nat) : msN s p (m + 1) i = msN s p m i + if p m ≠ 63 ∧ p m ≠ s (i + m) then 1 else 0 := rfl
theorem msN_le (s p : Nat → Int) (m i : Nat) : 0 ≤ msN s p m i ∧ msN s p m i ≤ m := by
  induction m with
  | zero => exact ⟨Int.le_refl _, Int.le_refl _⟩
  | succ m ih => rw [msN_next]; split <;> omega

set_option maxHeartbeats 4000000 in
theorem countMisses_any (t p : ByteArray) (w : World) (hs : t.size = p.size) (hl : p.size ≤ 20) :
    Calls Tryd.prog 19 #[.string t, .string p] w fun e w' => e = .returned (.int .i64 (msN (bI t) (bI p) p.size 0)) ∧ Below w.heap.size w w' := by
  have HS := Lib.hid hs
  have q63 : (ByteArray.mk #[63])[0].toNat = 63 := rfl
  clear hs
  go_enter Tryd.func19, Tryd.ntmps19
  go_wp2
  go_loopw [9, 5] (fun i n wr => ∃ k : Nat, k ≤ p.size ∧ i = .int .i64 k ∧ n = .int .i64 (msN (bI t) (bI p) k 0) ∧ Below w.heap.size w wr) (fun i _ _ => p.size - (intOf i).toNat)
  case atStart => exact ⟨0, Nat.zero_le _, rfl, rfl, Below.refl _ _⟩
  case round =>
    obtain ⟨k, hk, rfl, rfl, hB⟩ := hrel
    by_cases hlt : k < p.size
    · have hkt : k < t.size := by rw [HS.out]; exact hlt
      have hc := bt_at hkt
      have hd := bt_at hlt
      have hmb := msN_le (bI t) (bI p) k 0
      have hnx := msN_next (bI t) (bI p) k 0
      rw [Nat.zero_add, show bI t k = ((bt t k : Nat) : Int) from rfl, show bI p k = ((bt p k : Nat) : Int) from rfl] at hnx
      obtain ⟨c, hce⟩ : ∃ c, c = bt t k := ⟨_, rfl⟩
      obtain ⟨d, hde⟩ : ∃ d, d = bt p k := ⟨_, rfl⟩
      obtain ⟨m, hm⟩ : ∃ m, m = msN (bI t) (bI p) k 0 := ⟨_, rfl⟩
      rw [← hce] at hc hnx
      rw [← hde] at hd hnx
      rw [← hm] at hnx hmb ⊢
      have hB2 := Lib.hid hB
      by_cases h63 : d = 63
      · have e1 : ((d : Int) != 63) = false := by simp [h63]
        have HN := Lib.hid (show msN (bI t) (bI p) (k + 1) 0 = m by rw [hnx, if_neg (by omega)]; omega)
        clear hnx hce hde hm hmb h63 hB
        go_wp2
        go_quiet (fail)
        go_wp2
        go_roundw
        case rel => exact ⟨k + 1, by omega, by go_num, by rw [HN.out], below_drewN hB2.out _⟩
        case measure => simp [intOf]; omega
      · have e1 : ((d : Int) != 63) = true := by simp; omega
        by_cases hdc : d = c
        · have e2 : ((d : Int) != (c : Int)) = false := by simp [hdc]
          have HN := Lib.hid (show msN (bI t) (bI p) (k + 1) 0 = m by rw [hnx, if_neg (by omega)]; omega)
          clear hnx hce hde hm hmb h63 hdc hB
          go_wp2
          go_quiet (fail)
          go_wp2
          go_roundw
          case rel => exact ⟨k + 1, by omega, by go_num, by rw [HN.out], below_drewN hB2.out _⟩
          case measure => simp [intOf]; omega
        · have e2 : ((d : Int) != (c : Int)) = true := by simp; omega
          have HN := Lib.hid (show msN (bI t) (bI p) (k + 1) 0 = m + 1 by rw [hnx, if_pos (by omega)])
          have b1 : -1000000 ≤ m + 1 ∧ m + 1 ≤ 1000000 := by omega
          have j1 : IntKind.i64.wrap (m + 1) = m + 1 := IntWalk.i64_in _ (by omega)
          clear hnx hce hde hm hmb h63 hdc b1 hB
          go_wp2
          go_quiet (fail)
          go_wp2
          go_roundw
          case rel => exact ⟨k + 1, by omega, by go_num, by rw [HN.out], below_drewN hB2.out _⟩
          case measure => simp [intOf]; omega
    · obtain rfl : k = p.size := by omega
      go_wp2
      go_ret
      exact ⟨rfl, hB⟩
end Go.Proofs.YtagncoahobghpaaDoor
