/-
  Joined texts: DsR, DsQ, DsE.
-/
import Derived.Test.YtagncoahobghpacGreatDoorJGdE12
import Derived.Test.YtagncoahobghpacGreatDoorJGdE08
import Derived.Deep.QuietTactic
namespace Go.Proofs.YtagncoahobghpacGreatDoor
open Go Go.RowKit Go.IntWalk
set_option linter.unusedVariables false
set_option linter.unusedSimpArgs false
set_option maxRecDepth 100000

/-- Digits are read on from n, as long as no number is too large. -/
def digL : List UInt8 → Nat → Option Nat
  | [], n => some n
  | x :: l, n => if x.toNat < 48 ∨ 57 < x.toNat ∨ 10000 < n then none else digL l (10 * n + (x.toNat - 48))
def bodyN (s : ByteArray) : ByteArray := if s.data.toList.head? = some 45 then s.extract 1 s.size else s
def sgnN (s : ByteArray) : Int := if s.data.toList.head? = some 45 then -1 else 1
/-- The number of a text in decimal that is short. -/
def rdP (s : ByteArray) : Option Int :=
  match digL (bodyN s).data.toList 0 with
  | none => none
  | some n => if bodyN s ≠ ⟨#[]⟩ ∧ bs (Lib.itoa (sgnN s * n)) = s then some (sgnN s * n) else none
theorem dig_le : ∀ {l : List UInt8} {n m : Nat}, digL l n = some m → n ≤ 100009 → m ≤ 100009
  | [], n, m, h, hn => by simp [digL] at h; omega
  | x :: l, n, m, h, hn => by
    unfold digL at h
    split at h
    · cases h
    · rename_i hx
      refine dig_le h ?_
      have := UInt8.toNat_lt x
      omega
theorem drop_at (s : ByteArray) {k : Nat} (h : k < s.size) : s.data.toList.drop k = s[k] :: s.data.toList.drop (k + 1) := by
  have h' : k < s.data.toList.length := by rw [Array.length_toList]; exact h
  rw [List.drop_eq_getElem_cons h']
  simp [ByteArray.getElem_eq_getElem_data]
theorem rd_no {s : ByteArray} (h : digL (bodyN s).data.toList 0 = none) : rdP s = none := by unfold rdP; rw [h]
theorem rd_yes {s : ByteArray} {n : Nat} (h : digL (bodyN s).data.toList 0 = some n) : rdP s = if bodyN s ≠ ⟨#[]⟩ ∧ bs (Lib.itoa (sgnN s * n)) = s then some (sgnN s * n) else none := by unfold rdP; rw [h]
def RdN (s : ByteArray) (w : World) (e : Ending) (w' : World) : Prop := ∃ z b, e = .returned (.tuple #[.int .i64 z, .bool b]) ∧ w' = w ∧ (b = true → rdP s = some z) ∧ (b = false → rdP s = none)

theorem ne_nil {t : ByteArray} (h : t ≠ ⟨#[]⟩) : t.toList.isEmpty = false := by
  rw [← Bool.not_eq_true]
  intro e
  apply h
  rw [List.isEmpty_iff, ByteArray.toList_eq] at e
  cases t with
  | mk a =>
    have : a.toList = [] := e
    rw [Array.toList_eq_nil_iff.1 this]
theorem head_at {s : ByteArray} (h : 0 < s.size) : s.data.toList.head? = some s[0] := by
  rw [List.head?_eq_getElem?, Array.getElem?_toList, Array.getElem?_eq_getElem h]
  rfl
set_option maxHeartbeats 8000000 in
theorem readNumber_any (s : ByteArray) (w : World) (hs : s.size ≤ 1048576) : Calls Tryz.prog 52 #[.string s] w (RdN s w) := by
  have HNO := Lib.hid (rd_no (s := s))
  have HYES := Lib.hid fun n => rd_yes (s := s) (n := n)
  by_cases h0 : s.size = 0
  · have e : s = ⟨#[]⟩ := by
      cases s with
      | mk a =>
        have : a.size = 0 := h0
        rw [Array.eq_empty_of_size_eq_zero this]
    subst e
    have HF : Hid (rdP ⟨#[]⟩ = none) := Lib.hid (by unfold rdP; rfl)
    clear HNO HYES
    go_enter Tryz.func52, Tryz.ntmps52
    go_wp2_with fail
    refine wp_loop_rounds 1 ?_
    rw [rounds_succ]
    go_wp2
    go_ret2
    exact ⟨0, false, rfl, rfl, by simp, fun _ => HF.out⟩
  · have hpos : 0 < s.size := by omega
    have hh := head_at hpos
    have j0 : s.toList.isEmpty = false := ne_nil (fun e => by rw [e] at h0; exact h0 rfl)
    have i0 : (0 : Int) < (s.size : Int) := by omega
    by_cases h45 : s[0] = 45
    · have hb : s[0].toNat = 45 := by rw [h45]; rfl
      obtain ⟨t, ht⟩ : ∃ t, t = s.extract 1 s.size := ⟨_, rfl⟩
      have HB : Hid (bodyN s = t) := Lib.hid (by unfold bodyN; rw [hh, h45, if_pos rfl, ht])
      have HG : Hid (sgnN s = -1) := Lib.hid (by unfold sgnN; rw [hh, h45]; exact if_pos rfl)
      have i1 : (1 : Int) ≤ (s.size : Int) := by omega
      have htz : t.size ≤ 1048576 := by rw [ht, ByteArray.size_extract]; omega
      rw [HB.out] at HNO HYES
      clear hh h45 h0 hs
      go_enter Tryz.func52, Tryz.ntmps52
      go_wp2_with fail
      rw [← ht]
      clear ht hb
      go_loopw [6, 7] (fun nn i wr => ∃ k n : Nat, k ≤ t.size ∧ i = .int .i64 k ∧ nn = .int .i64 n ∧ n ≤ 100009 ∧ wr = w ∧ Hid (digL t.data.toList 0 = digL (t.data.toList.drop k) n)) (fun _ i _ => t.size - (intOf i).toNat)
      case atStart => exact ⟨0, 0, Nat.zero_le _, rfl, rfl, by omega, rfl, rfl⟩
      case round =>
        obtain ⟨k, n, hk, rfl, rfl, hn, rfl, hD⟩ := hrel
        by_cases hlt : k < t.size
        · have HA := Lib.hid (drop_at t hlt)
          have i1 : (k : Int) < (t.size : Int) := by omega
          have hx255 := UInt8.toNat_lt t[k]
          obtain ⟨x, hx⟩ : ∃ x, x = t[k].toNat := ⟨_, rfl⟩
          have HNO : Hid ((x < 48 ∨ 57 < x ∨ 10000 < n) → rdP s = none) := Lib.hid fun q => HNO.out (by rw [hD.out, HA.out]; unfold digL; rw [← hx]; exact if_pos q)
          have HGO : Hid (¬ (x < 48 ∨ 57 < x ∨ 10000 < n) → digL t.data.toList 0 = digL (t.data.toList.drop (k + 1)) (10 * n + (x - 48))) := Lib.hid fun q => by rw [hD.out, HA.out]; conv => lhs; unfold digL; rw [← hx]; rw [if_neg q]
          rw [← hx] at hx255
          clear HA hD
          have hx' := hx.symm
          clear hx
          by_cases h1 : x < 48
          · have i2 : (x : Int) < 48 := by omega
            have HF := Lib.hid (HNO.out (.inl h1))
            clear HNO HGO HYES
            go_wp2
            go_ret2
            exact ⟨0, false, rfl, rfl, by simp, fun _ => HF.out⟩
          · have i2 : ¬ ((x : Int) < 48) := by omega
            by_cases h2 : 57 < x
            · have i3 : (57 : Int) < (x : Int) := by omega
              have HF := Lib.hid (HNO.out (.inr (.inl h2)))
              clear HNO HGO HYES
              go_wp2
              go_ret2
              exact ⟨0, false, rfl, rfl, by simp, fun _ => HF.out⟩
            · have i3 : ¬ ((57 : Int) < (x : Int)) := by omega
              by_cases h3 : 10000 < n
              · have i4 : (10000 : Int) < (n : Int) := by omega
                have HF := Lib.hid (HNO.out (.inr (.inr h3)))
                clear HNO HGO HYES
                go_wp2
                go_ret2
                exact ⟨0, false, rfl, rfl, by simp, fun _ => HF.out⟩
              · have i4 : ¬ ((10000 : Int) < (n : Int)) := by omega
                have HF := Lib.hid (HGO.out (by omega))
                have e1 : IntKind.i64.wrap (10 * (n : Int)) = 10 * (n : Int) := IntWalk.i64_in _ (by omega)
                have e2 : IntKind.u8.wrap ((x : Int) - 48) = ((x - 48 : Nat) : Int) := by
                  rw [show ((x : Int) - 48) = ((x - 48 : Nat) : Int) by omega]
                  exact u8_in _ (by omega)
                have e3 : IntKind.i64.wrap ((x - 48 : Nat) : Int) = ((x - 48 : Nat) : Int) := IntWalk.i64_in _ (by omega)
                have e4 : IntKind.i64.wrap (10 * (n : Int) + ((x - 48 : Nat) : Int)) = ((10 * n + (x - 48) : Nat) : Int) := by
                  rw [show (10 * (n : Int) + ((x - 48 : Nat) : Int)) = ((10 * n + (x - 48) : Nat) : Int) by omega]
                  exact IntWalk.i64_in _ (by omega)
                have e5 : IntKind.i64.wrap ((k : Int) + 1) = (k : Int) + 1 := IntWalk.i64_in _ (by omega)
                have hm : 10 * n + (x - 48) ≤ 100009 := by omega
                clear HNO HGO HYES
                obtain ⟨y, hy⟩ : ∃ y, y = x - 48 := ⟨_, rfl⟩
                rw [← hy] at e2 e3 e4 HF hm
                obtain ⟨m, hme⟩ : ∃ m, m = 10 * n + y := ⟨_, rfl⟩
                rw [← hme] at e4 HF hm
                clear hy hme
                go_wp2
                go_roundw
                case rel => exact ⟨k + 1, m, by omega, by go_num, rfl, hm, trivial, HF⟩
                case measure => simp [intOf]; omega
        · obtain rfl : k = t.size := by omega
          have HF : Hid (digL t.data.toList 0 = some n) := Lib.hid (by rw [hD.out, List.drop_eq_nil_of_le (by rw [Array.length_toList]; exact Nat.le_refl _)]; rfl)
          have HP := Lib.hid (HYES.out n HF.out)
          clear HNO HYES hD HF
          obtain ⟨z, hz⟩ : ∃ z : Int, z = (-(n : Int)) := ⟨_, rfl⟩
          have hzb : -9223372036854775808 < z ∧ z ≤ 9223372036854775807 := by omega
          have HP : Hid (rdP s = if t ≠ ⟨#[]⟩ ∧ bs (Lib.itoa z) = s then some z else none) := Lib.hid (by rw [HP.out, HG.out, show (-1 : Int) * (n : Int) = z by omega])
          have l1 : IntKind.i64.wrap (-(n : Int)) = z := by rw [hz]; exact IntWalk.i64_in _ (by omega)
          have l2 : IntKind.i64.wrap (-1 * (n : Int)) = z := by rw [show (-1 : Int) * (n : Int) = (-(n : Int)) by omega]; exact l1
          clear hz
          by_cases ht0 : t = ⟨#[]⟩
          · have HF : Hid (rdP s = none) := Lib.hid (by rw [HP.out]; exact if_neg fun q => q.1 ht0)
            have j1 : t.toList.isEmpty = true := by rw [ht0, ByteArray.toList_eq]; rfl
            clear HP HB HG ht0
            go_wp2
            go_ret2
            exact ⟨_, false, rfl, rfl, by simp, fun _ => HF.out⟩
          · have j1 : t.toList.isEmpty = false := ne_nil ht0
            have HQ := Lib.hid (number_any z wr hzb.1 hzb.2)
            obtain ⟨q, hq⟩ : ∃ q, q = bs (Lib.itoa z) := ⟨_, rfl⟩
            rw [← hq] at HQ HP
            by_cases hqs : q = s
            · have HF : Hid (rdP s = some z) := Lib.hid (by rw [HP.out]; exact if_pos ⟨ht0, hqs⟩)
              have j2 : (q.toList == s.toList) = true := by rw [hqs]; simp
              clear HP HB HG ht0 hq hqs
              go_wp2_with fail
              skip
              refine HQ.out.mono ?_
              rintro e w4 ⟨rfl, rfl⟩
              go_wp2
              go_ret2
              exact ⟨z, true, rfl, rfl, fun _ => HF.out, by simp⟩
            · have HF : Hid (rdP s = none) := Lib.hid (by rw [HP.out]; exact if_neg fun q => hqs q.2)
              have j2 : (q.toList == s.toList) = false := (Lib.bytes_beq_false_iff q s).2 hqs
              clear HP HB HG ht0 hq hqs
              go_wp2_with fail
              skip
              refine HQ.out.mono ?_
              rintro e w4 ⟨rfl, rfl⟩
              go_wp2
              go_ret2
              exact ⟨z, false, rfl, rfl, by simp, fun _ => HF.out⟩
    · have hb : ((s[0].toNat : Int) == 45) = false := by
        rw [beq_eq_false_iff_ne]
        intro e
        exact h45 (UInt8.toNat_inj.1 (by show s[0].toNat = 45; omega))
      have HB : Hid (bodyN s = s) := Lib.hid (by unfold bodyN; rw [hh, if_neg (fun q => h45 (Option.some.inj q))])
      have HG : Hid (sgnN s = 1) := Lib.hid (by unfold sgnN; rw [hh]; exact if_neg (fun q => h45 (Option.some.inj q)))
      have htz := hs
      rw [HB.out] at HNO HYES
      clear hh h45 h0 hs
      go_enter Tryz.func52, Tryz.ntmps52
      go_wp2_with fail
      clear hb j0 i0
      go_loopw [6, 7] (fun nn i wr => ∃ k n : Nat, k ≤ s.size ∧ i = .int .i64 k ∧ nn = .int .i64 n ∧ n ≤ 100009 ∧ wr = w ∧ Hid (digL s.data.toList 0 = digL (s.data.toList.drop k) n)) (fun _ i _ => s.size - (intOf i).toNat)
      case atStart => exact ⟨0, 0, Nat.zero_le _, rfl, rfl, by omega, rfl, rfl⟩
      case round =>
        obtain ⟨k, n, hk, rfl, rfl, hn, rfl, hD⟩ := hrel
        by_cases hlt : k < s.size
        · have HA := Lib.hid (drop_at s hlt)
          have i1 : (k : Int) < (s.size : Int) := by omega
          have hx255 := UInt8.toNat_lt s[k]
          obtain ⟨x, hx⟩ : ∃ x, x = s[k].toNat := ⟨_, rfl⟩
          have HNO : Hid ((x < 48 ∨ 57 < x ∨ 10000 < n) → rdP s = none) := Lib.hid fun q => HNO.out (by rw [hD.out, HA.out]; unfold digL; rw [← hx]; exact if_pos q)
          have HGO : Hid (¬ (x < 48 ∨ 57 < x ∨ 10000 < n) → digL s.data.toList 0 = digL (s.data.toList.drop (k + 1)) (10 * n + (x - 48))) := Lib.hid fun q => by rw [hD.out, HA.out]; conv => lhs; unfold digL; rw [← hx]; rw [if_neg q]
          rw [← hx] at hx255
          clear HA hD
          have hx' := hx.symm
          clear hx
          by_cases h1 : x < 48
          · have i2 : (x : Int) < 48 := by omega
            have HF := Lib.hid (HNO.out (.inl h1))
            clear HNO HGO HYES
            go_wp2
            go_ret2
            exact ⟨0, false, rfl, rfl, by simp, fun _ => HF.out⟩
          · have i2 : ¬ ((x : Int) < 48) := by omega
            by_cases h2 : 57 < x
            · have i3 : (57 : Int) < (x : Int) := by omega
              have HF := Lib.hid (HNO.out (.inr (.inl h2)))
              clear HNO HGO HYES
              go_wp2
              go_ret2
              exact ⟨0, false, rfl, rfl, by simp, fun _ => HF.out⟩
            · have i3 : ¬ ((57 : Int) < (x : Int)) := by omega
              by_cases h3 : 10000 < n
              · have i4 : (10000 : Int) < (n : Int) := by omega
                have HF := Lib.hid (HNO.out (.inr (.inr h3)))
                clear HNO HGO HYES
                go_wp2
                go_ret2
                exact ⟨0, false, rfl, rfl, by simp, fun _ => HF.out⟩
              · have i4 : ¬ ((10000 : Int) < (n : Int)) := by omega
                have HF := Lib.hid (HGO.out (by omega))
                have e1 : IntKind.i64.wrap (10 * (n : Int)) = 10 * (n : Int) := IntWalk.i64_in _ (by omega)
                have e2 : IntKind.u8.wrap ((x : Int) - 48) = ((x - 48 : Nat) : Int) := by
                  rw [show ((x : Int) - 48) = ((x - 48 : Nat) : Int) by omega]
                  exact u8_in _ (by omega)
                have e3 : IntKind.i64.wrap ((x - 48 : Nat) : Int) = ((x - 48 : Nat) : Int) := IntWalk.i64_in _ (by omega)
                have e4 : IntKind.i64.wrap (10 * (n : Int) + ((x - 48 : Nat) : Int)) = ((10 * n + (x - 48) : Nat) : Int) := by
                  rw [show (10 * (n : Int) + ((x - 48 : Nat) : Int)) = ((10 * n + (x - 48) : Nat) : Int) by omega]
                  exact IntWalk.i64_in _ (by omega)
                have e5 : IntKind.i64.wrap ((k : Int) + 1) = (k : Int) + 1 := IntWalk.i64_in _ (by omega)
                have hm : 10 * n + (x - 48) ≤ 100009 := by omega
                clear HNO HGO HYES
                obtain ⟨y, hy⟩ : ∃ y, y = x - 48 := ⟨_, rfl⟩
                rw [← hy] at e2 e3 e4 HF hm
                obtain ⟨m, hme⟩ : ∃ m, m = 10 * n + y := ⟨_, rfl⟩
                rw [← hme] at e4 HF hm
                clear hy hme
                go_wp2
                go_roundw
                case rel => exact ⟨k + 1, m, by omega, by go_num, rfl, hm, trivial, HF⟩
                case measure => simp [intOf]; omega
        · obtain rfl : k = s.size := by omega
          have HF : Hid (digL s.data.toList 0 = some n) := Lib.hid (by rw [hD.out, List.drop_eq_nil_of_le (by rw [Array.length_toList]; exact Nat.le_refl _)]; rfl)
          have HP := Lib.hid (HYES.out n HF.out)
          clear HNO HYES hD HF
          obtain ⟨z, hz⟩ : ∃ z : Int, z = (n : Int) := ⟨_, rfl⟩
          have hzb : -9223372036854775808 < z ∧ z ≤ 9223372036854775807 := by omega
          have HP : Hid (rdP s = if s ≠ ⟨#[]⟩ ∧ bs (Lib.itoa z) = s then some z else none) := Lib.hid (by rw [HP.out, HG.out, show (1 : Int) * (n : Int) = z by omega])
          have l1 : IntKind.i64.wrap (n : Int) = z := by rw [hz]; exact IntWalk.i64_in _ (by omega)
          have l2 : IntKind.i64.wrap (1 * (n : Int)) = z := by rw [show (1 : Int) * (n : Int) = (n : Int) by omega]; exact l1
          clear hz
          by_cases ht0 : s = ⟨#[]⟩
          · have HF : Hid (rdP s = none) := Lib.hid (by rw [HP.out]; exact if_neg fun q => q.1 ht0)
            have j1 : s.toList.isEmpty = true := by rw [ht0, ByteArray.toList_eq]; rfl
            clear HP HB HG ht0
            go_wp2
            go_ret2
            exact ⟨_, false, rfl, rfl, by simp, fun _ => HF.out⟩
          · have j1 : s.toList.isEmpty = false := ne_nil ht0
            have HQ := Lib.hid (number_any z wr hzb.1 hzb.2)
            obtain ⟨q, hq⟩ : ∃ q, q = bs (Lib.itoa z) := ⟨_, rfl⟩
            rw [← hq] at HQ HP
            by_cases hqs : q = s
            · have HF : Hid (rdP s = some z) := Lib.hid (by rw [HP.out]; exact if_pos ⟨ht0, hqs⟩)
              have j2 : (q.toList == s.toList) = true := by rw [hqs]; simp
              clear HP HB HG ht0 hq hqs
              go_wp2_with fail
              skip
              refine HQ.out.mono ?_
              rintro e w4 ⟨rfl, rfl⟩
              go_wp2
              go_ret2
              exact ⟨z, true, rfl, rfl, fun _ => HF.out, by simp⟩
            · have HF : Hid (rdP s = none) := Lib.hid (by rw [HP.out]; exact if_neg fun q => hqs q.2)
              have j2 : (q.toList == s.toList) = false := (Lib.bytes_beq_false_iff q s).2 hqs
              clear HP HB HG ht0 hq hqs
              go_wp2_with fail
              skip
              refine HQ.out.mono ?_
              rintro e w4 ⟨rfl, rfl⟩
              go_wp2
              go_ret2
              exact ⟨z, false, rfl, rfl, by simp, fun _ => HF.out⟩
end Go.Proofs.YtagncoahobghpacGreatDoor

namespace Go.Proofs.YtagncoahobghpacGreatDoor
open Go Go.RowKit Go.IntWalk
set_option linter.unusedVariables false
set_option linter.unusedSimpArgs false
set_option maxRecDepth 100000

def partsN (s : ByteArray) : List ByteArray := (splitL 44 s.data.toList).map bs
def numR (p : ByteArray) : Int := (rdP p).getD 0
def allR (ps : List ByteArray) : Bool := ps.all fun p => (rdP p).isSome
def numsR (ps : List ByteArray) : List Int := ps.map numR
/-- What the model reads of a text: the row. -/
def rrP (s : ByteArray) : Option (List Int) := if allR (partsN s) = true ∧ vrB (numsR (partsN s)) = true then some (numsR (partsN s)) else none
theorem rrP_no {s : ByteArray} (h : ¬ (allR (partsN s) = true ∧ vrB (numsR (partsN s)) = true)) : rrP s = none := if_neg h
theorem rrP_yes {s : ByteArray} (h1 : allR (partsN s) = true) (h2 : vrB (numsR (partsN s)) = true) : rrP s = some (numsR (partsN s)) := if_pos ⟨h1, h2⟩
theorem allR_no {ps : List ByteArray} {k : Nat} (hk : k < ps.length) (h : rdP (ps.getD k .empty) = none) : allR ps = false := by
  unfold allR
  rw [← Bool.not_eq_true, List.all_eq_true]
  intro q
  have := q (ps.getD k .empty) (by simp [List.getD, List.getElem?_eq_getElem hk])
  rw [h] at this
  cases this
theorem allR_yes {ps : List ByteArray} (h : ∀ k, k < ps.length → rdP (ps.getD k .empty) ≠ none) : allR ps = true := by
  unfold allR
  rw [List.all_eq_true]
  intro p hp
  obtain ⟨k, hk, rfl⟩ := List.getElem_of_mem hp
  have := h k hk
  simp only [List.getD, List.getElem?_eq_getElem hk, Option.getD_some] at this
  cases e : rdP ps[k] with
  | none => exact absurd e this
  | some v => rfl
theorem numsR_tab (ps : List ByteArray) : numsR ps = tab ps.length fun j => numR (ps.getD j .empty) := by
  refine ext_ix (by simp [numsR, len_tab]) fun j hj => ?_
  rw [ix_tab _ _ _ (by simpa [numsR] using hj)]
  have hj' : j < ps.length := by simpa [numsR] using hj
  simp [numsR, ix, List.getD, List.getElem?_eq_getElem hj']
/-- What readRow hands back. -/
def RrRet (w : World) (s : ByteArray) (v : Value) (b : Bool) (w' : World) : Prop :=
  Below w.heap.size w w' ∧ match rrP s with
    | some xs => Own 3 w.heap.size w' v xs ∧ b = true
    | none => b = false
theorem part_size {s : ByteArray} {j : Nat} : ((partsN s).getD j .empty).size ≤ s.size := by
  have key : ∀ (l : List UInt8), ∀ p ∈ splitL 44 l, p.length ≤ l.length := by
    intro l
    induction l with
    | nil => intro p hp; simp [splitL] at hp; subst hp; exact Nat.le_refl _
    | cons x l ih =>
      intro p hp
      rw [splitL_cons] at hp
      split at hp
      · rcases List.mem_cons.1 hp with rfl | hp
        · exact Nat.zero_le _
        · exact Nat.le_succ_of_le (ih p hp)
      · cases h : splitL 44 l with
        | nil => exact absurd h (splitL_ne 44 l)
        | cons q qs =>
          rw [h] at hp
          dsimp only at hp
          rcases List.mem_cons.1 hp with rfl | hp
          · have := ih q (by rw [h]; exact List.mem_cons_self)
            simp only [List.length_cons]
            omega
          · exact Nat.le_succ_of_le (ih p (by rw [h]; exact List.mem_cons_of_mem _ hp))
  by_cases hj : j < (partsN s).length
  · rw [List.getD_eq_getElem?_getD, List.getElem?_eq_getElem hj, Option.getD_some]
    obtain ⟨p, hp, e⟩ := List.mem_map.1 (List.getElem_mem hj : (partsN s)[j] ∈ partsN s)
    rw [← e, bs_size]
    have := key _ p hp
    rw [Array.length_toList] at this
    exact this
  · rw [List.getD_eq_getElem?_getD, List.getElem?_eq_none (by omega)]
    exact Nat.zero_le _

theorem rows_apart {B B' : Nat} {w : World} {v o : Value} {ps : List ByteArray} {xs : List Int} (hT : OwnT B w v ps) (hO : Own 3 B' w o xs) : v.ownBlock = none ∨ v.ownBlock ≠ o.ownBlock := by
  rcases hT.2 with ⟨rfl, _⟩ | ⟨g, cap, cur, rfl, _, hg, _⟩
  · exact .inl rfl
  · refine .inr fun e => ?_
    rcases hO.2 with ⟨rfl, _⟩ | ⟨g', cap', cur', rfl, _, hg', _⟩
    · simp [Value.ownBlock] at e
    · simp [Value.ownBlock] at e
      subst e
      rw [hg] at hg'
      simp at hg'

set_option maxHeartbeats 8000000 in
theorem readRow_any (s : ByteArray) (w : World) (hs : s.size ≤ 1048576) : Calls Tryz.prog 31 #[.string s] w fun e w' => ∃ v b, e = .returned (.tuple #[v, .bool b]) ∧ RrRet w s v b w' := by
  have HSP := Lib.hid fun w => splitAt_any s 44 w hs
  have hpl : (partsN s).length ≤ s.size + 1 := by
    unfold partsN
    rw [List.length_map, splitL_len]
    have := List.count_le_length (a := (44 : UInt8)) (l := s.data.toList)
    rw [Array.length_toList] at this
    exact Nat.succ_le_succ this
  have HSZ := Lib.hid fun j => Nat.le_trans (part_size (s := s) (j := j)) hs
  obtain ⟨ps, hps⟩ : ∃ ps, ps = partsN s := ⟨_, rfl⟩
  have HPS := Lib.hid hps
  rw [show (splitL 44 s.data.toList).map bs = ps from hps.symm] at HSP
  rw [← hps] at hpl HSZ
  obtain ⟨n, hn⟩ : ∃ n, n = ps.length := ⟨_, rfl⟩
  have HN := Lib.hid hn
  rw [← hn] at hpl
  have hle : n ≤ 1048577 := by omega
  clear hps hn hpl hs
  go_enter Tryz.func31, Tryz.ntmps31
  go_wp2_with fail
  refine (HSP.out _).mono ?_
  rintro e w1 ⟨v, rfl, hT, b1⟩
  have hO0 : Own 3 w.heap.size w1 (.slice (some ⟨w.heap.size, 0, none⟩) 0 0) (tab 0 fun j => numR (ps.getD j .empty)) := (own_empty 3 w.heap.size w (Nat.le_refl _)).below b1 (Nat.le_refl _)
  have hB0 : Below w.heap.size w w1 := bel_nxt ((Below.refl w.heap.size w).alloc (Nat.le_refl _) _) b1
  obtain ⟨va, vc, rfl⟩ : ∃ va vc, v = .slice va n vc := by
    rcases hT.2 with ⟨rfl, e0⟩ | ⟨g, cap, cur, rfl, _⟩
    · exact ⟨none, 0, by rw [HN.out, e0]⟩
    · exact ⟨_, cap, by rw [HN.out]⟩
  have HT := Lib.hid hT
  clear HSP b1 hT
  go_wp2_with fail
  go_loopw [4, 6] (fun o i wr => ∃ k : Nat, k ≤ n ∧ i = .int .i64 k ∧ Own 3 w.heap.size wr o (tab k fun j => numR (ps.getD j .empty)) ∧ Below w.heap.size w wr ∧ Hid (∃ B, OwnT B wr (.slice va n vc) ps) ∧ Hid (∀ j, j < k → rdP (ps.getD j .empty) ≠ none)) (fun _ i _ => n - (intOf i).toNat)
  case atStart => exact ⟨0, Nat.zero_le _, rfl, hO0, hB0, ⟨_, HT.out⟩, fun j hj => absurd hj (Nat.not_lt_zero j)⟩
  case round =>
    obtain ⟨k, hk, rfl, hO, hB, hTT, hall⟩ := hrel
    clear hO0 hB0 HT
    by_cases hlt : k < n
    · have hkl : k < ps.length := by rw [← HN.out]; exact hlt
      obtain ⟨B, hT⟩ := hTT.out
      obtain ⟨g, cap, hv, hgB, hgl, hc⟩ := hT.get (j := k) (s := ps.getD k .empty) (by simp [List.getD, List.getElem?_eq_getElem hkl])
      rw [← HN.out] at hv
      simp only [Value.slice.injEq, true_and] at hv
      obtain ⟨rfl, rfl⟩ := hv
      have i1 : (k : Int) < (n : Int) := by omega
      have HQ := Lib.hid (readNumber_any (ps.getD k .empty) wr (HSZ.out k))
      have HNO := Lib.hid fun (q : rdP (ps.getD k .empty) = none) => rrP_no (s := s) (by rw [← HPS.out, allR_no hkl q]; simp)
      have HYES := Lib.hid fun (v : Int) (q : rdP (ps.getD k .empty) = some v) j (hj : j < k + 1) => show rdP (ps.getD j .empty) ≠ none by
        by_cases e : j = k
        · subst e; rw [q]; simp
        · exact hall.out j (by omega)
      have HTB := Lib.hid (tab_snoc k (fun j => numR (ps.getD j .empty)) _ rfl)
      have HV := Lib.hid fun (v : Int) (q : rdP (ps.getD k .empty) = some v) => show numR (ps.getD k .empty) = v by unfold numR; rw [q]; rfl
      obtain ⟨p, hp⟩ : ∃ p, p = ps.getD k .empty := ⟨_, rfl⟩
      rw [← hp] at hc HQ HNO HYES
      have HPE := Lib.hid hp
      have HT2 := Lib.hid hT
      clear hp hkl hTT hall hT hgB
      go_wp2_with fail
      refine HQ.out.mono ?_
      rintro e w3 ⟨z, b, rfl, rfl, hz1, hz2⟩
      cases b with
      | false =>
        have HF := Lib.hid (HNO.out (hz2 rfl))
        clear hz1 hz2 HNO HYES HTB HV HQ
        go_wp2
        go_ret2
        exact ⟨_, false, rfl, hB, by rw [HF.out]⟩
      | true =>
        have hy := Lib.hid (HYES.out z (hz1 rfl))
        have HZ := Lib.hid (HV.out z (by rw [← HPE.out]; exact hz1 rfl))
        have e3 : IntKind.i64.wrap ((k : Int) + 1) = (k : Int) + 1 := IntWalk.i64_in _ (by omega)
        clear hz1 hz2 HNO HYES HV HQ HPE
        go_wp2_with (at_builtin; refine app_int rfl _ _ 35 rfl w.heap.size 3 Tryz.underlying35 infoInt _ (tab k fun j => numR (ps.getD j .empty)) rfl (hO.grow _) ⟨w3.heap.size, 0, none⟩ rfl z ?q1 ?q2 ?q3 ?_)
        case q1 => exact cell_new1 _ _ _
        case q2 => rw [len_tab]; omega
        case q3 => have := hB.size; simp; omega
        intro v' w5 hO' hg'
        have hB' := app_below hB hO hg'
        have hT' : OwnT B w5 (.slice (some ⟨g, 0, none⟩) n vc) ps := World.ownsRow.kept (World.ownsRow.alloc HT2.out _) hg' (rows_apart HT2.out hO)
        rw [tab_snoc k _ _ HZ.out.symm] at hO'
        have HT3 := Lib.hid hT'
        clear hO hB hg' hT' HT2
        go_wp2
        go_roundw
        case rel => exact ⟨k + 1, by omega, by go_num, hO', hB', ⟨_, HT3.out⟩, hy⟩
        case measure => simp [intOf]; omega
    · obtain rfl : k = n := by omega
      have HL := Lib.hid (show (tab k fun j => numR (ps.getD j .empty)) = numsR (partsN s) by rw [numsR_tab, ← HPS.out, ← HN.out])
      have HAL := Lib.hid (show allR (partsN s) = true by
        rw [← HPS.out]
        exact allR_yes fun j hj => hall.out j (by rw [HN.out]; exact hj))
      obtain ⟨xs, hxs⟩ : ∃ xs, xs = tab k fun j => numR (ps.getD j .empty) := ⟨_, rfl⟩
      have hxl : xs.length ≤ maxLen := by rw [hxs, len_tab]; unfold maxLen; omega
      rw [← hxs] at hO HL
      have hr := hO.rd
      obtain ⟨ao, co, hvo⟩ := own_slice hO
      subst hvo
      have HVR := Lib.hid (specvalid_any _ xs wr hr hxl)
      clear hxs hall hTT
      go_wp2_with fail
      refine HVR.out.mono ?_
      rintro e w3 ⟨rfl, b3⟩
      have hB := bel_nxt hB b3
      have hO := hO.below b3 (Nat.le_refl _)
      have HF : Hid (rrP s = if vrB xs = true then some xs else none) := Lib.hid (by
        cases hv : vrB xs with
        | true => rw [if_pos rfl, rrP_yes HAL.out (by rw [← HL.out]; exact hv), HL.out]
        | false => rw [if_neg (by simp)]; exact rrP_no (by rw [← HL.out, hv]; simp))
      clear HVR hr HL HAL b3
      go_wp2
      go_ret2
      refine ⟨_, vrB xs, rfl, hB, ?_⟩
      rw [HF.out]
      cases vrB xs with
      | true => exact ⟨hO, rfl⟩
      | false => rfl
end Go.Proofs.YtagncoahobghpacGreatDoor

namespace Go.Proofs.YtagncoahobghpacGreatDoor
open Go Go.RowKit
set_option linter.unusedVariables false
set_option linter.unusedSimpArgs false
set_option maxRecDepth 100000

def dec4 (u : Nat) : List UInt8 :=
  if u < 10 then [UInt8.ofNat (48 + u)] else if u < 100 then [UInt8.ofNat (48 + u / 10), UInt8.ofNat (48 + u % 10)]
  else if u < 1000 then [UInt8.ofNat (48 + u / 100), UInt8.ofNat (48 + u / 10 % 10), UInt8.ofNat (48 + u % 10)]
  else [UInt8.ofNat (48 + u / 1000), UInt8.ofNat (48 + u / 100 % 10), UInt8.ofNat (48 + u / 10 % 10), UInt8.ofNat (48 + u % 10)]
theorem dec4_eq (u : Nat) (h : u < 10000) : Lib.decDigits u = dec4 u := by
  unfold dec4
  by_cases h1 : u < 10
  · rw [if_pos h1, Lib.decDigits_one h1]
  rw [if_neg h1]
  by_cases h2 : u < 100
  · rw [if_pos h2, Lib.decDigits_two h1 h2]
  rw [if_neg h2]
  have e1 : u / 10 / 10 = u / 100 := by omega
  have e2 : u / 10 / 10 / 10 = u / 1000 := by omega
  by_cases h3 : u < 1000
  · rw [if_pos h3, Lib.decDigits, dif_neg h1, Lib.decDigits_two (i := u / 10) (by omega) (by omega), e1]
    rfl
  · rw [if_neg h3, Lib.decDigits, dif_neg h1, Lib.decDigits, dif_neg (show ¬ u / 10 < 10 by omega), Lib.decDigits_two (i := u / 10 / 10) (by omega) (by omega), e2, e1]
    rfl
def atoiIs (l : List UInt8) (v : Int) : Bool := match Lib.atoiAll l with | .ok u => decide (u = v) | _ => false
theorem atoiIs_of {l : List UInt8} {v : Int} (h : atoiIs l v = true) : Lib.atoiAll l = .ok v := by
  unfold atoiIs at h
  split at h
  · rename_i u e
    rw [e, of_decide_eq_true h]
  · cases h
theorem atoi_pos : ∀ u : Nat, u < 1001 → atoiIs (dec4 u) u = true := by decide +kernel
theorem atoi_neg : ∀ u : Nat, u < 1001 → atoiIs (45 :: dec4 u) (-(u : Int)) = true := by decide +kernel
theorem dig_dec : ∀ u : Nat, u < 1001 → digL (dec4 u) 0 = some u ∧ (dec4 u).head? ≠ some 45 ∧ dec4 u ≠ [] := by decide +kernel
theorem itoa_small {v : Int} (h : -1000 ≤ v ∧ v ≤ 1000) : (v < 0 ∧ ∃ u : Nat, u < 1001 ∧ v = -(u : Int) ∧ Lib.itoa v = 45 :: dec4 u) ∨ (0 ≤ v ∧ ∃ u : Nat, u < 1001 ∧ v = (u : Int) ∧ Lib.itoa v = dec4 u) := by
  by_cases h0 : v < 0
  · refine .inl ⟨h0, v.natAbs, by omega, by omega, ?_⟩
    unfold Lib.itoa
    rw [if_pos h0, dec4_eq _ (by omega)]
  · refine .inr ⟨by omega, v.toNat, by omega, by omega, ?_⟩
    unfold Lib.itoa
    rw [if_neg h0, dec4_eq _ (by omega)]
theorem numP_small {v : Int} (h : -1000 ≤ v ∧ v ≤ 1000) : numP (bs (Lib.itoa v)) = some v := by
  refine numP_ok ?_ rfl
  show Lib.atoiAll (Lib.itoa v) = .ok v
  rcases itoa_small h with ⟨_, u, hu, rfl, e⟩ | ⟨_, u, hu, rfl, e⟩
  · rw [e]; exact atoiIs_of (atoi_neg u hu)
  · rw [e]; exact atoiIs_of (atoi_pos u hu)
theorem rdP_small {v : Int} (h : -1000 ≤ v ∧ v ≤ 1000) : rdP (bs (Lib.itoa v)) = some v := by
  rcases itoa_small h with ⟨h0, u, hu, hv, e⟩ | ⟨h0, u, hu, hv, e⟩
  · obtain ⟨d1, d2, d3⟩ := dig_dec u hu
    have hb : bodyN (bs (Lib.itoa v)) = bs (dec4 u) := by
      unfold bodyN
      rw [if_pos (by rw [list_bs, e]; rfl), ext_list, list_bs, e, bs_size]
      simp
    have hg : sgnN (bs (Lib.itoa v)) = -1 := by
      unfold sgnN
      rw [if_pos (by rw [list_bs, e]; rfl)]
    rw [rd_yes (n := u) (by rw [hb]; exact d1), hg, hb, show (-1 : Int) * (u : Int) = v by omega]
    exact if_pos ⟨fun q => d3 (by have := congrArg (fun s : ByteArray => s.data.toList) q; simpa [bs] using this), rfl⟩
  · obtain ⟨d1, d2, d3⟩ := dig_dec u hu
    have hb : bodyN (bs (Lib.itoa v)) = bs (dec4 u) := by
      unfold bodyN
      rw [if_neg (by rw [list_bs, e]; exact d2), e]
    have hg : sgnN (bs (Lib.itoa v)) = 1 := by
      unfold sgnN
      rw [if_neg (by rw [list_bs, e]; exact d2)]
    rw [rd_yes (n := u) (by rw [hb]; exact d1), hg, hb, show (1 : Int) * (u : Int) = v by omega]
    exact if_pos ⟨fun q => d3 (by have := congrArg (fun s : ByteArray => s.data.toList) q; simpa [bs] using this), rfl⟩
theorem rdP_text {p : ByteArray} {z : Int} (h : rdP p = some z) : p = bs (Lib.itoa z) := by
  cases hd : digL (bodyN p).data.toList 0 with
  | none => rw [rd_no hd] at h; cases h
  | some n =>
    rw [rd_yes hd] at h
    split at h
    · rename_i hq
      cases h
      exact hq.2.symm
    · cases h
theorem numP_text {p : ByteArray} {v : Int} (h : numP p = some v) : p = bs (Lib.itoa v) := by
  unfold numP at h
  split at h
  · split at h
    · rename_i hq
      cases h
      exact hq.symm
    · cases h
  · cases h
theorem vr_all {f : ByteArray → Int} {ps : List ByteArray} (h : vrB (ps.map f) = true) {p : ByteArray} (hp : p ∈ ps) : -1000 ≤ f p ∧ f p ≤ 1000 := by
  obtain ⟨k, hk, rfl⟩ := List.getElem_of_mem hp
  have := (vrB_of h).2 k (by simpa using hk)
  simpa [ix, List.getD, List.getElem?_eq_getElem hk] using this
theorem rows_fwd {ps : List ByteArray} (h1 : allR ps = true) (h2 : vrB (numsR ps) = true) : allP ps = true ∧ numsP ps = numsR ps := by
  have key : ∀ p ∈ ps, numP p = some (numR p) := fun p hp => by
    have a := List.all_eq_true.1 h1 p hp
    have b := vr_all h2 hp
    unfold numR at b ⊢
    cases e : rdP p with
    | none => rw [e] at a; cases a
    | some z =>
      rw [e] at b
      have t := rdP_text e
      conv => lhs; rw [t]
      exact numP_small b
  refine ⟨List.all_eq_true.2 fun p hp => by rw [key p hp]; rfl, List.map_congr_left fun p hp => ?_⟩
  unfold numV
  rw [key p hp]
  rfl
theorem rows_bwd {ps : List ByteArray} (h1 : allP ps = true) (h2 : vrB (numsP ps) = true) : allR ps = true ∧ numsR ps = numsP ps := by
  have key : ∀ p ∈ ps, rdP p = some (numV p) := fun p hp => by
    have a := List.all_eq_true.1 h1 p hp
    have b := vr_all h2 hp
    unfold numV at b ⊢
    cases e : numP p with
    | none => rw [e] at a; cases a
    | some z =>
      rw [e] at b
      have t := numP_text e
      conv => lhs; rw [t]
      exact rdP_small b
  refine ⟨List.all_eq_true.2 fun p hp => by rw [key p hp]; rfl, List.map_congr_left fun p hp => ?_⟩
  unfold numR
  rw [key p hp]
  rfl
theorem row_same (s : ByteArray) : rrP s = rowT s := by
  have e : partsP s = partsN s := partsP_L s
  by_cases h : allR (partsN s) = true ∧ vrB (numsR (partsN s)) = true
  · obtain ⟨h1, h2⟩ := rows_fwd h.1 h.2
    rw [rrP_yes h.1 h.2, rowT_yes (by rw [e]; exact h1) (by rw [e, h2]; exact h.2), e, h2]
  · rw [rrP_no h, rowT_no]
    rintro ⟨q1, q2⟩
    rw [e] at q1 q2
    obtain ⟨h1, h2⟩ := rows_bwd q1 q2
    exact h ⟨h1, by rw [h2]; exact q2⟩
end Go.Proofs.YtagncoahobghpacGreatDoor
