/-
  Joined texts: DsS, DsN.
-/
import Derived.Test.YtagncoahobghpacGreatDoorJGdE09
import Derived.Test.YtagncoahobghpacGreatDoorJGdE08
import Derived.Test.YtagncoahobghpacGreatDoorJGdE11
import Derived.Deep.QuietTactic
import Derived.OwnWalk
import Derived.Lib.ItoaNum
import Derived.Lib.SlicesS
import Derived.IntWalk
namespace Go.Proofs.YtagncoahobghpacGreatDoor
open Go Go.RowKit
set_option linter.unusedVariables false
set_option linter.unusedSimpArgs false
set_option maxRecDepth 100000

theorem infoStr9 : (Tryz.prog.info? 9).map (fun i => (i.zero, i.size, i.bytes)) = some (some (.string ⟨#[]⟩), 1, 16) := by kernel_rfl
/-- Value v owns the texts ls in a block from B on. -/
def OwnT (B : Nat) (w : World) (v : Value) (ls : List ByteArray) : Prop := w.ownsRow B 9 1 v ls.length (ls.map Value.string)
theorem OwnT.below {B B' : Nat} {w w' : World} {v : Value} {ls : List ByteArray} (h : OwnT B w v ls) (hb : Below B' w w') (hB : w.heap.size ≤ B') : OwnT B w' v ls := by
  obtain ⟨h1, h2⟩ := h
  refine ⟨h1, ?_⟩
  rcases h2 with h2 | ⟨g, cap, cur, rfl, hg, hh, r⟩
  · exact .inl h2
  · refine .inr ⟨g, cap, cur, rfl, hg, ?_, r⟩
    rw [hb.block g (by have := (Array.getElem?_eq_some_iff.1 hh).1; omega)]; exact hh
theorem OwnT.mono {B B' : Nat} {w : World} {v : Value} {ls : List ByteArray} (h : OwnT B w v ls) (hB : B' ≤ B) : OwnT B' w v ls := by
  obtain ⟨h1, h2⟩ := h
  refine ⟨h1, ?_⟩
  rcases h2 with h2 | ⟨g, cap, cur, rfl, hg, hh, r⟩
  · exact .inl h2
  · exact .inr ⟨g, cap, cur, rfl, by omega, hh, r⟩
theorem ownT_empty (B : Nat) (w : World) (h : B ≤ w.heap.size) : OwnT B (w.alloc (.cells #[] 9)) (.slice (some ⟨w.heap.size, 0, none⟩) 0 0) [] :=
  ⟨rfl, .inr ⟨w.heap.size, 0, #[], rfl, h, World.alloc_heap_new w _, by simp, by simp, by simp, by simp⟩⟩
theorem OwnT.get {B : Nat} {w : World} {v : Value} {ls : List ByteArray} (h : OwnT B w v ls) {j : Nat} {s : ByteArray} (hj : ls[j]? = some s) : ∃ g cap, v = .slice (some ⟨g, 0, none⟩) ls.length cap ∧ B ≤ g ∧ g < w.heap.size ∧ w.cell? ⟨g, j, none⟩ = some (.string s) := by
  have hl := (List.getElem?_eq_some_iff.1 hj).1
  rcases h.2 with ⟨rfl, e0⟩ | ⟨g, cap, cur, rfl, hb, hg, hn, hm, hs, ht⟩
  · omega
  · refine ⟨g, cap, rfl, hb, (Array.getElem?_eq_some_iff.1 hg).1, ?_⟩
    have := World.ownsRow.cellAt (g := g) (cap := cap) h j (by simpa using hl)
    rw [this]
    simp [hj]
theorem app_str {P : Program} {w : World} {ops : Array Oper} {rest : List Oper} {o : Oper} {a : Act} {Q : Exit → Act → World → Prop} (hgd : o.guard = none) (s x : Operand) (t : TypeId)
    (ho : o.op = .call { callee := .builtin .append, args := #[s, x], argTypes := #[t, t] })
    (B : Nat) (ht : P.underlying t = some (.slice 9)) (hinfo : (P.info? 9).map (fun i => (i.zero, i.size, i.bytes)) = some (some (.string ⟨#[]⟩), 1, 16))
    (v : Value) (xs : List ByteArray) (hs : a.eval s = v) (hown : OwnT B w v xs) (ad : Addr) (hx : a.eval x = .slice (some ad) 1 1) (u : ByteArray) (hnew : w.cell? ad = some (.string u))
    (hlen : xs.length ≤ 1048577) (hbase : B ≤ w.heap.size)
    (h : ∀ v' w', OwnT B w' v' (xs ++ [u]) → w.grownBy w' v.ownBlock → wpList P ops Q rest (a.put o.dst v') w') : wpList P ops Q (o :: rest) a w := by
  obtain ⟨i0, hi, hz0, hz1, hz2⟩ := info_parts hinfo
  refine wpList_append_own w hgd s x t ho B 9 i0 (.string ⟨#[]⟩) 1 16 ht hi hz0 hz1 hz2 rfl (by decide) v xs.length _ hs hown ad 1 1 [.string u] hx rfl ?_ ?_ ?_ ?_ hbase ?_
  · intro j y hj
    match j, hj with
    | 0, hj =>
      simp at hj; subst hj
      rw [show ad.add 0 = ad by cases ad; simp [Addr.add]]; exact hnew
  · intro y hy; simp at hy; subst hy; rfl
  · unfold maxLen; omega
  · omega
  · intro v' w' h1 h2 _
    refine h v' w' ?_ h2
    unfold OwnT
    simpa using h1
theorem ownT_below {w0 w w' : World} {B : Nat} {v : Value} {xs : List ByteArray} (hB : Below B w0 w) (hO : OwnT B w v xs) (hg : w.grownBy w' v.ownBlock) (h0 : B ≤ w0.heap.size) : Below B w0 w' := by
  refine hB.grown hg (Nat.le_trans h0 hB.size) fun k hk => ?_
  rcases hO.2 with ⟨rfl, _⟩ | ⟨g, cap, cur, rfl, hb, _⟩
  · simp [Value.ownBlock] at hk
  · obtain rfl : g = k := by simpa [Value.ownBlock] using hk
    exact hb
theorem ext_list (s : ByteArray) (f k : Nat) : s.extract f k = bs ((s.data.toList.take k).drop f) := by
  rw [← bs_list (s.extract f k), ByteArray.data_extract, Array.toList_extract]
  simp [List.extract, List.drop_take]
theorem take_at (s : ByteArray) {k : Nat} (h : k < s.size) : s.data.toList.take (k + 1) = s.data.toList.take k ++ [s[k]] := by
  have h' : k < s.data.toList.length := by rw [Array.length_toList]; exact h
  rw [List.take_add_one, List.getElem?_eq_getElem h']
  simp [ByteArray.getElem_eq_getElem_data]

set_option maxHeartbeats 8000000 in
theorem splitAt_any (s : ByteArray) (c : UInt8) (w : World) (hs : s.size ≤ 1048576) :
    Calls Tryz.prog 30 #[.string s, .int .u8 (c.toNat : Nat)] w fun e w' => ∃ v, e = .returned v ∧ OwnT w.heap.size w' v ((splitL c s.data.toList).map bs) ∧ Below w.heap.size w w' := by
  have hN0 := ownT_empty w.heap.size w (Nat.le_refl _)
  have hB0 : Below w.heap.size w (w.alloc (.cells #[] 9)) := (Below.refl w.heap.size w).alloc (Nat.le_refl _) _
  have hL : s.data.toList.length = s.size := Array.length_toList
  go_enter Tryz.func30, Tryz.ntmps30
  go_wp2_with fail
  go_loopw [5, 6, 7] (fun o f i wr => ∃ (k fr : Nat) (A : List (List UInt8)), k ≤ s.size ∧ i = .int .i64 k ∧ f = .int .i64 fr ∧ fr ≤ k ∧ OwnT w.heap.size wr o (A.map bs) ∧ Below w.heap.size w wr ∧ A.length ≤ k ∧ Hid (splitL c (s.data.toList.take k) = A ++ [(s.data.toList.take k).drop fr])) (fun _ _ i _ => s.size - (intOf i).toNat)
  case atStart => exact ⟨0, 0, [], Nat.zero_le _, rfl, rfl, Nat.le_refl _, hN0, hB0, Nat.le_refl _, rfl⟩
  case round =>
    obtain ⟨k, fr, A, hk, rfl, rfl, hfr, hO, hB, hA, hS⟩ := hrel
    clear hN0 hB0
    by_cases hlt : k < s.size
    · have i1 : (k : Int) < (s.size : Int) := by omega
      have HT := Lib.hid (take_at s hlt)
      have hL' : k ≤ s.data.toList.length := by rw [hL]; omega
      have e3 : IntKind.i64.wrap ((k : Int) + 1) = (k : Int) + 1 := IntWalk.i64_in _ (by omega)
      by_cases hc : s[k] = c
      · have HS : Hid (splitL c (s.data.toList.take (k + 1)) = (A ++ [(s.data.toList.take k).drop fr]) ++ [(s.data.toList.take (k + 1)).drop (k + 1)]) := Lib.hid (by
          have e0 : (s.data.toList.take (k + 1)).drop (k + 1) = [] := List.drop_eq_nil_of_le (by rw [List.length_take]; omega)
          rw [e0, HT.out, splitL_snoc hS.out, if_pos hc])
        have hb : s[k].toNat = c.toNat := by rw [hc]
        have i2 : (fr : Int) ≤ (k : Int) := by omega
        have i3 : (k : Int) ≤ (s.size : Int) := by omega
        have HX : Hid ((A.map bs) ++ [s.extract fr k] = (A ++ [(s.data.toList.take k).drop fr]).map bs) := Lib.hid (by rw [List.map_append, ext_list]; rfl)
        clear HT hL' hS hL hc
        go_wp2_with (at_builtin; refine app_str rfl _ _ 23 rfl w.heap.size Tryz.underlying23 infoStr9 _ (A.map bs) rfl (World.ownsRow.alloc hO _) ⟨wr.heap.size, 0, none⟩ rfl (s.extract fr k) ?q1 ?q2 ?q3 ?_)
        case q1 => exact cell_new1 _ _ _
        case q2 => first | (rw [List.length_map]; omega) | omega
        case q3 => have := hB.size; first | omega | (simp; omega)
        intro v' w5 hO' hg'
        have hB' := ownT_below (hB.alloc hB.size _) (World.ownsRow.alloc hO _) hg' (Nat.le_refl _)
        rw [HX.out] at hO'
        clear hO hB hg'
        go_wp2
        go_roundw
        case rel => exact ⟨k + 1, k + 1, _, by omega, by go_num, by go_num, Nat.le_refl _, hO', hB', by rw [List.length_append]; simp; omega, HS⟩
        case measure => simp [intOf]; omega
      · have HS : Hid (splitL c (s.data.toList.take (k + 1)) = A ++ [(s.data.toList.take (k + 1)).drop fr]) := Lib.hid (by
          rw [HT.out, splitL_snoc hS.out, if_neg hc, List.drop_append_of_le_length (by rw [List.length_take]; omega)])
        have hb : ((s[k].toNat : Int) == (c.toNat : Int)) = false := by
          rw [beq_eq_false_iff_ne]
          intro e
          exact hc (UInt8.toNat_inj.1 (by omega))
        clear HT hL' hS hL hc
        go_wp2
        go_roundw
        case rel => exact ⟨k + 1, fr, A, by omega, by go_num, rfl, by omega, hO, hB, by omega, HS⟩
        case measure => simp [intOf]; omega
    · obtain rfl : k = s.size := by omega
      have HX : Hid ((A.map bs) ++ [s.extract fr s.size] = (splitL c s.data.toList).map bs) := Lib.hid (by
        have := hS.out
        rw [List.take_of_length_le (by omega)] at this
        rw [this, List.map_append, ext_list, List.take_of_length_le (by omega)]
        rfl)
      have i1 : ¬ ((s.size : Int) < (s.size : Int)) := by omega
      have i2 : (fr : Int) ≤ (s.size : Int) := by omega
      clear hS hL
      go_wp2_with (at_builtin; refine app_str rfl _ _ 23 rfl w.heap.size Tryz.underlying23 infoStr9 _ (A.map bs) rfl (World.ownsRow.alloc hO _) ⟨wr.heap.size, 0, none⟩ rfl (s.extract fr s.size) ?q1 ?q2 ?q3 ?_)
      case q2 => first | (rw [List.length_map]; omega) | omega
      case q3 => have := hB.size; first | omega | (simp; omega)
      intro v' w5 hO' hg'
      have hB' := ownT_below (hB.alloc hB.size _) (World.ownsRow.alloc hO _) hg' (Nat.le_refl _)
      rw [HX.out] at hO'
      clear hO hB hg'
      go_wp2
      go_ret
      exact ⟨_, rfl, hO', hB'⟩
end Go.Proofs.YtagncoahobghpacGreatDoor

namespace Go.Proofs.YtagncoahobghpacGreatDoor
open Go Go.RowKit
set_option linter.unusedVariables false
set_option maxRecDepth 100000

theorem bs_app (a b : List UInt8) : bs a ++ bs b = bs (a ++ b) := by
  apply ByteArray.ext
  show (bs a ++ bs b).data = (a ++ b).toArray
  rw [ByteArray.data_append]
  simp [bs]
def digs : ByteArray := ⟨#[48, 49, 50, 51, 52, 53, 54, 55, 56, 57]⟩
theorem digs_one : ∀ i : Fin 10, digs.extract i.val (i.val + 1) = bs (Lib.decDigits i.val) := by
  intro i
  rw [Lib.decDigits_one i.isLt]
  revert i
  decide +kernel

set_option maxHeartbeats 4000000 in
theorem number_nn (u : Nat) : ∀ w, u ≤ 9223372036854775807 → Calls Tryz.prog 25 #[.int .i64 u] w fun e w' => e = .returned (.string (bs (Lib.decDigits u))) ∧ w' = w := by
  induction u using Nat.strongRecOn with
  | _ u ih =>
    intro w hu
    have i1 : ¬ ((u : Int) < 0) := by omega
    by_cases h : u < 10
    · have i2 : (u : Int) < 10 := by omega
      have HD := Lib.hid (digs_one ⟨u, h⟩)
      clear ih
      go_enter Tryz.func25, Tryz.ntmps25
      go_wp2_with fail
      go_ret
      exact ⟨congrArg (fun s => Ending.returned (Value.string s)) HD.out, rfl⟩
    · have i2 : ¬ ((u : Int) < 10) := by omega
      have H1 := Lib.hid fun w => ih (u / 10) (by omega) w (by omega)
      have H2 := Lib.hid fun w => ih (u % 10) (by omega) w (by omega)
      rw [show ((u / 10 : Nat) : Int) = (u : Int) / 10 by omega] at H1
      rw [show ((u % 10 : Nat) : Int) = (u : Int) % 10 by omega] at H2
      have HE : Hid (bs (Lib.decDigits (u / 10)) ++ bs (Lib.decDigits (u % 10)) = bs (Lib.decDigits u)) := Lib.hid (by
        rw [bs_app]
        conv => rhs; rw [Lib.decDigits, dif_neg h]
        rw [Lib.decDigits_one (show u % 10 < 10 by omega)])
      clear ih
      go_enter Tryz.func25, Tryz.ntmps25
      go_wp2_with fail
      have l1 := dec_len (u / 10) (by omega)
      have l2 := dec_len (u % 10) (by omega)
      obtain ⟨p, hp⟩ : ∃ p, p = bs (Lib.decDigits (u / 10)) := ⟨_, rfl⟩
      obtain ⟨q, hq⟩ : ∃ q, q = bs (Lib.decDigits (u % 10)) := ⟨_, rfl⟩
      rw [← hp] at l1 HE H1
      rw [← hq] at l2 HE H2
      have i3 : ¬ (9223372036854775807 < p.size + q.size) := by omega
      clear hp hq l1 l2
      refine (H1.out w).mono ?_
      rintro e w1 ⟨rfl, rfl⟩
      go_wp2_with fail
      refine (H2.out w1).mono ?_
      rintro e w2 ⟨rfl, rfl⟩
      go_wp2_with fail
      go_ret
      exact ⟨congrArg (fun s => Ending.returned (Value.string s)) HE.out, rfl⟩

set_option maxHeartbeats 4000000 in
theorem number_any (n : Int) (w : World) (h0 : -9223372036854775808 < n) (h1 : n ≤ 9223372036854775807) : Calls Tryz.prog 25 #[.int .i64 n] w fun e w' => e = .returned (.string (bs (Lib.itoa n))) ∧ w' = w := by
  by_cases h : n < 0
  · have HN := Lib.hid fun w => number_nn n.natAbs w (by omega)
    rw [show ((n.natAbs : Nat) : Int) = -n by omega] at HN
    have e1 : IntKind.i64.wrap (-n) = -n := IntWalk.i64_in _ (by omega)
    have HE : Hid (bs [45] ++ bs (Lib.decDigits n.natAbs) = bs (Lib.itoa n)) := Lib.hid (by
      rw [bs_app]
      unfold Lib.itoa
      rw [if_pos h]
      rfl)
    have l1 := dec_len n.natAbs (by omega)
    obtain ⟨p, hp⟩ : ∃ p, p = bs (Lib.decDigits n.natAbs) := ⟨_, rfl⟩
    rw [← hp] at l1 HE HN
    have i3 : ¬ (9223372036854775807 < 1 + p.size) := by omega
    clear hp l1
    go_enter Tryz.func25, Tryz.ntmps25
    go_wp2_with fail
    refine (HN.out w).mono ?_
    rintro e w1 ⟨rfl, rfl⟩
    go_wp2_with fail
    go_ret
    exact ⟨congrArg (fun s => Ending.returned (Value.string s)) HE.out, rfl⟩
  · have := number_nn n.toNat w (by omega)
    rw [show ((n.toNat : Nat) : Int) = n by omega] at this
    unfold Lib.itoa
    rw [if_neg h]
    exact this

theorem join_snoc (c : UInt8) : ∀ (l : List (List UInt8)) (x : List UInt8), l ≠ [] → Lib.join (l ++ [x]) [c] = Lib.join l [c] ++ [c] ++ x := by
  intro l x h
  induction l with
  | nil => exact absurd rfl h
  | cons y l ih =>
    cases l with
    | nil => simp [Lib.join]
    | cons z l =>
      have := ih (by simp)
      simp [Lib.join] at this ⊢
      exact this
/-- The text of the first k numbers. -/
def jk (xs : List Int) (k : Nat) : ByteArray := listT (xs.take k)
theorem jk_next (xs : List Int) (k : Nat) (h : k < xs.length) : jk xs (k + 1) = (if 0 < k then jk xs k ++ bs [44] else jk xs k) ++ bs (Lib.itoa (ix xs k)) := by
  have e : xs.take (k + 1) = xs.take k ++ [ix xs k] := by
    rw [List.take_add_one, List.getElem?_eq_getElem h]
    simp [ix, List.getD, List.getElem?_eq_getElem h]
  unfold jk listT
  rw [e, List.map_append]
  split
  · rename_i hk
    rw [bs_app, bs_app, List.map_cons, List.map_nil, join_snoc 44 _ _ (by
      intro q
      have := congrArg List.length q
      rw [List.length_map, List.length_take, List.length_nil] at this
      omega)]
  · rename_i hk
    obtain rfl : k = 0 := by omega
    simp [Lib.join, bs_app]

set_option maxHeartbeats 4000000 in
theorem listText_any (v : Value) (xs : List Int) (w : World) (hr : Rd w v xs) (hl : xs.length ≤ 1048576) (hw : ∀ j, j < xs.length → -9223372036854775808 < ix xs j ∧ ix xs j ≤ 9223372036854775807) :
    Calls Tryz.prog 15 #[v] w fun e w' => e = .returned (.string (listT xs)) ∧ w' = w := by
  obtain ⟨a, cap, rfl, hr⟩ := hr
  obtain ⟨n, hn⟩ : ∃ n, n = xs.length := ⟨_, rfl⟩
  have HN := Lib.hid hn
  have HR := Lib.hid hr
  have HW := Lib.hid hw
  have HJ := Lib.hid (jk_next xs)
  have HF : Hid (jk xs n = listT xs) := Lib.hid (by unfold jk; rw [hn, List.take_length])
  rw [← hn] at hl ⊢
  clear hn hr hw
  go_enter Tryz.func15, Tryz.ntmps15
  go_wp2_with fail
  go_loopw [3, 4] (fun s i wr => ∃ k : Nat, k ≤ n ∧ i = .int .i64 k ∧ s = .string (jk xs k) ∧ wr = w) (fun _ i _ => n - (intOf i).toNat)
  case atStart => exact ⟨0, Nat.zero_le _, rfl, rfl, rfl⟩
  case round =>
    obtain ⟨k, hk, rfl, rfl, rfl⟩ := hrel
    by_cases hlt : k < n
    · have hkx : k < xs.length := by rw [← HN.out]; exact hlt
      obtain ⟨b, off, rfl, hbl, hc⟩ : ∃ b off, a = some ⟨b, off, none⟩ ∧ b < wr.heap.size ∧ wr.cell? ⟨b, off + k, none⟩ = some (.int .i64 (ix xs k)) := by
        rcases HR.out with h | ⟨b, off, h, hb, hc⟩
        · rw [h] at hkx; exact absurd hkx (Nat.not_lt_zero k)
        · exact ⟨b, off, h, hb, hc k hkx⟩
      have hv := HW.out k hkx
      have HS := Lib.hid (HJ.out k hkx)
      have i1 : (k : Int) < (n : Int) := by omega
      obtain ⟨z, hz⟩ : ∃ z, z = ix xs k := ⟨_, rfl⟩
      obtain ⟨s0, hs0⟩ : ∃ s0, s0 = jk xs k := ⟨_, rfl⟩
      have HQ := Lib.hid (number_any z wr (by rw [hz]; exact hv.1) (by rw [hz]; exact hv.2))
      rw [← hz] at hc HS
      have l0 : s0.size ≤ 1048576 * 22 := by
        rw [hs0]
        exact Nat.le_trans (listT_len fun m hm => by
          obtain ⟨j, hj, rfl⟩ := List.getElem_of_mem (List.mem_of_mem_take hm)
          have := HW.out j hj
          simp only [ix, List.getD, List.getElem?_eq_getElem hj, Option.getD_some] at this
          omega) (Nat.mul_le_mul_right _ (by rw [List.length_take]; omega))
      have l2 := itoa_len z (by rw [hz]; omega) (by rw [hz]; exact hv.2)
      obtain ⟨r, hr⟩ : ∃ r, r = bs (Lib.itoa z) := ⟨_, rfl⟩
      rw [← hr] at l2 HQ HS
      rw [← hs0] at HS ⊢
      have i3 : ¬ (9223372036854775807 < s0.size + 1) := by omega
      have i4 : ¬ (9223372036854775807 < s0.size + r.size) := by omega
      have i5 : ¬ (9223372036854775807 < s0.size + 1 + r.size) := by omega
      clear hz hs0 hv hkx hr l0 l2
      by_cases hk0 : 0 < k
      · have i2 : (0 : Int) < (k : Int) := by omega
        rw [if_pos hk0] at HS
        go_wp2_with fail
        refine HQ.out.mono ?_
        rintro e w4 ⟨rfl, rfl⟩
        go_wp2
        go_roundw
        case rel => exact ⟨k + 1, by omega, by go_num, congrArg Value.string HS.out.symm, trivial⟩
        case measure => simp [intOf]; omega
      · obtain rfl : k = 0 := by omega
        rw [if_neg hk0] at HS
        rw [Nat.add_zero] at hc
        go_wp2_with fail
        refine HQ.out.mono ?_
        rintro e w4 ⟨rfl, rfl⟩
        go_wp2
        go_roundw
        case rel => exact ⟨1, by omega, by go_num, congrArg Value.string HS.out.symm, trivial⟩
        case measure => simp [intOf]; omega
    · obtain rfl : k = n := by omega
      go_wp2
      go_ret
      exact ⟨congrArg (fun s => Ending.returned (Value.string s)) HF.out, rfl⟩
end Go.Proofs.YtagncoahobghpacGreatDoor
