/-
  Joined texts: App, Info, Valid, DkM.
-/
import Derived.Test.YtagncoahobghpacGreatDoorBase
import Derived.Deep.RegionLaw
import Derived.Maps.AppendAt
import Derived.Maps.Range
import Derived.Test.YtagncoahobghpacGreatDoorChecked
import Derived.Lib.AtoiAll
import Derived.Lib.ItoaNum
import Derived.Lib.Split
import Derived.Lib.Join
import Derived.Lib.ItoaLen
namespace Go.Proofs.YtagncoahobghpacGreatDoor
open Go.RowKit
set_option linter.unusedVariables false

/-- out = append(out, u): out owned, u in a new block of one cell. -/
theorem app_int {P : Program} {w : World} {ops : Array Oper} {rest : List Oper} {o : Oper} {a : Act} {Q : Exit → Act → World → Prop} (hgd : o.guard = none) (s x : Operand) (t : TypeId)
    (ho : o.op = .call { callee := .builtin .append, args := #[s, x], argTypes := #[t, t] })
    (B E : Nat) (ht : P.underlying t = some (.slice E)) (hinfo : (P.info? E).map (fun i => (i.zero, i.size, i.bytes)) = some (some (.int .i64 0), 1, 8))
    (v : Value) (xs : List Int) (hs : a.eval s = v) (hown : Own E B w v xs) (ad : Addr) (hx : a.eval x = .slice (some ad) 1 1) (u : Int) (hnew : w.cell? ad = some (.int .i64 u))
    (hlen : xs.length ≤ 16777216) (hbase : B ≤ w.heap.size)
    (h : ∀ v' w', Own E B w' v' (xs ++ [u]) → w.grownBy w' v.ownBlock → wpList P ops Q rest (a.put o.dst v') w') : wpList P ops Q (o :: rest) a w := by
  obtain ⟨i0, hi, hz0, hz1, hz2⟩ := info_parts hinfo
  refine wpList_append_own w hgd s x t ho B E i0 (.int .i64 0) 1 8 ht hi hz0 hz1 hz2 rfl (by decide) v xs.length _ hs hown ad 1 1 [.int .i64 u] hx rfl ?_ ?_ ?_ ?_ hbase ?_
  · intro j y hj
    match j, hj with
    | 0, hj =>
      simp at hj; subst hj
      rw [show ad.add 0 = ad by cases ad; simp [Addr.add]]; exact hnew
  · intro y hy; simp at hy; subst hy; rfl
  · unfold maxLen; omega
  · omega
  · intro v' w' h1 h2 _
    refine h v' w' ?_ h2
    unfold Own
    simpa using h1

theorem bounds_i64' {n : Int} (h : (Lit.int .i64 n).wf = true) : -9223372036854775808 ≤ n ∧ n ≤ 9223372036854775807 := by
  simp only [Lit.wf, Bool.and_eq_true, decide_eq_true_eq] at h
  exact ⟨h.1, h.2⟩

theorem ix_wf {xs : List Int} (h : ∀ n ∈ xs, (Lit.int .i64 n).wf = true) (j : Nat) : wrap64 (ix xs j) = ix xs j := by
  by_cases hj : j < xs.length
  · have : ix xs j ∈ xs := by simp [ix, List.getD, List.getElem?_eq_getElem hj]
    exact w64_id (bounds_i64' (h _ this))
  · simp [ix, List.getD, List.getElem?_eq_none (Nat.le_of_not_lt hj), wrap64]
theorem tab_wf {xs : List Int} (h : ∀ n ∈ xs, (Lit.int .i64 n).wf = true) : xs = tab xs.length fun j => wrap64 (ix xs j) :=
  eq_tab rfl fun j _ => (ix_wf h j).symm

/-- []int{}: owns nothing yet. -/
theorem own_empty (E B : Nat) (w : World) (hB : B ≤ w.heap.size) : Own E B (w.alloc (.cells #[] E)) (.slice (some ⟨w.heap.size, 0, none⟩) 0 0) [] :=
  World.ownsRow_made w #[] 0 hB (Nat.zero_le _) rfl

theorem Own.grow {E B : Nat} {w : World} {v : Value} {xs : List Int} (h : Own E B w v xs) (o : Obj) : Own E B (w.alloc o) v xs := World.ownsRow.alloc h o
theorem app_below {E : Nat} {w wr w1 : World} {v : Value} {xs : List Int} {o : Obj} (hB : Below w.heap.size w wr) (hO : Own E w.heap.size wr v xs) (hg : (wr.alloc o).grownBy w1 v.ownBlock) : Below w.heap.size w w1 :=
  (hB.alloc hB.size o).grown hg (by have := hB.size; simp; omega) fun k hk => (World.ownsRow.lt hO k hk).1
theorem cell_new1 (w : World) (u : Value) (E : Nat) : (w.alloc (.cells #[u] E)).cell? ⟨w.heap.size, 0, none⟩ = some u := by
  rw [World.cell?_alloc_at _ _ _ _ rfl]; rfl

theorem grown_alloc (w : World) (o : Obj) : w.grownBy (w.alloc o) none := World.grownBy_alloc w o none
theorem grown_alloc_drew (w : World) (o : Obj) : w.grownBy (w.alloc o).drew none :=
  ⟨rfl, rfl, rfl, by simp, fun k hk _ => Below.heap_alloc w o k hk⟩
theorem grown_thru {a b c : World} {r : Option Nat} (h : a.grownBy b none) (k : b.grownBy c r) : a.grownBy c r :=
  ⟨k.os.trans h.os, k.tape.trans h.tape, k.output.trans h.output, Nat.le_trans h.size k.size, fun i hi hne => (k.block i (Nat.lt_of_lt_of_le hi h.size) hne).trans (h.block i hi (by simp))⟩

/-- The same in a region that draws its order: w0 is the world before the region. -/
theorem step_app_int {P : Program} {ops : Array Oper} {o : Oper} {a : Act} {w : World} {K : Act → World → Prop} {Q : Exit → Act → World → Prop} {F : Prop} (w0 : World)
    (hgd : o.guard = none) (s x : Operand) (t : TypeId) (ho : o.op = .call { callee := .builtin .append, args := #[s, x], argTypes := #[t, t] })
    (B E : Nat) (ht : P.underlying t = some (.slice E)) (hinfo : (P.info? E).map (fun i => (i.zero, i.size, i.bytes)) = some (some (.int .i64 0), 1, 8))
    (v : Value) (xs : List Int) (hs : a.eval s = v) (hown0 : Own E B w0 v xs) (hg0 : w0.grownBy w none) (ad : Addr) (hx : a.eval x = .slice (some ad) 1 1) (u : Int) (hnew : w.cell? ad = some (.int .i64 u))
    (hlen : xs.length ≤ 16777216) (hbase : B ≤ w0.heap.size)
    (h : ∀ v' w', Own E B w' v' (xs ++ [u]) → w0.grownBy w' v.ownBlock → K (a.put o.dst v') w') : if Region.wanted o (yielded ops a.tmps) = true then Oper.wp P o a w K Q else F := by
  have hw : Region.wanted o (yielded ops a.tmps) = true := by simp [Region.wanted, hgd]
  rw [if_pos hw]
  have hown : Own E B w v xs := hown0.kept hg0 (by cases v.ownBlock <;> simp)
  obtain ⟨i0, hi, hz0, hz1, hz2⟩ := info_parts hinfo
  refine wp_append_own w s x t ho B E i0 (.int .i64 0) 1 8 ht hi hz0 hz1 hz2 rfl (by decide) v xs.length _ hs hown ad 1 1 [.int .i64 u] hx rfl ?_ ?_ ?_ ?_ (Nat.le_trans hbase hg0.size) ?_
  · intro j y hj
    match j, hj with
    | 0, hj =>
      simp at hj; subst hj
      rw [show ad.add 0 = ad by cases ad; simp [Addr.add]]; exact hnew
  · intro y hy; simp at hy; subst hy; rfl
  · unfold maxLen; omega
  · omega
  · intro v' w' h1 h2 _
    refine h v' w' ?_ (grown_thru hg0 h2)
    unfold Own
    simpa using h1

theorem app_below0 {E : Nat} {w wr w1 : World} {v : Value} {xs : List Int} (hB : Below w.heap.size w wr) (hO : Own E w.heap.size wr v xs) (hg : wr.grownBy w1 v.ownBlock) : Below w.heap.size w w1 :=
  hB.grown hg hB.size fun k hk => (World.ownsRow.lt hO k hk).1

end Go.Proofs.YtagncoahobghpacGreatDoor

namespace Go.Proofs.YtagncoahobghpacGreatDoor
open Go.RowKit
set_option linter.unusedVariables false

theorem cellsInt : Tryz.prog.cellsOf 3 = 1 := by kernel_rfl
theorem infoInt : (Tryz.prog.info? 3).map (fun i => (i.zero, i.size, i.bytes)) = some (some (.int .i64 0), 1, 8) := by kernel_rfl

theorem ofInt_i64 (a : Nat) (ha : a < 9223372036854775808) : (BitVec.ofInt 64 (a : Int)).toNat = a := by
  rw [BitVec.ofInt_natCast, BitVec.toNat_ofNat]; exact Nat.mod_eq_of_lt (by omega)
theorem i64_and_nat (a b : Nat) (ha : a < 9223372036854775808) (hb : b < 9223372036854775808) : bits .and .i64 (a : Int) (b : Int) = ((a &&& b : Nat) : Int) := by
  have hx : a &&& b < 2 ^ 63 := Nat.and_lt_two_pow _ (by omega)
  show IntKind.i64.wrap ((BitVec.ofInt 64 (a : Int) &&& BitVec.ofInt 64 (b : Int)).toNat : Int) = _
  rw [BitVec.toNat_and, ofInt_i64 a ha, ofInt_i64 b hb, IntKind.wrap_i64]
  omega
theorem and_bit (x j : Nat) : (x &&& 2 ^ j) = (x / 2 ^ j % 2) * 2 ^ j := by
  rcases Nat.mod_two_eq_zero_or_one (x / 2 ^ j) with h | h
  · rw [h, Nat.zero_mul]
    apply Nat.eq_of_testBit_eq
    intro i
    rw [Nat.testBit_and, Nat.testBit_two_pow, Nat.zero_testBit]
    by_cases e : j = i
    · subst e; rw [Nat.testBit_eq_decide_div_mod_eq, h]; simp
    · simp [e]
  · rw [h, Nat.one_mul]
    apply Nat.eq_of_testBit_eq
    intro i
    rw [Nat.testBit_and, Nat.testBit_two_pow]
    by_cases e : j = i
    · subst e; rw [Nat.testBit_eq_decide_div_mod_eq, h]; simp
    · simp [e]

end Go.Proofs.YtagncoahobghpacGreatDoor

namespace Go.Proofs.YtagncoahobghpacGreatDoor
open Go.RowKit
set_option linter.unusedVariables false

/-- Is n in the range? -/
def inR (n lo hi : Int) : Bool := decide (lo ≤ n ∧ n ≤ hi)
theorem inR_yes {n lo hi : Int} (h : lo ≤ n ∧ n ≤ hi) : inR n lo hi = true := by simp [inR, h]
theorem inR_no {n lo hi : Int} (h : ¬ (lo ≤ n ∧ n ≤ hi)) : inR n lo hi = false := by simp only [inR, decide_eq_false_iff_not]; exact h

/-- Are the numbers a row? -/
def vrB (xs : List Int) : Bool := decide (xs.length ≤ 16 ∧ ∀ j, j < xs.length → -1000 ≤ ix xs j ∧ ix xs j ≤ 1000)
theorem vrB_long {xs : List Int} (h : ¬ xs.length ≤ 16) : vrB xs = false := by simp only [vrB, decide_eq_false_iff_not]; exact fun e => h e.1
theorem vrB_no {xs : List Int} (k : Nat) (hk : k < xs.length) (h : ¬ (-1000 ≤ ix xs k ∧ ix xs k ≤ 1000)) : vrB xs = false := by
  simp only [vrB, decide_eq_false_iff_not]; exact fun e => h (e.2 k hk)
theorem vrB_yes {xs : List Int} (h : xs.length ≤ 16) (h2 : ∀ j, j < xs.length → -1000 ≤ ix xs j ∧ ix xs j ≤ 1000) : vrB xs = true := by
  simp only [vrB, decide_eq_true_eq]; exact ⟨h, h2⟩
theorem vrB_of {xs : List Int} (h : vrB xs = true) : xs.length ≤ 16 ∧ ∀ j, j < xs.length → -1000 ≤ ix xs j ∧ ix xs j ≤ 1000 := by
  simpa only [vrB, decide_eq_true_eq] using h

theorem vr_max {xs : List Int} (h : vrB xs = true) : xs.length ≤ 1048576 := by have := (vrB_of h).1; omega

theorem inRange_any (n lo hi : Int) (w : World) :
    Calls Tryz.prog 56 #[.int .i64 n, .int .i64 lo, .int .i64 hi] w fun e w' => e = .returned (.bool (inR n lo hi)) ∧ w = w' := by
  by_cases h1 : lo ≤ n
  · by_cases h2 : n ≤ hi
    · have h := inR_yes ⟨h1, h2⟩
      rw [h]; clear h
      go_enter Tryz.func56, Tryz.ntmps56
      go_wp2
      go_ret
      exact ⟨rfl, rfl⟩
    · have h := inR_no (n := n) (lo := lo) (hi := hi) (fun e => h2 e.2)
      rw [h]; clear h
      go_enter Tryz.func56, Tryz.ntmps56
      go_wp2
      go_ret
      exact ⟨rfl, rfl⟩
  · have h := inR_no (n := n) (lo := lo) (hi := hi) (fun e => h1 e.1)
    rw [h]; clear h
    go_enter Tryz.func56, Tryz.ntmps56
    go_wp2
    go_ret
    exact ⟨rfl, rfl⟩

set_option maxHeartbeats 1000000 in
theorem implValid_q (v : Value) (xs : List Int) (w : World) (h : Rd w v xs) (hl : xs.length ≤ maxLen) :
    Calls Tryz.prog 73 #[v] w fun e w' => e = .returned (.bool (vrB xs)) ∧ w = w' := by
  unfold maxLen at hl
  obtain ⟨a, cap, rfl, h⟩ := h
  by_cases hlen : xs.length ≤ 16
  · rcases h with rfl | ⟨b, off, rfl, hb, hc⟩
    · go_enter Tryz.func73, Tryz.ntmps73
      go_wp2
      refine wp_loop_rounds 1 ?_
      rw [rounds_succ]
      go_wp2
      go_ret
      exact ⟨rfl, rfl⟩
    · go_enter Tryz.func73, Tryz.ntmps73
      go_wp2
      go_loop [10] (fun i => ∃ k : Nat, k ≤ xs.length ∧ i = .int .i64 k ∧ Hid (∀ j, j < k → -1000 ≤ ix xs j ∧ ix xs j ≤ 1000)) (fun i => xs.length - (intOf i).toNat)
      case atStart => exact ⟨0, Nat.zero_le _, rfl, fun j hj => absurd hj (Nat.not_lt_zero j)⟩
      case round =>
        obtain ⟨k, hk, rfl, hok⟩ := hrel
        by_cases hlt : k < xs.length
        · have hck := hc k hlt
          have HL := Lib.hid hlen
          clear hc
          by_cases h1 : -1000 ≤ ix xs k
          · by_cases h2 : ix xs k ≤ 1000
            · go_wp2
              go_round
              case rel =>
                refine ⟨k + 1, by omega, by go_num, fun j hj => ?_⟩
                by_cases e : j = k
                · subst e; exact ⟨h1, h2⟩
                · exact hok.out j (by omega)
              case measure => simp [intOf]; omega
            · have hno := Lib.hid (vrB_no k hlt (fun e => h2 e.2))
              go_wp2
              go_ret
              exact ⟨ret_bool hno.out.symm, rfl⟩
          · have hno := Lib.hid (vrB_no k hlt (fun e => h1 e.1))
            go_wp2
            go_ret
            exact ⟨ret_bool hno.out.symm, rfl⟩
        · have hkl : k = xs.length := by omega
          subst hkl
          have hyes := Lib.hid (vrB_yes hlen hok.out)
          go_wp2
          go_ret
          exact ⟨ret_bool hyes.out.symm, rfl⟩
  · have hno := Lib.hid (vrB_long hlen)
    clear h
    go_enter Tryz.func73, Tryz.ntmps73
    go_wp2
    go_ret
    exact ⟨ret_bool hno.out.symm, rfl⟩

theorem implValid_any (v : Value) (xs : List Int) (w : World) (h : Rd w v xs) (hl : xs.length ≤ maxLen) :
    Calls Tryz.prog 73 #[v] w (Says (vrB xs) w) :=
  (implValid_q v xs w h hl).mono fun e w' ⟨h1, h2⟩ => ⟨h1, by rw [← h2]; exact Below.refl _ _⟩

set_option maxHeartbeats 1000000 in
theorem specvalid_any (v : Value) (xs : List Int) (w : World) (h : Rd w v xs) (hl : xs.length ≤ maxLen) :
    Calls Tryz.prog 53 #[v] w (Says (vrB xs) w) := by
  unfold maxLen at hl
  obtain ⟨a, cap, rfl, h⟩ := h
  rcases h with rfl | ⟨b, off, rfl, hb, hc⟩
  · go_enter Tryz.func53, Tryz.ntmps53
    go_wp2
    refine wp_loop_rounds 1 ?_
    rw [rounds_succ]
    go_wp2
    go_ret
    exact ⟨rfl, Below.refl _ _⟩
  · go_enter Tryz.func53, Tryz.ntmps53
    go_wp2
    go_loop [3] (fun i => ∃ k : Nat, k ≤ xs.length ∧ i = .int .i64 k ∧ Hid (∀ j, j < k → -1000 ≤ ix xs j ∧ ix xs j ≤ 1000)) (fun i => xs.length - (intOf i).toNat)
    case atStart => exact ⟨0, Nat.zero_le _, rfl, fun j hj => absurd hj (Nat.not_lt_zero j)⟩
    case round =>
      obtain ⟨k, hk, rfl, hok⟩ := hrel
      by_cases hlt : k < xs.length
      · have hck := hc k hlt
        clear hc
        by_cases h1 : -1000 ≤ ix xs k ∧ ix xs k ≤ 1000
        · have hin := inR_yes h1
          go_wp2_with fail
          refine (inRange_any _ _ _ _).mono ?_
          rintro e w' ⟨rfl, rfl⟩
          rw [hin]
          clear hin
          go_wp2
          go_round
          case rel =>
            refine ⟨k + 1, by omega, by go_num, fun j hj => ?_⟩
            by_cases e : j = k
            · subst e; exact h1
            · exact hok.out j (by omega)
          case measure => simp [intOf]; omega
        · have hin := inR_no h1
          have hno := Lib.hid (vrB_no k hlt h1)
          clear h1
          go_wp2_with fail
          refine (inRange_any _ _ _ _).mono ?_
          rintro e w' ⟨rfl, rfl⟩
          rw [hin]
          clear hin
          go_wp2
          go_ret
          exact ⟨ret_bool hno.out.symm, Below.refl _ _⟩
      · have hkl : k = xs.length := by omega
        subst hkl
        by_cases hlen : xs.length ≤ 16
        · have hyes := Lib.hid (vrB_yes hlen hok.out)
          have hd : decide ((xs.length : Int) ≤ 16) = true := by simp; omega
          go_wp2
          go_ret
          exact ⟨ret_bool hyes.out.symm, Below.refl _ _⟩
        · have hno := Lib.hid (vrB_long hlen)
          have hd : decide ((xs.length : Int) ≤ 16) = false := by simp; omega
          go_wp2
          go_ret
          exact ⟨ret_bool hno.out.symm, Below.refl _ _⟩

end Go.Proofs.YtagncoahobghpacGreatDoor

namespace Go.Proofs.YtagncoahobghpacGreatDoor
open Go Go.RowKit
set_option linter.unusedVariables false

/-- A list of bytes as a text. -/
def bs (l : List UInt8) : ByteArray := ⟨l.toArray⟩
theorem bs_list (s : ByteArray) : bs s.data.toList = s := by cases s; rfl
theorem list_bs (l : List UInt8) : (bs l).data.toList = l := rfl
theorem bs_inj {a b : List UInt8} (h : bs a = bs b) : a = b := by
  have := congrArg (fun s : ByteArray => s.data.toList) h
  simpa [bs] using this

/-- The number that a text is in decimal. -/
def numP (p : ByteArray) : Option Int :=
  match Lib.atoiAll p.data.toList with
  | .ok v => if bs (Lib.itoa v) = p then some v else none
  | _ => none
def numV (p : ByteArray) : Int := (numP p).getD 0
/-- The pieces of a text between commas. -/
def partsP (s : ByteArray) : List ByteArray := Lib.splitB ⟨#[44]⟩ 0 (Lib.countB s ⟨#[44]⟩) s
def allP (ps : List ByteArray) : Bool := ps.all fun p => (numP p).isSome
def numsP (ps : List ByteArray) : List Int := ps.map numV
/-- The row of a text. -/
def rowT (s : ByteArray) : Option (List Int) :=
  if allP (partsP s) = true ∧ vrB (numsP (partsP s)) = true then some (numsP (partsP s)) else none
theorem rowT_no {s : ByteArray} (h : ¬ (allP (partsP s) = true ∧ vrB (numsP (partsP s)) = true)) : rowT s = none := if_neg h
theorem rowT_yes {s : ByteArray} (h1 : allP (partsP s) = true) (h2 : vrB (numsP (partsP s)) = true) : rowT s = some (numsP (partsP s)) := if_pos ⟨h1, h2⟩

theorem numP_ok {p : ByteArray} {v : Int} (h : Lib.atoiAll p.data.toList = .ok v) (he : bs (Lib.itoa v) = p) : numP p = some v := by
  unfold numP; rw [h]; exact if_pos he
theorem numP_other {p : ByteArray} {v : Int} (h : Lib.atoiAll p.data.toList = .ok v) (he : bs (Lib.itoa v) ≠ p) : numP p = none := by
  unfold numP; rw [h]; exact if_neg he
theorem numP_bad {p : ByteArray} (h : ∀ v, Lib.atoiAll p.data.toList ≠ .ok v) : numP p = none := by
  unfold numP
  rcases e : Lib.atoiAll p.data.toList with v | _ | _
  · exact absurd e (h v)
  · rfl
  · rfl
theorem allP_no {ps : List ByteArray} {k : Nat} (hk : k < ps.length) (h : numP (ps.getD k .empty) = none) : allP ps = false := by
  unfold allP
  rw [← Bool.not_eq_true, List.all_eq_true]
  intro q
  have := q (ps.getD k .empty) (by simp [List.getD, List.getElem?_eq_getElem hk])
  rw [h] at this
  cases this
theorem allP_yes {ps : List ByteArray} (h : ∀ k, k < ps.length → numP (ps.getD k .empty) ≠ none) : allP ps = true := by
  unfold allP
  rw [List.all_eq_true]
  intro p hp
  obtain ⟨k, hk, rfl⟩ := List.getElem_of_mem hp
  have := h k hk
  simp only [List.getD, List.getElem?_eq_getElem hk, Option.getD_some] at this
  cases e : numP ps[k] with
  | none => exact absurd e this
  | some v => rfl
theorem numsP_tab (ps : List ByteArray) : numsP ps = tab ps.length fun j => numV (ps.getD j .empty) := by
  refine ext_ix (by simp [numsP, len_tab]) fun j hj => ?_
  rw [ix_tab _ _ _ (by simpa [numsP] using hj)]
  have hj' : j < ps.length := by simpa [numsP] using hj
  simp [numsP, ix, List.getD, List.getElem?_eq_getElem hj']
theorem atoi_range {l : List UInt8} {v : Int} (e : Lib.atoiAll l = .ok v) : -9223372036854775808 ≤ v ∧ v ≤ 9223372036854775807 := by
  unfold Lib.atoiAll at e
  cases l with
  | nil => cases e
  | cons c r =>
    dsimp only at e
    split at e <;> try (cases e; done)
    rename_i u hu
    split at e
    · cases e
    split at e
    · cases e
    · simp only [Lib.NumEnd.ok.injEq] at e
      rename_i h1 h2
      split at e <;> omega

/-- A row of texts by index, as cells. -/
def tabS (n : Nat) (f : Nat → ByteArray) : List Value := (List.range n).map fun j => Value.string (f j)
theorem tabS_len (n : Nat) (f : Nat → ByteArray) : (tabS n f).length = n := by simp [tabS]
theorem tabS_get {n : Nat} (f : Nat → ByteArray) {k : Nat} (hk : k < n) : (tabS n f).toArray[k]? = some (.string (f k)) := by simp [tabS, hk]
theorem tabS_set {n : Nat} (f g : Nat → ByteArray) {k : Nat} {u : ByteArray} (hk : g k = u) (h : ∀ j, j ≠ k → g j = f j) : (tabS n f).toArray.setIfInBounds k (.string u) = (tabS n g).toArray := by
  refine Array.ext (by simp [tabS]) fun j h1 h2 => ?_
  have h3 : j < (tabS n f).toArray.size := by simpa using h1
  rw [Array.getElem_setIfInBounds h3]
  split
  · rename_i e; subst e; simp [tabS, hk]
  · rename_i e; simp [tabS, h j (fun q => e q.symm)]
theorem tabS_congr {n : Nat} {f g : Nat → ByteArray} (h : ∀ j, j < n → f j = g j) : tabS n f = tabS n g := by
  unfold tabS
  exact List.map_congr_left fun j hj => by rw [h j (List.mem_range.1 hj)]

/-- Numbers with a comma between two of them. -/
def listT (xs : List Int) : ByteArray := bs (Lib.join (xs.map Lib.itoa) [44])
theorem list_on (xs : List Int) (k : Nat) : (fun j => if j < k + 1 then bs (Lib.itoa (ix xs j)) else ByteArray.empty) k = bs (Lib.itoa (ix xs k)) := if_pos (Nat.lt_succ_self k)
theorem join_len (c : UInt8) : ∀ (l : List (List UInt8)) (k : Nat), (∀ x ∈ l, x.length ≤ k) → (Lib.join l [c]).length ≤ l.length * (k + 1) := by
  intro l k
  induction l with
  | nil => intro _; simp [Lib.join]
  | cons x l ih =>
    intro h
    have hx := h x (by simp)
    cases l with
    | nil => simp [Lib.join]; omega
    | cons y l =>
      have := ih fun z hz => h z (by simp [hz])
      simp [Lib.join] at this ⊢
      rw [Nat.add_mul]
      omega
theorem bs_size (l : List UInt8) : (bs l).size = l.length := by show l.toArray.size = _; rw [List.size_toArray]
theorem dec_len (u : Nat) (h : u ≤ 9223372036854775807) : (bs (Lib.decDigits u)).size ≤ 21 := by
  have := Lib.itoa_length_le (u : Int) (by omega) (by omega)
  unfold Lib.itoa at this
  rw [if_neg (by omega), Int.toNat_natCast] at this
  rw [bs_size]
  exact this
theorem itoa_len (n : Int) (h0 : -9223372036854775808 ≤ n) (h1 : n ≤ 9223372036854775807) : (bs (Lib.itoa n)).size ≤ 21 := by
  rw [bs_size]
  exact Lib.itoa_length_le n h0 h1
theorem listT_len {xs : List Int} (h : ∀ n ∈ xs, -9223372036854775808 ≤ n ∧ n ≤ 9223372036854775807) : (listT xs).size ≤ xs.length * 22 := by
  have := join_len 44 (xs.map Lib.itoa) 21 (fun x hx => by
    obtain ⟨n, hn, rfl⟩ := List.mem_map.1 hx
    exact Lib.itoa_length_le n (h n hn).1 (h n hn).2)
  rw [List.length_map] at this
  unfold listT
  rw [bs_size]
  exact this
end Go.Proofs.YtagncoahobghpacGreatDoor
