/-
  Joined texts: HvO, HvJ, HvI, SgI.
-/
import Derived.Test.YtagncoahobghpacGreatDoorJGdEHvK
import Derived.Deep.RegionHeld3
import Derived.Test.YtagncoahobghpacGreatDoorMa1
import Derived.Test.YtagncoahobghpacGreatDoorJGdE22
import Derived.Deep.WholeRow
namespace Go.Proofs.YtagncoahobghpacGreatDoor
open Go.RowKit
set_option linter.unusedVariables false
set_option maxRecDepth 100000

theorem cut0_any (a : Option Addr) (w : World) :
    Calls Tryz.prog 188 #[.slice a 0 0] w fun e w' => e = .returned (.tuple #[.slice a 0 0, .slice a 0 0]) ∧ ∃ k, w' = w.drewN k := by
  cases a with
  | none =>
    go_enter Tryz.func188, Tryz.ntmps188
    go_wp2
    go_quiet (fail)
    go_wp2
    exact bodyPost_ret (v := .tuple #[.slice none 0 0, .slice none 0 0]) (by simp [results, Tryz.results188, go_sem]) rfl ⟨rfl, _, rfl⟩
  | some a =>
    go_enter Tryz.func188, Tryz.ntmps188
    go_wp2
    go_quiet (fail)
    go_wp2
    exact bodyPost_ret (v := .tuple #[.slice (some a) 0 0, .slice (some a) 0 0]) (by simp [results, Tryz.results188, go_sem]) rfl ⟨rfl, _, rfl⟩

theorem putApart0_any (a : Option Addr) (w : World) :
    Calls Tryz.prog 189 #[.slice a 0 0] w fun e w' => e = .returned (.tuple #[]) ∧ Below w.heap.size w w' := by
  have HCP := Lib.hid (copyOf_any (.slice a 0 0) [] w ⟨a, 0, rfl, .inl rfl⟩ (by simp))
  have HC := Lib.hid fun w => cut0_any a w
  go_enter Tryz.func189, Tryz.ntmps189
  go_wp2_with (first
    | (go_at_call 108; refine HCP.out.mono ?_; rintro e w1 ⟨g1, rfl, hg1, o1, b1⟩)
    | (go_at_call 188; refine (HC.out _).mono ?_; rintro e w2 ⟨rfl, k2, rfl⟩))
  refine wp_loop_rounds 1 ?_
  rw [rounds_succ]
  go_wp2
  go_end0
  exact ⟨rfl, below_drewN b1 _⟩

theorem liftH0_any (a : Option Addr) (w : World) :
    Calls Tryz.prog 96 #[.iface 124 (.agg #[.slice a 0 0])] w fun e w' => e = .returned (.tuple #[]) ∧ Below w.heap.size w w' := by
  have HPA := Lib.hid (putApart0_any a w)
  have HC := Lib.hid fun w => cut0_any a w
  have hmt := hal_apart
  have hmc := hal_cut
  go_enter Tryz.func96, Tryz.ntmps96
  go_wp2_with (first
    | (go_at_call 189; refine HPA.out.mono ?_; rintro e w1 ⟨rfl, b1⟩)
    | (go_at_call 188; refine (HC.out _).mono ?_; rintro e w2 ⟨rfl, k2, rfl⟩))
  refine wp_loop_rounds 1 ?_
  rw [rounds_succ]
  go_wp2
  refine wp_loop_rounds 1 ?_
  rw [rounds_succ]
  go_wp2
  go_end0
  exact ⟨rfl, below_drewN b1 _⟩

theorem liftL0_any (a : Option Addr) (w : World) :
    Calls Tryz.prog 96 #[.iface 125 (.agg #[.slice a 0 0])] w fun e w' => e = .returned (.tuple #[]) ∧ Below w.heap.size w w' := by
  have HPA := Lib.hid (putApart0_any a w)
  have HC := Lib.hid fun w => cut0_any a w
  have hmt := lep_apart
  have hmc := lep_cut
  go_enter Tryz.func96, Tryz.ntmps96
  go_wp2_with (first
    | (go_at_call 189; refine HPA.out.mono ?_; rintro e w1 ⟨rfl, b1⟩)
    | (go_at_call 188; refine (HC.out _).mono ?_; rintro e w2 ⟨rfl, k2, rfl⟩))
  refine wp_loop_rounds 1 ?_
  rw [rounds_succ]
  go_wp2
  refine wp_loop_rounds 1 ?_
  rw [rounds_succ]
  go_wp2
  go_end0
  exact ⟨rfl, below_drewN b1 _⟩

theorem evenCopy_yes (v : Value) (xs : List Int) (w : World) (h : Rd w v xs) (hl : xs.length ≤ maxLen) (hb : evB xs = true) :
    Calls Tryz.prog 95 #[v] w (MadeAt 3 w xs) := by
  obtain ⟨h1, h2⟩ := evB_of hb
  have hv := implValid_any v xs w h hl
  rw [h1] at hv
  have HV := Lib.hid hv
  have hx := (vrB_of h1).1
  have HCP := Lib.hid fun w1 (b : Below w.heap.size w w1) => copyOf_any v xs w1 (h.below b (Nat.le_refl _)) (by omega)
  have h3 : (xs.length : Int) % 2 = 0 := by omega
  obtain ⟨a, cap, rfl, -⟩ := h
  clear hv hb h1 h2 hl
  go_enter Tryz.func95, Tryz.ntmps95
  go_wp2_with (first
    | (go_at_call 73; refine HV.out.mono ?_; rintro e w1 ⟨rfl, b1⟩)
    | (go_at_call 108; refine (HCP.out _ b1).mono ?_; rintro e w2 ⟨g1, rfl, hg1, o1, b2⟩))
  go_ret
  exact ⟨g1, rfl, Nat.le_trans b1.size hg1, o1.mono b1.size, b1.trans (b2.mono b1.size)⟩

theorem evenCopy_no (v : Value) (xs : List Int) (w : World) (h : Rd w v xs) (hl : xs.length ≤ maxLen) (hb : evB xs = false) :
    Calls Tryz.prog 95 #[v] w fun e w' => e = .returned (.slice none 0 0) ∧ Below w.heap.size w w' := by
  have hv := implValid_any v xs w h hl
  cases h1 : vrB xs with
  | false =>
    rw [h1] at hv
    have HV := Lib.hid hv
    obtain ⟨a, cap, rfl, -⟩ := h
    clear hv hb h1 hl
    go_enter Tryz.func95, Tryz.ntmps95
    go_wp2_with (go_at_call 73; refine HV.out.mono ?_; rintro e w1 ⟨rfl, b1⟩)
    go_ret
    exact ⟨rfl, b1⟩
  | true =>
    rw [h1] at hv
    rw [evB_eq h1] at hb
    have HV := Lib.hid hv
    have h2 : ¬ xs.length % 2 = 0 := by simpa using hb
    have hx := (vrB_of h1).1
    have h3 : (xs.length : Int) % 2 = 1 := by omega
    obtain ⟨a, cap, rfl, -⟩ := h
    clear hv hb h1 hl h2
    go_enter Tryz.func95, Tryz.ntmps95
    go_wp2_with (go_at_call 73; refine HV.out.mono ?_; rintro e w1 ⟨rfl, b1⟩)
    go_ret
    exact ⟨rfl, b1⟩

end Go.Proofs.YtagncoahobghpacGreatDoor

namespace Go.Proofs.YtagncoahobghpacGreatDoor
open Go.RowKit
set_option linter.unusedVariables false
set_option maxRecDepth 100000

end Go.Proofs.YtagncoahobghpacGreatDoor

namespace Go.Proofs.YtagncoahobghpacGreatDoor
open Go.RowKit
set_option linter.unusedVariables false
set_option maxRecDepth 100000

set_option maxHeartbeats 1000000 in
theorem implHalveOf_any (v : Value) (xs : List Int) (w : World) (h : Rd w v xs) (hl : xs.length ≤ maxLen) :
    Calls Tryz.prog 65 #[v] w (Made 3 w (halF xs)) := by
  cases hb : evB xs with
  | false =>
    have HF := Lib.hid (halF_no hb)
    have HE := Lib.hid (evenCopy_no v xs w h hl hb)
    have HL := Lib.hid fun w => liftH0_any none w
    obtain ⟨a, cap, rfl, -⟩ := h
    clear hb hl
    go_enter Tryz.func65, Tryz.ntmps65
    go_wp2_with (first
      | (go_at_call 95; refine HE.out.mono ?_; rintro e w1 ⟨rfl, b1⟩)
      | (go_at_call 96; refine (HL.out _).mono ?_; rintro e w2 ⟨rfl, b2⟩))
    go_ret
    exact ⟨_, rfl, by rw [HF.out]; exact Own.nil _ _ _, b1.trans (b2.mono b1.size)⟩
  | true =>
    obtain ⟨h1, h2⟩ := evB_of hb
    have hx := (vrB_of h1).1
    have hbd := vr_bd h1
    obtain ⟨m, hm⟩ : ∃ m, xs.length = 2 * m := ⟨_, half_two h2⟩
    obtain ⟨F, hF⟩ : ∃ F, F = ix xs := ⟨_, rfl⟩
    have hxs : xs = tab (2 * m) F := by rw [hF, ← hm]; exact (tab_self xs).symm
    have HF := Lib.hid (show halF xs = tab (2 * m) (lftF gsH shH m F) by
      rw [halF_yes hb]; unfold halL; rw [hm, ← hF, show 2 * m / 2 = m by omega]; exact (lftH (2 * m) m F).symm)
    have HE : Calls Tryz.prog 95 #[v] w fun e w' => ∃ g, e = .returned (.slice (some ⟨g, 0, none⟩) (2 * m) (2 * m)) ∧ w.heap.size ≤ g ∧ Own 3 w.heap.size w' (.slice (some ⟨g, 0, none⟩) (2 * m) (2 * m)) (tab (2 * m) F) ∧ Below w.heap.size w w' := by
      refine (evenCopy_yes v xs w h hl hb).mono ?_
      rintro e w' ⟨g, rfl, hg, o, b⟩
      rw [hm] at o ⊢
      rw [← hxs]
      exact ⟨g, rfl, hg, o, b⟩
    have HE := Lib.hid HE
    rw [← hF, hm] at hbd
    rw [hm] at hx
    have HBD := Lib.hid hbd
    obtain ⟨a, cap, rfl, -⟩ := h
    clear hb h1 h2 hm hF hxs hbd hl
    by_cases h0 : m = 0
    · subst h0
      have HL := Lib.hid fun a w => liftH0_any a w
      go_enter Tryz.func65, Tryz.ntmps65
      go_wp2_with (first
        | (go_at_call 95; refine HE.out.mono ?_; rintro e w1 ⟨g, rfl, hg, o1, b1⟩)
        | (go_at_call 96; refine (HL.out _ _).mono ?_; rintro e w2 ⟨rfl, b2⟩))
      go_ret
      exact ⟨_, rfl, by rw [HF.out]; exact o1.below b2 (Nat.le_refl _), b1.trans (b2.mono b1.size)⟩
    · have HL := Lib.hid fun g w1 (o : Own 3 w.heap.size w1 (.slice (some ⟨g, 0, none⟩) (2 * m) (2 * m)) (tab (2 * m) F)) => liftH_any w.heap.size g (2 * m) (2 * m) (2 * m) m F w1 o (by omega) (Nat.le_refl _) (Nat.le_refl _) (by omega) (fun j hj => by have := HBD.out j hj; omega)
      clear hx
      go_enter Tryz.func65, Tryz.ntmps65
      go_wp2_with (first
        | (go_at_call 95; refine HE.out.mono ?_; rintro e w1 ⟨g, rfl, hg, o1, b1⟩)
        | (go_at_call 96; refine (HL.out _ _ o1).mono ?_; rintro e w2 ⟨rfl, o2, b2⟩))
      go_ret
      exact ⟨_, rfl, by rw [HF.out]; exact o2, b1.trans b2⟩

set_option maxHeartbeats 1000000 in
theorem implLeapOf_any (v : Value) (xs : List Int) (w : World) (h : Rd w v xs) (hl : xs.length ≤ maxLen) :
    Calls Tryz.prog 66 #[v] w (Made 3 w (lepF xs)) := by
  cases hb : evB xs with
  | false =>
    have HF := Lib.hid (lepF_no hb)
    have HE := Lib.hid (evenCopy_no v xs w h hl hb)
    have HL := Lib.hid fun w => liftL0_any none w
    obtain ⟨a, cap, rfl, -⟩ := h
    clear hb hl
    go_enter Tryz.func66, Tryz.ntmps66
    go_wp2_with (first
      | (go_at_call 95; refine HE.out.mono ?_; rintro e w1 ⟨rfl, b1⟩)
      | (go_at_call 96; refine (HL.out _).mono ?_; rintro e w2 ⟨rfl, b2⟩))
    go_ret
    exact ⟨_, rfl, by rw [HF.out]; exact Own.nil _ _ _, b1.trans (b2.mono b1.size)⟩
  | true =>
    obtain ⟨h1, h2⟩ := evB_of hb
    have hx := (vrB_of h1).1
    have hbd := vr_bd h1
    obtain ⟨m, hm⟩ : ∃ m, xs.length = 2 * m := ⟨_, half_two h2⟩
    obtain ⟨F, hF⟩ : ∃ F, F = ix xs := ⟨_, rfl⟩
    have hxs : xs = tab (2 * m) F := by rw [hF, ← hm]; exact (tab_self xs).symm
    have HF := Lib.hid (show lepF xs = tab (2 * m) (lftF gsL shL m F) by
      rw [lepF_yes hb]; unfold lepL; rw [hm, ← hF, show 2 * m / 2 = m by omega]; exact (lftL m F).symm)
    have HE : Calls Tryz.prog 95 #[v] w fun e w' => ∃ g, e = .returned (.slice (some ⟨g, 0, none⟩) (2 * m) (2 * m)) ∧ w.heap.size ≤ g ∧ Own 3 w.heap.size w' (.slice (some ⟨g, 0, none⟩) (2 * m) (2 * m)) (tab (2 * m) F) ∧ Below w.heap.size w w' := by
      refine (evenCopy_yes v xs w h hl hb).mono ?_
      rintro e w' ⟨g, rfl, hg, o, b⟩
      rw [hm] at o ⊢
      rw [← hxs]
      exact ⟨g, rfl, hg, o, b⟩
    have HE := Lib.hid HE
    rw [← hF, hm] at hbd
    rw [hm] at hx
    have HBD := Lib.hid hbd
    obtain ⟨a, cap, rfl, -⟩ := h
    clear hb h1 h2 hm hF hxs hbd hl
    by_cases h0 : m = 0
    · subst h0
      have HL := Lib.hid fun a w => liftL0_any a w
      go_enter Tryz.func66, Tryz.ntmps66
      go_wp2_with (first
        | (go_at_call 95; refine HE.out.mono ?_; rintro e w1 ⟨g, rfl, hg, o1, b1⟩)
        | (go_at_call 96; refine (HL.out _ _).mono ?_; rintro e w2 ⟨rfl, b2⟩))
      go_ret
      exact ⟨_, rfl, by rw [HF.out]; exact o1.below b2 (Nat.le_refl _), b1.trans (b2.mono b1.size)⟩
    · have HL := Lib.hid fun g w1 (o : Own 3 w.heap.size w1 (.slice (some ⟨g, 0, none⟩) (2 * m) (2 * m)) (tab (2 * m) F)) => liftL_any w.heap.size g (2 * m) (2 * m) (2 * m) m F w1 o (by omega) (Nat.le_refl _) (Nat.le_refl _) (by omega) (fun j hj => by have := HBD.out j hj; omega)
      clear hx
      go_enter Tryz.func66, Tryz.ntmps66
      go_wp2_with (first
        | (go_at_call 95; refine HE.out.mono ?_; rintro e w1 ⟨g, rfl, hg, o1, b1⟩)
        | (go_at_call 96; refine (HL.out _ _ o1).mono ?_; rintro e w2 ⟨rfl, o2, b2⟩))
      go_ret
      exact ⟨_, rfl, by rw [HF.out]; exact o2, b1.trans b2⟩

end Go.Proofs.YtagncoahobghpacGreatDoor

namespace Go.Proofs.YtagncoahobghpacGreatDoor
open Go.RowKit
set_option linter.unusedVariables false
set_option maxRecDepth 100000

def energyF (xs : List Int) : Int := if vrB xs = true then wrap64 (sq (ix xs) xs.length) else -1
theorem lt16 {x : Nat} (h : x < 16) : x = 0 ∨ x = 1 ∨ x = 2 ∨ x = 3 ∨ x = 4 ∨ x = 5 ∨ x = 6 ∨ x = 7 ∨ x = 8 ∨ x = 9 ∨ x = 10 ∨ x = 11 ∨ x = 12 ∨ x = 13 ∨ x = 14 ∨ x = 15 := by omega

theorem ones64_any (x : Nat) (w : World) (hx : x < 16) :
    Calls Tryz.prog 134 #[.int .u64 x] w fun e w' => e = .returned (.int .i64 (ones4 x)) ∧ w = w' := by
  go_enter Tryz.func134, Tryz.ntmps134
  go_wp2
  go_ret
  refine ⟨ret_int ?_, rfl⟩
  rcases lt16 hx with rfl | rfl | rfl | rfl | rfl | rfl | rfl | rfl | rfl | rfl | rfl | rfl | rfl | rfl | rfl | rfl <;> decide +kernel

theorem ones_any (x : Nat) (w : World) (hx : x < 16) :
    Calls Tryz.prog 110 #[.int .u64 x] w fun e w' => e = .returned (.int .i64 (ones4 x)) ∧ w = w' := by
  go_enter Tryz.func110, Tryz.ntmps110
  go_wp2_with fail
  refine (ones64_any x _ hx).mono ?_
  rintro e w' ⟨rfl, rfl⟩
  go_wp2
  go_ret
  exact ⟨rfl, rfl⟩

theorem and16 : ∀ x : Nat, x < 16 → ∀ y : Nat, y < 16 → bits BinOp.and IntKind.i64 (x : Int) (y : Int) = ((x &&& y : Nat) : Int) := by decide +kernel
theorem xor16 : ∀ x : Nat, x < 16 → ∀ y : Nat, y < 16 → bits BinOp.xor IntKind.i64 (x : Int) (y : Int) = ((x ^^^ y : Nat) : Int) := by decide +kernel
theorem or16 : ∀ x : Nat, x < 16 → ∀ y : Nat, y < 16 → bits BinOp.or IntKind.i64 (x : Int) (y : Int) = ((x ||| y : Nat) : Int) := by decide +kernel

theorem sgAt_any (x y : Nat) (w : World) (hx : x < 16) (hy : y < 16) :
    Calls Tryz.prog 88 #[.int .i64 y, .int .i64 x] w fun e w' => e = .returned (.int .i64 (sg x y)) ∧ w = w' := by
  have HA := and16 x hx y hy
  have hz := and_lt 4 (by omega) x hx y hy
  have HS : Hid (sg x y = if ones4 (x &&& y) % 2 = 0 then 1 else -1) := rfl
  generalize x &&& y = z at HA hz HS
  have hw : IntKind.u64.wrap (z : Int) = (z : Int) := by show (z : Int) % 18446744073709551616 = z; omega
  go_enter Tryz.func88, Tryz.ntmps88
  go_wp2_with fail
  refine (ones_any z _ hz).mono ?_
  rintro e w' ⟨rfl, rfl⟩
  go_wp2
  go_ret
  refine ⟨ret_int ?_, rfl⟩
  rw [HS.out]
  rcases lt16 hz with rfl | rfl | rfl | rfl | rfl | rfl | rfl | rfl | rfl | rfl | rfl | rfl | rfl | rfl | rfl | rfl <;> decide +kernel

/-- The cells of an array of sixteen numbers. -/
def arr (F : Nat → Int) : Array Value := ((tab 16 F).map (Value.int .i64)).toArray
theorem arr_size (F : Nat → Int) : (arr F).size = 16 := by simp [arr]
theorem arr_get (F : Nat → Int) (j : Nat) (h : j < 16) : (arr F)[j]? = some (.int .i64 (F j)) := by
  simp only [arr, List.getElem?_toArray]
  rw [getElem?_map_int _ _ (by simpa using h), ix_tab _ _ _ h]

theorem splice_row (xs : List Int) (h : xs.length ≤ 16) : splice ((tab 16 fun _ => 0).map (Value.int .i64)) 0 (xs.map (Value.int .i64)) = (tab 16 (ix xs)).map (Value.int .i64) := by
  have e : (tab 16 (ix xs)) = xs ++ (tab (16 - xs.length) fun _ => 0) := by
    apply List.ext_getElem?
    intro j
    rw [getElem?_tab, List.getElem?_append]
    by_cases h1 : j < xs.length
    · rw [if_pos h1, if_pos (by omega)]; simp [ix, List.getD, h1]
    · rw [if_neg h1, getElem?_tab]
      by_cases h2 : j < 16
      · rw [if_pos h2, if_pos (by omega)]; simp [ix, List.getD, List.getElem?_eq_none (Nat.le_of_not_lt h1)]
      · rw [if_neg h2, if_neg (by omega)]
  rw [e]
  simp only [splice, List.take_zero, List.nil_append, Nat.zero_add, List.length_map, List.map_append]
  congr 1
  rw [← List.map_drop]
  congr 1
  apply List.ext_getElem?
  intro j
  rw [List.getElem?_drop, getElem?_tab, getElem?_tab]
  by_cases h2 : j < 16 - xs.length
  · rw [if_pos h2, if_pos (by omega)]
  · rw [if_neg h2, if_neg (by omega)]

def zero16 : List Value := (tab 16 fun _ => 0).map (Value.int .i64)
theorem zero16_lit : #[Value.int IntKind.i64 0, Value.int IntKind.i64 0, Value.int IntKind.i64 0, Value.int IntKind.i64 0, Value.int IntKind.i64 0, Value.int IntKind.i64 0, Value.int IntKind.i64 0, Value.int IntKind.i64 0, Value.int IntKind.i64 0, Value.int IntKind.i64 0, Value.int IntKind.i64 0, Value.int IntKind.i64 0, Value.int IntKind.i64 0, Value.int IntKind.i64 0, Value.int IntKind.i64 0, Value.int IntKind.i64 0] = zero16.toArray := rfl
theorem wpList_loadv {P : Program} {w : World} {ops : Array Oper} {rest : List Oper} {o : Oper} {a : Act} {Q : Exit → Act → World → Prop} (hgd : o.guard = none) (p : Operand) (t : TypeId) (ho : o.op = .load t p)
    (ad : Addr) (hp : a.eval p = .pointer (some ad)) (v : Value) (hl : (loadVar t ad).run P w = .ok v w) (h : wpList P ops Q rest (a.put o.dst v) w) : wpList P ops Q (o :: rest) a w := by
  refine wpList_plain hgd fun K hK => ?_
  unfold Oper.wp
  simp only [execOp, ho, Instr.loadAt, Instr.sureAddr, hp, Sem.run_bind, Sem.run_pure, Result.andThen, hl]
  exact hK _ _ h
theorem wpList_storev {P : Program} {w w' : World} {ops : Array Oper} {rest : List Oper} {o : Oper} {a : Act} {Q : Exit → Act → World → Prop} (hgd : o.guard = none) (p x : Operand) (t : TypeId) (ho : o.op = .store t p x)
    (ad : Addr) (hp : a.eval p = .pointer (some ad)) (v : Value) (hx : a.eval x = v) (hl : (storeVar t ad v).run P w = .ok () w') (h : wpList P ops Q rest (a.put o.dst undef) w') : wpList P ops Q (o :: rest) a w := by
  refine wpList_plain hgd fun K hK => ?_
  unfold Oper.wp
  simp only [execOp, ho, Instr.storeAt, Instr.sureAddr, hp, hx, Sem.run_bind, Sem.run_pure, Result.andThen, hl]
  exact hK _ _ h

theorem results_cell_one {fn : Func} {p : Tmp} {ty : TypeId} (h : fn.results = #[.cell p ty]) (tmps : Array Value) (P : Program) (w : World) (ad : Addr) (v : Value) (hp : tmps.getD p undef = .pointer (some ad)) (hl : (loadVar ty ad).run P w = .ok v w) :
    (results fn tmps).run P w = .ok v w := by
  rw [Array.getD_eq_getD_getElem?] at hp
  simp only [results, h]
  simp [hp, asAddr, hl]

theorem size_one (w : World) (o : Obj) : (w.alloc o).heap.size = w.heap.size + 1 := by show (w.heap.push o).size = _; simp
theorem heap_second (w : World) (o o' : Obj) : ((w.alloc o).alloc o').heap[w.heap.size + 1]? = some o' := by
  have := heap_alloc_last (w.alloc o) o'
  rwa [size_one] at this
theorem arr_cells (F : Nat → Int) : (arr F).all (·.oneCell') = true := by
  simp only [arr, Array.all_eq_true_iff_forall_mem]
  intro v hv
  simp only [List.mem_toArray, List.mem_map] at hv
  obtain ⟨n, _, rfl⟩ := hv
  rfl
theorem arr_info : (Tryz.prog.info? 110).map (·.size) = some 16 := by kernel_rfl
theorem arr_under : ∃ n e, Tryz.prog.underlying 110 = some (.array n e) := ⟨_, _, rfl⟩
theorem load_arr {w : World} {g : Nat} {F : Nat → Int} {t : TypeId} (h : w.heap[g]? = some (.cells (arr F) t (0, 0))) :
    (loadVar 110 ⟨g, 0, none⟩).run Tryz.prog w = .ok (.agg (arr F)) w := by
  obtain ⟨n, e, hu⟩ := arr_under
  exact run_loadVar_row w g t _ (arr F) (0, 0) _ h hu rfl (by rw [arr_size]; exact arr_info)
theorem store_arr {w : World} {g : Nat} {F : Nat → Int} {old : Array Value} {t : TypeId} (h : w.heap[g]? = some (.cells old t (0, 0))) (ho : old.size = 16) :
    (storeVar 110 ⟨g, 0, none⟩ (.agg (arr F))).run Tryz.prog w = .ok () (w.setRow g (arr F)) :=
  run_storeVar_row w g t _ old (arr F) h (by rw [arr_size]; exact arr_info) (by rw [arr_size]; exact ho) (arr_cells F)

set_option maxHeartbeats 1000000 in
theorem cellsOf_any (v : Value) (xs : List Int) (w : World) (h : Rd w v xs) (hl : xs.length ≤ 16) :
    Calls Tryz.prog 86 #[v] w fun e w' => e = .returned (.agg (arr (ix xs))) ∧ Below w.heap.size w w' := by
  obtain ⟨a, cap, rfl, h⟩ := h
  have HX := Lib.hid h
  clear h
  go_enter Tryz.func86, Tryz.ntmps86
  go_wp2_with (with_reducible refine wpList_copy_splice rfl (.tmp 4) (.tmp 5) 35 35 rfl 3 Tryz.underlying35 ?k0 _ _ _ _ _ _ rfl rfl (w.heap.size + 1) 0 zero16 110 ?kh (xs.map (Value.int .i64)) ?k1 ?k2 ?k3 ?k4 (w.heap.size + 1) (w.alloc (.cells zero16.toArray 110)) ?k5 (Nat.le_refl _) ?_)
  case k0 => kernel_rfl
  case kh => rw [zero16_lit]; exact heap_second w _ _
  case k1 => simp only [List.length_map]; exact (Nat.min_eq_left hl).symm
  case k2 =>
    intro hpos
    rcases HX.out with rfl | ⟨b, off, rfl, hb, hc⟩
    · simp at hpos
    · refine ⟨⟨b, off, none⟩, rfl, fun j u hj => ?_⟩
      have hlt := (List.getElem?_eq_some_iff.1 hj).1
      have hB := ((Below.refl w.heap.size w).alloc (Nat.le_refl _) (.cells zero16.toArray 110)).alloc (by rw [size_one]; omega) (.cells zero16.toArray 110)
      rw [show (⟨b, off, none⟩ : Addr).add j = ⟨b, off + j, none⟩ by simp [Addr.add], zero16_lit, hB.cell (p := ⟨b, off + j, none⟩) hb, hc j (by simpa using hlt)]
      simp only [ix, List.getD, hj, Option.getD_some]
  case k3 => simp [zero16]; omega
  case k4 => exact ints_oneCell _ _
  case k5 => rw [zero16_lit]; exact (Below.refl (w.heap.size + 1) (w.alloc _)).alloc (by rw [size_one]; exact Nat.le_refl _) _
  intro w2 hH2 hB2
  have hld : (loadVar 110 ⟨w.heap.size + 1, 0, none⟩).run Tryz.prog w2 = .ok (.agg (arr (ix xs))) w2 := by
    have := hH2.out
    rw [zero16, splice_row xs hl] at this
    exact load_arr this
  have hold : w2.heap[w.heap.size]? = some (.cells zero16.toArray 110 (0, 0)) := by
    rw [hB2.block w.heap.size (by omega)]
    exact heap_alloc_last _ _
  have hst := store_arr (F := ix xs) hold (by simp [zero16])
  have hB : Below w.heap.size w (w2.setRow w.heap.size (arr (ix xs))) := below_setRow (((Below.refl w.heap.size w).alloc (Nat.le_refl _) _).trans (hB2.mono (by omega))) (Nat.le_refl _) _
  have hld2 : (loadVar 110 ⟨w.heap.size, 0, none⟩).run Tryz.prog (w2.setRow w.heap.size (arr (ix xs))) = .ok (.agg (arr (ix xs))) (w2.setRow w.heap.size (arr (ix xs))) :=
    load_arr (setRow_heap w2 w.heap.size _ _ _ _ hold)
  clear hold hH2 hB2 HX
  go_wp2_with (first | with_reducible refine wpList_loadv rfl (.tmp 3) 110 rfl _ rfl _ hld ?_ | with_reducible refine wpList_storev rfl (.tmp 2) (.tmp 7) 110 rfl _ rfl _ rfl hst ?_)
  refine bodyPost_ret (v := .agg (arr (ix xs))) ?_ rfl ⟨rfl, hB⟩
  exact results_cell_one rfl _ _ _ _ _ rfl hld2

theorem store_new (F : Nat → Int) (w : World) : (storeVar 110 ⟨w.heap.size, 0, none⟩ (.agg (arr F))).run Tryz.prog (w.alloc (.cells #[Value.int IntKind.i64 0, Value.int IntKind.i64 0, Value.int IntKind.i64 0, Value.int IntKind.i64 0, Value.int IntKind.i64 0, Value.int IntKind.i64 0, Value.int IntKind.i64 0, Value.int IntKind.i64 0, Value.int IntKind.i64 0, Value.int IntKind.i64 0, Value.int IntKind.i64 0, Value.int IntKind.i64 0, Value.int IntKind.i64 0, Value.int IntKind.i64 0, Value.int IntKind.i64 0, Value.int IntKind.i64 0] 110)) = .ok () (w.alloc (.cells (arr F) 110)) := by
  rw [zero16_lit]
  exact run_storeVar_new w 110 _ (arr F) (by rw [arr_size]; exact arr_info) (by rw [arr_size]; simp [zero16]) (arr_cells F)
theorem load_new (F : Nat → Int) (w : World) : (loadVar 110 ⟨w.heap.size, 0, none⟩).run Tryz.prog (w.alloc (.cells (arr F) 110)) = .ok (.agg (arr F)) (w.alloc (.cells (arr F) 110)) := load_arr (heap_alloc_last w _)
theorem index_arr (F : Nat → Int) (k : Nat) (h : k < 16) (W : World) : (Instr.index 110 (.agg (arr F)) (.int .i64 k)).run Tryz.prog W = .ok (.int .i64 (F k)) W := by
  have HG := arr_get F k h
  have hu : Tryz.prog.underlying 110 = some (.array 16 3) := rfl
  have hs := Tryz.sizeOf3
  simp [Instr.index, asIntOf, underlying, hu, Sem.run_bind, Result.andThen, part, HG, h]

set_option maxHeartbeats 1600000 in
theorem weighSg_any (F : Nat → Int) (y : Nat) (w : World) (hy : y < 16) :
    Calls Tryz.prog 87 #[.agg (arr F), .func (.func 88) #[.int .i64 y] #[]] w (Tells (wrap64 (sgE F 16 y)) w) := by
  have hld : ∀ w : World, (loadVar 110 ⟨w.heap.size, 0, none⟩).run Tryz.prog (w.alloc (.cells (arr F) 110)) = .ok (.agg (arr F)) (w.alloc (.cells (arr F) 110)) := fun w => load_arr (heap_alloc_last w _)
  have HS := arr_size F
  go_enter Tryz.func87, Tryz.ntmps87
  go_wp2_with (with_reducible refine wpList_loadv rfl (.tmp 2) 110 rfl _ rfl _ (hld w) ?_)
  clear hld
  go_loopw [5, 9] (fun s i wr => ∃ k : Nat, k ≤ 16 ∧ i = .int .i64 k ∧ s = .int .i64 (wrap64 (sumN (fun x => sg x y * F x) k)) ∧ Below w.heap.size w wr) (fun _ i _ => 16 - (intOf i).toNat)
  case atStart => exact ⟨0, by omega, rfl, by simp [sumN, wrap64], (Below.refl _ _).alloc (Nat.le_refl _) _⟩
  case round =>
    obtain ⟨k, hk, rfl, rfl, hB⟩ := hrel
    by_cases hlt : k < 16
    · have HG := arr_get F k hlt
      obtain ⟨z, hz⟩ : ∃ z, z = F k := ⟨_, rfl⟩
      have HI := index_arr F k hlt
      rw [← hz] at HI
      have HSt : Hid (wrap64 (wrap64 (sumN (fun x => sg x y * F x) k) + wrap64 (sg k y * z)) = wrap64 (sumN (fun x => sg x y * F x) (k + 1))) := by
        show _ = _
        rw [w64_add, sumN, hz]
      clear hz
      go_wp2_with fail
      refine (sgAt_any k y _ hlt hy).mono ?_
      rintro e w2 ⟨rfl, rfl⟩
      go_wp2
      go_roundw
      case rel => exact ⟨k + 1, by omega, by go_num, by rw [HSt.out], hB⟩
      case measure => simp [intOf]; omega
    · have hkl : k = 16 := by omega
      subst hkl
      go_wp2
      go_ret
      exact ⟨rfl, hB⟩

end Go.Proofs.YtagncoahobghpacGreatDoor
