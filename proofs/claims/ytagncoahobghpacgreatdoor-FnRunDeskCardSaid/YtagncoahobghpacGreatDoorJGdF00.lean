/-
  Joined texts: NlZ, RowOf, DrawRow.
-/
import Derived.Test.YtagncoahobghpacGreatDoorJGdE42
import Derived.Test.YtagncoahobghpacGreatDoorJGdE19
namespace Go.Proofs.YtagncoahobghpacGreatDoor
open Go Go.RowKit
set_option linter.unusedVariables false
set_option linter.unusedSimpArgs false
set_option maxRecDepth 100000

theorem dec_noNl (u : Nat) : ∀ x ∈ Lib.decDigits u, 48 ≤ x.toNat ∧ x.toNat ≤ 57 := by
  induction u using Nat.strongRecOn with
  | _ u ih =>
    intro x hx
    have one : ∀ d, d < 10 → 48 ≤ (UInt8.ofNat (48 + d)).toNat ∧ (UInt8.ofNat (48 + d)).toNat ≤ 57 := by decide +kernel
    by_cases h : u < 10
    · rw [Lib.decDigits_one h] at hx
      rw [List.mem_singleton.1 hx]
      exact one u h
    · rw [Lib.decDigits, dif_neg h] at hx
      rcases List.mem_append.1 hx with hx | hx
      · exact ih (u / 10) (by omega) x hx
      · rw [List.mem_singleton.1 hx]
        exact one (u % 10) (by omega)
theorem itoa_noNl (n : Int) : (10 : UInt8) ∉ Lib.itoa n := by
  unfold Lib.itoa
  split
  · intro h
    rcases List.mem_cons.1 h with h | h
    · cases h
    · have := dec_noNl _ _ h
      simp at this
  · intro h
    have := dec_noNl _ _ h
    simp at this
theorem join_noNl : ∀ (l : List (List UInt8)), (∀ x ∈ l, (10 : UInt8) ∉ x) → (10 : UInt8) ∉ Lib.join l [44]
  | [], _ => by simp [Lib.join]
  | [x], h => by simpa [Lib.join] using h x (by simp)
  | x :: y :: l, h => by
    have ih := join_noNl (y :: l) fun z hz => h z (List.mem_cons_of_mem _ hz)
    have hx := h x (by simp)
    simp [Lib.join] at ih ⊢
    exact ⟨hx, ih⟩
theorem ans_noNl (a : Ans) : (10 : UInt8) ∉ (ansT a).data.toList := by
  cases a with
  | what => decide
  | wrong => decide
  | row xs =>
    show (10 : UInt8) ∉ Lib.join (xs.map Lib.itoa) [44]
    refine join_noNl _ fun x hx => ?_
    obtain ⟨n, _, rfl⟩ := List.mem_map.1 hx
    exact itoa_noNl n
theorem desk_nl (ls : List ByteArray) : (deskL ls).count 10 = ls.length := by
  induction ls with
  | nil => rfl
  | cons l ls ih =>
    have e : deskL (l :: ls) = ((ansT (workP l)).data.toList ++ [10]) ++ deskL ls := rfl
    rw [e, List.count_append, List.count_append, List.count_eq_zero.2 (ans_noNl _), ih]
    simp
    omega
/-- The answers to the first lines are the beginning of those to all. -/
theorem desk_take (ls : List ByteArray) (k : Nat) : deskL ls = deskL (ls.take k) ++ deskL (ls.drop k) := by
  unfold deskL
  rw [← List.flatMap_append, List.take_append_drop]

/-- How many newlines a text has. -/
def nlN (l : List UInt8) : Nat := l.count 10

set_option maxHeartbeats 4000000 in
theorem newlines_any (s : ByteArray) (w : World) (hs : s.size ≤ 1048576) : Calls Tryz.prog 8 #[.string s] w fun e w' => e = .returned (.int .i64 (nlN s.data.toList : Nat)) ∧ w' = w := by
  have hL : s.data.toList.length = s.size := Array.length_toList
  go_enter Tryz.func8, Tryz.ntmps8
  go_wp2_with fail
  go_loopw [3, 4] (fun c i wr => ∃ k : Nat, k ≤ s.size ∧ i = .int .i64 k ∧ c = .int .i64 (nlN (s.data.toList.take k) : Nat) ∧ wr = w) (fun _ i _ => s.size - (intOf i).toNat)
  case atStart => exact ⟨0, Nat.zero_le _, rfl, rfl, rfl⟩
  case round =>
    obtain ⟨k, hk, rfl, rfl, rfl⟩ := hrel
    by_cases hlt : k < s.size
    · have i1 : (k : Int) < (s.size : Int) := by omega
      have HT := Lib.hid (show nlN (s.data.toList.take (k + 1)) = nlN (s.data.toList.take k) + List.count 10 [s[k]] by rw [take_at s hlt]; exact List.count_append)
      have hcle : nlN (s.data.toList.take k) ≤ k := Nat.le_trans List.count_le_length (by rw [List.length_take]; omega)
      have e3 : IntKind.i64.wrap ((k : Int) + 1) = (k : Int) + 1 := IntWalk.i64_in _ (by omega)
      obtain ⟨m, hm⟩ : ∃ m, m = nlN (s.data.toList.take k) := ⟨_, rfl⟩
      rw [← hm] at HT hcle ⊢
      have e4 : IntKind.i64.wrap ((m : Int) + 1) = ((m + 1 : Nat) : Int) := by rw [IntWalk.i64_in _ (by omega)]; omega
      clear hm
      by_cases h10 : s[k] = 10
      · have hb : s[k].toNat = 10 := by rw [h10]; rfl
        have HC : Hid (nlN (s.data.toList.take (k + 1)) = m + 1) := Lib.hid (by rw [HT.out, show List.count 10 [s[k]] = 1 by rw [h10]; rfl])
        clear HT h10
        go_wp2
        go_roundw
        case rel => exact ⟨k + 1, by omega, by go_num, by rw [HC.out] <;> (first | rfl | simp), trivial⟩
        case measure => simp [intOf]; omega
      · have hb : ((s[k].toNat : Int) == 10) = false := by
          rw [beq_eq_false_iff_ne]
          intro e
          exact h10 (UInt8.toNat_inj.1 (by show s[k].toNat = 10; omega))
        have HC : Hid (nlN (s.data.toList.take (k + 1)) = m) := Lib.hid (by rw [HT.out, show List.count 10 [s[k]] = 0 from List.count_eq_zero.2 (fun q => h10 (List.mem_singleton.1 q).symm), Nat.add_zero])
        clear HT h10
        go_wp2
        go_roundw
        case rel => exact ⟨k + 1, by omega, by go_num, by rw [HC.out] <;> (first | rfl | simp), trivial⟩
        case measure => simp [intOf]; omega
    · obtain rfl : k = s.size := by omega
      have i1 : ¬ ((s.size : Int) < (s.size : Int)) := by omega
      have HC : Hid (nlN (s.data.toList.take s.size) = nlN s.data.toList) := Lib.hid (by rw [List.take_of_length_le (by omega)])
      go_wp2
      go_ret
      exact ⟨by rw [← HC.out]; rfl, rfl⟩
end Go.Proofs.YtagncoahobghpacGreatDoor

namespace Go.Proofs.YtagncoahobghpacGreatDoor
open Go.RowKit
set_option linter.unusedVariables false

/-- What one leaves: a number of the list. -/
def One (T : Nat) (w : World) (R p : Nat) (xs : List Int) (e : Ending) (w' : World) : Prop :=
  ∃ k, k < xs.length ∧ e = .returned (.int .i64 (ix xs k)) ∧ Rdr T w' R (p + 1) ∧ w.grownBy w' (some R)

theorem one_any (R p : Nat) (v : Value) (xs : List Int) (w : World) (h : Rdr 51 w R p) (hp : p ≤ 4000) (hx : Rd w v xs) (h1 : 1 ≤ xs.length) (h2 : xs.length ≤ 100000) (hne : v.ownBlock ≠ some R) :
    Calls Tryz.prog 13 #[.pointer (some ⟨R, 0, none⟩), v] w (One 51 w R p xs) := by
  obtain ⟨a, cap, rfl, hr⟩ := hx
  rcases hr with rfl | ⟨b, off, rfl, hb, hc⟩
  · simp at h1
  have hbne : b ≠ R := by simpa [Value.ownBlock] using hne
  go_enter Tryz.func13, Tryz.ntmps13
  go_wp2_with fail
  refine (pick_any R p xs.length _ h (by omega) h1 h2).mono ?_
  rintro e w1 ⟨k, rfl, hk, hR, hg⟩
  have hcx := hg.cell (hc k hk) (by simpa using hbne)
  have i1 : (k : Int) < (xs.length : Int) := by omega
  clear hc
  go_wp2
  go_ret
  exact ⟨k, hk, rfl, hR, hg⟩

/-- What a draw of a row leaves. -/
def Drawn (E T : Nat) (w : World) (R p0 : Nat) (e : Ending) (w' : World) : Prop :=
  ∃ v xs p', e = .returned v ∧ Own E w.heap.size w' v xs ∧ xs.length ≤ 64 ∧ (∀ x ∈ xs, (Lit.int .i64 x).wf = true) ∧ Rdr T w' R p' ∧ p' ≤ p0 + 100 ∧ w.grownBy w' (some R)

/-- A row on the way of being drawn. -/
def Row (E T : Nat) (w wr : World) (R : Nat) (v : Value) (k : Nat) (p : Nat) : Prop :=
  ∃ xs, Own E w.heap.size wr v xs ∧ xs.length = k ∧ (∀ x ∈ xs, (Lit.int .i64 x).wf = true) ∧ Rdr T wr R p ∧ w.grownBy wr (some R)

theorem Own.ne {E B R : Nat} {w : World} {v : Value} {xs : List Int} (h : Own E B w v xs) (hR : R < B) : v.ownBlock = none ∨ v.ownBlock ≠ some R := by
  cases hv : v.ownBlock with
  | none => exact .inl rfl
  | some k => right; intro e; injection e with e; have := (World.ownsRow.lt h k hv).1; omega

theorem Row.picked {E T R p k : Nat} {w wr w1 : World} {v : Value} (h : Row E T w wr R v k p) (hR : R < w.heap.size) (hr : Rdr T w1 R (p + 1)) (hg : wr.grownBy w1 (some R)) : Row E T w w1 R v k (p + 1) := by
  obtain ⟨xs, h1, h2, h3, h4, h5⟩ := h
  exact ⟨xs, h1.kept hg (h1.ne hR), h2, h3, hr, World.grownBy.trans h5 hg⟩
theorem Row.alloc {E T R p k : Nat} {w wr : World} {v : Value} (h : Row E T w wr R v k p) (o : Obj) : Row E T w (wr.alloc o) R v k p := by
  obtain ⟨xs, h1, h2, h3, h4, h5⟩ := h
  exact ⟨xs, h1.grow o, h2, h3, h4.kept (World.grownBy_alloc wr o none) (by simp), World.grownBy.trans h5 (World.grownBy_alloc wr o (some R))⟩
theorem Row.rdr {E T R p k : Nat} {w wr : World} {v : Value} (h : Row E T w wr R v k p) : Rdr T wr R p := by
  obtain ⟨xs, h1, h2, h3, h4, h5⟩ := h; exact h4
theorem Row.size {E T R p k : Nat} {w wr : World} {v : Value} (h : Row E T w wr R v k p) : w.heap.size ≤ wr.heap.size := by
  obtain ⟨xs, h1, h2, h3, h4, h5⟩ := h; exact h5.size
theorem Row.slice {E T R p k : Nat} {w wr : World} {v : Value} (h : Row E T w wr R v k p) : ∃ a cap, v = .slice a k cap := by
  obtain ⟨xs, h1, rfl, h3, h4, h5⟩ := h
  rcases h1.shape with ⟨rfl, rfl⟩ | ⟨g, cap, rfl, _⟩
  · exact ⟨none, 0, rfl⟩
  · exact ⟨_, _, rfl⟩
/-- Behind an append of what fits. -/
theorem Row.app {E T R p k m : Nat} {w wr w0 w1 : World} {v v' : Value} {xs ys : List Int} (h : Rdr T wr R p) (hR : R < w.heap.size) (hg0 : w.grownBy wr (some R)) (hO : Own E w.heap.size wr v xs) (hk : xs.length = k) (hx : ∀ x ∈ xs, (Lit.int .i64 x).wf = true)
    (hy : ∀ x ∈ ys, (Lit.int .i64 x).wf = true) (hm : ys.length = m) (hO' : Own E w.heap.size w1 v' (xs ++ ys)) (hg : w0.grownBy w1 v.ownBlock) (h0 : wr.grownBy w0 none) : Row E T w w1 R v' (k + m) p := by
  have hg1 := grown_thru h0 hg
  have hb : ∀ j, v.ownBlock = some j → w.heap.size ≤ j := fun j hj => (World.ownsRow.lt hO j hj).1
  refine ⟨xs ++ ys, hO', by simp [hk, hm], ?_, h.kept hg1 (fun j hj => by have := hb j hj; omega), World.grownBy.andThen hg0 hg1 (fun j hj => .inl (hb j hj))⟩
  intro x hxy
  rcases List.mem_append.1 hxy with h | h
  · exact hx x h
  · exact hy x h
theorem wf_small {x : Int} (h : -1000000 ≤ x ∧ x ≤ 1000000) : (Lit.int .i64 x).wf = true := WalkArith.wf_i64 (by omega)
theorem ix_range {xs : List Int} {lo hi : Int} (h : ∀ x ∈ xs, lo ≤ x ∧ x ≤ hi) {k : Nat} (hk : k < xs.length) : lo ≤ ix xs k ∧ ix xs k ≤ hi := by
  refine h _ ?_
  simp [ix, List.getD, List.getElem?_eq_getElem hk]

/-- A slice of numbers that are written out. -/
theorem own_lit (E B g : Nat) (w : World) (cs : Array Value) (xs : List Int) (n : Nat) (hg : w.heap.size = g) (hB : B ≤ g) (h : cs.toList = xs.map (Value.int .i64)) (hn : xs.length = n) (hl : n ≤ maxLen) :
    Own E B (w.alloc (.cells cs E)) (.slice (some ⟨g, 0, none⟩) n n) xs := by
  subst hg; subst hn
  have hs : cs.size = xs.length * 1 := by rw [← Array.length_toList, h]; simp
  have := World.ownsRow_lit (e := E) (base := B) w cs xs.length hB hl hs
  rw [h] at this
  exact this
theorem Row.drawn {E T R p k p0 : Nat} {w wr : World} {v : Value} (h : Row E T w wr R v k p) (hk : k ≤ 64) (hp : p ≤ p0 + 100) : Drawn E T w R p0 (.returned v) wr := by
  obtain ⟨xs, h1, h2, h3, h4, h5⟩ := h
  exact ⟨v, xs, p, rfl, h1, by omega, h3, h4, hp, h5⟩
theorem Row.set {E T R p k g cap j : Nat} {w wr : World} {u : Int} (h : Row E T w wr R (.slice (some ⟨g, 0, none⟩) k cap) k p) (hg : w.heap.size ≤ g) (hR : R < w.heap.size) (hu : (Lit.int .i64 u).wf = true) : Row E T w (wr.setCell ⟨g, j, none⟩ (.int .i64 u)) R (.slice (some ⟨g, 0, none⟩) k cap) k p := by
  obtain ⟨xs, h1, h2, h3, h4, h5⟩ := h
  have hgr := grown_set (World.grownBy.refl wr (some g)) j (.int .i64 u)
  refine ⟨_, h1.set j u, by simp [h2], ?_, h4.kept hgr (fun q hq => by injection hq with hq; omega), World.grownBy.andThen h5 hgr (fun q hq => by injection hq with hq; left; omega)⟩
  intro x hx
  rcases List.mem_or_eq_of_mem_set hx with h | h
  · exact h3 x h
  · rw [h]; exact hu
theorem Row.cell {E T R p k g cap j : Nat} {w wr : World} (h : Row E T w wr R (.slice (some ⟨g, 0, none⟩) k cap) k p) (hj : j < k) : (∃ u : Int, wr.cell? ⟨g, j, none⟩ = some (.int .i64 u)) ∧ wr.frozen? ⟨g, j, none⟩ = false := by
  obtain ⟨xs, h1, h2, h3, h4, h5⟩ := h
  exact ⟨⟨_, h1.cell j (by omega)⟩, h1.frozen j⟩
theorem Row.shape {E T R p k cap : Nat} {a : Option Addr} {w wr : World} (h : Row E T w wr R (.slice a k cap) k p) : k = 0 ∨ ∃ g, a = some ⟨g, 0, none⟩ ∧ w.heap.size ≤ g := by
  obtain ⟨xs, h1, h2, h3, h4, h5⟩ := h
  rcases h1.shape with ⟨h, rfl⟩ | ⟨g, c, h, hg, _⟩
  · left; simpa using h2.symm
  · right
    simp only [Value.slice.injEq] at h
    exact ⟨g, h.1, hg⟩
theorem tmod_bd {x d : Int} (h0 : 0 ≤ x) (hd : 1 ≤ d) : 0 ≤ x % d ∧ x % d < d := ⟨Int.emod_nonneg _ (by omega), Int.emod_lt_of_pos _ (by omega)⟩

end Go.Proofs.YtagncoahobghpacGreatDoor

namespace Go.Proofs.YtagncoahobghpacGreatDoor
open Go.RowKit
set_option linter.unusedVariables false

/-- What newReader leaves. -/
def Opened (T : Nat) (w : World) (e : Ending) (w' : World) : Prop := ∃ R, e = .returned (.pointer (some ⟨R, 0, none⟩)) ∧ Rdr T w' R 0 ∧ Below w.heap.size w w' ∧ w.heap.size ≤ R

theorem Rdr.fresh {T n cap : Nat} {a : Option Addr} {w : World} (h : RdB w (.slice a n cap) n) (m : Nat) (hm : m ≤ n) (hm2 : m ≤ 2000) (cc : Nat) : Rdr T (w.alloc (.cells #[.slice a m cc, .int .i64 0] T)) w.heap.size 0 := by
  obtain ⟨a', cap', he, h1, h2, h⟩ := h
  simp only [Value.slice.injEq, true_and] at he
  obtain ⟨rfl, rfl⟩ := he
  refine ⟨a, m, cc, heap_alloc_new w _, hm2, ?_⟩
  rcases h with h | ⟨b, off, rfl, hb, hc⟩
  · left; omega
  · refine .inr ⟨b, off, rfl, hb, fun j hj => ?_⟩
    obtain ⟨c, q1, q2⟩ := hc j (by omega)
    exact ⟨c, q1, (World.cell?_of_block (w := w) (Below.heap_alloc w _ b hb)).trans q2⟩

set_option maxHeartbeats 1000000 in
theorem newReader_any (v : Value) (n : Nat) (w : World) (h : RdB w v n) :
    Calls Tryz.prog 12 #[v] w (Opened 51 w) := by
  have h0 := h
  obtain ⟨a, cap, rfl, h1, h2, -⟩ := h0
  unfold maxLen at h2
  by_cases hbig : 2000 < n
  · have HR := Lib.hid (Rdr.fresh (T := 51) h 2000 (by omega) (Nat.le_refl _) cap)
    have i1 : (2000 : Int) ≤ (cap : Int) := by omega
    clear h
    go_enter Tryz.func12, Tryz.ntmps12
    go_wp2
    go_ret
    exact ⟨_, rfl, HR.out, (Below.refl _ _).alloc (Nat.le_refl _) _, Nat.le_refl _⟩
  · have HR := Lib.hid (Rdr.fresh (T := 51) h n (Nat.le_refl _) (by omega) cap)
    clear h
    go_enter Tryz.func12, Tryz.ntmps12
    go_wp2
    go_ret
    exact ⟨_, rfl, HR.out, (Below.refl _ _).alloc (Nat.le_refl _) _, Nat.le_refl _⟩

/-- What a Draw function of one row leaves: some row. -/
def DrewRow (E : Nat) (w : World) (e : Ending) (w' : World) : Prop := ∃ v xs, e = .returned v ∧ Own E w.heap.size w' v xs ∧ xs.length ≤ 64 ∧ (∀ x ∈ xs, (Lit.int .i64 x).wf = true) ∧ Below w.heap.size w w'
theorem drewRow_of {E T : Nat} {w w1 w2 : World} {R p : Nat} {e : Ending} (b : Below w.heap.size w w1) (hR : w.heap.size ≤ R) (h : Drawn E T w1 R p e w2) : DrewRow E w e w2 := by
  obtain ⟨v, xs, p', rfl, hO, hl, hw, hR2, hp', g⟩ := h
  exact ⟨v, xs, rfl, hO.mono b.size, hl, hw, b.grown g b.size (fun k hk => by injection hk with hk; omega)⟩

end Go.Proofs.YtagncoahobghpacGreatDoor
