/-
  OrderBy and RootOf of the program, by their contracts.
-/
import Derived.Test.YtabbfehjgchmgaaRest
import Derived.Deep.RegionHeld3
namespace Go.Proofs.Ytabbfehjgchmgaa
open Go.RowKit
set_option linter.unusedVariables false

def obF (x : Int) : Int := if 1 ≤ x ∧ x ≤ 96 then (ordN x.toNat : Nat) else -1
theorem obF_yes {n : Nat} (h0 : 1 ≤ n) (h1 : n ≤ 96) : obF n = (ordN n : Nat) := by unfold obF; rw [if_pos (by omega), Int.toNat_natCast]
theorem obF_no {x : Int} (h : ¬ (1 ≤ x ∧ x ≤ 96)) : obF x = -1 := by unfold obF; exact if_neg h
theorem pm_first {x : Nat} (h : x < 97) : pm x 1 = x := by show 1 * x % 97 = x; rw [Nat.one_mul, Nat.mod_eq_of_lt h]

/-- What OrderBy carries round: the base and the power so far. -/
structure ObI (w wr : World) (gb g : Nat) (x z : Int) : Prop where
  base : wr.cell? ⟨gb, 0, none⟩ = some (.int .i64 x)
  cur : wr.cell? ⟨g, 0, none⟩ = some (.int .i64 z)
  curf : wr.frozen? ⟨g, 0, none⟩ = false
  lo : w.heap.size ≤ gb
  next : gb < g
  size : g < wr.heap.size
  bel : Below w.heap.size w wr
theorem ObI.call {w wr w1 : World} {gb g : Nat} {x z : Int} (h : ObI w wr gb g x z) (b : Below wr.heap.size wr w1) : ObI w w1 gb g x z := by
  have hs := h.size
  have hn := h.next
  have hl := h.lo
  refine ⟨?_, ?_, ?_, hl, hn, Nat.lt_of_lt_of_le hs b.size, h.bel.trans (b.mono (by omega))⟩
  · rw [b.cell (p := ⟨gb, 0, none⟩) (by show gb < _; omega)]; exact h.base
  · rw [b.cell (p := ⟨g, 0, none⟩) hs]; exact h.cur
  · rw [b.frozen (p := ⟨g, 0, none⟩) hs]; exact h.curf
theorem ObI.drew {w wr : World} {gb g : Nat} {x z : Int} (h : ObI w wr gb g x z) : ObI w wr.drew gb g x z := ⟨h.base, h.cur, h.curf, h.lo, h.next, h.size, below_drewN h.bel 1⟩
theorem ObI.fresh {w wr : World} {gb g : Nat} {x z : Int} (h : ObI w wr gb g x z) (E : Nat) : ObI w (wr.alloc (.cells #[.int .i64 z] E)) gb wr.heap.size x z := by
  have hs := h.size
  have hn := h.next
  obtain ⟨h3, h4, h5⟩ := held_new (Below.refl _ (wr.alloc (.cells #[.int .i64 z] E))) (k := wr.heap.size) rfl
  have h' := h.call ((Below.refl _ _).alloc (Nat.le_refl _) (.cells #[.int .i64 z] E))
  exact ⟨h'.base, h3, h4, h.lo, by omega, h5, h'.bel⟩
theorem ObI.set {w wr : World} {gb g : Nat} {x z : Int} (h : ObI w wr gb g x z) (u : Int) : ObI w (wr.setCell ⟨g, 0, none⟩ (.int .i64 u)) gb g x u := by
  have hs := h.size
  have hn := h.next
  have hl := h.lo
  refine ⟨?_, ?_, ?_, hl, hn, by simpa [World.setCell] using hs, h.bel.setCell (by show w.heap.size ≤ g; omega) _⟩
  · rw [cell_else wr _ (k := gb) (by show gb ≠ g; omega)]; exact h.base
  · have hc := h.cur; simp [go_sem, hc]
  · have hf := h.curf; simp [go_sem, hf]

theorem ObI.start (n : Nat) (w w1 : World) (b : Below w.heap.size w w1) (E : Nat) (hn : n < 97) : ObI w ((w1.alloc (.cells #[.int .i64 n] E)).alloc (.cells #[.int .i64 n] E)) w1.heap.size (w1.heap.size + 1) n (pm n 1 : Nat) := by
  rw [pm_first hn]
  have b2 := (Below.refl (w1.alloc (.cells #[.int .i64 n] E)).heap.size (w1.alloc (.cells #[.int .i64 n] E))).alloc (Nat.le_refl _) (.cells #[.int .i64 n] E)
  obtain ⟨h1, h2, -⟩ := held_new b2 (k := w1.heap.size) rfl
  obtain ⟨h3, h4, -⟩ := held_new (Below.refl _ ((w1.alloc (.cells #[.int .i64 n] E)).alloc (.cells #[.int .i64 n] E))) (k := w1.heap.size + 1) (by simp)
  have hs := b.size
  exact ⟨h1, h3, h4, hs, by omega, by simp, (b.alloc hs _).alloc (by simp; omega) _⟩

set_option maxHeartbeats 2000000 in
theorem implOrderBy_any (x : Int) (w : World) :
    Calls Try.prog 13 #[.int .i64 x] w (Tells (obF x) w) := by
  by_cases hx : 1 ≤ x ∧ x ≤ 96
  · obtain ⟨n, rfl⟩ : ∃ n : Nat, x = (n : Int) := ⟨x.toNat, by omega⟩
    have hn0 : 1 ≤ n := by omega
    have hn1 : n ≤ 96 := by omega
    have hx0 : (1 : Int) ≤ (n : Int) := by omega
    have hx1 : (n : Int) ≤ 96 := by omega
    obtain ⟨ho1, ho2, -, ho4⟩ := ord_facts n (by omega) (by omega)
    have HF := Lib.hid (obF_yes hn0 hn1)
    have HO := Lib.hid ho4
    have hlt97 : n < 97 := by omega
    have hmod : (n : Int) % 97 = (n : Int) := by omega
    have HM := Lib.hid hmod
    clear ho4 hmod hx
    go_enter Try.func13, Try.ntmps13
    go_wp2_with fail
    refine (restOf_any _ _ (by omega) (by omega)).mono ?_
    rintro e w1 ⟨rfl, b1⟩
    rw [HM.out]
    have HST := Lib.hid (ObI.start n w w1 b1 44 hlt97)
    go_wp2
    go_loopw [4, 5] (fun o p wr => ∃ k g : Nat, 1 ≤ k ∧ k ≤ ordN n ∧ o = .int .i64 k ∧ p = .pointer (some ⟨g, 0, none⟩) ∧ ObI w wr w1.heap.size g n (pm n k : Nat)) (fun o _ _ => ordN n - (intOf o).toNat)
    case atStart => exact ⟨1, _, by omega, by omega, rfl, rfl, HST.out⟩
    case round =>
      obtain ⟨k, g, hk0, hk1, rfl, rfl, hI⟩ := hrel
      have HI := Lib.hid hI
      obtain ⟨-, hc, hf, -, -, hs, -⟩ := hI
      by_cases h1 : pm n k = 1
      · have hkN : k = ordN n := by
          apply Classical.byContradiction
          intro hk
          exact ord_least n hlt97 hn0 k (by omega) hk0 h1
        have HK := Lib.hid hkN
        rw [h1] at hc HI
        have hID := HI.out.drew
        clear hkN h1
        go_wp2
        go_region_held3 (fun w' => w'.cell? ⟨g, 0, none⟩ = some (.int .i64 1)) (first | exact hc | go_keep)
          (first
            | (go_at_call 46; refine (restOf_one _).mono ?_; rintro e w2 ⟨rfl, b2⟩; have hID := hID.call b2; have hc := hID.cur))
        all_goals
          have hbel := hID.bel
          clear hID HI
          go_wp2
          go_ret
          exact ⟨ret_int (by rw [HF.out, HK.out]), hbel⟩
      · have hkl : k < ordN n := by
          apply Classical.byContradiction
          intro hk
          exact h1 ((show k = ordN n by omega) ▸ HO.out)
        have hne : ((pm n k : Nat) : Int) ≠ 1 := by omega
        have e1 : (((pm n k : Nat) : Int) == 1) = false := by simpa using hne
        have e2 : (((pm n k : Nat) : Int) != 1) = true := by simpa using hne
        have hID := HI.out.drew
        go_wp2
        go_region_held3 (fun w' => w'.cell? ⟨g, 0, none⟩ = some (.int .i64 (pm n k : Nat))) (first | exact hc | go_keep)
          (first
            | (go_at_call 46; refine (restOf_one _).mono ?_; rintro e w2 ⟨rfl, b2⟩; have hID := hID.call b2; have hc := hID.cur))
        all_goals
          have hc3 := hID.base
          have hcc := hID.cur
          have hss := hID.size
          have hID2 := hID.fresh 44
          have hq := pm_lt n k
          have hcN := hID2.base
          have hcM := hID2.cur
          clear HI
          go_wp2_with fail
          refine (times_any _ _ _ (by omega) (by omega)).mono ?_
          rintro e w3 ⟨rfl, b3⟩
          rw [pm_next]
          have hID3 := hID2.call b3
          have HS := Lib.hid (hID3.set (pm n (k + 1) : Nat))
          have hc4 := hID3.cur
          have hf4 := hID3.curf
          clear hID hID2 hID3 hc3 hcc hcN hcM
          go_wp2
          go_roundw
          case rel => exact ⟨k + 1, _, by omega, by omega, by go_num, rfl, HS.out⟩
          case measure => simp [intOf]; omega
  · have HF := Lib.hid (obF_no hx)
    by_cases h1 : x < 1
    · clear hx
      go_enter Try.func13, Try.ntmps13
      go_wp2
      go_ret
      exact ⟨ret_int HF.out.symm, Below.refl _ _⟩
    · have h2 : 97 ≤ x := by omega
      clear hx
      go_enter Try.func13, Try.ntmps13
      go_wp2
      go_ret
      exact ⟨ret_int HF.out.symm, Below.refl _ _⟩

theorem div96 {n : Nat} (h : 96 % n = 0) : (96 : Int) % (n : Int) = 0 := by rw [show (96 : Int) = ((96 : Nat) : Int) from rfl, ← Int.natCast_emod, h]; rfl
theorem div96' {n : Nat} (h : (96 : Int) % (n : Int) = 0) : 96 % n = 0 := by
  rw [show (96 : Int) = ((96 : Nat) : Int) from rfl, ← Int.natCast_emod] at h
  omega
def rootF (n : Int) : Int := if 1 ≤ n ∧ n ≤ 96 ∧ 96 % n = 0 then (rtN n.toNat : Nat) else -1
theorem rootF_yes {n : Nat} (h0 : 1 ≤ n) (h1 : n ≤ 96) (h2 : 96 % n = 0) : rootF n = (rtN n : Nat) := by
  unfold rootF
  rw [if_pos ⟨by omega, by omega, div96 h2⟩, Int.toNat_natCast]
theorem rootF_no {n : Int} (h : ¬ (1 ≤ n ∧ n ≤ 96 ∧ 96 % n = 0)) : rootF n = -1 := by unfold rootF; exact if_neg h
/-- The first number of an order is its root. -/
theorem rootF_hit {n : Int} {x : Nat} (h0 : 1 ≤ x) (h1 : x ≤ 96) (he : ((ordN x : Nat) : Int) = n) (hl : ∀ y : Nat, 1 ≤ y → y < x → ((ordN y : Nat) : Int) ≠ n) : rootF n = (x : Int) := by
  subst he
  obtain ⟨a, b, c, -⟩ := ord_facts x (by omega) (by omega)
  rw [rootF_yes a b c]
  obtain ⟨d, e, f⟩ := rt_facts (ordN x) (by omega) a c
  have g := rt_least (ordN x) (by omega) a c
  rcases Nat.lt_trichotomy (rtN (ordN x)) x with q | q | q
  · exact absurd (by rw [f]) (hl _ d q)
  · rw [q]
  · exact absurd rfl (g x q (by omega))
theorem rootF_miss {n : Int} (hl : ∀ y : Nat, 1 ≤ y → y < 97 → ((ordN y : Nat) : Int) ≠ n) : rootF n = -1 := by
  refine rootF_no fun ⟨h0, h1, h2⟩ => ?_
  obtain ⟨m, rfl⟩ : ∃ m : Nat, n = (m : Int) := ⟨n.toNat, by omega⟩
  obtain ⟨d, e, f⟩ := rt_facts m (by omega) (by omega) (div96' h2)
  exact hl _ d e (by rw [f])

set_option maxHeartbeats 2000000 in
theorem implRootOf_any (n : Int) (w : World) :
    Calls Try.prog 17 #[.int .i64 n] w (Tells (rootF n) w) := by
  go_enter Try.func17, Try.ntmps17
  go_wp2
  go_loopw [3] (fun i wr => ∃ x : Nat, 1 ≤ x ∧ x ≤ 97 ∧ i = .int .i64 x ∧ Hid (∀ y : Nat, 1 ≤ y → y < x → ((ordN y : Nat) : Int) ≠ n) ∧ Below w.heap.size w wr) (fun i _ => 97 - (intOf i).toNat)
  case atStart => exact ⟨1, by omega, by omega, rfl, fun y h1 h2 => by omega, Below.refl _ _⟩
  case round =>
    obtain ⟨x, hx0, hx1, rfl, hl, hB⟩ := hrel
    by_cases hlt : x < 97
    · have hxi : (x : Int) < 97 := by omega
      have HOB := Lib.hid (obF_yes hx0 (by omega))
      obtain ⟨z, hz⟩ : ∃ z : Nat, z = ordN x := ⟨_, rfl⟩
      have HZ := Lib.hid hz
      rw [← hz] at HOB
      clear hz
      go_wp2_with fail
      refine (implOrderBy_any _ _).mono ?_
      rintro e w1 ⟨rfl, b1⟩
      rw [HOB.out]
      have hB1 := bel_nxt hB b1
      by_cases he : (z : Int) = n
      · have e1 : ((z : Int) == n) = true := by simpa using he
        have HE := Lib.hid he
        clear he
        go_wp2
        go_ret
        exact ⟨ret_int (rootF_hit hx0 (by omega) (by rw [← HZ.out]; exact HE.out) hl.out).symm, hB1⟩
      · have e1 : ((z : Int) == n) = false := by simpa using he
        have HE := Lib.hid he
        clear he
        go_wp2
        go_roundw
        case rel =>
          refine ⟨x + 1, by omega, by omega, by go_num, fun y h1 h2 => ?_, hB1⟩
          by_cases hy : y = x
          · subst hy; rw [← HZ.out]; exact HE.out
          · exact hl.out y h1 (by omega)
        case measure => simp [intOf]; omega
    · obtain rfl : x = 97 := by omega
      have HM := Lib.hid (rootF_miss hl.out)
      clear hl
      go_wp2
      go_ret
      exact ⟨ret_int HM.out.symm, hB⟩

end Go.Proofs.Ytabbfehjgchmgaa
