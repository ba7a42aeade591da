/-
  BelowOf and UnbelowOf of the program: addBelow by its contract.
-/
import Derived.Test.YtpalmbcknjmmcaaCube
import Derived.Test.YtpalmbcknjmmcaaCopy
namespace Go.Proofs.Ytpalmbcknjmmcaa
open Go.RowKit
set_option linter.unusedVariables false

theorem w64_mod (x q : Int) : wrap64 (x + 18446744073709551616 * q) = wrap64 x := by unfold wrap64; omega
theorem w64_q (x : Int) : ∃ q, wrap64 x = x + 18446744073709551616 * q := ⟨- ((x + 9223372036854775808) / 18446744073709551616), by unfold wrap64; omega⟩
theorem w64_mulR (a b : Int) : wrap64 (a * wrap64 b) = wrap64 (a * b) := by
  obtain ⟨q, hq⟩ := w64_q b
  rw [hq, Int.mul_add, ← Int.mul_assoc, Int.mul_comm a 18446744073709551616, Int.mul_assoc, w64_mod]
theorem w64_mulL (a b : Int) : wrap64 (wrap64 a * b) = wrap64 (a * b) := by rw [Int.mul_comm, w64_mulR, Int.mul_comm]

/-- One digit's pass. -/
def bstep (s : Int) (d : Nat) (F : Nat → Int) (x : Nat) : Int := if x / d % 2 = 1 then F x + s * F (x - d) else F x
/-- The passes of the first j digits. -/
def bpass (s : Int) (F : Nat → Int) : Nat → Nat → Int
  | 0 => F
  | j + 1 => bstep s (2 ^ j) (bpass s F j)
def belowL (s : Int) (xs : List Int) : List Int := tab xs.length fun x => wrap64 (bpass s (ix xs) (bitsN xs.length).toNat x)
def belowF (s : Int) (xs : List Int) : List Int := if cubeB xs = true then belowL s xs else []
theorem belowF_len (s : Int) (xs : List Int) (h : xs.length ≤ 1048576) : (belowF s xs).length ≤ 1048576 := by unfold belowF; split <;> simp [belowL, h]

theorem bit_le {x d : Nat} (h : x / d % 2 = 1) : d ≤ x := by
  rcases Nat.lt_or_ge x d with hlt | hge
  · rw [Nat.div_eq_of_lt hlt] at h; omega
  · exact hge
theorem bit_down {x d : Nat} (hd : 1 ≤ d) (h : x / d % 2 = 1) : (x - d) / d % 2 = 0 := by
  have hle := bit_le h
  have : (x - d) / d = x / d - 1 := by
    have e : x = x - d + d := by omega
    rw [e, Nat.add_div_right _ (by omega)]; simp
  rw [this]; omega

/-- The row in the middle of a pass: the first x numbers are done. -/
def midB (s : Int) (d : Nat) (F : Nat → Int) (x : Nat) (y : Nat) : Int := if y < x then bstep s d F y else F y
theorem midB_zero (s : Int) (d : Nat) (F : Nat → Int) (y : Nat) : midB s d F 0 y = F y := by simp [midB]
theorem midB_skip {s : Int} {d : Nat} {F : Nat → Int} {x : Nat} (h : ¬ x / d % 2 = 1) (y : Nat) : midB s d F (x + 1) y = midB s d F x y := by
  unfold midB
  by_cases h1 : y < x
  · rw [if_pos h1, if_pos (by omega)]
  · rw [if_neg h1]
    by_cases h2 : y = x
    · subst h2; rw [if_pos (by omega)]; unfold bstep; rw [if_neg h]
    · rw [if_neg (by omega)]

/-- What is carried round the passes. -/
def BelInv (E B : Nat) (w wr : World) (g n c : Nat) (s : Int) (d : Nat) (F : Nat → Int) (x : Nat) : Prop :=
  Own E B wr (.slice (some ⟨g, 0, none⟩) n c) (tab n fun y => wrap64 (midB s d F x y)) ∧ Below w.heap.size w wr
theorem BelInv.drew {E B : Nat} {w wr : World} {g n c : Nat} {s : Int} {d : Nat} {F : Nat → Int} {x : Nat} (h : BelInv E B w wr g n c s d F x) : BelInv E B w wr.drew g n c s d F x := ⟨h.1, h.2.drew⟩
theorem BelInv.skip {E B : Nat} {w wr : World} {g n c : Nat} {s : Int} {d : Nat} {F : Nat → Int} {x : Nat} (h : BelInv E B w wr g n c s d F x) (hx : ¬ x / d % 2 = 1) : BelInv E B w wr g n c s d F (x + 1) := by
  refine ⟨?_, h.2⟩
  rw [tab_congr (g := fun y => wrap64 (midB s d F x y)) (fun y _ => by rw [midB_skip hx])]
  exact h.1
theorem BelInv.step {E B : Nat} {w wr : World} {g n c : Nat} {s : Int} {d : Nat} {F : Nat → Int} {x : Nat} (h : BelInv E B w wr g n c s d F x) (hg : w.heap.size ≤ g) (hd : 1 ≤ d) (hx : x / d % 2 = 1) :
    BelInv E B w (wr.setCell ⟨g, x, none⟩ (.int .i64 (wrap64 (wrap64 (F x) + wrap64 (s * wrap64 (F (x - d))))))) g n c s d F (x + 1) := by
  refine ⟨?_, h.2.setCell hg _⟩
  have := h.1.set x (wrap64 (wrap64 (F x) + wrap64 (s * wrap64 (F (x - d)))))
  rw [tab_set] at this
  rw [tab_congr (g := fun y => wrap64 (midB s d F (x + 1) y))] at this
  · exact this
  · intro y hy
    by_cases e : y = x
    · subst e
      rw [if_pos rfl, w64_mulR, w64_add]
      unfold midB; rw [if_pos (by omega)]; unfold bstep; rw [if_pos hx]
    · rw [if_neg e]
      unfold midB
      by_cases h1 : y < x
      · rw [if_pos h1, if_pos (by omega)]
      · rw [if_neg h1, if_neg (by omega)]
theorem BelInv.cellx {E B : Nat} {w wr : World} {g n c : Nat} {s : Int} {d : Nat} {F : Nat → Int} {x : Nat} (h : BelInv E B w wr g n c s d F x) (hx : x < n) : wr.cell? ⟨g, x, none⟩ = some (.int .i64 (wrap64 (F x))) := by
  have := h.1.cell x (by simpa using hx)
  rw [ix_tab _ _ _ hx] at this
  unfold midB at this
  rw [if_neg (by omega)] at this
  exact this
theorem BelInv.celly {E B : Nat} {w wr : World} {g n c : Nat} {s : Int} {d : Nat} {F : Nat → Int} {x : Nat} (h : BelInv E B w wr g n c s d F x) (hx : x < n) (hd : 1 ≤ d) (hb : x / d % 2 = 1) : wr.cell? ⟨g, x - d, none⟩ = some (.int .i64 (wrap64 (F (x - d)))) := by
  have hle := bit_le hb
  have := h.1.cell (x - d) (by simp; omega)
  rw [ix_tab _ _ _ (by omega)] at this
  unfold midB at this
  rw [if_pos (by omega)] at this
  unfold bstep at this
  rw [if_neg (by have := bit_down hd hb; omega)] at this
  exact this
theorem BelInv.next {E B : Nat} {w wr : World} {g n c : Nat} {s : Int} {j : Nat} {F : Nat → Int} (h : BelInv E B w wr g n c s (2 ^ j) (bpass s F j) n) : BelInv E B w wr g n c s (2 ^ (j + 1)) (bpass s F (j + 1)) 0 := by
  refine ⟨?_, h.2⟩
  rw [tab_congr (g := fun y => wrap64 (midB s (2 ^ j) (bpass s F j) n y)) (fun y hy => by rw [midB_zero]; unfold midB; rw [if_pos hy]; rfl)]
  exact h.1

set_option maxHeartbeats 4000000 in
theorem addBelow_yes (v : Value) (xs : List Int) (s : Int) (w : World) (h : Rd w v xs) (hl : xs.length ≤ maxLen) (hw : ∀ n ∈ xs, (Lit.int .i64 n).wf = true) (hs : s = 1 ∨ s = -1) (hcube : cubeB xs = true) :
    Calls Try.prog 80 #[v, .int .i64 s] w (Made 3 w (belowL s xs)) := by
  have hv := isBinaryRow_any v xs w h hl
  rw [hcube] at hv
  obtain ⟨hvr, k, hk4, hk⟩ := cubeB_of hcube
  have hM := vr_max hvr
  have h16 := (vrB_of hvr).1
  obtain ⟨F, hF⟩ : ∃ F, F = ix xs := ⟨_, rfl⟩
  have HL : Hid (belowL s xs = tab xs.length fun x => wrap64 (bpass s F k x)) := by
    show belowL s xs = _
    unfold belowL
    rw [hk, bitsN_pow hk4 rfl, hF]; rfl
  obtain ⟨n, hn⟩ : ∃ n, n = xs.length := ⟨_, rfl⟩
  have HK : Hid (n = 2 ^ k) := hn.trans hk
  have HN := Lib.hid hn
  have hs1 : -1 ≤ s := by omega
  have hs2 : s ≤ 1 := by omega
  clear hk hs
  go_enter Try.func80, Try.ntmps80
  go_wp2_with fail
  refine hv.mono ?_
  rintro e w1 ⟨rfl, b1⟩
  go_wp2_with fail
  refine (copyOf_any v xs _ (h.below b1 (Nat.le_refl _)) hM).mono ?_
  rintro e w2 ⟨g, rfl, hg, o2, b2⟩
  have hI : BelInv 3 w1.heap.size w w2 g n n s (2 ^ 0) (bpass s F 0) 0 := by
    refine ⟨?_, bel_nxt b1 b2⟩
    rw [tab_congr (g := fun j => wrap64 (ix xs j)) (fun j _ => by rw [midB_zero, hF]; rfl), hn, ← tab_wf hw]
    exact o2
  have hgw : w.heap.size ≤ g := Nat.le_trans b1.size hg
  have hb1 := b1.size
  rw [← hn]
  rw [← hn] at h16
  clear o2 b2 hv hcube hvr b1 hF h hl hn
  go_wp2
  go_loopw [6] (fun dg wr => ∃ j d : Nat, j ≤ k ∧ dg = .int .i64 d ∧ Hid (2 ^ j = d) ∧ BelInv 3 w1.heap.size w wr g n n s (2 ^ j) (bpass s F j) 0) (fun dg _ => n - (intOf dg).toNat)
  case atStart => exact ⟨0, 1, Nat.zero_le _, rfl, rfl, hI⟩
  case round =>
    obtain ⟨j, d, hj, rfl, hd, hIr⟩ := hrel
    have hd1 : 1 ≤ d := by rw [← hd.out]; exact Nat.one_le_two_pow
    by_cases hlt : d < n
    · have hjk : j + 1 ≤ k := by
        rcases Nat.lt_or_ge j k with h1 | h1
        · exact h1
        · obtain rfl : j = k := by omega
          have := HK.out; have := hd.out; omega
      obtain ⟨wo, rfl⟩ : ∃ wo : World, wo = wr := ⟨_, rfl⟩
      obtain ⟨G, hG⟩ : ∃ G, G = bpass s F j := ⟨_, rfl⟩
      rw [hd.out, ← hG] at hIr
      have HG := Lib.hid hG
      clear hG
      go_wp2
      go_loopw [7, 21] (fun _ i wr => ∃ x : Nat, x ≤ n ∧ i = .int .i64 x ∧ BelInv 3 w1.heap.size w wr g n n s d G x) (fun _ i _ => n - (intOf i).toNat)
      case atStart => exact ⟨0, Nat.zero_le _, rfl, hIr⟩
      case round =>
        obtain ⟨x, hx, rfl, hIx⟩ := hrel
        by_cases hxl : x < n
        · by_cases hbit : x / d % 2 = 1
          · have hle : d ≤ x := bit_le hbit
            have e1 : (bits BinOp.and IntKind.i64 (x : Int) (d : Int) != 0) = true := by
              rw [i64_and_nat x d (by omega) (by omega), ← hd.out, and_bit, hd.out, hbit]; simp; omega
            have hcx := hIx.cellx hxl
            have hcy := hIx.celly hxl hd1 hbit
            have hf := hIx.1.frozen x
            have HS := Lib.hid (hIx.step hgw hd1 hbit)
            have i1 : (x : Int) - (d : Int) = ((x - d : Nat) : Int) := by omega
            clear hIx hIr hbit
            go_wp2
            go_region
            go_wp2
            go_roundw
            case rel => exact ⟨x + 1, by omega, by go_num, HS.out.drew⟩
            case measure => simp [intOf]; omega
          · have e1 : (bits BinOp.and IntKind.i64 (x : Int) (d : Int) != 0) = false := by
              rw [i64_and_nat x d (by omega) (by omega), ← hd.out, and_bit, hd.out, show x / d % 2 = 0 by omega]; simp
            have HS := Lib.hid (hIx.skip hbit)
            clear hIx hIr hbit
            go_wp2
            go_roundw
            case rel => exact ⟨x + 1, by omega, by go_num, HS.out⟩
            case measure => simp [intOf]; omega
        · have hxn : x = n := by omega
          subst hxn
          have HS : Hid (BelInv 3 w1.heap.size w wr g x x s (2 ^ (j + 1)) (bpass s F (j + 1)) 0) := by
            have := hIx
            rw [HG.out, ← hd.out] at this
            exact this.next
          have hd2 : Hid (2 ^ (j + 1) = d * 2) := by show 2 ^ (j + 1) = d * 2; rw [Nat.pow_succ, hd.out]
          clear hIx hIr
          go_wp2
          go_roundw
          case rel => exact ⟨j + 1, d * 2, hjk, by go_num, hd2, HS.out⟩
          case measure => simp [intOf]; omega
    · have hjk : j = k := by
        rcases Nat.lt_or_ge j k with h1 | h1
        · have h2 : 2 ^ (j + 1) ≤ 2 ^ k := Nat.pow_le_pow_right (by omega) h1
          have := HK.out; have := hd.out; rw [Nat.pow_succ] at h2; have := Nat.two_pow_pos j; omega
        · omega
      subst hjk
      go_wp2
      go_ret
      refine ⟨_, rfl, ?_, hIr.2⟩
      have := hIr.1.mono hb1
      rw [tab_congr (g := fun y => wrap64 (bpass s F j y)) (fun y _ => by rw [midB_zero]), HN.out, ← HL.out] at this
      rw [HN.out]
      exact this

theorem addBelow_any (v : Value) (xs : List Int) (s : Int) (w : World) (h : Rd w v xs) (hl : xs.length ≤ maxLen) (hw : ∀ n ∈ xs, (Lit.int .i64 n).wf = true) (hs : s = 1 ∨ s = -1) :
    Calls Try.prog 80 #[v, .int .i64 s] w (Made 3 w (belowF s xs)) := by
  cases hb : cubeB xs with
  | true =>
    have hF : belowF s xs = belowL s xs := by unfold belowF; exact if_pos hb
    rw [hF]
    exact addBelow_yes v xs s w h hl hw hs hb
  | false =>
    have hv := isBinaryRow_any v xs w h hl
    rw [hb] at hv
    have hF : Hid (belowF s xs = []) := by unfold belowF; exact if_neg (by simp [hb])
    go_enter Try.func80, Try.ntmps80
    go_wp2_with fail
    refine hv.mono ?_
    rintro e w1 ⟨rfl, b1⟩
    go_wp2
    go_ret
    exact ⟨_, rfl, by rw [hF.out]; exact Own.nil _ _ _, b1⟩

theorem implBelowOf_any (v : Value) (xs : List Int) (w : World) (h : Rd w v xs) (hl : xs.length ≤ maxLen) (hw : ∀ n ∈ xs, (Lit.int .i64 n).wf = true) :
    Calls Try.prog 44 #[v] w (Made 3 w (belowF 1 xs)) := by
  go_enter Try.func44, Try.ntmps44
  go_wp2_with fail
  refine (addBelow_any v xs 1 _ h hl hw (.inl rfl)).mono ?_
  rintro e w1 ⟨g, rfl, o1, b1⟩
  go_wp2
  go_ret
  exact ⟨_, rfl, o1, b1⟩

end Go.Proofs.Ytpalmbcknjmmcaa
