/-
  RingOf of the program, by its contract.
-/
import Derived.Test.YtabbfehjgchmgaaWvI
import Derived.Deep.RegionWith
namespace Go.Proofs.Ytabbfehjgchmgaa
open Go.RowKit
set_option linter.unusedVariables false

theorem grown_below {W wr w1 : World} {r : Option Nat} (h : W.grownBy wr r) (b : Below wr.heap.size wr w1) : W.grownBy w1 r :=
  ⟨b.os.trans h.os, b.tape.trans h.tape, b.output.trans h.output, Nat.le_trans h.size b.size, fun i hi hne => (b.block i (Nat.lt_of_lt_of_le hi h.size)).trans (h.block i hi hne)⟩

/-- Where the product of x and y goes. -/
def rop (n x y : Nat) : Nat := (x + y) % n
theorem mR_step (F G : Nat → Int) {n x y c : Nat} (hc : rop n x y = c) (j : Nat) :
    (if j = c then (mP (rop n) F G n x y c % 97 + F x * G y % 97) % 97 else mP (rop n) F G n x y j % 97) = mP (rop n) F G n x (y + 1) j % 97 := by
  by_cases h : j = c
  · subst h
    rw [if_pos rfl]
    unfold mP
    rw [sumN, if_pos hc]
    omega
  · rw [if_neg h]
    unfold mP
    rw [sumN, if_neg (by rw [hc]; exact fun e => h e.symm), Int.add_zero]
/-- What RingOf carries round: all pairs ahead of (x, y) are in; nothing else that lay in W has changed. -/
structure RgI (E B : Nat) (W wr : World) (g n x y : Nat) (F G : Nat → Int) : Prop where
  own : Own E B wr (.slice (some ⟨g, 0, none⟩) n n) (tab n fun j => mP (rop n) F G n x y j % 97)
  grow : W.grownBy wr (some g)
theorem RgI.call {E B : Nat} {W wr w1 : World} {g n x y : Nat} {F G : Nat → Int} (h : RgI E B W wr g n x y F G) (b : Below wr.heap.size wr w1) : RgI E B W w1 g n x y F G := ⟨h.own.below b (Nat.le_refl _), grown_below h.grow b⟩
theorem RgI.alloc {E B : Nat} {W wr : World} {g n x y : Nat} {F G : Nat → Int} (h : RgI E B W wr g n x y F G) (o : Obj) : RgI E B W (wr.alloc o) g n x y F G := h.call ((Below.refl _ _).alloc (Nat.le_refl _) _)
theorem RgI.drew {E B : Nat} {W wr : World} {g n x y : Nat} {F G : Nat → Int} (h : RgI E B W wr g n x y F G) : RgI E B W wr.drew g n x y F G := ⟨h.own.drew, grown_drew h.grow 1⟩
theorem RgI.cell {E B : Nat} {W wr : World} {g n x y d : Nat} {F G : Nat → Int} (h : RgI E B W wr g n x y F G) (hd : d < n) : wr.cell? ⟨g, d, none⟩ = some (.int .i64 (mP (rop n) F G n x y d % 97)) := by
  have := h.own.cell d (by simpa using hd)
  rw [ix_tab _ _ _ hd] at this
  exact this
theorem RgI.step {E B : Nat} {W wr : World} {g n x y d : Nat} {F G : Nat → Int} (h : RgI E B W wr g n x y F G) (hd : rop n x y = d) :
    RgI E B W (wr.setCell ⟨g, d, none⟩ (.int .i64 ((mP (rop n) F G n x y d % 97 + F x * G y % 97) % 97))) g n x (y + 1) F G := by
  refine ⟨?_, grown_set h.grow _ _⟩
  have := h.own.set d ((mP (rop n) F G n x y d % 97 + F x * G y % 97) % 97)
  rw [tab_set, tab_congr (fun j _ => mR_step F G hd j)] at this
  exact this
theorem RgI.next {E B : Nat} {W wr : World} {g n x : Nat} {F G : Nat → Int} (h : RgI E B W wr g n x n F G) : RgI E B W wr g n (x + 1) 0 F G := by
  refine ⟨?_, h.grow⟩
  rw [tab_congr (g := fun j => mP (rop n) F G n x n j % 97) (fun j _ => by rw [mP_next])]
  exact h.own
theorem RgI.start {E B : Nat} {W : World} {g n : Nat} {F G : Nat → Int} (h : Own E B W (.slice (some ⟨g, 0, none⟩) n n) (tab n fun _ => 0)) : RgI E B W W g n 0 0 F G := by
  refine ⟨?_, World.grownBy.refl _ _⟩
  rw [tab_congr (g := fun _ => 0) (fun j _ => by rw [mP_zero]; rfl)]
  exact h
theorem RgI.done {E B : Nat} {W wr : World} {g : Nat} {xs ys : List Int} (h : RgI E B W wr g xs.length xs.length 0 (ix xs) (ix ys)) : Own E B wr (.slice (some ⟨g, 0, none⟩) xs.length xs.length) (ringL xs ys) := by
  have := h.own
  rw [tab_congr (g := fun j => mixE (rop xs.length) (ix xs) (ix ys) xs.length j % 97) (fun j _ => by rw [mP_all])] at this
  exact this

def ringB (xs ys : List Int) : Bool := vsB xs && (vsB ys && decide (xs.length = ys.length))
def ringF (xs ys : List Int) : List Int := if ringB xs ys = true then ringL xs ys else []
theorem ringF_yes {xs ys : List Int} (h : ringB xs ys = true) : ringF xs ys = ringL xs ys := by unfold ringF; exact if_pos h
theorem ringF_no {xs ys : List Int} (h : ringB xs ys = false) : ringF xs ys = [] := by unfold ringF; exact if_neg (by simp [h])
theorem ringF_len (xs ys : List Int) (h : xs.length ≤ 1048576) : (ringF xs ys).length ≤ 1048576 := by unfold ringF; split <;> simp [h]

set_option maxHeartbeats 8000000 in
theorem implRing_go (b b' off off' c c' : Nat) (xs ys : List Int) (w : World) (hX : Vs xs) (hY : Vs ys) (he : ys.length = xs.length)
    (h : Rd w (.slice (some ⟨b, off, none⟩) xs.length c) xs) (h' : Rd w (.slice (some ⟨b', off', none⟩) xs.length c') ys)
    (hv1 : Calls Try.prog 20 #[.slice (some ⟨b, off, none⟩) xs.length c] w fun e w' => e = .returned (.bool true) ∧ w = w')
    (hv2 : Calls Try.prog 20 #[.slice (some ⟨b', off', none⟩) xs.length c'] w fun e w' => e = .returned (.bool true) ∧ w = w') :
    Calls Try.prog 32 #[.slice (some ⟨b, off, none⟩) xs.length c, .slice (some ⟨b', off', none⟩) xs.length c'] w (Made 3 w (ringL xs ys)) := by
  obtain ⟨hn0, hn1⟩ : 0 < xs.length ∧ xs.length ≤ 96 := ⟨hX.some, hX.few⟩
  have HA := Lib.hid fun w (v : Value) (h : Rd w v xs) => restsOf_any v xs w h hn0 hn1 hX.rest
  have HB := Lib.hid fun w (v : Value) (h : Rd w v ys) => restsOf_any v ys w h (by rw [he]; exact hn0) (by rw [he]; exact hn1) hY.rest
  have HC := Lib.hid fun w (v : Value) (h : Rd w v (ringL xs ys)) => numbersOf_any v _ w h (by rw [len_ringL]; exact hn0) (by rw [len_ringL]; exact hn1)
  have hrx := hX.rest
  have hry := hY.rest
  have HH := Lib.hid h
  have HH' := Lib.hid h'
  have HE := Lib.hid he
  obtain ⟨i0, hi, hz0, hz1, hz2⟩ := info_parts infoRest
  obtain ⟨F, hF⟩ : ∃ F, F = ix xs := ⟨_, rfl⟩
  obtain ⟨G, hG⟩ : ∃ G, G = ix ys := ⟨_, rfl⟩
  obtain ⟨n, hn⟩ : ∃ n, n = xs.length := ⟨_, rfl⟩
  rw [he] at hry
  rw [← hn] at HH HH' hv1 hv2 hn0 hn1 hrx hry HE ⊢
  rw [← hF] at hrx
  rw [← hG] at hry
  have HF := Lib.hid hF
  have HG := Lib.hid hG
  have HN := Lib.hid hn
  have e0 : ((n : Int) == (n : Int)) = true := by simp
  have e1 : ((n : Int) != (n : Int)) = false := by simp
  have e2 : ((n : Int) == 0) = false := by rw [beq_eq_false_iff_ne]; omega
  clear hX hY he h h' hF hG hn
  go_enter Try.func32, Try.ntmps32
  go_wp2_with fail
  refine hv1.mono ?_
  rintro e w1 ⟨rfl, rfl⟩
  go_wp2_with fail
  refine hv2.mono ?_
  rintro e w1 ⟨rfl, rfl⟩
  clear hv1 hv2
  go_wp2_with (at_make; refine wpList_make_full _ rfl _ _ 51 rfl w.heap.size 44 i0 (.agg #[.int .i64 0]) 1 Try.underlying51 hi hz0 hz1 _ _ _ _ n rfl rfl rfl rfl ?c1 ?c2 ?c3 ?_)
  case c1 => rw [hz2]; omega
  case c2 => unfold maxLen; omega
  case c3 => omega
  intro w1 hown hgrow
  have hO : Own 44 w.heap.size w1 (.slice (some ⟨w.heap.size, 0, none⟩) n n) (tab n fun _ => 0) := own_made hown
  have bb := (Below.refl w.heap.size w).grown hgrow (Nat.le_refl _) (by simp)
  have hgs : w.heap.size < w1.heap.size := (World.ownsRow.lt hO w.heap.size rfl).2
  clear hown hgrow hi hz0 hz1 hz2
  go_wp2_with fail
  refine (HB.out _ _ (HH'.out.below bb (Nat.le_refl _))).mono ?_
  rintro e w2 ⟨gB, rfl, hgB, pB, b2⟩
  have hO := hO.below b2 (Nat.le_refl _)
  have bb := bel_nxt bb b2
  go_wp2_with fail
  refine (HA.out _ _ (HH.out.below bb (Nat.le_refl _))).mono ?_
  rintro e w3 ⟨gA, rfl, hgA, pA, b3⟩
  have hO := hO.below b3 (Nat.le_refl _)
  have pB := pB.below b3 (Nat.le_refl _)
  have bb := bel_nxt bb b3
  have hs2 := b2.size
  rw [HE.out] at pB ⊢
  rw [← HN.out] at pA ⊢
  have hgne1 : gA ≠ w.heap.size := by omega
  have hgne2 : gB ≠ w.heap.size := by omega
  have HCA := Lib.hid fun j (hj : j < n) => pA.cell (g := gA) j (by rw [← HN.out]; exact hj)
  have HCB := Lib.hid fun j (hj : j < n) => pB.cell (g := gB) j (by rw [HE.out]; exact hj)
  rw [← HF.out] at HCA
  rw [← HG.out] at HCB
  have hI : RgI 44 w.heap.size w3 w3 w.heap.size n 0 0 F G := RgI.start hO
  have hgA : gA < w3.heap.size := (World.ownsRow.lt pA gA rfl).2
  have hgB : gB < w3.heap.size := (World.ownsRow.lt pB gB rfl).2
  have hg3 : w.heap.size < w3.heap.size := by have := b3.size; omega
  have BB := Lib.hid bb
  clear hO pA pB b2 b3 bb hs2 hgs
  go_wp2
  go_loopw [35] (fun i wr => ∃ x : Nat, x ≤ n ∧ i = .int .i64 x ∧ RgI 44 w.heap.size w3 wr w.heap.size n x 0 F G) (fun i _ => n - (intOf i).toNat)
  case atStart => exact ⟨0, Nat.zero_le _, rfl, hI⟩
  case round =>
    obtain ⟨x, hx, rfl, hJ⟩ := hrel
    by_cases hlt : x < n
    · have hxi : (x : Int) < (n : Int) := by omega
      have hca := (hJ.grow.cell (HCA.out x hlt) (by simp; omega))
      obtain ⟨hfx0, hfx1⟩ := hrx x hlt
      have hJ2 := hJ.alloc (.cells #[.int .i64 (F x)] 44)
      have hcx := cell_new1 wr (.int .i64 (F x)) 44
      obtain ⟨gx, hgx⟩ : ∃ gx, gx = wr.heap.size := ⟨_, rfl⟩
      have hgx2 : gx < (wr.alloc (.cells #[.int .i64 (F x)] 44)).heap.size := by simp; omega
      have hgx3 : w.heap.size < gx := by have := hJ.grow.size; omega
      rw [← hgx] at hcx
      have HGX := Lib.hid hgx
      obtain ⟨fx, hfx⟩ : ∃ fx, fx = F x := ⟨_, rfl⟩
      rw [← hfx] at hca hcx hfx0 hfx1 hJ2 hgx2
      have HFX := Lib.hid hfx
      clear hI hJ hgx hrx hfx
      go_wp2
      rw [← HGX.out]
      go_loopw [42] (fun i wr => ∃ y : Nat, y ≤ n ∧ i = .int .i64 y ∧ RgI 44 w.heap.size w3 wr w.heap.size n x y F G ∧ wr.cell? ⟨gx, 0, none⟩ = some (.int .i64 fx) ∧ gx < wr.heap.size) (fun i _ => n - (intOf i).toNat)
      case atStart => exact ⟨0, Nat.zero_le _, rfl, hJ2, hcx, hgx2⟩
      case round =>
        obtain ⟨y, hy, rfl, hK, hcx, hgx⟩ := hrel
        by_cases hyl : y < n
        · have hyi : (y : Int) < (n : Int) := by omega
          have hcb := (hK.grow.cell (HCB.out y hyl) (by simp; omega))
          obtain ⟨hgy0, hgy1⟩ := hry y hyl
          have hdl : rop n x y < n := Nat.mod_lt _ hn0
          have hmod : ((x : Int) + (y : Int)) % (n : Int) = ((rop n x y : Nat) : Int) := by show _ = (((x + y) % n : Nat) : Int); rw [Int.natCast_emod, Int.natCast_add]
          obtain ⟨d, hd⟩ : ∃ d, rop n x y = d := ⟨_, rfl⟩
          rw [hd] at hmod hdl
          have hcs := hK.cell hdl
          have hfs := hK.own.frozen d
          have hdi : (d : Int) < (n : Int) := by omega
          have hgs : w.heap.size < wr.heap.size := by have := hK.grow.size; omega
          have HD := Lib.hid hd
          obtain ⟨fy, hfy⟩ : ∃ fy, fy = G y := ⟨_, rfl⟩
          rw [← hfy] at hcb hgy0 hgy1
          have HFY := Lib.hid hfy
          obtain ⟨m, hm⟩ : ∃ m, m = mP (rop n) F G n x y d % 97 := ⟨_, rfl⟩
          have hmb : 0 ≤ m ∧ m ≤ 96 := by omega
          rw [← hm] at hcs
          have HM := Lib.hid hm
          obtain ⟨p, hp⟩ : ∃ p, p = fx * fy % 97 := ⟨_, rfl⟩
          have hpb : 0 ≤ p ∧ p ≤ 96 := by omega
          have HT := Lib.hid fun w => times_any fx fy w ⟨hfx0, hfx1⟩ ⟨hgy0, hgy1⟩
          rw [← hp] at HT
          have HP := Lib.hid hp
          have HJ := Lib.hid (hK.alloc (.cells #[.int .i64 fy] 44)).drew
          have hcx1 : Hid ((wr.alloc (.cells #[.int .i64 fy] 44)).drew.cell? ⟨gx, 0, none⟩ = some (.int .i64 fx)) := (World.cell?_of_block (w := wr) (Below.heap_alloc wr _ gx hgx)).trans hcx
          have hgx4 : gx < (wr.alloc (.cells #[.int .i64 fy] 44)).drew.heap.size := by have := Nat.lt_succ_of_lt hgx; simpa using this
          clear hJ2 hgx2 hK hd hm hp hfy hry
          go_wp2
          go_region_with
            (first
              | (go_at_call 47; refine (HT.out _).mono ?_; rintro e w4 ⟨rfl, b4⟩; have hN := HJ.out.call b4; have hcs := hN.cell hdl; rw [← HM.out] at hcs; have hcy := (b4.cell (p := ⟨gx, 0, none⟩) hgx4).trans hcx1.out; have hgx5 := Nat.lt_of_lt_of_le hgx4 b4.size)
              | (go_at_call 61; refine (plus_any m p _ hmb hpb).mono ?_; rintro e w5 ⟨rfl, b5⟩; have hN := hN.call b5; have hcs := hN.cell hdl; have hfs := hN.own.frozen d; have hcy := (b5.cell (p := ⟨gx, 0, none⟩) hgx5).trans hcy; have hgx5 := Nat.lt_of_lt_of_le hgx5 b5.size))
          all_goals
            have hQ := hN.step HD.out
            rw [← HM.out, ← HFX.out, ← HFY.out, ← HP.out] at hQ
            have HQ := Lib.hid hQ
            have HC2 := Lib.hid ((cell_else w5 (a := ⟨w.heap.size, d, none⟩) (.int .i64 ((m + p) % 97)) (k := gx) (o := 0) (by show gx ≠ w.heap.size; omega)).trans hcy)
            have hse : gx < (w5.setCell ⟨w.heap.size, d, none⟩ (.int .i64 ((m + p) % 97))).heap.size := by simpa [World.setCell] using hgx5
            clear hQ hN hcs hfs hcy hcx hgx5
            go_wp2
            go_roundw
            case rel => exact ⟨y + 1, by omega, by go_num, HQ.out, HC2.out, hse⟩
            case measure => simp [intOf]; omega
        · obtain rfl : y = n := by omega
          have HK := Lib.hid hK.next
          clear hK hJ2 hcx hry
          go_wp2
          go_roundw
          case rel => exact ⟨x + 1, by omega, by go_num, HK.out⟩
          case measure => simp [intOf]; omega
    · obtain rfl : x = n := by omega
      have hD : Own 44 w.heap.size wr (.slice (some ⟨w.heap.size, 0, none⟩) x x) (ringL xs ys) := by
        have := hJ
        rw [HN.out, HF.out, HG.out] at this
        rw [HN.out]
        exact this.done
      have hB := BB.out.grown hJ.grow BB.out.size (fun k hk => by injection hk with hk; omega)
      have hs := hB.size
      clear hJ hI hrx hry
      go_wp2_with fail
      refine (HC.out _ _ hD.rd).mono ?_
      rintro e w4 ⟨g4, rfl, hg4, p4, b4⟩
      have hP := p4.mono hs
      have hB := bel_nxt hB b4
      rw [len_ringL] at hP ⊢
      have HP := Lib.hid hP
      clear hP p4 hD
      go_wp2
      go_ret
      exact ⟨_, rfl, HP.out, hB⟩

theorem implRingOf_any (u v : Value) (xs ys : List Int) (w : World) (h : Rd w u xs) (h' : Rd w v ys) (hl : xs.length ≤ maxLen) (hl' : ys.length ≤ maxLen) :
    Calls Try.prog 32 #[u, v] w (Made 3 w (ringF xs ys)) := by
  have hv := implValidRests_any u xs w h hl
  have hv' := implValidRests_any v ys w h' hl'
  cases hb : vsB xs with
  | false =>
    have HF := Lib.hid (ringF_no (show ringB xs ys = false by unfold ringB; rw [hb]; rfl))
    rw [hb] at hv
    clear hb hv'
    obtain ⟨a, c, rfl, -⟩ := h
    obtain ⟨a', c', rfl, -⟩ := h'
    go_enter Try.func32, Try.ntmps32
    go_wp2_with fail
    refine hv.mono ?_
    rintro e w1 ⟨rfl, rfl⟩
    go_wp2
    go_ret
    exact ⟨_, rfl, by rw [HF.out]; exact Own.nil _ _ _, Below.refl _ _⟩
  | true =>
    rw [hb] at hv
    cases hb' : vsB ys with
    | false =>
      have HF := Lib.hid (ringF_no (show ringB xs ys = false by unfold ringB; rw [hb, hb']; rfl))
      rw [hb'] at hv'
      clear hb hb'
      obtain ⟨a, c, rfl, -⟩ := h
      obtain ⟨a', c', rfl, -⟩ := h'
      go_enter Try.func32, Try.ntmps32
      go_wp2_with fail
      refine hv.mono ?_
      rintro e w1 ⟨rfl, rfl⟩
      go_wp2_with fail
      refine hv'.mono ?_
      rintro e w1 ⟨rfl, rfl⟩
      go_wp2
      go_ret
      exact ⟨_, rfl, by rw [HF.out]; exact Own.nil _ _ _, Below.refl _ _⟩
    | true =>
      rw [hb'] at hv'
      by_cases he : ys.length = xs.length
      · have hX := (vsB_iff xs).1 hb
        have hY := (vsB_iff ys).1 hb'
        rw [ringF_yes (show ringB xs ys = true by unfold ringB; rw [hb, hb']; simp [he])]
        have h0 := h
        have h0' := h'
        obtain ⟨a, c, rfl, h⟩ := h
        obtain ⟨a', c', rfl, h'⟩ := h'
        rcases h with rfl | ⟨b, off, rfl, -⟩
        · have := hX.some; simp at this
        rcases h' with rfl | ⟨b', off', rfl, -⟩
        · have := hY.some; simp at this
        rw [he] at h0' hv' ⊢
        exact implRing_go b b' off off' c c' xs ys w hX hY he h0 h0' hv hv'
      · have HF := Lib.hid (ringF_no (show ringB xs ys = false by unfold ringB; rw [hb, hb']; simp; omega))
        obtain ⟨a, c, rfl, -⟩ := h
        obtain ⟨a', c', rfl, -⟩ := h'
        have e1 : ((xs.length : Int) == (ys.length : Int)) = false := by rw [beq_eq_false_iff_ne]; omega
        have e2 : ((xs.length : Int) != (ys.length : Int)) = true := by rw [bne_iff_ne]; omega
        clear hb hb' he
        go_enter Try.func32, Try.ntmps32
        go_wp2_with fail
        refine hv.mono ?_
        rintro e w1 ⟨rfl, rfl⟩
        go_wp2_with fail
        refine hv'.mono ?_
        rintro e w1 ⟨rfl, rfl⟩
        go_wp2
        go_ret
        exact ⟨_, rfl, by rw [HF.out]; exact Own.nil _ _ _, Below.refl _ _⟩

end Go.Proofs.Ytabbfehjgchmgaa
