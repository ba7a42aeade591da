/-
  waveBy of the program, by its contract.
-/
import Derived.Test.YtabbfehjgchmgaaWvI
import Derived.Deep.RegionHeld3
import Derived.Deep.RegionWith
namespace Go.Proofs.Ytabbfehjgchmgaa
open Go.RowKit
set_option linter.unusedVariables false

/-- What waveBy carries round: the wave so far, the root's block. -/
structure WbI (E : Nat) (w wr : World) (n k p : Nat) (F : Nat → Int) (r : Nat) : Prop where
  own : Own E (w.heap.size + 1) wr (.slice (some ⟨w.heap.size + 1, 0, none⟩) n n) (tab n (wvW F r n k p))
  root : wr.cell? ⟨w.heap.size, 0, none⟩ = some (.int .i64 r)
  size : w.heap.size + 1 < wr.heap.size
  bel : Below w.heap.size w wr
theorem WbI.call {E : Nat} {w wr w1 : World} {n k p : Nat} {F : Nat → Int} {r : Nat} (h : WbI E w wr n k p F r) (b : Below wr.heap.size wr w1) : WbI E w w1 n k p F r := by
  have hs := h.size
  refine ⟨h.own.below b (Nat.le_refl _), ?_, Nat.lt_of_lt_of_le hs b.size, bel_nxt h.bel b⟩
  rw [b.cell (p := ⟨w.heap.size, 0, none⟩) (by show w.heap.size < _; omega)]; exact h.root
theorem WbI.alloc {E : Nat} {w wr : World} {n k p : Nat} {F : Nat → Int} {r : Nat} (h : WbI E w wr n k p F r) (o : Obj) : WbI E w (wr.alloc o) n k p F r := h.call ((Below.refl _ _).alloc (Nat.le_refl _) _)
theorem WbI.drew {E : Nat} {w wr : World} {n k p : Nat} {F : Nat → Int} {r : Nat} (h : WbI E w wr n k p F r) : WbI E w wr.drew n k p F r := ⟨h.own.drew, h.root, h.size, below_drewN h.bel 1⟩
theorem WbI.cell {E : Nat} {w wr : World} {n k p : Nat} {F : Nat → Int} {r : Nat} (h : WbI E w wr n k p F r) (hk : k < n) : wr.cell? ⟨w.heap.size + 1, k, none⟩ = some (.int .i64 (hrn F (pm r k : Nat) n p)) := by
  have := h.own.cell k (by simpa using hk)
  rw [ix_tab _ _ _ hk, wvW_at] at this
  exact this
theorem WbI.set {E : Nat} {w wr : World} {n k p : Nat} {F : Nat → Int} {r : Nat} (h : WbI E w wr n k p F r) (q : Nat) : WbI E w (wr.setCell ⟨w.heap.size + 1, k, none⟩ (.int .i64 (hrn F (pm r k : Nat) n q))) n k q F r := by
  have hs := h.size
  have ho := h.own.set k (hrn F (pm r k : Nat) n q)
  rw [wvW_set] at ho
  refine ⟨ho, ?_, by simpa [World.setCell] using hs, h.bel.setCell (by show w.heap.size ≤ w.heap.size + 1; omega) _⟩
  rw [cell_else wr _ (k := w.heap.size) (by show w.heap.size ≠ w.heap.size + 1; omega)]; exact h.root
theorem WbI.next {E : Nat} {w wr : World} {n k : Nat} {F : Nat → Int} {r : Nat} (h : WbI E w wr n k 0 F r) : WbI E w wr n (k + 1) n F r := by
  have ho := h.own
  rw [wvW_next] at ho
  exact ⟨ho, h.root, h.size, h.bel⟩

set_option maxHeartbeats 8000000 in
theorem waveBy_any (r : Nat) (v : Value) (xs : List Int) (w : World) (h : Rd w v xs) (hr97 : r < 97) (hn : 0 < xs.length) (hl : xs.length ≤ 96) (hr : ∀ j, j < xs.length → 0 ≤ ix xs j ∧ ix xs j ≤ 96) :
    Calls Try.prog 55 #[.agg #[.int .i64 r], v] w (Made 44 w (waveL xs r)) := by
  obtain ⟨a, cap, rfl, h⟩ := h
  obtain ⟨i0, hi, hz0, hz1, hz2⟩ := info_parts infoRest
  rcases h with rfl | ⟨b, off, rfl, hb, hc⟩
  · simp at hn
  obtain ⟨n, hnn⟩ : ∃ n, n = xs.length := ⟨_, rfl⟩
  obtain ⟨F, hF⟩ : ∃ F, F = ix xs := ⟨_, rfl⟩
  have HW := Lib.hid (show waveL xs r = tab n (fun j => wvE F r n j % 97) by rw [hnn, hF]; rfl)
  rw [← hF, ← hnn] at hc hr
  rw [← hnn] at hn hl ⊢
  clear hF hnn
  go_enter Try.func55, Try.ntmps55
  go_wp2_with (at_make; refine wpList_make_full _ rfl _ _ 51 rfl (w.heap.size + 1) 44 i0 (.agg #[.int .i64 0]) 1 Try.underlying51 hi hz0 hz1 _ _ _ _ n rfl rfl rfl rfl ?c1 ?c2 ?c3 ?_)
  case c1 => rw [hz2]; omega
  case c2 => unfold maxLen; omega
  case c3 => simp
  intro w1 hown hgrow
  have hO := own_made hown
  have hB := ((Below.refl w.heap.size w).alloc (Nat.le_refl _) (.cells #[.int .i64 r] 44)).grown hgrow (by simp) (by simp)
  have hI : WbI 44 w w1 n 0 n F r := by
    refine ⟨?_, ?_, ?_, hB⟩
    · rw [tab_congr (g := fun _ => 0) (fun j _ => wvW_start F r n j)]
      exact hO
    · have e := (hgrow.cell (a := ⟨w.heap.size, 0, none⟩) (cell_new1 w _ _) (by simp))
      exact e
    · have := World.ownsRow.lt hO (w.heap.size + 1) (by simp [Value.ownBlock])
      exact this.2
  clear hown hgrow hi hz0 hz1 hz2 hO hB
  go_wp2
  go_loopw [14] (fun i wr => ∃ k : Nat, k ≤ n ∧ i = .int .i64 k ∧ WbI 44 w wr n k n F r) (fun i _ => n - (intOf i).toNat)
  case atStart => exact ⟨0, Nat.zero_le _, rfl, hI⟩
  case round =>
    obtain ⟨k, hk, rfl, hJ⟩ := hrel
    by_cases hlt : k < n
    · have HJ := Lib.hid hJ
      have hroot := hJ.root
      have hJs := hJ.size
      clear hI hJ
      go_wp2_with fail
      refine (power_one r k _ _ (rd_lit1 _ _ _ _ rfl) hr97 (by omega)).mono ?_
      rintro e w2 ⟨rfl, b2⟩
      have hK := (HJ.out.alloc (.cells #[.int .i64 k] 3)).call b2
      have hs2 := hK.size
      obtain ⟨gs, hgs⟩ : ∃ gs, gs = w2.heap.size := ⟨_, rfl⟩
      have hgl : w.heap.size + 1 < gs := by omega
      have HGS := Lib.hid hgs
      have hst := cell_new1 w2 (.int .i64 (pm r k : Nat)) 44
      have hsz : gs < (w2.alloc (.cells #[.int .i64 (pm r k : Nat)] 44)).heap.size := by rw [hgs]; simp
      rw [← hgs] at hst
      have hL := hK.alloc (.cells #[.int .i64 (pm r k : Nat)] 44)
      have hpl := pm_lt r k
      have hpl1 : 0 ≤ ((pm r k : Nat) : Int) ∧ ((pm r k : Nat) : Int) ≤ 96 := by omega
      obtain ⟨s, hs⟩ : ∃ s, pm r k = s := ⟨_, rfl⟩
      have HS := Lib.hid hs
      clear hgs hK hroot hJs hs2 b2 hs
      go_wp2
      rw [← HGS.out]
      go_loopw [8] (fun i wr => ∃ p : Nat, p ≤ n ∧ i = .int .i64 ((p : Int) - 1) ∧ WbI 44 w wr n k p F r ∧ wr.cell? ⟨gs, 0, none⟩ = some (.int .i64 (pm r k : Nat)) ∧ gs < wr.heap.size) (fun i _ => (intOf i + 1).toNat)
      case atStart => exact ⟨n, by omega, rfl, hL, hst, hsz⟩
      case round =>
        obtain ⟨p, hp, rfl, hM, hsc, hss⟩ := hrel
        clear hL hst hsz
        by_cases hp0 : 0 < p
        · obtain ⟨q, rfl⟩ : ∃ q, p = q + 1 := ⟨p - 1, by omega⟩
          have hqn : q < n := by omega
          have hcx : wr.cell? ⟨b, off + q, none⟩ = some (.int .i64 (F q)) := (hM.bel.cell (by exact hb)).trans (hc q hqn)
          have hcw := hM.cell hlt
          have hfw := hM.own.frozen k
          have hrq := hr q hqn
          have hbd := hrn_bd F (pm r k : Nat) n (q + 1)
          have HST := Lib.hid ((hrn_step F (pm r k : Nat) hqn).trans (c_addL _ _))
          have HT := Lib.hid (hM.set q)
          have hMD := hM.drew
          obtain ⟨h0, hh0⟩ : ∃ h, h = hrn F (pm r k : Nat) n (q + 1) := ⟨_, rfl⟩
          rw [← hh0] at hcw hbd HST
          have hbs : b < wr.heap.size := by have := hM.bel.size; omega
          have i1 : ((q + 1 : Nat) : Int) - 1 = (q : Int) := by omega
          have i2 : (0 : Int) ≤ (q : Int) := by omega
          have i3 : (q : Int) < (n : Int) := by omega
          clear hh0 hc hr hp0
          rw [i1]
          clear i1
          obtain ⟨z, hz⟩ : ∃ z : Nat, z = pm r k := ⟨_, rfl⟩
          obtain ⟨y, hy⟩ : ∃ y, y = F q := ⟨_, rfl⟩
          have HZ := Lib.hid hz
          rw [← hz] at hsc
          rw [← hy] at hcx hrq HST
          have hz0 : 0 ≤ (z : Int) ∧ (z : Int) ≤ 96 := by rw [hz]; exact hpl1
          have hm0 : 0 ≤ h0 * (z : Int) % 97 ∧ h0 * (z : Int) % 97 ≤ 96 := by omega
          clear hz hy
          go_wp2
          have HMD := Lib.hid hMD
          clear hM HT hMD i2
          go_region_with
            (first
              | (go_at_call 47; refine (times_any h0 z _ hbd hz0).mono ?_; rintro e w3 ⟨rfl, b3⟩; have hsc := (b3.cell (p := ⟨gs, 0, none⟩) hss).trans hsc; have hcx := (b3.cell (p := ⟨b, off + q, none⟩) hbs).trans hcx; have hss := Nat.lt_of_lt_of_le hss b3.size; have hbs := Nat.lt_of_lt_of_le hbs b3.size; have HMD := Lib.hid (HMD.out.call b3))
              | (go_at_call 61; refine (plus_any _ y _ hm0 hrq).mono ?_; rintro e w4 ⟨rfl, b4⟩; have hsc := (b4.cell (p := ⟨gs, 0, none⟩) hss).trans hsc; have hcx := (b4.cell (p := ⟨b, off + q, none⟩) hbs).trans hcx; have hss := Nat.lt_of_lt_of_le hss b4.size; have hbs := Nat.lt_of_lt_of_le hbs b4.size; have hMD := HMD.out.call b4; have hcw := hMD.cell hlt; have hfw := hMD.own.frozen k))
          all_goals
            have HN := hMD.set q
            rw [HST.out, ← HZ.out] at HN
            have HN := Lib.hid HN
            have HC := Lib.hid ((cell_else w4 (a := ⟨w.heap.size + 1, k, none⟩) (.int .i64 ((h0 * (z : Int) + y) % 97)) (k := gs) (o := 0) (by show gs ≠ w.heap.size + 1; omega)).trans hsc)
            have hse : gs < (w4.setCell ⟨w.heap.size + 1, k, none⟩ (.int .i64 ((h0 * (z : Int) + y) % 97))).heap.size := by simpa [World.setCell] using hss
            clear hsc hcx hss hbs hMD hcw hfw
            go_wp2
            go_roundw
            case rel => exact ⟨q, by omega, rfl, HN.out, by rw [← HZ.out]; exact HC.out, hse⟩
            case measure => simp [intOf]
        · obtain rfl : p = 0 := by omega
          have HN := Lib.hid hM.next
          clear hM hsc hss
          go_wp2
          go_roundw
          case rel => exact ⟨k + 1, by omega, by go_num, HN.out⟩
          case measure => simp [intOf]; omega
    · obtain rfl : k = n := by omega
      have hO := hJ.own
      rw [wvW_all, ← HW.out] at hO
      have HO := Lib.hid (hO.mono (Nat.le_succ _))
      have hB := hJ.bel
      clear hJ hI hO
      go_wp2
      go_ret
      exact ⟨_, rfl, HO.out, hB⟩

end Go.Proofs.Ytabbfehjgchmgaa
