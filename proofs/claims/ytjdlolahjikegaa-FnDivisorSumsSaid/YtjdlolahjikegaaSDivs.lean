/-
  DivisorSums and UndivisorSums of the model, by their contracts.
-/
import Derived.Test.YtjdlolahjikegaaDivs
import Derived.Test.YtjdlolahjikegaaMany
namespace Go.Proofs.Ytjdlolahjikegaa
open Go.RowKit
set_option linter.unusedVariables false

/-- The sums on the way: those of the numbers ahead of m are made, of m those of the first e. -/
def dS (F : Nat → Int) (m e j : Nat) : Int := if j < m then divE F j else if j = m then sumN (fun i => if (m + 1) % (i + 1) = 0 then F i else 0) e else 0
theorem dS_at (F : Nat → Int) (m e : Nat) : dS F m e m = sumN (fun i => if (m + 1) % (i + 1) = 0 then F i else 0) e := by unfold dS; rw [if_neg (by omega), if_pos rfl]
theorem dS_skip {F : Nat → Int} {m e : Nat} (h : ¬ (m + 1) % (e + 1) = 0) (j : Nat) : dS F m (e + 1) j = dS F m e j := by
  unfold dS
  by_cases h1 : j < m
  · rw [if_pos h1, if_pos h1]
  · rw [if_neg h1, if_neg h1]
    by_cases h2 : j = m
    · rw [if_pos h2, if_pos h2, sumN, if_neg h, Int.add_zero]
    · rw [if_neg h2, if_neg h2]
theorem dS_step {F : Nat → Int} {m e : Nat} (h : (m + 1) % (e + 1) = 0) (j : Nat) : (if j = m then wrap64 (wrap64 (dS F m e m) + wrap64 (F e)) else wrap64 (dS F m e j)) = wrap64 (dS F m (e + 1) j) := by
  by_cases h2 : j = m
  · subst h2
    rw [if_pos rfl, w64_add, dS_at, dS_at, sumN, if_pos h]
  · rw [if_neg h2]
    unfold dS
    by_cases h1 : j < m
    · rw [if_pos h1, if_pos h1]
    · rw [if_neg h1, if_neg h1, if_neg h2, if_neg h2]
theorem dS_next (F : Nat → Int) (m j : Nat) : dS F m (m + 1) j = dS F (m + 1) 0 j := by
  unfold dS
  by_cases h1 : j < m
  · rw [if_pos h1, if_pos (by omega)]
  · rw [if_neg h1]
    by_cases h2 : j = m
    · rw [if_pos h2, if_pos (by omega), h2]; rfl
    · rw [if_neg h2, if_neg (by omega)]
      by_cases h3 : j = m + 1
      · rw [if_pos h3]; rfl
      · rw [if_neg h3]

theorem modN_cast (m e : Nat) : ((m : Int) + 1) % ((e : Int) + 1) = (((m + 1) % (e + 1) : Nat) : Int) := by
  rw [Int.natCast_emod, Int.natCast_add, Int.natCast_add]; rfl
theorem mod_yes {m e : Nat} (h : (m + 1) % (e + 1) = 0) : (((m : Int) + 1) % ((e : Int) + 1) == 0) = true := by rw [modN_cast, h]; rfl
theorem mod_no {m e : Nat} (h : ¬ (m + 1) % (e + 1) = 0) : (((m : Int) + 1) % ((e : Int) + 1) == 0) = false := by
  rw [modN_cast]
  generalize (m + 1) % (e + 1) = r at h
  simp; omega

/-- What the model's DivisorSums carries round. -/
def DsInv (E : Nat) (w wr : World) (g n m e : Nat) (F : Nat → Int) : Prop :=
  Own E w.heap.size wr (.slice (some ⟨g, 0, none⟩) n n) (tab n fun j => wrap64 (dS F m e j)) ∧ Below w.heap.size w wr
theorem DsInv.drew {E : Nat} {w wr : World} {g n m e : Nat} {F : Nat → Int} (h : DsInv E w wr g n m e F) : DsInv E w wr.drew g n m e F := ⟨h.1, h.2.drew⟩
theorem DsInv.skip {E : Nat} {w wr : World} {g n m e : Nat} {F : Nat → Int} (h : DsInv E w wr g n m e F) (hd : ¬ (m + 1) % (e + 1) = 0) : DsInv E w wr g n m (e + 1) F := by
  refine ⟨?_, h.2⟩
  rw [tab_congr (g := fun j => wrap64 (dS F m e j)) (fun j _ => by rw [dS_skip hd])]; exact h.1
theorem DsInv.step {E : Nat} {w wr : World} {g n m e : Nat} {F : Nat → Int} (h : DsInv E w wr g n m e F) (hg : w.heap.size ≤ g) (hd : (m + 1) % (e + 1) = 0) :
    DsInv E w (wr.setCell ⟨g, m, none⟩ (.int .i64 (wrap64 (wrap64 (dS F m e m) + wrap64 (F e))))) g n m (e + 1) F := by
  refine ⟨?_, h.2.setCell hg _⟩
  have := h.1.set m (wrap64 (wrap64 (dS F m e m) + wrap64 (F e)))
  rw [tab_set, tab_congr (fun j _ => dS_step hd j)] at this
  exact this
theorem DsInv.next {E : Nat} {w wr : World} {g n m : Nat} {F : Nat → Int} (h : DsInv E w wr g n m (m + 1) F) : DsInv E w wr g n (m + 1) 0 F := by
  refine ⟨?_, h.2⟩
  rw [tab_congr (g := fun j => wrap64 (dS F m (m + 1) j)) (fun j _ => by rw [dS_next])]; exact h.1

set_option maxHeartbeats 4000000 in
theorem specDivisorSums_any (v : Value) (xs : List Int) (w : World) (h : Rd w v xs) (hl : xs.length ≤ maxLen) (hw : ∀ n ∈ xs, (Lit.int .i64 n).wf = true) :
    Calls Try.prog 43 #[v] w (Made 3 w (divF xs)) := by
  have hv := specvalid_any v xs w h hl
  obtain ⟨i0, hi, hz0, hz1, hz2⟩ := info_parts infoInt
  cases hb : vrB xs with
  | true =>
    rw [hb] at hv
    have hF : Hid (divF xs = divL xs) := by show divF xs = _; unfold divF; exact if_pos hb
    have hM := vr_max hb
    obtain ⟨F, hFF⟩ : ∃ F, F = ix xs := ⟨_, rfl⟩
    obtain ⟨n, hn⟩ : ∃ n, n = xs.length := ⟨_, rfl⟩
    have h0 := h
    obtain ⟨ad, cap, rfl, hr⟩ := h0
    have hcell : ∃ b off, (0 < n → ad = some ⟨b, off, none⟩ ∧ b < w.heap.size ∧ ∀ j, j < n → w.cell? ⟨b, off + j, none⟩ = some (.int .i64 (wrap64 (F j)))) := by
      rcases hr with rfl | ⟨b, off, rfl, hlt, hc⟩
      · exact ⟨0, 0, fun h => by rw [hn] at h; simp at h⟩
      · exact ⟨b, off, fun _ => ⟨rfl, hlt, fun j hj => by rw [hFF, ix_wf hw]; exact hc j (by omega)⟩⟩
    obtain ⟨b, off, hcell⟩ := hcell
    have HFF := Lib.hid hFF
    have HN := Lib.hid hn
    rw [← hn] at hM hv ⊢
    clear hb h hl hn hFF hr hw
    by_cases hn0 : n = 0
    · have HZ : Hid (divL xs = []) := by
        show divL xs = []
        unfold divL; rw [← HN.out, hn0]; rfl
      subst hn0
      clear hcell
      go_enter Try.func43, Try.ntmps43
      go_wp2_with fail
      refine hv.mono ?_
      rintro e w1 ⟨rfl, b1⟩
      go_wp2_with (at_make; refine wpList_make_full _ rfl _ _ 23 rfl w1.heap.size 3 i0 (.int .i64 0) 1 Try.underlying23 hi hz0 hz1 _ _ _ _ 0 rfl rfl rfl rfl ?c1 ?c2 ?c3 ?_)
      case c1 => omega
      case c2 => unfold maxLen; omega
      case c3 => omega
      intro w2 hown hgrow
      have hO := own_made hown
      have hB := bel_nxt b1 ((Below.refl w1.heap.size w1).grown hgrow (Nat.le_refl _) (by simp))
      have hs1 := b1.size
      clear hown hgrow
      go_wp2
      refine wp_loop_rounds 1 ?_
      rw [rounds_succ]
      go_wp2
      go_ret
      exact ⟨_, rfl, by rw [hF.out, HZ.out]; exact hO.mono hs1, hB⟩
    · obtain ⟨rfl, hb, hc⟩ := hcell (by omega)
      go_enter Try.func43, Try.ntmps43
      go_wp2_with fail
      refine hv.mono ?_
      rintro e w1 ⟨rfl, b1⟩
      go_wp2_with (at_make; refine wpList_make_full _ rfl _ _ 23 rfl w1.heap.size 3 i0 (.int .i64 0) 1 Try.underlying23 hi hz0 hz1 _ _ _ _ n rfl rfl rfl rfl ?c1 ?c2 ?c3 ?_)
      case c1 => rw [hz2]; omega
      case c2 => unfold maxLen; omega
      case c3 => omega
      intro w2 hown hgrow
      have hO := own_made hown
      have hB := bel_nxt b1 ((Below.refl w1.heap.size w1).grown hgrow (Nat.le_refl _) (by simp))
      have hs1 := b1.size
      obtain ⟨g, hg⟩ : ∃ g, g = w1.heap.size := ⟨_, rfl⟩
      have hI : DsInv 3 w w2 g n 0 0 F := by
        refine ⟨?_, hB⟩
        rw [hg, tab_congr (g := fun _ => 0) (fun j _ => by unfold dS; rw [if_neg (by omega)]; split <;> simp [sumN, wrap64])]
        exact hO.mono hs1
      have hgw : w.heap.size ≤ g := by omega
      rw [← hg]
      clear hown hgrow hO hB hg hcell hv hn0 hi hz0 hz1 hz2
      go_wp2
      go_loopw [4] (fun i wr => ∃ m : Nat, m ≤ n ∧ i = .int .i64 ((m : Int) + 1) ∧ DsInv 3 w wr g n m 0 F) (fun i _ => n + 1 - (intOf i).toNat)
      case atStart => exact ⟨0, Nat.zero_le _, rfl, hI⟩
      case round =>
        obtain ⟨m, hm, rfl, hIr⟩ := hrel
        by_cases hlt : m < n
        · obtain ⟨wo, rfl⟩ : ∃ wo : World, wo = wr := ⟨_, rfl⟩
          go_wp2
          go_loopw [5] (fun i wr => ∃ e : Nat, e ≤ m + 1 ∧ i = .int .i64 ((e : Int) + 1) ∧ DsInv 3 w wr g n m e F) (fun i _ => m + 2 - (intOf i).toNat)
          case atStart => exact ⟨0, Nat.zero_le _, rfl, hIr⟩
          case round =>
            obtain ⟨e, he, rfl, hIx⟩ := hrel
            by_cases hel : e ≤ m
            · by_cases hd : (m + 1) % (e + 1) = 0
              · have hcx := hIx.1.cell m (by simpa using hlt)
                rw [ix_tab _ _ _ hlt] at hcx
                have hf := hIx.1.frozen m
                have hcy : wr.cell? ⟨b, off + e, none⟩ = some (.int .i64 (wrap64 (F e))) := (hIx.2.cell (by exact hb)).trans (hc e (by omega))
                have HS := Lib.hid (hIx.step hgw hd)
                have e1 : (((m : Int) + 1) % ((e : Int) + 1) == 0) = true := mod_yes hd
                have i0 : (((e : Int) + 1) == 0) = false := by simp; omega
                clear hIx hIr hI hd hc
                go_wp2
                go_region
                go_wp2
                go_roundw
                case rel => exact ⟨e + 1, by omega, by go_num, HS.out.drew⟩
                case measure => simp [intOf]; omega
              · have HS := Lib.hid (hIx.skip hd)
                have e1 : (((m : Int) + 1) % ((e : Int) + 1) == 0) = false := mod_no hd
                have i0 : (((e : Int) + 1) == 0) = false := by simp; omega
                clear hIx hIr hI hd hc
                go_wp2
                go_roundw
                case rel => exact ⟨e + 1, by omega, by go_num, HS.out⟩
                case measure => simp [intOf]; omega
            · obtain rfl : e = m + 1 := by omega
              have HS := Lib.hid hIx.next
              clear hIx hIr hI
              go_wp2
              go_roundw
              case rel => exact ⟨m + 1, by omega, by go_num, HS.out⟩
              case measure => simp [intOf]; omega
        · obtain rfl : m = n := by omega
          go_wp2
          go_ret
          refine ⟨_, rfl, ?_, hIr.2⟩
          rw [hF.out, divL, HN.out.symm, HFF.out.symm, tab_congr (g := fun j => wrap64 (dS F m 0 j)) (fun j hj => by unfold dS; rw [if_pos hj])]
          exact hIr.1
  | false =>
    rw [hb] at hv
    have hF : Hid (divF xs = []) := by show divF xs = _; unfold divF; exact if_neg (by simp [hb])
    go_enter Try.func43, Try.ntmps43
    go_wp2_with fail
    refine hv.mono ?_
    rintro e w1 ⟨rfl, b1⟩
    go_wp2
    go_ret
    exact ⟨_, rfl, by rw [hF.out]; exact Own.nil _ _ _, b1⟩

/-- Taking back on the way: the numbers ahead of m are done, from m the first e divisors are taken. -/
def uS (F : Nat → Int) (m e j : Nat) : Int := if j < m then uP F j j else if j = m then uP F e m else F j
theorem uS_at (F : Nat → Int) (m e : Nat) : uS F m e m = uP F e m := by unfold uS; rw [if_neg (by omega), if_pos rfl]
theorem uS_low (F : Nat → Int) {m e j : Nat} (h : j < m) : uS F m e j = uP F j j := by unfold uS; rw [if_pos h]
theorem uS_skip {F : Nat → Int} {m e : Nat} (hm : e < m) (h : ¬ (m + 1) % (e + 1) = 0) (j : Nat) : uS F m (e + 1) j = uS F m e j := by
  unfold uS
  by_cases h1 : j < m
  · rw [if_pos h1, if_pos h1]
  · rw [if_neg h1, if_neg h1]
    by_cases h2 : j = m
    · rw [if_pos h2, if_pos h2]
      show (if dvs e m then uP F e m - uP F e e else uP F e m) = _
      rw [if_neg (fun x => h x.2)]
    · rw [if_neg h2, if_neg h2]
theorem uS_step {F : Nat → Int} {m e : Nat} (hm : e < m) (h : (m + 1) % (e + 1) = 0) (j : Nat) : (if j = m then wrap64 (wrap64 (uS F m e m) - wrap64 (uS F m e e)) else wrap64 (uS F m e j)) = wrap64 (uS F m (e + 1) j) := by
  by_cases h2 : j = m
  · subst h2
    rw [if_pos rfl, w64_sub, uS_at, uS_at, uS_low F hm]
    show _ = wrap64 (if dvs e j then uP F e j - uP F e e else uP F e j)
    rw [if_pos ⟨hm, h⟩]
  · rw [if_neg h2]
    unfold uS
    by_cases h1 : j < m
    · rw [if_pos h1, if_pos h1]
    · rw [if_neg h1, if_neg h1, if_neg h2, if_neg h2]
theorem uS_next (F : Nat → Int) (m j : Nat) : uS F m m j = uS F (m + 1) 0 j := by
  unfold uS
  by_cases h1 : j < m
  · rw [if_pos h1, if_pos (by omega)]
  · rw [if_neg h1]
    by_cases h2 : j = m
    · rw [if_pos h2, if_pos (by omega), h2]
    · rw [if_neg h2, if_neg (by omega)]
      by_cases h3 : j = m + 1
      · rw [if_pos h3, h3]; rfl
      · rw [if_neg h3]

/-- What the model's UndivisorSums carries round. -/
def UsInv (E : Nat) (w wr : World) (g n c m e : Nat) (F : Nat → Int) : Prop :=
  Own E w.heap.size wr (.slice (some ⟨g, 0, none⟩) n c) (tab n fun j => wrap64 (uS F m e j)) ∧ Below w.heap.size w wr
theorem UsInv.drew {E : Nat} {w wr : World} {g n c m e : Nat} {F : Nat → Int} (h : UsInv E w wr g n c m e F) : UsInv E w wr.drew g n c m e F := ⟨h.1, h.2.drew⟩
theorem UsInv.skip {E : Nat} {w wr : World} {g n c m e : Nat} {F : Nat → Int} (h : UsInv E w wr g n c m e F) (hm : e < m) (hd : ¬ (m + 1) % (e + 1) = 0) : UsInv E w wr g n c m (e + 1) F := by
  refine ⟨?_, h.2⟩
  rw [tab_congr (g := fun j => wrap64 (uS F m e j)) (fun j _ => by rw [uS_skip hm hd])]; exact h.1
theorem UsInv.step {E : Nat} {w wr : World} {g n c m e : Nat} {F : Nat → Int} (h : UsInv E w wr g n c m e F) (hg : w.heap.size ≤ g) (hm : e < m) (hd : (m + 1) % (e + 1) = 0) :
    UsInv E w (wr.setCell ⟨g, m, none⟩ (.int .i64 (wrap64 (wrap64 (uS F m e m) - wrap64 (uS F m e e))))) g n c m (e + 1) F := by
  refine ⟨?_, h.2.setCell hg _⟩
  have := h.1.set m (wrap64 (wrap64 (uS F m e m) - wrap64 (uS F m e e)))
  rw [tab_set, tab_congr (fun j _ => uS_step hm hd j)] at this
  exact this
theorem UsInv.next {E : Nat} {w wr : World} {g n c m : Nat} {F : Nat → Int} (h : UsInv E w wr g n c m m F) : UsInv E w wr g n c (m + 1) 0 F := by
  refine ⟨?_, h.2⟩
  rw [tab_congr (g := fun j => wrap64 (uS F m m j)) (fun j _ => by rw [uS_next])]; exact h.1

set_option maxHeartbeats 4000000 in
theorem specUndivisorSums_any (v : Value) (xs : List Int) (w : World) (h : Rd w v xs) (hl : xs.length ≤ maxLen) (hw : ∀ n ∈ xs, (Lit.int .i64 n).wf = true) :
    Calls Try.prog 46 #[v] w (Made 3 w (undivF xs)) := by
  have hv := specvalid_any v xs w h hl
  cases hb : vrB xs with
  | true =>
    rw [hb] at hv
    have hF : Hid (undivF xs = undivL xs) := by show undivF xs = _; unfold undivF; exact if_pos hb
    have hM := vr_max hb
    obtain ⟨F, hFF⟩ : ∃ F, F = ix xs := ⟨_, rfl⟩
    obtain ⟨n, hn⟩ : ∃ n, n = xs.length := ⟨_, rfl⟩
    have h0 := h
    obtain ⟨ad, cap, rfl, -⟩ := h0
    go_enter Try.func46, Try.ntmps46
    go_wp2_with fail
    refine hv.mono ?_
    rintro e w1 ⟨rfl, b1⟩
    have hr1 := h.below b1 (Nat.le_refl _)
    go_wp2_with (at_builtin; refine app_many rfl _ _ 23 rfl w1.heap.size 3 Try.underlying23 infoInt _ _ rfl (own_empty _ _ w1 (Nat.le_refl _)) _ xs rfl (hr1.alloc _) ?c1 ?c2 ?_)
    case c1 => simp; omega
    case c2 => simp
    intro v2 w2 o2 g2
    have b2 : Below w.heap.size w w2 := bel_nxt b1 (((Below.refl w1.heap.size w1).alloc (Nat.le_refl _) _).grown g2 (by simp) (by intro q hq; simp [Value.ownBlock] at hq; omega))
    have hs1 := b1.size
    have o2 := o2.mono hs1
    have HFF := Lib.hid hFF
    have HN := Lib.hid hn
    by_cases hn0 : n = 0
    · have HZ : Hid (undivL xs = xs) := by
        show undivL xs = xs
        have : xs = [] := List.eq_nil_of_length_eq_zero (by omega)
        rw [this]; rfl
      have hlen : xs.length = 0 := by omega
      have hsh := o2.shape
      rcases hsh with ⟨rfl, _⟩ | ⟨g, c, rfl, _⟩
      · rw [hlen]
        clear hv hb hn hFF h hl hr1 g2
        go_wp2
        refine wp_loop_rounds 1 ?_
        rw [rounds_succ]
        go_wp2
        go_ret
        exact ⟨_, rfl, by rw [hF.out, HZ.out]; exact o2, b2⟩
      · rw [hlen]
        rw [hlen] at o2
        clear hv hb hn hFF h hl hr1 g2
        go_wp2
        refine wp_loop_rounds 1 ?_
        rw [rounds_succ]
        go_wp2
        go_ret
        exact ⟨_, rfl, by rw [hF.out, HZ.out]; exact o2, b2⟩
    · obtain ⟨g, c, rfl, hg, hgs⟩ := o2.form (by intro e; rw [e] at hn; simp at hn; omega)
      have hI : UsInv 3 w w2 g n c 0 0 F := by
        refine ⟨?_, b2⟩
        rw [tab_congr (g := fun j => wrap64 (ix xs j)) (fun j _ => by
          unfold uS; rw [if_neg (by omega), hFF]; by_cases e : j = 0
          · rw [if_pos e, e]; rfl
          · rw [if_neg e]), hn, ← tab_wf hw]
        exact o2
      rw [← hn]
      rw [← hn] at hM
      clear hv hb hn hFF h hl hr1 g2 o2 b2 hgs hn0
      go_wp2
      go_loopw [4] (fun i wr => ∃ m : Nat, m ≤ n ∧ i = .int .i64 ((m : Int) + 1) ∧ UsInv 3 w wr g n c m 0 F) (fun i _ => n + 1 - (intOf i).toNat)
      case atStart => exact ⟨0, Nat.zero_le _, rfl, hI⟩
      case round =>
        obtain ⟨m, hm, rfl, hIr⟩ := hrel
        by_cases hlt : m < n
        · obtain ⟨wo, rfl⟩ : ∃ wo : World, wo = wr := ⟨_, rfl⟩
          go_wp2
          go_loopw [5] (fun i wr => ∃ e : Nat, e ≤ m ∧ i = .int .i64 ((e : Int) + 1) ∧ UsInv 3 w wr g n c m e F) (fun i _ => m + 1 - (intOf i).toNat)
          case atStart => exact ⟨0, Nat.zero_le _, rfl, hIr⟩
          case round =>
            obtain ⟨e, he, rfl, hIx⟩ := hrel
            by_cases hel : e < m
            · by_cases hd : (m + 1) % (e + 1) = 0
              · have hcx := hIx.1.cell m (by simpa using hlt)
                rw [ix_tab _ _ _ hlt] at hcx
                have hcy := hIx.1.cell e (by simp; omega)
                rw [ix_tab _ _ _ (by omega)] at hcy
                have hf := hIx.1.frozen m
                have HS := Lib.hid (hIx.step hg hel hd)
                have e1 : (((m : Int) + 1) % ((e : Int) + 1) == 0) = true := mod_yes hd
                have i0 : (((e : Int) + 1) == 0) = false := by simp; omega
                clear hIx hIr hI hd
                go_wp2
                go_region
                go_wp2
                go_roundw
                case rel => exact ⟨e + 1, by omega, by go_num, HS.out.drew⟩
                case measure => simp [intOf]; omega
              · have HS := Lib.hid (hIx.skip hel hd)
                have e1 : (((m : Int) + 1) % ((e : Int) + 1) == 0) = false := mod_no hd
                have i0 : (((e : Int) + 1) == 0) = false := by simp; omega
                clear hIx hIr hI hd
                go_wp2
                go_roundw
                case rel => exact ⟨e + 1, by omega, by go_num, HS.out⟩
                case measure => simp [intOf]; omega
            · obtain rfl : e = m := by omega
              have HS := Lib.hid hIx.next
              clear hIx hIr hI
              go_wp2
              go_roundw
              case rel => exact ⟨e + 1, by omega, by go_num, HS.out⟩
              case measure => simp [intOf]; omega
        · obtain rfl : m = n := by omega
          go_wp2
          go_ret
          refine ⟨_, rfl, ?_, hIr.2⟩
          rw [hF.out, undivL, HN.out.symm, HFF.out.symm, tab_congr (g := fun j => wrap64 (uS F m 0 j)) (fun j hj => by rw [uS_low F hj, uP_stay F j m (by omega)])]
          exact hIr.1
  | false =>
    rw [hb] at hv
    have hF : Hid (undivF xs = []) := by show undivF xs = _; unfold undivF; exact if_neg (by simp [hb])
    go_enter Try.func46, Try.ntmps46
    go_wp2_with fail
    refine hv.mono ?_
    rintro e w1 ⟨rfl, b1⟩
    go_wp2
    go_ret
    exact ⟨_, rfl, by rw [hF.out]; exact Own.nil _ _ _, b1⟩

end Go.Proofs.Ytjdlolahjikegaa
