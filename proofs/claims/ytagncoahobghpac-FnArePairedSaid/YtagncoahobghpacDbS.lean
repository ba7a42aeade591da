/-
  Pairs double: the model, by its lone contract.
-/
import Derived.Test.YtagncoahobghpacUnS
import Derived.Test.YtagncoahobghpacApp2
namespace Go.Proofs.Ytagncoahobghpac
open Go.RowKit
set_option linter.unusedVariables false

def ngL (xs : List Int) : List Int := tab xs.length fun j => wrap64 (-(ix xs j))
theorem len_ngL (xs : List Int) : (ngL xs).length = xs.length := len_tab _ _
def okD (xs ys : List Int) : Bool := paB xs ys && decide (2 * xs.length ≤ 16)
def dp1 (xs ys : List Int) : List Int := if okD xs ys = true then xs ++ ys else []
def dp2 (xs ys : List Int) : List Int := if okD xs ys = true then xs ++ ngL ys else []
theorem okD_of {xs ys : List Int} (h : okD xs ys = true) : paB xs ys = true ∧ 2 * xs.length ≤ 16 := by simpa [okD] using h
theorem okD_yes {xs ys : List Int} (h : paB xs ys = true) (h2 : 2 * xs.length ≤ 16) : okD xs ys = true ∧ dp1 xs ys = xs ++ ys ∧ dp2 xs ys = xs ++ ngL ys := by
  have e : okD xs ys = true := by simp [okD, h, h2]
  unfold dp1 dp2
  exact ⟨e, if_pos e, if_pos e⟩
theorem okD_no {xs ys : List Int} (h : ¬ (paB xs ys = true ∧ 2 * xs.length ≤ 16)) : okD xs ys = false ∧ dp1 xs ys = [] ∧ dp2 xs ys = [] := by
  have e : okD xs ys = false := by
    cases q : okD xs ys with
    | false => rfl
    | true => exact absurd (okD_of q) h
  unfold dp1 dp2
  exact ⟨e, if_neg (by rw [e]; simp), if_neg (by rw [e]; simp)⟩
theorem dp1_len (xs ys : List Int) : (dp1 xs ys).length ≤ 16 := by
  by_cases h : paB xs ys = true ∧ 2 * xs.length ≤ 16
  · rw [(okD_yes h.1 h.2).2.1, List.length_append]; have := (paB_of h.1).2.2.1; omega
  · rw [(okD_no h).2.1]; simp
theorem dp2_len (xs ys : List Int) : (dp2 xs ys).length ≤ 16 := by
  by_cases h : paB xs ys = true ∧ 2 * xs.length ≤ 16
  · rw [(okD_yes h.1 h.2).2.2, List.length_append, len_ngL]; have := (paB_of h.1).2.2.1; omega
  · rw [(okD_no h).2.2]; simp

/-- What a call leaves that makes two rows and says a bool. -/
def MadeT (E : Nat) (w : World) (xs ys : List Int) (b : Bool) (r : Value) (w' : World) : Prop :=
  ∃ u v, r = .tuple #[u, v, .bool b] ∧ Own E w.heap.size w' u xs ∧ Own E w.heap.size w' v ys ∧ ((u.ownBlock = none ∨ u.ownBlock ≠ v.ownBlock) ∧ (v.ownBlock = none ∨ v.ownBlock ≠ u.ownBlock)) ∧ Below w.heap.size w w'

theorem nil_apart : ((Value.slice none 0 0).ownBlock = none ∨ (Value.slice none 0 0).ownBlock ≠ (Value.slice none 0 0).ownBlock) ∧ ((Value.slice none 0 0).ownBlock = none ∨ (Value.slice none 0 0).ownBlock ≠ (Value.slice none 0 0).ownBlock) := ⟨.inl rfl, .inl rfl⟩

set_option maxHeartbeats 8000000 in
theorem specDoublePair_any (u v : Value) (xs ys : List Int) (w : World) (hx : Rd w u xs) (hy : Rd w v ys) (hl1 : xs.length ≤ maxLen) (hl2 : ys.length ≤ maxLen) :
    Calls Try.prog 45 #[u, v] w fun e w' => ∃ r, e = .returned r ∧ MadeT 3 w (dp1 xs ys) (dp2 xs ys) (okD xs ys) r w' := by
  have hv := specpair_any u v xs ys w hx hy hl1 hl2
  have hx0 := hx
  have hy0 := hy
  obtain ⟨a, cap, rfl, -⟩ := hx0
  obtain ⟨a2, cap2, rfl, -⟩ := hy0
  by_cases hp : paB xs ys = true
  · rw [hp] at hv
    have n1 := (vrB_of (sgnB_of (paB_of hp).1).1).1
    have hq := (paB_of hp).2.2.1
    have i1 : IntKind.i64.wrap (2 * (xs.length : Int)) = 2 * (xs.length : Int) := IntWalk.i64_in _ (by omega)
    by_cases h8 : 2 * xs.length ≤ 16
    · have HF := Lib.hid (okD_yes hp h8)
      have i2 : ¬ ((16 : Int) < 2 * (xs.length : Int)) := by omega
      obtain ⟨n, hn⟩ : ∃ n, n = xs.length := ⟨_, rfl⟩
      have HN := Lib.hid hn
      have HQ := Lib.hid hq
      rw [← hq] at hv ⊢
      rw [← hn] at hv i1 i2 n1 h8 ⊢
      have HX := Lib.hid (show Rd w (.slice a n cap) xs by rw [hn]; exact hx)
      have HY := Lib.hid (show Rd w (.slice a2 n cap2) ys by rw [hn, hq]; exact hy)
      clear hp hq hn hx hy hl1 hl2
      go_enter Try.func45, Try.ntmps45
      go_wp2_with fail
      refine hv.mono ?_
      rintro e w1 ⟨rfl, b1⟩
      have hL1 : xs.length ≤ 16 := by rw [← HN.out]; exact n1
      have hL2 : ys.length ≤ 16 := by rw [← HQ.out, ← HN.out]; exact n1
      clear hv
      go_wp2_with (at_builtin; refine app_many rfl _ _ 23 rfl w.heap.size 3 Try.underlying23 infoRv _ _ rfl (own_empty _ _ _ b1.size) _ xs rfl ((HX.out.below b1 (Nat.le_refl _)).alloc _) ?e1 ?e2 ?_)
      case e1 => simp; omega
      case e2 => have := b1.size; simp; omega
      intro v2 w2 o2 g2
      have b2 := (b1.alloc b1.size (.cells #[] 3)).grown g2 (by have := b1.size; simp; omega) (by have := b1.size; simp [Value.ownBlock]; omega)
      replace o2 : Own 3 w.heap.size w2 v2 xs := o2
      have B2 := Lib.hid b2
      clear g2 b2
      go_wp2_with (at_builtin; refine app_many rfl _ _ 23 rfl w.heap.size 3 Try.underlying23 infoRv _ _ rfl o2 _ ys rfl (HY.out.below B2.out (Nat.le_refl _)) ?e1 ?e2 ?_)
      case e1 => omega
      case e2 => exact B2.out.size
      intro v3 w3 o3 g3
      have b3 := B2.out.grown g3 B2.out.size (fun k hk => (World.ownsRow.lt o2 k hk).1)
      have B3 := Lib.hid b3
      clear g3 b3 o2 B2
      go_wp2_with (at_builtin; refine app_many rfl _ _ 23 rfl w3.heap.size 3 Try.underlying23 infoRv _ _ rfl (own_empty _ _ _ (Nat.le_refl _)) _ xs rfl ((HX.out.below B3.out (Nat.le_refl _)).alloc _) ?e1 ?e2 ?_)
      case e1 => simp; omega
      case e2 => simp
      intro v4 w4 o4 g4
      have b34 := ((Below.refl w3.heap.size w3).alloc (Nat.le_refl _) (.cells #[] 3)).grown g4 (by simp) (by simp [Value.ownBlock])
      replace o4 : Own 3 w3.heap.size w4 v4 (xs ++ tab 0 fun j => wrap64 (-(ix ys j))) := by
        have : xs ++ tab 0 (fun j => wrap64 (-(ix ys j))) = [] ++ xs := by rw [tab_zero]; simp
        rw [this]; exact o4
      have B34 := Lib.hid b34
      clear g4 b34
      obtain ⟨a3, c3, rfl⟩ := own_slN o3 (show _ = n + n by rw [List.length_append, ← HQ.out, ← HN.out])
      obtain ⟨a4, c4, rfl⟩ := own_slN o4 (show _ = n by rw [List.length_append, len_tab, Nat.add_zero, HN.out])
      have O3 := Lib.hid o3
      clear o3
      go_wp2
      go_loopw [8, 9] (fun u i wr => ∃ (k ca : Nat) (ga : Option Addr), k ≤ n ∧ i = .int .i64 k ∧ u = .slice ga (n + k) ca ∧ Own 3 w3.heap.size wr (.slice ga (n + k) ca) (xs ++ tab k fun j => wrap64 (-(ix ys j))) ∧ Below w3.heap.size w3 wr) (fun _ i _ => n - (intOf i).toNat)
      case atStart => exact ⟨0, _, _, Nat.zero_le _, rfl, rfl, o4, B34.out⟩
      case round =>
        obtain ⟨k, ca, ga, hk, rfl, rfl, hO, hB⟩ := hrel
        by_cases hlt : k < n
        · have k0 : (k : Int) < (n : Int) := by omega
          obtain ⟨b, off, hb, d1⟩ : ∃ b off, a2 = some ⟨b, off, none⟩ ∧ wr.cell? ⟨b, off + k, none⟩ = some (.int .i64 (ix ys k)) := by
            have hy := HY.out.below (B3.out.trans (hB.mono B3.out.size)) (Nat.le_refl _)
            obtain ⟨a', c', e, h⟩ := hy
            simp only [Value.slice.injEq] at e
            obtain ⟨rfl, e2, rfl⟩ := e
            rcases h with h | ⟨b, off, h1, _, h2⟩
            · rw [h] at e2; simp at e2; omega
            · exact ⟨b, off, h1, h2 k (by rw [← e2]; exact hlt)⟩
          subst hb
          obtain ⟨z, hz⟩ : ∃ z, z = wrap64 (-(ix ys k)) := ⟨_, rfl⟩
          have HZ := Lib.hid hz
          obtain ⟨y, hy⟩ : ∃ y, y = ix ys k := ⟨_, rfl⟩
          rw [← hy] at d1 hz
          have e1 : IntKind.i64.wrap (-y) = z := by rw [hz, IntKind.wrap_i64]; unfold wrap64; rfl
          clear hz hy o4 B34
          go_wp2_with (at_builtin; refine app_int rfl _ _ 23 rfl w3.heap.size 3 Try.underlying23 infoRv _ _ rfl (hO.grow _) ⟨wr.heap.size, 0, none⟩ rfl z ?q1 ?q2 ?q3 ?_)
          case q1 => exact cell_new1 _ _ _
          case q2 => rw [List.length_append, len_tab]; omega
          case q3 => have := hB.size; simp; omega
          intro v' w1 hO' hg'
          have hB' := app_below hB hO hg'
          rw [tab_snoc k _ _ HZ.out] at hO'
          obtain ⟨ga', ca', rfl⟩ := own_slN hO' (show _ = n + (k + 1) by rw [List.length_append, len_tab, HN.out])
          clear hO hB hg'
          go_wp2
          go_roundw
          case rel => exact ⟨k + 1, ca', ga', by omega, by go_num, rfl, hO', hB'⟩
          case measure => simp [intOf]; omega
        · obtain rfl : k = n := by omega
          have HO : Own 3 w3.heap.size wr (.slice ga (k + k) ca) (xs ++ ngL ys) := by
            have : ngL ys = tab k fun j => wrap64 (-(ix ys j)) := by unfold ngL; rw [← HQ.out, ← HN.out]
            rw [this]; exact hO
          have HP := Own.apart O3.out HO
          have HO := Lib.hid HO
          have HB := Lib.hid hB
          clear hO hB o4 B34
          go_wp2
          go_ret3
          refine ⟨_, rfl, _, _, by rw [HF.out.1]; rfl, ?_, ?_, HP, B3.out.trans (HB.out.mono B3.out.size)⟩
          · rw [HF.out.2.1]; exact O3.out.below HB.out (Nat.le_refl _)
          · rw [HF.out.2.2]; exact HO.out.mono B3.out.size
    · have HF := Lib.hid (okD_no (xs := xs) (ys := ys) fun q => h8 q.2)
      have i2 : ((16 : Int) < 2 * (xs.length : Int)) := by omega
      clear hp hq hx hy n1
      go_enter Try.func45, Try.ntmps45
      go_wp2_with fail
      refine hv.mono ?_
      rintro e w1 ⟨rfl, b1⟩
      go_wp2
      go_ret3
      refine ⟨_, rfl, .slice none 0 0, .slice none 0 0, by rw [HF.out.1]; rfl, ?_, ?_, ?_, b1⟩
      · rw [HF.out.2.1]; exact Own.nil _ _ _
      · rw [HF.out.2.2]; exact Own.nil _ _ _
      · exact nil_apart
  · have hpf : paB xs ys = false := by simpa using hp
    rw [hpf] at hv
    have HF := Lib.hid (okD_no (xs := xs) (ys := ys) fun q => hp q.1)
    clear hp hpf hx hy
    go_enter Try.func45, Try.ntmps45
    go_wp2_with fail
    refine hv.mono ?_
    rintro e w1 ⟨rfl, b1⟩
    go_wp2
    go_ret3
    refine ⟨_, rfl, .slice none 0 0, .slice none 0 0, by rw [HF.out.1]; rfl, ?_, ?_, ?_, b1⟩
    · rw [HF.out.2.1]; exact Own.nil _ _ _
    · rw [HF.out.2.2]; exact Own.nil _ _ _
    · exact nil_apart
end Go.Proofs.Ytagncoahobghpac
