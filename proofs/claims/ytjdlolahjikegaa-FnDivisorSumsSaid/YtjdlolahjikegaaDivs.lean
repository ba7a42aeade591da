/-
  DivisorSums and UndivisorSums of the program, by their contracts.
-/
import Derived.Test.YtjdlolahjikegaaCopy
import Derived.Test.YtjdlolahjikegaaValid
import Derived.Test.YtjdlolahjikegaaDivM
namespace Go.Proofs.Ytjdlolahjikegaa
open Go.RowKit
set_option linter.unusedVariables false

def divL (xs : List Int) : List Int := tab xs.length fun j => wrap64 (divE (ix xs) j)
def divF (xs : List Int) : List Int := if vrB xs = true then divL xs else []
def undivL (xs : List Int) : List Int := tab xs.length fun j => wrap64 (uP (ix xs) xs.length j)
def undivF (xs : List Int) : List Int := if vrB xs = true then undivL xs else []
theorem divF_len (xs : List Int) (h : xs.length ≤ 1048576) : (divF xs).length ≤ 1048576 := by unfold divF; split <;> simp [divL, h]
theorem undivF_len (xs : List Int) (h : xs.length ≤ 1048576) : (undivF xs).length ≤ 1048576 := by unfold undivF; split <;> simp [undivL, h]

/-- What addToMultiples carries round. -/
def MulInv (E B : Nat) (w wr : World) (g n c d q : Nat) (A : Int) (F : Nat → Int) : Prop :=
  Own E B wr (.slice (some ⟨g, 0, none⟩) n c) (tab n fun j => wrap64 (mulU F d A q j)) ∧ w.grownBy wr (some g)
theorem MulInv.cell {E B g n c d q p : Nat} {w wr : World} {A : Int} {F : Nat → Int} (h : MulInv E B w wr g n c d q A F) (hd : 1 ≤ d) (hp : p + 1 = q * d) (hn : p < n) : wr.cell? ⟨g, p, none⟩ = some (.int .i64 (wrap64 (F p))) := by
  have := h.1.cell p (by simpa using hn)
  rw [ix_tab _ _ _ hn, mulU_at hd hp] at this
  exact this
theorem MulInv.step {E B g n c d q p : Nat} {w wr : World} {A : Int} {F : Nat → Int} (h : MulInv E B w wr g n c d q A F) (hd : 1 ≤ d) (hq : 2 ≤ q) (hp : p + 1 = q * d) :
    MulInv E B w (wr.setCell ⟨g, p, none⟩ (.int .i64 (wrap64 (wrap64 (F p) + wrap64 A)))) g n c d (q + 1) A F := by
  refine ⟨?_, grown_set h.2 _ _⟩
  have := h.1.set p (wrap64 (wrap64 (F p) + wrap64 A))
  rw [tab_set] at this
  rw [tab_congr (g := fun j => wrap64 (mulU F d A (q + 1) j))] at this
  · exact this
  · intro j hj
    by_cases e : j = p
    · subst e; rw [if_pos rfl, mulU_next hd hq hp, w64_add]
    · rw [if_neg e, mulU_other hd (fun x => e (by omega))]

set_option maxHeartbeats 2000000 in
theorem addToMultiples_any (B g n c t : Nat) (A : Int) (F : Nat → Int) (w : World) (h : Own 3 B w (.slice (some ⟨g, 0, none⟩) n c) (tab n fun j => wrap64 (F j))) (ht : t < n) (hl : n ≤ 1048576) :
    Calls Try.prog 66 #[.slice (some ⟨g, 0, none⟩) n c, .int .i64 ((t : Int) + 1), .int .i64 (wrap64 A)] w fun e w' =>
      e = .returned (.tuple #[]) ∧ Own 3 B w' (.slice (some ⟨g, 0, none⟩) n c) (tab n fun j => wrap64 (if dvs t j then F j + A else F j)) ∧ w.grownBy w' (some g) := by
  obtain ⟨d, hd⟩ : ∃ d, d = t + 1 := ⟨_, rfl⟩
  have hI : MulInv 3 B w w g n c d 2 A F := by
    refine ⟨?_, World.grownBy.refl _ _⟩
    rw [tab_congr (g := fun j => wrap64 (F j)) (fun j _ => by rw [mulU_two])]; exact h
  have hd1 : 1 ≤ d := by omega
  have hdn : d ≤ n := by omega
  have e : ((t : Int) + 1) = (d : Int) := by omega
  have HD := Lib.hid hd
  rw [e]
  clear h hd ht e
  go_enter Try.func66, Try.ntmps66
  go_wp2
  go_loopw [6] (fun i wr => ∃ q m : Nat, 2 ≤ q ∧ i = .int .i64 m ∧ Hid (m = q * d) ∧ m ≤ 2097152 ∧ MulInv 3 B w wr g n c d q A F) (fun i _ => 2097153 + n - (intOf i).toNat)
  case atStart => exact ⟨2, 2 * d, by omega, by go_num, rfl, by omega, hI⟩
  case round =>
    obtain ⟨q, m, hq, rfl, hm, hmb, hIr⟩ := hrel
    by_cases hlt : m ≤ n
    · have hm1 : 1 ≤ m := by
        have := hm.out; have h2 : 2 * 1 ≤ q * d := Nat.mul_le_mul hq hd1; omega
      obtain ⟨p, hp⟩ : ∃ p, m = p + 1 := ⟨m - 1, by omega⟩
      have hcx := hIr.cell (p := p) hd1 (by have := hm.out; omega) (by omega)
      have hf := hIr.1.frozen p
      have HS := Lib.hid (hIr.step (p := p) hd1 hq (by have := hm.out; omega))
      have i1 : (m : Int) - 1 = (p : Int) := by omega
      have i3 : (p : Int) < (n : Int) := by omega
      have HM : Hid (m + d = (q + 1) * d) := by show m + d = (q + 1) * d; rw [Nat.add_mul, Nat.one_mul, hm.out]
      clear hIr hI hm hp
      go_wp2
      go_roundw
      case rel => exact ⟨q + 1, m + d, by omega, by go_num, HM, by omega, HS.out⟩
      case measure => simp [intOf]; omega
    · have HE : Hid (Own 3 B wr (.slice (some ⟨g, 0, none⟩) n c) (tab n fun j => wrap64 (if dvs t j then F j + A else F j))) := by
        have := hIr.1
        rw [HD.out] at this
        rw [tab_congr (g := fun j => wrap64 (if dvs t j then F j + A else F j)) (fun j hj => by rw [mulU_end (by have := hm.out; rw [HD.out] at this; omega) hj])] at this
        exact this
      have hg := hIr.2
      clear hIr hI
      go_wp2
      go_end0
      exact ⟨rfl, HE.out, hg⟩

theorem divs_round {F : Nat → Int} {n t : Nat} (ht : t < n) : tab n (fun j => wrap64 (if dvs t j then divP F n (t + 1) j + F t else divP F n (t + 1) j)) = tab n fun j => wrap64 (divP F n t j) := by
  refine tab_congr fun j _ => ?_
  rw [divP_step F n t j ht]
  by_cases h : dvs t j
  · rw [if_pos h, if_pos h]
  · rw [if_neg h, if_neg h, Int.add_zero]

set_option maxHeartbeats 2000000 in
theorem implDivisorSums_any (v : Value) (xs : List Int) (w : World) (h : Rd w v xs) (hl : xs.length ≤ maxLen) (hw : ∀ n ∈ xs, (Lit.int .i64 n).wf = true) :
    Calls Try.prog 42 #[v] w (Made 3 w (divF xs)) := by
  have hv := implValid_any v xs w h hl
  cases hb : vrB xs with
  | true =>
    rw [hb] at hv
    have hF : Hid (divF xs = divL xs) := by show divF xs = _; unfold divF; exact if_pos hb
    have hM := vr_max hb
    obtain ⟨F, hFF⟩ : ∃ F, F = ix xs := ⟨_, rfl⟩
    obtain ⟨n, hn⟩ : ∃ n, n = xs.length := ⟨_, rfl⟩
    go_enter Try.func42, Try.ntmps42
    go_wp2_with fail
    refine hv.mono ?_
    rintro e w1 ⟨rfl, b1⟩
    go_wp2_with fail
    refine (copyOf_any v xs _ (h.below b1 (Nat.le_refl _)) hM).mono ?_
    rintro e w2 ⟨g, rfl, hg, o2, b2⟩
    have HI : Own 3 w1.heap.size w2 (.slice (some ⟨g, 0, none⟩) n n) (tab n fun j => wrap64 (divP F n n j)) := by
      rw [tab_congr (g := fun j => wrap64 (ix xs j)) (fun j _ => by rw [divP_top, hFF]), hn, ← tab_wf hw]; exact o2
    have HFF := Lib.hid hFF
    have HN := Lib.hid hn
    rw [← hn] at hM ⊢
    clear hb hv h hl hn hFF
    go_wp2
    go_loopw [4] (fun i wr => ∃ k : Nat, k ≤ n ∧ i = .int .i64 k ∧ Own 3 w1.heap.size wr (.slice (some ⟨g, 0, none⟩) n n) (tab n fun j => wrap64 (divP F n k j)) ∧ w2.grownBy wr (some g)) (fun i _ => (intOf i).toNat)
    case atStart => exact ⟨n, Nat.le_refl _, rfl, HI, World.grownBy.refl _ _⟩
    case round =>
      obtain ⟨k, hk, rfl, hO, hgr⟩ := hrel
      by_cases hlt : 1 ≤ k
      · obtain ⟨t, rfl⟩ : ∃ t, k = t + 1 := ⟨k - 1, by omega⟩
        have hcx := hO.cell t (by simp; omega)
        rw [ix_tab _ _ _ (by omega), divP_self] at hcx
        have HO := Lib.hid hO
        clear hO
        go_wp2_with fail
        refine (addToMultiples_any w1.heap.size g n n t (F t) (divP F n (t + 1)) _ HO.out (by omega) hM).mono ?_
        rintro e w3 ⟨rfl, o3, g3⟩
        rw [divs_round (by omega)] at o3
        have hgr3 := World.grownBy.trans hgr g3
        clear hcx HO hgr g3
        go_wp2
        go_roundw
        case rel => exact ⟨t, by omega, by go_num, o3, hgr3⟩
        case measure => simp [intOf]
      · obtain rfl : k = 0 := by omega
        go_wp2
        go_ret
        refine ⟨_, rfl, ?_, bel_marked (bel_nxt b1 b2) o2 hgr b1.size⟩
        rw [hF.out, divL, HN.out.symm, HFF.out.symm, tab_congr (g := fun j => wrap64 (divP F n 0 j)) (fun j hj => by rw [divP_zero F n j hj])]
        exact hO.mono b1.size
  | false =>
    rw [hb] at hv
    have hF : Hid (divF xs = []) := by show divF xs = _; unfold divF; exact if_neg (by simp [hb])
    go_enter Try.func42, Try.ntmps42
    go_wp2_with fail
    refine hv.mono ?_
    rintro e w1 ⟨rfl, b1⟩
    go_wp2
    go_ret
    exact ⟨_, rfl, by rw [hF.out]; exact Own.nil _ _ _, b1⟩

theorem undivs_round {F : Nat → Int} {n t : Nat} : tab n (fun j => wrap64 (if dvs t j then uP F t j + - uP F t t else uP F t j)) = tab n fun j => wrap64 (uP F (t + 1) j) := by
  refine tab_congr fun j _ => ?_
  show _ = wrap64 (if dvs t j then uP F t j - uP F t t else uP F t j)
  by_cases h : dvs t j
  · rw [if_pos h, if_pos h, Int.sub_eq_add_neg]
  · rw [if_neg h, if_neg h]
theorem w64_neg (a : Int) : wrap64 (- wrap64 a) = wrap64 (-a) := by unfold wrap64; omega

set_option maxHeartbeats 2000000 in
theorem implUndivisorSums_any (v : Value) (xs : List Int) (w : World) (h : Rd w v xs) (hl : xs.length ≤ maxLen) (hw : ∀ n ∈ xs, (Lit.int .i64 n).wf = true) :
    Calls Try.prog 44 #[v] w (Made 3 w (undivF xs)) := by
  have hv := implValid_any v xs w h hl
  cases hb : vrB xs with
  | true =>
    rw [hb] at hv
    have hF : Hid (undivF xs = undivL xs) := by show undivF xs = _; unfold undivF; exact if_pos hb
    have hM := vr_max hb
    obtain ⟨F, hFF⟩ : ∃ F, F = ix xs := ⟨_, rfl⟩
    obtain ⟨n, hn⟩ : ∃ n, n = xs.length := ⟨_, rfl⟩
    go_enter Try.func44, Try.ntmps44
    go_wp2_with fail
    refine hv.mono ?_
    rintro e w1 ⟨rfl, b1⟩
    go_wp2_with fail
    refine (copyOf_any v xs _ (h.below b1 (Nat.le_refl _)) hM).mono ?_
    rintro e w2 ⟨g, rfl, hg, o2, b2⟩
    have HI : Own 3 w1.heap.size w2 (.slice (some ⟨g, 0, none⟩) n n) (tab n fun j => wrap64 (uP F 0 j)) := by
      rw [tab_congr (g := fun j => wrap64 (ix xs j)) (fun j _ => by rw [hFF]; rfl), hn, ← tab_wf hw]; exact o2
    have HFF := Lib.hid hFF
    have HN := Lib.hid hn
    rw [← hn] at hM ⊢
    clear hb hv h hl hn hFF
    go_wp2
    go_loopw [4] (fun i wr => ∃ t : Nat, t ≤ n ∧ i = .int .i64 ((t : Int) + 1) ∧ Own 3 w1.heap.size wr (.slice (some ⟨g, 0, none⟩) n n) (tab n fun j => wrap64 (uP F t j)) ∧ w2.grownBy wr (some g)) (fun i _ => n + 1 - (intOf i).toNat)
    case atStart => exact ⟨0, Nat.zero_le _, rfl, HI, World.grownBy.refl _ _⟩
    case round =>
      obtain ⟨t, ht, rfl, hO, hgr⟩ := hrel
      by_cases hlt : t < n
      · have hcx := hO.cell t (by simp; omega)
        rw [ix_tab _ _ _ hlt] at hcx
        have HO := Lib.hid hO
        have HW := Lib.hid (w64_neg (uP F t t))
        clear hO
        go_wp2_with fail
        rw [HW.out]
        refine (addToMultiples_any w1.heap.size g n n t (- uP F t t) (uP F t) _ HO.out hlt hM).mono ?_
        rintro e w3 ⟨rfl, o3, g3⟩
        rw [undivs_round] at o3
        have hgr3 := World.grownBy.trans hgr g3
        clear hcx HO hgr g3
        go_wp2
        go_roundw
        case rel => exact ⟨t + 1, by omega, by go_num, o3, hgr3⟩
        case measure => simp [intOf]; omega
      · obtain rfl : t = n := by omega
        go_wp2
        go_ret
        refine ⟨_, rfl, ?_, bel_marked (bel_nxt b1 b2) o2 hgr b1.size⟩
        rw [hF.out, undivL, HN.out.symm, HFF.out.symm]
        exact hO.mono b1.size
  | false =>
    rw [hb] at hv
    have hF : Hid (undivF xs = []) := by show undivF xs = _; unfold undivF; exact if_neg (by simp [hb])
    go_enter Try.func44, Try.ntmps44
    go_wp2_with fail
    refine hv.mono ?_
    rintro e w1 ⟨rfl, b1⟩
    go_wp2
    go_ret
    exact ⟨_, rfl, by rw [hF.out]; exact Own.nil _ _ _, b1⟩

end Go.Proofs.Ytjdlolahjikegaa
