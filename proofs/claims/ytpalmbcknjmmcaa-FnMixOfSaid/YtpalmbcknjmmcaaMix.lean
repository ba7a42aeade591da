/-
  MixOf of the model, by its contract.
-/
import Derived.Test.YtpalmbcknjmmcaaSgS
namespace Go.Proofs.Ytpalmbcknjmmcaa
open Go.RowKit
set_option linter.unusedVariables false

def sOr : ByteArray := { data := #[111, 114] }
def sAnd : ByteArray := { data := #[97, 110, 100] }
def sXor : ByteArray := { data := #[120, 111, 114] }
/-- The index that two indices give, by the kind. -/
def mixOp (s : ByteArray) : Nat → Nat → Nat := if s = sOr then fun x y => x ||| y else if s = sAnd then fun x y => x &&& y else fun x y => x ^^^ y
theorem mixOp_or : mixOp sOr = fun x y => x ||| y := by unfold mixOp; exact if_pos rfl
theorem mixOp_and : mixOp sAnd = fun x y => x &&& y := by unfold mixOp; rw [if_neg (by decide), if_pos rfl]
theorem mixOp_xor : mixOp sXor = fun x y => x ^^^ y := by unfold mixOp; rw [if_neg (by decide), if_neg (by decide)]
theorem mixOp_lt (s : ByteArray) {k x y : Nat} (hk : k ≤ 4) (hx : x < 2 ^ k) (hy : y < 2 ^ k) : mixOp s x y < 2 ^ k := by
  unfold mixOp
  split
  · exact or_lt k (by omega) x hx y hy
  · split
    · exact and_lt k (by omega) x hx y hy
    · exact xor_lt k (by omega) x hx y hy
def kindB (s : ByteArray) : Bool := decide (s = sOr ∨ s = sAnd ∨ s = sXor)
theorem kindB_of {s : ByteArray} (h : kindB s = true) : s = sOr ∨ s = sAnd ∨ s = sXor := by simpa only [kindB, decide_eq_true_eq] using h
def mixL (s : ByteArray) (xs ys : List Int) : List Int := tab xs.length fun j => wrap64 (mixE (mixOp s) (ix xs) (ix ys) xs.length j)
def mixB (s : ByteArray) (xs ys : List Int) : Bool := (cubeB xs && cubeB ys && decide (xs.length = ys.length)) && kindB s
def mixF (s : ByteArray) (xs ys : List Int) : List Int := if mixB s xs ys = true then mixL s xs ys else []
theorem mixF_len (s : ByteArray) (xs ys : List Int) (h : xs.length ≤ 1048576) : (mixF s xs ys).length ≤ 1048576 := by unfold mixF; split <;> simp [mixL, h]
def MxInv (E : Nat) (w wr : World) (g n c x y : Nat) (op : Nat → Nat → Nat) (F G : Nat → Int) : Prop :=
  Own E w.heap.size wr (.slice (some ⟨g, 0, none⟩) n c) (tab n fun j => wrap64 (mP op F G n x y j)) ∧ Below w.heap.size w wr
theorem MxInv.drew {E g n c x y : Nat} {w wr : World} {op : Nat → Nat → Nat} {F G : Nat → Int} (h : MxInv E w wr g n c x y op F G) : MxInv E w wr.drew g n c x y op F G := ⟨h.1, h.2.drew⟩
theorem MxInv.step {E g n c x y d : Nat} {w wr : World} {op : Nat → Nat → Nat} {F G : Nat → Int} (h : MxInv E w wr g n c x y op F G) (hg : w.heap.size ≤ g) (hd : op x y = d) :
    MxInv E w (wr.setCell ⟨g, d, none⟩ (.int .i64 (wrap64 (wrap64 (mP op F G n x y d) + wrap64 (F x * G y))))) g n c x (y + 1) op F G := by
  refine ⟨?_, h.2.setCell hg _⟩
  have := h.1.set d (wrap64 (wrap64 (mP op F G n x y d) + wrap64 (F x * G y)))
  rw [tab_set, tab_congr (fun j _ => mP_step op F G n x y d j hd)] at this
  exact this
theorem MxInv.next {E g n c x : Nat} {w wr : World} {op : Nat → Nat → Nat} {F G : Nat → Int} (h : MxInv E w wr g n c x n op F G) : MxInv E w wr g n c (x + 1) 0 op F G := by
  refine ⟨?_, h.2⟩
  rw [tab_congr (g := fun j => wrap64 (mP op F G n x n j)) (fun j _ => by rw [mP_next])]
  exact h.1

set_option maxHeartbeats 8000000 in
theorem specmix_any (u v : Value) (xs ys : List Int) (s : ByteArray) (k : Nat) (w : World) (h : Rd w u xs) (h' : Rd w v ys) (hk : k ≤ 4) (hn : xs.length = 2 ^ k) (hm : ys.length = xs.length) (hs : s = sOr ∨ s = sAnd ∨ s = sXor) :
    Calls Try.prog 79 #[u, v, .string s] w (Made 3 w (mixL s xs ys)) := by
  obtain ⟨a, cap, rfl, h⟩ := h
  obtain ⟨a', cap', rfl, h'⟩ := h'
  obtain ⟨n, hnn⟩ : ∃ n, n = xs.length := ⟨_, rfl⟩
  have h1 : 1 ≤ n := by rw [hnn, hn]; exact Nat.one_le_two_pow
  have h16 : n ≤ 16 := by rw [hnn, hn]; exact pow_le16 hk
  obtain ⟨F, hF⟩ : ∃ F, F = ix xs := ⟨_, rfl⟩
  obtain ⟨G, hG⟩ : ∃ G, G = ix ys := ⟨_, rfl⟩
  rcases h with rfl | ⟨b, off, rfl, hb, hc⟩
  · simp at hnn; omega
  rcases h' with rfl | ⟨b', off', rfl, hb', hc'⟩
  · simp at hm; omega
  rw [hm]
  rw [hm] at hc'
  rw [← hF] at hc
  rw [← hG] at hc'
  have hop : Hid (∀ x, x < n → ∀ y, y < n → mixOp s x y < n) := by
    intro x hx y hy
    rw [hnn, hn] at hx hy ⊢
    exact mixOp_lt s hk hx hy
  have HR : Hid (mixL s xs ys = tab n fun j => wrap64 (mixE (mixOp s) F G n j)) := by show mixL s xs ys = _; rw [mixL, hF, hG, hnn]
  rw [← hnn] at hc hc' ⊢
  have HC := Lib.hid hc
  have HC' := Lib.hid hc'
  clear hc hc' hn hm hnn hF hG hk
  obtain ⟨i0, hi, hz0, hz1, hz2⟩ := info_parts infoInt
  go_enter Try.func79, Try.ntmps79
  go_wp2_with (at_make; refine wpList_make_full _ rfl _ _ 23 rfl w.heap.size 3 i0 (.int .i64 0) 1 Try.underlying23 hi hz0 hz1 _ _ _ _ n rfl rfl rfl rfl ?c1 ?c2 ?c3 ?_)
  case c1 => rw [hz2]; omega
  case c2 => unfold maxLen; omega
  case c3 => omega
  intro w3 hown hgrow
  have hO := own_made hown
  have hB := (Below.refl w.heap.size w).grown hgrow (Nat.le_refl _) (by simp)
  obtain ⟨g, hg⟩ : ∃ g, g = w.heap.size := ⟨_, rfl⟩
  have hgw : w.heap.size ≤ g := by omega
  have hI : MxInv 3 w w3 g n n 0 0 (mixOp s) F G := by
    rw [hg]
    refine ⟨?_, hB⟩
    rw [tab_congr (g := fun _ => 0) (fun j _ => by rw [mP_zero]; simp [wrap64])]
    exact hO
  rw [← hg]
  clear hown hgrow hO hB hg hi hz0 hz1 hz2
  go_wp2
  go_loopw [8] (fun i wr => ∃ x : Nat, x ≤ n ∧ i = .int .i64 x ∧ MxInv 3 w wr g n n x 0 (mixOp s) F G) (fun i _ => n - (intOf i).toNat)
  case atStart => exact ⟨0, Nat.zero_le _, rfl, hI⟩
  case round =>
    obtain ⟨x, hx, rfl, hIr⟩ := hrel
    by_cases hlt : x < n
    · obtain ⟨wo, rfl⟩ : ∃ wo : World, wo = wr := ⟨_, rfl⟩
      go_wp2
      go_loopw [9] (fun i wr => ∃ y : Nat, y ≤ n ∧ i = .int .i64 y ∧ MxInv 3 w wr g n n x y (mixOp s) F G) (fun i _ => n - (intOf i).toNat)
      case atStart => exact ⟨0, Nat.zero_le _, rfl, hIr⟩
      case round =>
        obtain ⟨y, hy, rfl, hIx⟩ := hrel
        by_cases hyl : y < n
        · have hd := hop.out x hlt y hyl
          obtain ⟨d, hde⟩ : ∃ d, mixOp s x y = d := ⟨_, rfl⟩
          rw [hde] at hd
          have hcx := hIx.1.cell d (by simpa using hd)
          rw [ix_tab _ _ _ hd] at hcx
          have hf := hIx.1.frozen d
          have hca : wr.cell? ⟨b, off + x, none⟩ = some (.int .i64 (F x)) := (hIx.2.cell (by exact hb)).trans (HC.out x hlt)
          have hcb : wr.cell? ⟨b', off' + y, none⟩ = some (.int .i64 (G y)) := (hIx.2.cell (by exact hb')).trans (HC'.out y hyl)
          have HS := Lib.hid (hIx.step hgw hde)
          have hax := xor16 x (by omega) y (by omega)
          have hao := or16 x (by omega) y (by omega)
          have haa := and16 x (by omega) y (by omega)
          clear hIx hIr hI
          obtain ⟨m0, hm0⟩ : ∃ m0, m0 = wrap64 (mP (mixOp s) F G n x y d) := ⟨_, rfl⟩
          rw [← hm0] at hcx HS
          clear hm0
          rcases hs with rfl | rfl | rfl
          · have hde2 : x ||| y = d := by rw [← hde, mixOp_or]
            rw [hde2] at hao
            clear hde hde2
            unfold sOr
            go_wp2
            go_region
            go_wp2
            go_roundw
            case rel => exact ⟨y + 1, by omega, by go_num, HS.out.drew⟩
            case measure => simp [intOf]; omega
          · have hde2 : x &&& y = d := by rw [← hde, mixOp_and]
            rw [hde2] at haa
            clear hde hde2
            unfold sAnd
            go_wp2
            go_region
            go_wp2
            go_roundw
            case rel => exact ⟨y + 1, by omega, by go_num, HS.out.drew⟩
            case measure => simp [intOf]; omega
          · have hde2 : x ^^^ y = d := by rw [← hde, mixOp_xor]
            rw [hde2] at hax
            clear hde hde2
            unfold sXor
            go_wp2
            go_region
            go_wp2
            go_roundw
            case rel => exact ⟨y + 1, by omega, by go_num, HS.out.drew⟩
            case measure => simp [intOf]; omega
        · obtain rfl : y = n := by omega
          have HS := Lib.hid hIx.next
          clear hIx hIr hI
          go_wp2
          go_roundw
          case rel => exact ⟨x + 1, by omega, by go_num, HS.out⟩
          case measure => simp [intOf]; omega
    · obtain rfl : x = n := by omega
      go_wp2
      go_ret
      refine ⟨_, rfl, ?_, hIr.2⟩
      rw [HR.out, tab_congr (g := fun j => wrap64 (mP (mixOp s) F G x x 0 j)) (fun j _ => by rw [mP_all])]
      exact hIr.1

end Go.Proofs.Ytpalmbcknjmmcaa
