/-
  Boxes: the program, by its contracts (written by boxgen.py).
-/
import Derived.Test.YtlglokbakmbpdaaPdB
import Derived.Test.YtlglokbakmbpdaaValid
namespace Go.Proofs.Ytlglokbakmbpdaa
open Go.RowKit
set_option linter.unusedVariables false

theorem own_cap {E B : Nat} {w : World} {v : Value} {xs : List Int} (h : Own E B w v xs) : ∀ a n c, v = .slice a n c → n ≤ c := by
  intro a n c e
  rcases h.2 with ⟨h', h0⟩ | ⟨g', cap', cur, h', _, _, hn, _⟩
  · rw [e] at h'; simp only [Value.slice.injEq] at h'; omega
  · rw [e] at h'; simp only [Value.slice.injEq] at h'; omega
theorem boxF_len2 (xs : List Int) (z : Int) (h : xs.length ≤ 1048576) : (boxF xs z).length ≤ 1048576 := by
  unfold boxF
  split
  · rename_i q
    have := (vrB_of q.1).1
    unfold boxL; rw [len_tab]; omega
  · simp

/-- The first k values are laid. -/
def BxI (E : Nat) (w wr : World) (g N k : Nat) (V : Nat → Int) : Prop :=
  Own E w.heap.size wr (.slice (some ⟨g, 0, none⟩) N N) (tab N fun j => if j < k then V j else 0) ∧ Below w.heap.size w wr
theorem BxI.step {E g N k : Nat} {w wr : World} {V : Nat → Int} (h : BxI E w wr g N k V) (hk : k < N) (hg : w.heap.size ≤ g) : BxI E w (wr.setCell ⟨g, k, none⟩ (.int .i64 (V k))) g N (k + 1) V := by
  refine ⟨?_, h.2.setCell hg _⟩
  have := h.1.set k (V k)
  rw [tab_set, tab_congr (g := fun j => if j < k + 1 then V j else 0) (fun j _ => by
    by_cases e : j = k
    · subst e; rw [if_pos rfl, if_pos (by omega)]
    · rw [if_neg e]
      by_cases h2 : j < k
      · rw [if_pos h2, if_pos (by omega)]
      · rw [if_neg h2, if_neg (by omega)])] at this
  exact this
theorem BxI.below {E g N k : Nat} {w wr w' : World} {V : Nat → Int} (h : BxI E w wr g N k V) (b : Below wr.heap.size wr w') : BxI E w w' g N k V := ⟨h.1.below b (Nat.le_refl _), bel_nxt h.2 b⟩

set_option maxHeartbeats 1000000 in
theorem totalOf_any (v : Value) (xs : List Int) (w : World) (h : Rd w v xs) (hl : xs.length ≤ 1048576) :
    Calls Try.prog 54 #[v] w (Tells (wrap64 (sumN (ix xs) xs.length)) w) := by
  obtain ⟨a, cap, rfl, h⟩ := h
  rcases h with rfl | ⟨b, off, rfl, hb, hc⟩
  · go_enter Try.func54, Try.ntmps54
    go_wp2
    refine wp_loop_rounds 1 ?_
    rw [rounds_succ]
    go_wp2
    go_ret
    exact ⟨ret_int (by simp [sumN, wrap64]), Below.refl _ _⟩
  · go_enter Try.func54, Try.ntmps54
    go_wp2
    go_loop [3, 8] (fun s i => ∃ k : Nat, k ≤ xs.length ∧ i = .int .i64 k ∧ s = .int .i64 (wrap64 (sumN (ix xs) k))) (fun _ i => xs.length - (intOf i).toNat)
    case atStart => exact ⟨0, Nat.zero_le _, rfl, by simp [sumN, wrap64]⟩
    case round =>
      obtain ⟨k, hk, rfl, rfl⟩ := hrel
      by_cases hlt : k < xs.length
      · have hck := hc k hlt
        clear hc
        have HS := Lib.hid (w64_addL (sumN (ix xs) k) (ix xs k))
        go_wp2
        go_round
        case rel => exact ⟨k + 1, by omega, by go_num, by rw [HS.out]; rfl⟩
        case measure => simp [intOf]; omega
      · have hkl : k = xs.length := by omega
        subst hkl
        go_wp2
        go_ret
        exact ⟨rfl, Below.refl _ _⟩

set_option maxHeartbeats 4000000 in
set_option maxRecDepth 20000 in
/-- ofBoxes with totalOf: V tells what the callee says of box i. -/
theorem ofBoxesT_any (v : Value) (xs : List Int) (z : Int) (w : World) (h : Rd w v xs) (hcp : ∀ a n c, v = .slice a n c → n ≤ c) (hl : xs.length ≤ maxLen) (V : Nat → Nat → Int)
    (hV : ∀ (u : Value) (K i : Nat) (wr : World), 1 ≤ K → i + K ≤ xs.length → K ≤ 1048576 → Rd wr u (tab K fun j => ix xs (i + j)) → Calls Try.prog 54 #[u] wr (Tells (V K i) wr)) :
    Calls Try.prog 53 #[v, .int .i64 z, .func (.func 54) #[] #[]] w (Made 3 w (if vrB xs = true ∧ 1 ≤ z ∧ z ≤ xs.length then tab (xs.length + 1 - z.toNat) (V z.toNat) else [])) := by
  have hv := implValid_any v xs w h hl
  obtain ⟨i0, hi, hz0, hz1, hz2⟩ := info_parts infoInt
  cases hb : vrB xs with
  | false =>
    rw [hb] at hv
    rw [if_neg (by simp)]
    obtain ⟨a, cap, rfl, -⟩ := h
    clear hb hV hcp
    go_enter Try.func53, Try.ntmps53
    go_wp2_with fail
    refine hv.mono ?_
    rintro e w1 ⟨rfl, b1⟩
    go_wp2
    go_ret
    exact ⟨_, rfl, Own.nil _ _ _, b1⟩
  | true =>
    rw [hb] at hv
    have n1 := (vrB_of hb).1
    by_cases hz : 1 ≤ z
    · have g1 : ¬ z < 1 := by omega
      by_cases hz' : z ≤ xs.length
      · have g2 : ¬ ((xs.length : Int) < z) := by omega
        rw [if_pos ⟨rfl, hz, hz'⟩]
        obtain ⟨K, rfl⟩ : ∃ K : Nat, z = (K : Int) := ⟨z.toNat, by omega⟩
        rw [Int.toNat_natCast]
        obtain ⟨a, cap, rfl, h⟩ := h
        have hcap : xs.length ≤ cap := hcp _ _ _ rfl
        clear hcp
        rcases h with hx | ⟨b, off, rfl, hbl, hc⟩
        · rw [hx] at hz'; simp at hz'; omega
        obtain ⟨n, hn⟩ : ∃ n, n = xs.length := ⟨_, rfl⟩
        obtain ⟨N, hN⟩ : ∃ N, N = n + 1 - K := ⟨_, rfl⟩
        rw [← hn] at hv hV hc n1 hl hz' g2 hcap ⊢
        rw [← hN]
        have hK : K ≤ n := by omega
        have HN := Lib.hid (show (n : Int) - (K : Int) + 1 = (N : Int) by omega)
        have HNN := Lib.hid hN
        have HC := Lib.hid hc
        have HV := Lib.hid hV
        have j1 : IntKind.i64.wrap ((n : Int) - (K : Int)) = (n : Int) - (K : Int) := IntWalk.i64_in _ (by omega)
        have j2 : IntKind.i64.wrap ((n : Int) - (K : Int) + 1) = (n : Int) - (K : Int) + 1 := IntWalk.i64_in _ (by omega)
        clear hn hN hc hV hb hz hz'
        go_enter Try.func53, Try.ntmps53
        go_wp2_with fail
        refine hv.mono ?_
        rintro e w1 ⟨rfl, b1⟩
        go_wp2_with (at_make; refine wpList_make_full _ rfl _ _ 23 rfl w1.heap.size 3 i0 (.int .i64 0) 1 Try.underlying23 hi hz0 hz1 _ _ _ _ N rfl rfl HN.out HN.out ?c1 ?c2 ?c3 ?_)
        case c1 => rw [hz2]; have := HNN.out; omega
        case c2 => have := HNN.out; unfold maxLen; omega
        case c3 => omega
        intro w2 hown hgrow
        have hI : BxI 3 w w2 w1.heap.size N 0 (V K) := by
          refine ⟨?_, b1.trans ((Below.refl w1.heap.size w1).grown hgrow (Nat.le_refl _) (by simp) |>.mono b1.size)⟩
          have := Own.mono (own_made hown) b1.size
          rw [tab_congr (g := fun _ => 0) (fun j _ => by simp)]; exact this
        have hg := b1.size
        clear hown hgrow j1 j2
        go_wp2
        go_loopw [30] (fun i wr => ∃ x : Nat, x ≤ N ∧ i = .int .i64 x ∧ BxI 3 w wr w1.heap.size N x (V K)) (fun i _ => N - (intOf i).toNat)
        case atStart => exact ⟨0, Nat.zero_le _, rfl, hI⟩
        case round =>
          obtain ⟨x, hx, rfl, hIr⟩ := hrel
          clear hI
          by_cases hlt : x < N
          · have hNN := HNN.out
            have k0 : (x : Int) < (N : Int) := by omega
            have k1 : IntKind.i64.wrap ((x : Int) + (K : Int)) = (x : Int) + (K : Int) := IntWalk.i64_in _ (by omega)
            have k2 : (x : Int) + (K : Int) ≤ (cap : Int) := by omega
            have k3 : (x : Int) ≤ (x : Int) + (K : Int) := by omega
            have k4 : (0 : Int) ≤ (x : Int) + (K : Int) := by omega
            have k5 : ((x : Int) + (K : Int)).toNat - x = K := by omega
            have k6 : ((x : Int) + (K : Int)).toNat = x + K := by omega
            have hRd : Rd wr (.slice (some ⟨b, off + x, none⟩) K (cap - x)) (tab K fun j => ix xs (x + j)) := by
              refine ⟨_, _, by rw [len_tab], .inr ⟨b, off + x, rfl, by have := hIr.2.size; omega, fun j hj => ?_⟩⟩
              rw [len_tab] at hj
              rw [hIr.2.cell (p := ⟨b, off + x + j, none⟩) hbl, ix_tab _ _ _ hj, Nat.add_assoc]
              exact HC.out (x + j) (by omega)
            have HR := Lib.hid (HV.out _ K x wr (by omega) (by omega) (by omega) hRd)
            clear hRd
            go_wp2_with fail
            refine HR.out.mono ?_
            rintro e w5 ⟨rfl, b5⟩
            have hI5 := hIr.below b5
            have d0 := hI5.1.cell x (by rw [len_tab]; omega)
            have f0 := hI5.1.frozen x
            have HS := Lib.hid (hI5.step hlt (by omega))
            clear hIr hNN hI5
            go_wp2
            go_roundw
            case rel => exact ⟨x + 1, by omega, by go_num, HS.out⟩
            case measure => simp [intOf]; omega
          · obtain rfl : x = N := by omega
            have HO : Own 3 w.heap.size wr (.slice (some ⟨w1.heap.size, 0, none⟩) x x) (tab x (V K)) := by
              have := hIr.1
              rw [tab_congr (g := V K) (fun j hj => by rw [if_pos hj])] at this
              exact this
            have HO := Lib.hid HO
            have hB := hIr.2
            clear hIr
            go_wp2
            go_ret
            exact ⟨_, rfl, HO.out, hB⟩
      · have g2 : ((xs.length : Int) < z) := by omega
        rw [if_neg (by omega)]
        obtain ⟨a, cap, rfl, -⟩ := h
        clear hb hV hz hz' hcp
        go_enter Try.func53, Try.ntmps53
        go_wp2_with fail
        refine hv.mono ?_
        rintro e w1 ⟨rfl, b1⟩
        go_wp2
        go_ret
        exact ⟨_, rfl, Own.nil _ _ _, b1⟩
    · have g1 : z < 1 := by omega
      rw [if_neg (by omega)]
      obtain ⟨a, cap, rfl, -⟩ := h
      clear hb hV hz hcp
      go_enter Try.func53, Try.ntmps53
      go_wp2_with fail
      refine hv.mono ?_
      rintro e w1 ⟨rfl, b1⟩
      go_wp2
      go_ret
      exact ⟨_, rfl, Own.nil _ _ _, b1⟩

theorem implBoxSums_any (v : Value) (xs : List Int) (z : Int) (w : World) (h : Rd w v xs) (hcp : ∀ a n c, v = .slice a n c → n ≤ c) (hl : xs.length ≤ maxLen) :
    Calls Try.prog 22 #[v, .int .i64 z] w (Made 3 w (boxF xs z)) := by
  have HI := Lib.hid (ofBoxesT_any v xs z w h hcp hl (fun K i => wrap64 (sumN (fun j => ix xs (i + j)) K)) fun u K i wr h1 h2 h3 hu => by
    have := totalOf_any u _ wr hu (by rw [len_tab]; exact h3)
    rw [len_tab, show sumN (ix (tab K fun j => ix xs (i + j))) K = sumN (fun j => ix xs (i + j)) K from sumN_congr fun j hj => ix_tab _ _ _ hj] at this
    exact this)
  obtain ⟨a, cap, rfl, -⟩ := h
  clear hcp
  go_enter Try.func22, Try.ntmps22
  go_wp2_with fail
  refine HI.out.mono ?_
  rintro e w1 ⟨u, rfl, o, b⟩
  go_wp2
  go_ret
  exact ⟨_, rfl, o, b⟩

end Go.Proofs.Ytlglokbakmbpdaa
