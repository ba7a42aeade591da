/-
  EdgeOf in company.
-/
import Derived.Test.YtagncoahobghpacGreatDoorJGdERfB
import Derived.Test.YtagncoahobghpacGreatDoorJGdE11
import Derived.Test.YtagncoahobghpacGreatDoorJGdE30
namespace Go.Proofs.YtagncoahobghpacGreatDoor
open Go Go.Conc Go.RowKit
set_option linter.unusedVariables false
set_option maxRecDepth 100000

/-- A row in a new block, known from place s on. -/
def BRowAt (n s : Nat) (f : Nat → Int) (w : World) (v : Value) (w' : World) : Prop :=
  ∃ g, v = .slice (some ⟨g, 0, none⟩) n n ∧ w.heap.size ≤ g ∧ (∀ j, j + s < n → w'.cell? ⟨g, s + j, none⟩ = some (.int .i64 (f j))) ∧ Below w.heap.size w w'
theorem browAt_blind (n s : Nat) (f : Nat → Int) : Blind fun w v w' => BRowAt n s f w v w' := by
  rintro v w w1 τ d τ' d' d2 ⟨g, h1, h2, h3, h4⟩
  exact ⟨g, h1, h2, h3, below_blind h4⟩
theorem browAt_sm {f : FuncId} {args : Array Value} {n s : Nat} {F : Nat → Int} {w w1 : World} (hs : Sm w w1) (h : BCalls Tryz.prog f args w1 (BRowAt n s F w1)) : BCalls Tryz.prog f args w1 (BRowAt n s F w) := by
  obtain ⟨d, rfl⟩ := hs
  exact h.mono fun v w' ⟨g, h1, h2, h3, h4⟩ => ⟨g, h1, h2, h3, ⟨h4.os, h4.tape, h4.output, h4.size, h4.block⟩⟩
theorem copyRow_b (v : Value) (xs : List Int) (w : World) (h : Rd w v xs) (hl : xs.length ≤ 1048576) : BCalls Tryz.prog 108 #[v] w (BRowAt xs.length 0 (ix xs) w) :=
  bcalls_of noinit (callees [108] (by kernel_rfl)) Tryz.func108 rfl (by kernel_rfl) (fun w v w' => BRowAt xs.length 0 (ix xs) w v w') (browAt_blind _ _ _) fun τ d => (copyOf_any v xs (reT w τ d) h hl).mono fun e w' ⟨g, h1, h2, o, b⟩ =>
    ⟨_, h1, g, rfl, h2, fun j hj => by rw [Nat.zero_add]; exact o.cell j (by omega), b⟩
theorem stepped_b {xs : List Int} {k m mm cap : Nat} {a : Option Addr} {w : World} (h : Diff xs k mm (.slice a m cap) w) (hk : k + m = xs.length) (hx : xs.length ≤ 1048576) :
    BCalls Tryz.prog 109 #[.slice a m cap] w (BRowAt m 1 (fun j => wrap64 (dif (ix xs) (k + 1) j)) w) :=
  bcalls_of noinit (callees [108, 109] (by kernel_rfl)) Tryz.func109 rfl (by kernel_rfl) (fun w v w' => BRowAt m 1 (fun j => wrap64 (dif (ix xs) (k + 1) j)) w v w') (browAt_blind _ _ _) fun τ d => (stepped_any (W := reT w τ d) h hk hx).mono fun e w' ⟨g, h1, h2, h3, b⟩ =>
    ⟨_, h1, g, rfl, h2, fun j hj => h3 j (by omega), b⟩
/-- What differenceRows hands back: the iterator, with its variable. -/
def BIter (x : Value) (w : World) (v : Value) (w' : World) : Prop :=
  v = .func (.func 107) #[] #[.pointer (some ⟨w.heap.size, 0, none⟩)] ∧ w'.cell? ⟨w.heap.size, 0, none⟩ = some x ∧ w.heap.size < w'.heap.size ∧ Below w.heap.size w w'
theorem diffRows_b (a : Option Addr) (n cap : Nat) (w : World) : BCalls Tryz.prog 84 #[.slice a n cap] w (BIter (.slice a n cap) w) :=
  bcalls_of noinit (callees [84] (by kernel_rfl)) Tryz.func84 rfl (by kernel_rfl) (fun w v w' => BIter (.slice a n cap) w v w') (by
    rintro v w w1 τ d τ' d' d2 ⟨h1, h2, h3, h4⟩
    exact ⟨h1, h2, h3, below_blind h4⟩) fun τ d => (diffRows_any a n cap (reT w τ d)).mono fun e w' ⟨h1, h2⟩ =>
    ⟨_, h1, rfl, by rw [h2, World.cell?_alloc_at _ _ _ _ rfl]; rfl, by rw [h2, World.size_alloc]; exact Nat.lt_succ_self _, by rw [h2]; exact (Below.refl _ _).alloc (Nat.le_refl _) _⟩
theorem biter_sm {x : Value} {f : FuncId} {args : Array Value} {w w1 : World} (hs : Sm w w1) (h : BCalls Tryz.prog f args w1 (BIter x w1)) : BCalls Tryz.prog f args w1 (BIter x w) := by
  obtain ⟨d, rfl⟩ := hs
  exact h.mono fun v w' ⟨h1, h2, h3, h4⟩ => ⟨h1, h2, h3, ⟨h4.os, h4.tape, h4.output, h4.size, h4.block⟩⟩
theorem beside_pop {P : Program} {fr c : Frame} {cs : List Frame} {w : World} {v : Value} {Q : Goroutine → World → Prop} (h : fr.leaving P w (.returned v)) (next : ∀ d, Beside P (G (c.finish v) cs) (w.at d) Q) : Beside P (G fr (c :: cs)) w Q :=
  .step rfl fun d => let ⟨es, h1, h2⟩ := leaving_step_any (leaving_at h d); ⟨_, _, es, h2, h1, next d⟩

theorem Diff.sm {xs : List Int} {k m : Nat} {v : Value} {W W' : World} (h : Diff xs k m v W) (hs : Sm W W') : Diff xs k m v W' := by
  obtain ⟨d, rfl⟩ := hs
  exact h
/-- Where the walk stands between two rounds. -/
def EdAt (Be D l : Nat) (w : World) (xs : List Int) (rec : Loop) (m k : Nat) (v : Value) (W : World) : Prop :=
  ∃ a c ve m0, v = .slice a m c ∧ Boxed W Be 35 ve ∧ Own 3 w.heap.size W ve (tab k fun i => wrap64 (dif (ix xs) i 0)) ∧ Below w.heap.size w W ∧ W.heap[l]? = some (.loop rec) ∧ W.heap[D]? = some (.deferred (some [])) ∧
    (0 < m → Diff xs k m0 v W ∧ Be < m0 ∧ l < m0 ∧ D < m0 ∧ ∀ j, ve.ownBlock = some j → j < m0)
theorem EdAt.sm {Be D l : Nat} {w : World} {xs : List Int} {rec : Loop} {m k : Nat} {v : Value} {W W' : World} (h : EdAt Be D l w xs rec m k v W) (hs : Sm W W') : EdAt Be D l w xs rec m k v W' := by
  obtain ⟨d, rfl⟩ := hs
  obtain ⟨a, c, ve, m0, h1, h2, h3, h4, h5, h6, h7⟩ := h
  exact ⟨a, c, ve, m0, h1, h2, h3, h4.sm ⟨d, rfl⟩, h5, h6, h7⟩

set_option maxHeartbeats 8000000 in
theorem implEdgeOf_b (v : Value) (xs : List Int) (w : World) (h : Rd w v xs) (hl : xs.length ≤ maxLen) (hwf : ∀ n ∈ xs, (Lit.int .i64 n).wf = true) :
    BCalls Tryz.prog 62 #[v] w (BMade 3 w (edgeF xs)) := by
  intro cs
  obtain ⟨a, cap, hv, -⟩ := id h
  rw [enter_at _ Tryz.func62 rfl]
  simp only [Tryz.f62, List.size_toArray, List.length_cons, List.length_nil, Nat.reduceAdd, Nat.reduceSub, Array.replicate_succ, Array.replicate_zero, List.push_toArray, List.append_toArray, List.nil_append, List.cons_append]
  have hF : Sm w w := Sm.refl w
  subst hv
  refine beside_by (n := 400) ?_
  repeat (first | a_ctl hF Sm.trans D0.nil | (refine Goes.step rfl (fun _ h₁ => ?_); replace hF := Sm.trans hF h₁; clear h₁; refine goes_oper_k rfl rfl (by decide) (fun K hK => ?_); go_simp; refine hK _ _ ⟨still_listed rfl, ?_⟩; clear hK K) | (refine Goes.step rfl (fun _ h₁ => ?_); rw [stepG_unwanted rfl rfl]; simp only [goes_go]; refine ⟨D0.nil, ?_⟩; replace hF := Sm.trans hF h₁; clear h₁; walk_nrm))
  refine Goes.stop fun w₁ h₁ => ?_
  replace hF := Sm.trans hF h₁
  clear h₁
  refine beside_call rfl rfl (by decide) rfl Tryz.func73 rfl rfl (by kernel_rfl) (show _ = (#[.slice a xs.length cap] : Array Value) from by walk_nrm) (fun d => bsays_sm (hF.trans ⟨d, rfl⟩) (implValid_b _ xs _ (h.sm (hF.trans ⟨d, rfl⟩)) hl)) ?_
  rintro r w1 ⟨rfl, b1⟩
  clear hF
  have h := h.below b1 (Nat.le_refl _)
  have hF := Sm.refl w1
  walk_nrm
  cases hb : vrB xs with
  | false =>
    have hE : Hid (edgeF xs = []) := by show edgeF xs = _; unfold edgeF; exact if_neg (by simp [hb])
    clear hb
    refine beside_by (n := 400) ?_
    repeat (first | a_ctl hF Sm.trans D0.nil | (refine Goes.step rfl (fun _ h₁ => ?_); replace hF := Sm.trans hF h₁; clear h₁; refine goes_oper_k rfl rfl (by decide) (fun K hK => ?_); go_simp; refine hK _ _ ⟨still_listed rfl, ?_⟩; clear hK K) | (refine Goes.step rfl (fun _ h₁ => ?_); rw [stepG_unwanted rfl rfl]; simp only [goes_go]; refine ⟨D0.nil, ?_⟩; replace hF := Sm.trans hF h₁; clear h₁; walk_nrm))
    a_cond true hF Sm.trans D0.nil
    repeat (first | a_ctl hF Sm.trans D0.nil | (refine Goes.step rfl (fun _ h₁ => ?_); replace hF := Sm.trans hF h₁; clear h₁; refine goes_oper_k rfl rfl (by decide) (fun K hK => ?_); go_simp; refine hK _ _ ⟨still_listed rfl, ?_⟩; clear hK K) | (refine Goes.step rfl (fun _ h₁ => ?_); rw [stepG_unwanted rfl rfl]; simp only [goes_go]; refine ⟨D0.nil, ?_⟩; replace hF := Sm.trans hF h₁; clear h₁; walk_nrm))
    refine Goes.step rfl (fun _ h₁ => ?_)
    rw [stepG_ret']
    simp only [goes_go]
    refine ⟨D0.nil, ?_⟩
    refine Goes.stop fun w₁ h₂ => .at0 fun d => ?_
    have hF := (Sm.trans hF h₁).trans (h₂.trans ⟨d, rfl⟩)
    exact leave1 Tryz.func62 rfl (R := BMade 3 w (edgeF xs)) ⟨by rw [hE.out]; exact Own.nil _ _ _, b1.sm hF⟩
  | true =>
    have hle := (vrB_of hb).1
    have hE : Hid (edgeF xs = tab xs.length fun k => wrap64 (dif (ix xs) k 0)) := by show edgeF xs = _; unfold edgeF; rw [if_pos hb]; rfl
    obtain ⟨n, hn⟩ : ∃ n, n = xs.length := ⟨_, rfl⟩
    have HN := Lib.hid hn
    have h := Lib.hid h
    rw [← hn] at h hle ⊢
    obtain ⟨i0, hi, hz0, hz1, hz2⟩ := info_parts infoInt
    clear hb hn hl
    refine beside_by (n := 400) ?_
    repeat (first | a_ctl hF Sm.trans D0.nil | (refine Goes.step rfl (fun _ h₁ => ?_); replace hF := Sm.trans hF h₁; clear h₁; refine goes_oper_k rfl rfl (by decide) (fun K hK => ?_); go_simp; refine hK _ _ ⟨still_listed rfl, ?_⟩; clear hK K) | (refine Goes.step rfl (fun _ h₁ => ?_); rw [stepG_unwanted rfl rfl]; simp only [goes_go]; refine ⟨D0.nil, ?_⟩; replace hF := Sm.trans hF h₁; clear h₁; walk_nrm))
    a_cond false hF Sm.trans D0.nil
    repeat a_ctl hF Sm.trans D0.nil
    (refine Goes.step rfl (fun _ h₁ => ?_); replace hF := Sm.trans hF h₁; clear h₁; refine goes_oper_k rfl rfl (by decide) (fun K hK => ?_); go_simp; refine hK _ _ ⟨still_listed rfl, ?_⟩; clear hK K)
    (refine Goes.step rfl (fun _ h₁ => ?_); replace hF := Sm.trans hF h₁; clear h₁; refine goes_oper_k rfl rfl (by decide) (fun K hK => ?_); go_simp; refine hK _ _ ⟨still_listed rfl, ?_⟩; clear hK K)
    refine Goes.step rfl (fun _ h₁ => ?_)
    replace hF := Sm.trans hF h₁
    clear h₁
    obtain ⟨dx, rfl⟩ := hF
    refine goes_oper_k rfl rfl (by decide) (fun K hK => ?_)
    refine uponK_of_list rfl rfl ?_
    refine wpList_make_own _ rfl _ _ 35 rfl w.heap.size 3 i0 (.int .i64 0) 1 Tryz.underlying35 hi hz0 hz1 _ _ _ n rfl rfl rfl ?c1 ?c2 ?c3 ?_
    case c1 => rw [hz2]; omega
    case c2 => unfold maxLen; omega
    case c3 => exact b1.size
    intro w2 hown hgrow
    refine ⟨rfl, hK _ _ ⟨still_listed rfl, ?_⟩⟩
    clear hK K
    refine Goes.stop fun w₁ h₁ => ?_
    obtain ⟨d2, rfl⟩ := h₁
    have Q2 : Below w1.heap.size w1 (w2.at d2) := (((Below.refl w1.heap.size w1).sm ⟨dx, rfl⟩).grown hgrow (Nat.le_refl _) (by simp)).sm ⟨d2, rfl⟩
    have O2 : Own 3 w.heap.size (w2.at d2) (.slice (some ⟨(w1.at dx).heap.size, 0, none⟩) 0 n) [] := hown
    generalize (w1.at dx).heap.size = g at O2 ⊢
    generalize w2.at d2 = w3 at Q2 O2 ⊢
    clear hown hgrow
    have hF := Sm.refl w3
    try walk_nrm
    refine beside_by (n := 400) ?_
    (refine Goes.step rfl (fun _ h₁ => ?_); replace hF := Sm.trans hF h₁; clear h₁; refine goes_oper_k rfl rfl (by decide) (fun K hK => ?_); go_simp; refine hK _ _ ⟨still_listed rfl, ?_⟩; clear hK K)
    refine Goes.stop fun w₁ h₁ => ?_
    obtain ⟨d0, rfl⟩ := hF
    obtain ⟨d1, rfl⟩ := h₁
    obtain ⟨Be, hBe⟩ : ∃ Be, Be = w3.heap.size := ⟨_, rfl⟩
    rw [show (w3.at d0).heap.size = Be from hBe.symm]
    have X3 : Boxed (((w3.at d0).alloc (.cells #[.slice none 0 0] 35)).at d1) Be 35 (.slice none 0 0) := by rw [hBe]; exact Boxed.new w3 _ _
    have O3 : Own 3 w.heap.size (((w3.at d0).alloc (.cells #[.slice none 0 0] 35)).at d1) (.slice (some ⟨g, 0, none⟩) 0 n) [] := O2.alloc (w := w3) _
    have Q3 : Below w1.heap.size w1 (((w3.at d0).alloc (.cells #[.slice none 0 0] 35)).at d1) := (Q2.alloc Q2.size (.cells #[.slice none 0 0] 35)).sm ⟨d1, rfl⟩
    have hBq : w1.heap.size ≤ Be := by rw [hBe]; exact Q2.size
    generalize ((w3.at d0).alloc (.cells #[.slice none 0 0] 35)).at d1 = w4 at X3 O3 Q3 ⊢
    clear Q2 O2 hBe
    have c3 := X3.cell
    have f3 := X3.frozen
    have hF := Sm.refl w4
    try walk_nrm
    refine beside_by (n := 400) ?_
    refine Goes.step rfl (fun _ h₁ => ?_)
    replace hF := Sm.trans hF h₁
    clear h₁
    obtain ⟨dx, rfl⟩ := hF
    replace c3 := (show (w4.at dx).cell? ⟨Be, 0, none⟩ = _ from c3)
    replace f3 := (show (w4.at dx).frozen? ⟨Be, 0, none⟩ = _ from f3)
    refine goes_oper_k rfl rfl (by decide) (fun K hK => ?_)
    go_simp
    refine hK _ _ ⟨still_listed rfl, ?_⟩
    clear hK K
    have hF : Sm w4 (w4.at dx) := ⟨dx, rfl⟩
    refine Goes.stop fun w₁ h₁ => ?_
    obtain ⟨d5, rfl⟩ := h₁
    clear hF c3 f3
    have X5 : Boxed (((w4.at dx).setCell ⟨Be, 0, none⟩ (.slice (some ⟨g, 0, none⟩) 0 n)).at d5) Be 35 (.slice (some ⟨g, 0, none⟩) 0 n) := Boxed.set (W := w4) _ X3
    have O5 : Own 3 w.heap.size (((w4.at dx).setCell ⟨Be, 0, none⟩ (.slice (some ⟨g, 0, none⟩) 0 n)).at d5) (.slice (some ⟨g, 0, none⟩) 0 n) [] := (show Own 3 w.heap.size (w4.setCell ⟨Be, 0, none⟩ (.slice (some ⟨g, 0, none⟩) 0 n)) (.slice (some ⟨g, 0, none⟩) 0 n) [] from World.ownsRow.kept O3 (grownBy_setCell' w4 Be _) (.inr (X3.not_row (by decide) O3).symm))
    have Q5 : Below w1.heap.size w1 (((w4.at dx).setCell ⟨Be, 0, none⟩ (.slice (some ⟨g, 0, none⟩) 0 n)).at d5) := ((Q3.sm ⟨dx, rfl⟩).setCell (p := ⟨Be, 0, none⟩) hBq _).sm ⟨d5, rfl⟩
    generalize ((w4.at dx).setCell ⟨Be, 0, none⟩ (.slice (some ⟨g, 0, none⟩) 0 n)).at d5 = w5 at X5 O5 Q5 ⊢
    clear X3 O3 Q3
    have hF := Sm.refl w5
    try walk_nrm
    refine beside_by (n := 400) ?_
    repeat (first | a_ctl hF Sm.trans D0.nil | (refine Goes.step rfl (fun _ h₁ => ?_); replace hF := Sm.trans hF h₁; clear h₁; refine goes_oper_k rfl rfl (by decide) (fun K hK => ?_); go_simp; refine hK _ _ ⟨still_listed rfl, ?_⟩; clear hK K) | (refine Goes.step rfl (fun _ h₁ => ?_); rw [stepG_unwanted rfl rfl]; simp only [goes_go]; refine ⟨D0.nil, ?_⟩; replace hF := Sm.trans hF h₁; clear h₁; walk_nrm))
    refine Goes.stop fun w₁ h₁ => ?_
    replace hF := Sm.trans hF h₁
    clear h₁
    refine beside_call rfl rfl (by decide) rfl Tryz.func84 rfl rfl (by kernel_rfl) (show _ = (#[.slice a n cap] : Array Value) from by walk_nrm) (fun d => biter_sm (hF.trans ⟨d, rfl⟩) (diffRows_b a n cap _)) ?_
    rintro r w6 ⟨rfl, cB, sB, b6⟩
    have X6 : Boxed w6 Be 35 (.slice (some ⟨g, 0, none⟩) 0 n) := (b6.block Be X5.lt).trans X5
    have O6 := O5.below b6 (Nat.le_refl _)
    have Q6 := bel_nxt Q5 b6
    have hne : w5.heap.size ≠ Be := Nat.ne_of_gt X5.lt
    obtain ⟨Bx, hBx⟩ : ∃ Bx, Bx = w5.heap.size := ⟨_, rfl⟩
    rw [← hBx] at cB sB hne ⊢
    have h6 := h.out.below Q6 (Nat.le_refl _)
    clear hF b6 X5 O5 Q5 hBx h
    have hF := Sm.refl w6
    try walk_nrm
    refine beside_by (n := 400) ?_
    repeat a_ctl hF Sm.trans D0.nil
    refine Goes.stop fun w₁ h₁ => ?_
    replace hF := Sm.trans hF h₁
    clear h₁
    obtain ⟨dz, rfl⟩ := hF
    refine beside_rangeFunc (by decide) rfl Tryz.func107 rfl rfl fun d7 D rec c hD HR HC => ?_
    have HL : ((((w6.at dz).at d7).alloc (.deferred (some []))).alloc (.loop rec)).heap[D + 1]? = some (.loop rec) := by
      have := World.alloc_heap_new (((w6.at dz).at d7).alloc (.deferred (some []))) (.loop rec)
      rw [World.size_alloc] at this
      rw [hD]; exact this
    have HD : ((((w6.at dz).at d7).alloc (.deferred (some []))).alloc (.loop rec)).heap[D]? = some (.deferred (some [])) := by rw [hD]; exact (Below.heap_alloc _ _ _ (by rw [World.size_alloc]; exact Nat.lt_succ_self _)).trans (World.alloc_heap_new ((w6.at dz).at d7) _)
    have X7 : Boxed ((((w6.at dz).at d7).alloc (.deferred (some []))).alloc (.loop rec)) Be 35 (.slice (some ⟨g, 0, none⟩) 0 n) := Boxed.alloc (Boxed.alloc (W := (w6.at dz).at d7) X6 _) _
    have O7 : Own 3 w.heap.size ((((w6.at dz).at d7).alloc (.deferred (some []))).alloc (.loop rec)) (.slice (some ⟨g, 0, none⟩) 0 n) [] := (World.ownsRow.alloc (w := (w6.at dz).at d7) O6 _).alloc _
    have B7 : Below w6.heap.size w6 ((((w6.at dz).at d7).alloc (.deferred (some []))).alloc (.loop rec)) := (((Below.refl w6.heap.size w6).sm ⟨d7, rfl⟩).alloc (Nat.le_refl _) _).alloc (by rw [World.size_alloc]; exact Nat.le_succ _) _
    have Q7 := bel_nxt Q6 B7
    have cB7 := (B7.cell (p := ⟨Bx, 0, none⟩) sB).trans cB
    have h7 := h6.below B7 (Nat.le_refl _)
    have hBD : Be < D := by rw [hD]; exact X6.lt
    clear hD
    generalize (((w6.at dz).at d7).alloc (.deferred (some []))).alloc (.loop rec) = w7 at HL HD X7 O7 Q7 cB7 h7 ⊢
    clear X6 O6 Q6 cB sB h6 B7
    have hF := Sm.refl w7
    rw [show (#[.func (.yield (D + 1)) #[] #[]] ++ #[.pointer (some ⟨Bx, 0, none⟩)] : Array Value) = #[.func (.yield (D + 1)) #[] #[], .pointer (some ⟨Bx, 0, none⟩)] from rfl]
    rw [enter_at _ Tryz.func107 rfl]
    simp only [Tryz.f107, List.size_toArray, List.length_cons, List.length_nil, Nat.reduceAdd, Nat.reduceSub, Array.replicate_succ, Array.replicate_zero, List.push_toArray, List.append_toArray, List.nil_append, List.cons_append]
    refine beside_by (n := 400) ?_
    repeat a_ctl hF Sm.trans D0.nil
    refine Goes.step rfl (fun _ h₁ => ?_)
    replace hF := Sm.trans hF h₁
    clear h₁
    obtain ⟨dx, rfl⟩ := hF
    replace cB7 := (show (w7.at dx).cell? ⟨Bx, 0, none⟩ = _ from cB7)
    refine goes_oper_k rfl rfl (by decide) (fun K hK => ?_)
    go_simp
    refine hK _ _ ⟨still_listed rfl, ?_⟩
    clear hK K
    have hF : Sm w7 (w7.at dx) := ⟨dx, rfl⟩
    clear cB7
    refine Goes.stop fun w₁ h₁ => ?_
    replace hF := Sm.trans hF h₁
    clear h₁
    refine beside_call rfl rfl (by decide) rfl Tryz.func108 rfl rfl (by kernel_rfl) (show _ = (#[.slice a n cap] : Array Value) from by walk_nrm) (fun d => browAt_sm (hF.trans ⟨d, rfl⟩) (by have := copyRow_b _ xs _ (h7.sm (hF.trans ⟨d, rfl⟩)) (by rw [← HN.out]; omega); rw [← HN.out] at this; exact this)) ?_
    rintro r w8 ⟨gc, rfl, hgc, cc, b8⟩
    have hL7 := (Array.getElem?_eq_some_iff.1 HL).1
    have hI : EdAt Be D (D + 1) w xs rec n 0 (.slice (some ⟨gc, 0, none⟩) n n) w8 := by
      refine ⟨_, _, _, w7.heap.size, rfl, (b8.block Be X7.lt).trans X7, O7.below b8 (Nat.le_refl _), bel_nxt (bel_nxt b1 Q7) b8, (b8.block _ hL7).trans HL, (b8.block D (by omega)).trans HD, fun _ => ⟨⟨gc, 0, n, n, rfl, by rw [Nat.zero_add]; exact HN.out, hgc, fun j hj => ?_⟩, X7.lt, hL7, by omega, fun j hj => (World.ownsRow.lt O7 j hj).2⟩⟩
      rw [cc j (by omega), ← dif_first hwf]
    clear hF HL HD X7 O7 Q7 h7 hgc cc b8 hL7
    have hF := Sm.refl w8
    try walk_nrm
    refine beside_by (n := 400) ?_
    (refine Goes.step rfl (fun _ h₁ => ?_); replace hF := Sm.trans hF h₁; clear h₁; refine goes_oper_k rfl rfl (by decide) (fun K hK => ?_); go_simp; refine hK _ _ ⟨still_listed rfl, ?_⟩; clear hK K)
    repeat a_ctl hF Sm.trans D0.nil
    refine Goes.stop fun w₁ h₁ => ?_
    have hI := hI.sm (hF.trans h₁)
    clear hF h₁
    refine (?_ : ∀ (m k : Nat) (v3 v6 v7 v8 v9 v10 v11 v12 v13 v14 v15 v16 : Value) (w' : World), k + m = n → EdAt Be D (D + 1) w xs rec m k v3 w' → Beside _ (G (Frame.at _ ⟨#[_, _, _, v3, _, _, v6, v7, v8, v9, v10, v11, v12, v13, v14, v15, v16], []⟩ _) _) w' _) n 0 _ _ _ _ _ _ _ _ _ _ _ _ _ (Nat.zero_add _) hI
    clear hI
    intro m
    induction m with
    | zero =>
      intro k v3 v6 v7 v8 v9 v10 v11 v12 v13 v14 v15 v16 w9 hk hI
      obtain ⟨a1, c1, ve, m0, rfl, X, O, B, HL, HD, -⟩ := hI
      obtain rfl : k = n := by omega
      have hF := Sm.refl w9
      have i1 : ¬ ((0 : Int) < ((0 : Nat) : Int)) := by omega
      refine beside_by (n := 400) ?_
      repeat (first | a_ctl hF Sm.trans D0.nil | (refine Goes.step rfl (fun _ h₁ => ?_); replace hF := Sm.trans hF h₁; clear h₁; refine goes_oper_k rfl rfl (by decide) (fun K hK => ?_); go_simp; refine hK _ _ ⟨still_listed rfl, ?_⟩; clear hK K) | (refine Goes.step rfl (fun _ h₁ => ?_); rw [stepG_unwanted rfl rfl]; simp only [goes_go]; refine ⟨D0.nil, ?_⟩; replace hF := Sm.trans hF h₁; clear h₁; walk_nrm))
      a_cond false hF Sm.trans D0.nil
      refine Goes.step rfl (fun _ h₁ => ?_)
      refine goes_of_eq (stepG_exit rfl) ?_
      simp only [goes_go]
      refine ⟨D0.nil, ?_⟩
      replace hF := Sm.trans hF h₁
      clear h₁
      repeat (first | a_ctl hF Sm.trans D0.nil | (refine Goes.step rfl (fun _ h₁ => ?_); replace hF := Sm.trans hF h₁; clear h₁; refine goes_oper_k rfl rfl (by decide) (fun K hK => ?_); go_simp; refine hK _ _ ⟨still_listed rfl, ?_⟩; clear hK K) | (refine Goes.step rfl (fun _ h₁ => ?_); rw [stepG_unwanted rfl rfl]; simp only [goes_go]; refine ⟨D0.nil, ?_⟩; replace hF := Sm.trans hF h₁; clear h₁; walk_nrm))
      refine Goes.stop fun w₁ h₁ => ?_
      obtain ⟨dq, rfl⟩ := hF.trans h₁
      clear hF h₁
      refine .step rfl fun d => ⟨_, _, _, stepG_end, D0.nil (w := w9) (w' := w9), ?_⟩
      refine beside_pop (v := .tuple #[]) ⟨rfl, rfl, rfl, _, Tryz.func107, results_none rfl _ _ _⟩ fun d8 => ?_
      rw [HC.out, finish_at_inRangeFunc]
      refine beside_endRange (r := rec) (show (w9.at d).heap[D + 1]? = _ from HL) (by rw [HR.out]; intro e; cases e) (by rw [HR.out]; rfl) fun d9 => ?_
      have hDw : w.heap.size ≤ D := by have := b1.size; omega
      have hI : EdgeInv 3 35 Be w xs k (w9.putObj (D + 1) (.loop { rec with state := .exhausted })) := EdgeInv.put ⟨ve, X, O, B⟩ _ (by omega) HL rfl
      have HD : (w9.putObj (D + 1) (.loop { rec with state := .exhausted })).heap[D]? = some (.deferred (some [])) := (World.putObj_heap_other (by omega)).trans HD
      have hI : EdgeInv 3 35 Be w xs k (((((w9.at dq).at d).at d8).at d9).putObj (D + 1) (.loop { rec with state := .exhausted })) := by
        obtain ⟨ve, h1, h2, h3⟩ := hI
        exact ⟨ve, h1, h2, h3.sm ⟨d9, rfl⟩⟩
      replace HD : (((((w9.at dq).at d).at d8).at d9).putObj (D + 1) (.loop { rec with state := .exhausted })).heap[D]? = some (.deferred (some [])) := HD
      generalize (((((w9.at dq).at d).at d8).at d9).putObj (D + 1) (.loop { rec with state := .exhausted })) = w10 at hI HD ⊢
      clear X O B HL
      obtain ⟨ve, X, O, B⟩ := hI
      have cX := X.cell
      have hF := Sm.refl w10
      try walk_nrm
      refine beside_by (n := 400) ?_
      repeat a_ctl hF Sm.trans D0.nil
      refine Goes.step rfl (fun _ h₁ => ?_)
      replace hF := Sm.trans hF h₁
      clear h₁
      obtain ⟨dx, rfl⟩ := hF
      replace cX := (show (w10.at dx).cell? ⟨Be, 0, none⟩ = _ from cX)
      refine goes_oper_k rfl rfl (by decide) (fun K hK => ?_)
      go_simp
      refine hK _ _ ⟨still_listed rfl, ?_⟩
      clear hK K
      have hF : Sm w10 (w10.at dx) := ⟨dx, rfl⟩
      repeat (first | a_ctl hF Sm.trans D0.nil | (refine Goes.step rfl (fun _ h₁ => ?_); replace hF := Sm.trans hF h₁; clear h₁; refine goes_oper_k rfl rfl (by decide) (fun K hK => ?_); go_simp; refine hK _ _ ⟨still_listed rfl, ?_⟩; clear hK K) | (refine Goes.step rfl (fun _ h₁ => ?_); rw [stepG_unwanted rfl rfl]; simp only [goes_go]; refine ⟨D0.nil, ?_⟩; replace hF := Sm.trans hF h₁; clear h₁; walk_nrm))
      refine Goes.step rfl (fun _ h₁ => ?_)
      rw [stepG_ret']
      simp only [goes_go]
      refine ⟨D0.nil, ?_⟩
      refine Goes.stop fun w₁ h₂ => ?_
      obtain ⟨dr, rfl⟩ := (Sm.trans hF h₁).trans h₂
      refine beside_mark rfl (show (w10.at dr).heap[D]? = _ from HD) fun d10 => .at0 fun d11 => ?_
      have hO : Own 3 w.heap.size (w10.putObj D (.deferred none)) ve (tab k fun i => wrap64 (dif (ix xs) i 0)) := ownsRow_putObj O _ HD rfl
      have hB : Below w.heap.size w (w10.putObj D (.deferred none)) := B.grown (grownBy_putObj' w10 D _) B.size (fun k e => by cases e; exact hDw)
      exact leave1 Tryz.func62 rfl (R := BMade 3 w (edgeF xs)) ⟨by rw [hE.out, ← HN.out]; exact hO, hB.sm ⟨d11, rfl⟩⟩
    | succ m ih =>
      intro k v3 v6 v7 v8 v9 v10 v11 v12 v13 v14 v15 v16 w9 hk hI
      obtain ⟨a1, c1, ve, m0, rfl, X, O, B, HL, HD, hG⟩ := hI
      obtain ⟨hG, hBe, hLm, hDm, hvm⟩ := hG (by omega)
      have hF := Sm.refl w9
      have i1 : ((0 : Int) < ((m + 1 : Nat) : Int)) := by omega
      refine beside_by (n := 400) ?_
      repeat (first | a_ctl hF Sm.trans D0.nil | (refine Goes.step rfl (fun _ h₁ => ?_); replace hF := Sm.trans hF h₁; clear h₁; refine goes_oper_k rfl rfl (by decide) (fun K hK => ?_); go_simp; refine hK _ _ ⟨still_listed rfl, ?_⟩; clear hK K) | (refine Goes.step rfl (fun _ h₁ => ?_); rw [stepG_unwanted rfl rfl]; simp only [goes_go]; refine ⟨D0.nil, ?_⟩; replace hF := Sm.trans hF h₁; clear h₁; walk_nrm))
      refine Goes.stop fun w₁ h₁ => ?_
      obtain ⟨dq, rfl⟩ := hF.trans h₁
      clear hF h₁
      refine beside_yield (l := D + 1) (r := rec) (vals := #[.slice a1 (m + 1) c1]) rfl rfl (by decide) rfl rfl (by simp [Act.eval]) (show (w9.at dq).heap[D + 1]? = _ from HL) (by rw [HR.out]; rfl) fun d => ?_
      rw [HR.out, round_atR]
      simp only [recOf]
      rw [zip_one]
      change Beside _ (G (Frame.atR _ ⟨#[.slice a n cap, undef, .slice none 0 0, .pointer (some ⟨Be, 0, none⟩), undef, .slice a n cap, .bool true, .bool false, .slice a n cap, .int .i64 n, .slice (some ⟨g, 0, none⟩) 0 n, .slice a n cap, .func (.func 107) #[] #[.pointer (some ⟨Bx, 0, none⟩)], .slice a1 (m + 1) c1, undef, undef, undef, undef, undef, undef, undef], []⟩ [_, _, _]) _) _ _
      refine besideR_plain (Qr := fun a' w' => a' = ⟨#[.slice a n cap, undef, .slice none 0 0, .pointer (some ⟨Be, 0, none⟩), .slice a1 (m + 1) c1, .slice a n cap, .bool true, .bool false, .slice a n cap, .int .i64 n, .slice (some ⟨g, 0, none⟩) 0 n, .slice a n cap, .func (.func 107) #[] #[.pointer (some ⟨Bx, 0, none⟩)], .slice a1 (m + 1) c1, undef, undef, undef, undef, undef, undef, undef], []⟩ ∧ Sm w9 w') (by show CallKind.normal ≠ _; decide) (fun d2 => restR_cons (by kernel_rfl) (YieldsR.opR (S := fun _ => True) (fun _ _ h => h) rfl (v := .slice a1 (m + 1) c1) (.inl ⟨by rfl, fun W _ => ⟨run_eq_of (by intro K hK; go_simp; exact hK), still_listed rfl⟩⟩) trivial fun d3 => restR_nil ⟨rfl, ⟨_, rfl⟩⟩)) ?_
      rintro a' w' ⟨rfl, dn, rfl⟩
      refine besideR_begin (l := D + 1) (r := rec) rfl (by show CallKind.normal ≠ _; decide) (show (w9.at dn).heap[D + 1]? = _ from HL) (by rw [HR.out]; rfl) fun d4 => ?_
      refine besideR_block ?_
      have hDw : w.heap.size ≤ D := by have := b1.size; omega
      have hlt := (Array.getElem?_eq_some_iff.1 HL).1
      replace X : Boxed (((w9.at dn).at d4).putObj (D + 1) (.loop { rec with state := .busy })) Be 35 ve := (show Boxed (w9.putObj (D + 1) (.loop { rec with state := .busy })) Be 35 ve from X.kept (grownBy_putObj' w9 (D + 1) _) (by intro e; injection e with e; omega))
      replace O : Own 3 w.heap.size (((w9.at dn).at d4).putObj (D + 1) (.loop { rec with state := .busy })) ve (tab k fun i => wrap64 (dif (ix xs) i 0)) := ownsRow_putObj O _ HL rfl
      replace B : Below w.heap.size w (((w9.at dn).at d4).putObj (D + 1) (.loop { rec with state := .busy })) := Below.sm (B.grown (grownBy_putObj' w9 (D + 1) (.loop { rec with state := .busy })) B.size (fun k e => by cases e; omega)) ⟨d4, rfl⟩
      replace hG : Diff xs k m0 (.slice a1 (m + 1) c1) (((w9.at dn).at d4).putObj (D + 1) (.loop { rec with state := .busy })) := hG.put (.loop { rec with state := .busy }) HL rfl
      replace HD : (((w9.at dn).at d4).putObj (D + 1) (.loop { rec with state := .busy })).heap[D]? = some (.deferred (some [])) := (World.putObj_heap_other (w := w9) (by omega)).trans HD
      replace HL : (((w9.at dn).at d4).putObj (D + 1) (.loop { rec with state := .busy })).heap[D + 1]? = some (.loop { rec with state := .busy }) := World.putObj_heap_same (w := w9) hlt
      generalize ((w9.at dn).at d4).putObj (D + 1) (.loop { rec with state := .busy }) = wB at X O B hG HD HL ⊢
      obtain ⟨rb, hrb⟩ : ∃ rb : Loop, rb = { rec with state := .busy } := ⟨_, rfl⟩
      have HRB := Lib.hid hrb
      rw [← hrb] at HL
      clear hrb hlt
      obtain ⟨gx, off, n1, cx, he, hn1, hgx, hcx⟩ := hG
      simp only [Value.slice.injEq] at he
      obtain ⟨rfl, rfl, rfl⟩ := he
      have hc0 := hcx 0 (by omega)
      rw [Nat.add_zero] at hc0
      obtain ⟨z, hz⟩ : ∃ z, z = wrap64 (dif (ix xs) k 0) := ⟨_, rfl⟩
      rw [← hz] at hc0
      have HZ := Lib.hid hz
      clear hz
      have hni : (0 : Int) < ((m + 1 : Nat) : Int) := by omega
      have hBw : w.heap.size ≤ Be := by have := b1.size; omega
      refine besideR_region (by kernel_rfl) (S := fun w' => w'.cell? ⟨gx, off, none⟩ = some (.int .i64 z)) (Q := fun _ w' => w'.heap[D + 1]? = some (.loop rb) ∧ w'.heap[D]? = some (.deferred (some [])) ∧ Diff xs k m0 (.slice (some ⟨gx, off, none⟩) (m + 1) c1) w' ∧ EdgeInv 3 35 Be w xs (k + 1) w') (by kernel_rfl) (by show CallKind.normal ≠ _; decide) (fun d => ?_) ?_
      · have hcD : (wB.at d).cell? ⟨gx, off, none⟩ = some (.int .i64 z) := hc0
        have hGD : Diff xs k m0 (.slice (some ⟨gx, off, none⟩) (m + 1) c1) (wB.at d) := ⟨gx, off, m + 1, c1, rfl, hn1, hgx, hcx⟩
        replace X : Boxed (wB.at d) Be 35 ve := X
        replace O : Own 3 w.heap.size (wB.at d) ve (tab k fun i => wrap64 (dif (ix xs) i 0)) := O
        replace B : Below w.heap.size w (wB.at d) := B.sm ⟨d, rfl⟩
        replace HL : (wB.at d).heap[D + 1]? = some (.loop rb) := HL
        replace HD : (wB.at d).heap[D]? = some (.deferred (some [])) := HD
        generalize wB.at d = wD at X O B HL HD hcD hGD ⊢
        clear hc0 hcx
        have hedge := fun {v' : Value} {w5 : World} (h1 : Own 3 w.heap.size w5 v' (tab (k + 1) fun i => wrap64 (dif (ix xs) i 0))) (h2 : wD.grownBy w5 ve.ownBlock) => edge_step (T := 35) (by decide) X O B hGD hBw hBe hvm hcD (KeepsOthers.refl wD) h1 h2
        have hca : (wD.alloc (.cells #[.int .i64 z] 3)).cell? ⟨gx, off, none⟩ = some (.int .i64 z) := ((Below.refl wD.heap.size wD).alloc (Nat.le_refl _) (.cells #[.int .i64 z] 3)).cell (p := ⟨gx, off, none⟩) (World.block_lt_of_cell? wD _ hcD) |>.trans hcD
        walk_nrm
        refine anyR_take 1 _ (.slice (some ⟨gx, off, none⟩) (m + 1) c1) (fun _ _ h => h) rfl (by kernel_rfl) (by kernel_rfl) (by kernel_rfl) (.inl ⟨by rfl, fun W' hS' => ⟨run_eq_of (by intro K hK; go_simp; exact hK), still_listed rfl⟩⟩) hcD ?_
        walk_nrm
        refine anyR_take 2 _ (.pointer (some ⟨gx, off, none⟩)) (fun _ _ h => h) rfl (by kernel_rfl) (by kernel_rfl) (by kernel_rfl) (.inl ⟨by rfl, fun W' hS' => ⟨run_eq_of (by intro K hK; go_simp; exact hK), still_listed rfl⟩⟩) hcD ?_
        walk_nrm
        refine anyR_take 3 _ (.int .i64 z) (fun _ _ h => h) rfl (by kernel_rfl) (by kernel_rfl) (by kernel_rfl) (.inl ⟨by rfl, fun W' hS' => ⟨run_eq_of (by intro K hK; dsimp only at hS'; go_simp; exact hK), still_listed rfl⟩⟩) hcD ?_
        walk_nrm
        refine anyR_two 0 4 (by kernel_rfl) ?_ ?_
        · refine opR_k rfl (by rfl) (fun d1 => ⟨still_listed rfl, fun K hK => ?_⟩)
          have hx : (wD.at d1).cell? ⟨Be, 0, none⟩ = some ve := X.cell
          go_simp
          refine hK _ _ ⟨hcD, ?_⟩
          clear hK K hx
          try walk_nrm
          refine anyR_one 4 (by kernel_rfl) ?_
          refine opR_k rfl (by rfl) (fun d2 => ⟨still_listed rfl, fun K hK => ?_⟩)
          go_simp
          refine hK _ _ ⟨hca, ?_⟩
          clear hK K
          try walk_nrm
          refine anyR_one 5 (by kernel_rfl) ?_
          refine opR_k rfl (by rfl) (fun d6 => ⟨still_listed rfl, fun K hK => ?_⟩)
          refine uponK_of_list rfl rfl ?_
          refine app_int rfl (.tmp 14) (.tmp 18) 35 rfl w.heap.size 3 Tryz.underlying35 infoInt ve (tab k fun i => wrap64 (dif (ix xs) i 0)) rfl (show Own 3 w.heap.size ((((wD.at d1).at d2).alloc (.cells #[.int .i64 z] 3)).at d6) ve (tab k fun i => wrap64 (dif (ix xs) i 0)) from World.ownsRow.alloc (w := wD) O (.cells #[.int .i64 z] 3)) ⟨wD.heap.size, 0, none⟩ rfl z (show ((((wD.at d1).at d2).alloc (.cells #[.int .i64 z] 3)).at d6).cell? _ = _ from cell_new1 wD _ _) (by rw [len_tab]; omega) (by have := B.size; show w.heap.size ≤ (wD.alloc _).heap.size; rw [World.size_alloc]; omega) ?_
          intro v' w5 hO5 hg5
          have hg5 := grown_thru (show wD.grownBy ((((wD.at d1).at d2).alloc (.cells #[.int .i64 z] 3)).at d6) none from ⟨(World.grownBy_alloc wD (.cells #[.int .i64 z] 3) none).1, (World.grownBy_alloc wD (.cells #[.int .i64 z] 3) none).2, (World.grownBy_alloc wD (.cells #[.int .i64 z] 3) none).3, (World.grownBy_alloc wD (.cells #[.int .i64 z] 3) none).4, (World.grownBy_alloc wD (.cells #[.int .i64 z] 3) none).5⟩) hg5
          rw [tab_snoc _ _ _ HZ.out] at hO5
          obtain ⟨gv, cv, rfl⟩ := own_succ hO5
          obtain ⟨f1, f2, f3, f4, f5, f6⟩ := hedge hO5 hg5
          refine ⟨rfl, hK _ _ ⟨f2, ?_⟩⟩
          clear hK K
          try walk_nrm
          refine anyR_one 6 (by kernel_rfl) ?_
          refine opR_k rfl (by rfl) (fun d7 => ⟨still_listed rfl, fun K hK => ?_⟩)
          have f1c : (w5.at d7).cell? ⟨Be, 0, none⟩ = some ve := f1.cell
          have f1f : (w5.at d7).frozen? ⟨Be, 0, none⟩ = false := f1.frozen
          go_simp
          refine hK _ _ ⟨f3, ?_⟩
          clear hK K
          refine anyR_done (by kernel_rfl) (fun d8 => ?_) _
          obtain ⟨vq, q1, q2, q3⟩ := f6
          exact ⟨f4.same _ _ HL rfl, f4.same _ _ HD rfl, f5, vq, q1, q2, q3.sm ⟨d8, rfl⟩⟩
        · refine opR_k rfl (by rfl) (fun d1 => ⟨still_listed rfl, fun K hK => ?_⟩)
          go_simp
          refine hK _ _ ⟨hca, ?_⟩
          clear hK K
          try walk_nrm
          refine anyR_one 0 (by kernel_rfl) ?_
          refine opR_k rfl (by rfl) (fun d2 => ⟨still_listed rfl, fun K hK => ?_⟩)
          have hx : (((wD.at d1).alloc (.cells #[.int .i64 z] 3)).at d2).cell? ⟨Be, 0, none⟩ = some ve := (Boxed.alloc (W := wD) X (.cells #[.int .i64 z] 3)).cell
          go_simp
          refine hK _ _ ⟨hca, ?_⟩
          clear hK K hx
          try walk_nrm
          refine anyR_one 5 (by kernel_rfl) ?_
          refine opR_k rfl (by rfl) (fun d6 => ⟨still_listed rfl, fun K hK => ?_⟩)
          refine uponK_of_list rfl rfl ?_
          refine app_int rfl (.tmp 14) (.tmp 18) 35 rfl w.heap.size 3 Tryz.underlying35 infoInt ve (tab k fun i => wrap64 (dif (ix xs) i 0)) rfl (show Own 3 w.heap.size ((((wD.at d1).alloc (.cells #[.int .i64 z] 3)).at d2).at d6) ve (tab k fun i => wrap64 (dif (ix xs) i 0)) from World.ownsRow.alloc (w := wD) O (.cells #[.int .i64 z] 3)) ⟨wD.heap.size, 0, none⟩ rfl z (show ((((wD.at d1).alloc (.cells #[.int .i64 z] 3)).at d2).at d6).cell? _ = _ from cell_new1 wD _ _) (by rw [len_tab]; omega) (by have := B.size; show w.heap.size ≤ (wD.alloc _).heap.size; rw [World.size_alloc]; omega) ?_
          intro v' w5 hO5 hg5
          have hg5 := grown_thru (show wD.grownBy ((((wD.at d1).alloc (.cells #[.int .i64 z] 3)).at d2).at d6) none from ⟨(World.grownBy_alloc wD (.cells #[.int .i64 z] 3) none).1, (World.grownBy_alloc wD (.cells #[.int .i64 z] 3) none).2, (World.grownBy_alloc wD (.cells #[.int .i64 z] 3) none).3, (World.grownBy_alloc wD (.cells #[.int .i64 z] 3) none).4, (World.grownBy_alloc wD (.cells #[.int .i64 z] 3) none).5⟩) hg5
          rw [tab_snoc _ _ _ HZ.out] at hO5
          obtain ⟨gv, cv, rfl⟩ := own_succ hO5
          obtain ⟨f1, f2, f3, f4, f5, f6⟩ := hedge hO5 hg5
          refine ⟨rfl, hK _ _ ⟨f2, ?_⟩⟩
          clear hK K
          try walk_nrm
          refine anyR_one 6 (by kernel_rfl) ?_
          refine opR_k rfl (by rfl) (fun d7 => ⟨still_listed rfl, fun K hK => ?_⟩)
          have f1c : (w5.at d7).cell? ⟨Be, 0, none⟩ = some ve := f1.cell
          have f1f : (w5.at d7).frozen? ⟨Be, 0, none⟩ = false := f1.frozen
          go_simp
          refine hK _ _ ⟨f3, ?_⟩
          clear hK K
          refine anyR_done (by kernel_rfl) (fun d8 => ?_) _
          obtain ⟨vq, q1, q2, q3⟩ := f6
          exact ⟨f4.same _ _ HL rfl, f4.same _ _ HD rfl, f5, vq, q1, q2, q3.sm ⟨d8, rfl⟩⟩
      · rintro a' w' ⟨HL, HD, hG, hI⟩
        refine besideR_inBlock ?_
        refine besideR_end (r := rb) rfl rfl HL fun d5 => ?_
        rw [show ({ rb with state := .ready, pending := none } : Loop) = rec by rw [HRB.out, HR.out]; rfl, Frame.finish_at]
        replace hI := hI.put (.loop rec) (by omega) HL rfl
        replace hG : Diff xs k m0 (.slice (some ⟨gx, off, none⟩) (m + 1) c1) ((w'.at d5).putObj (D + 1) (.loop rec)) := hG.put (.loop rec) HL rfl
        replace HD : ((w'.at d5).putObj (D + 1) (.loop rec)).heap[D]? = some (.deferred (some [])) := (World.putObj_heap_other (w := w') (by omega)).trans HD
        replace HL : ((w'.at d5).putObj (D + 1) (.loop rec)).heap[D + 1]? = some (.loop rec) := World.putObj_heap_same (w := w') (Array.getElem?_eq_some_iff.1 HL).1
        clear X O B hc0 hcx hgx hn1 HZ hBw hvm
        obtain ⟨ve, X, O, B⟩ := hI
        replace X : Boxed ((w'.at d5).putObj (D + 1) (.loop rec)) Be 35 ve := X
        replace O : Own 3 w.heap.size ((w'.at d5).putObj (D + 1) (.loop rec)) ve (tab (k + 1) fun i => wrap64 (dif (ix xs) i 0)) := O
        replace B : Below w.heap.size w ((w'.at d5).putObj (D + 1) (.loop rec)) := B.sm ⟨d5, rfl⟩
        generalize (w'.at d5).putObj (D + 1) (.loop rec) = w11 at X O B HL HD hG ⊢
        have hF := Sm.refl w11
        walk_nrm
        refine beside_by (n := 400) ?_
        repeat (first | a_ctl hF Sm.trans D0.nil | (refine Goes.step rfl (fun _ h₁ => ?_); replace hF := Sm.trans hF h₁; clear h₁; refine goes_oper_k rfl rfl (by decide) (fun K hK => ?_); go_simp; refine hK _ _ ⟨still_listed rfl, ?_⟩; clear hK K) | (refine Goes.step rfl (fun _ h₁ => ?_); rw [stepG_unwanted rfl rfl]; simp only [goes_go]; refine ⟨D0.nil, ?_⟩; replace hF := Sm.trans hF h₁; clear h₁; walk_nrm))
        a_cond true hF Sm.trans D0.nil
        repeat (first | a_ctl hF Sm.trans D0.nil | (refine Goes.step rfl (fun _ h₁ => ?_); replace hF := Sm.trans hF h₁; clear h₁; refine goes_oper_k rfl rfl (by decide) (fun K hK => ?_); go_simp; refine hK _ _ ⟨still_listed rfl, ?_⟩; clear hK K) | (refine Goes.step rfl (fun _ h₁ => ?_); rw [stepG_unwanted rfl rfl]; simp only [goes_go]; refine ⟨D0.nil, ?_⟩; replace hF := Sm.trans hF h₁; clear h₁; walk_nrm))
        refine Goes.stop fun w₁ h₁ => ?_
        replace hF := Sm.trans hF h₁
        clear h₁
        refine beside_call rfl rfl (by decide) rfl Tryz.func109 rfl rfl (by kernel_rfl) (show _ = (#[.slice (some ⟨gx, off, none⟩) (m + 1) c1] : Array Value) from by walk_nrm) (fun d => browAt_sm (hF.trans ⟨d, rfl⟩) (stepped_b (hG.sm (hF.trans ⟨d, rfl⟩)) (hk.trans HN.out) (by have := HN.out; omega))) ?_
        rintro r w12 ⟨g4, rfl, hg4, hc4, b4⟩
        have hL11 := (Array.getElem?_eq_some_iff.1 HL).1
        have hvm := fun j hj => (World.ownsRow.lt O j hj).2
        have hXl := X.lt
        replace X : Boxed w12 Be 35 ve := (b4.block Be X.lt).trans X
        replace O := O.below b4 (Nat.le_refl _)
        replace B := bel_nxt B b4
        replace HL := (b4.block _ hL11).trans HL
        replace HD := (b4.block D (by omega)).trans HD
        clear hF hG b4
        have hF := Sm.refl w12
        walk_nrm
        by_cases hm0 : m = 0
        · subst hm0
          have hI : ∀ a c, EdAt Be D (D + 1) w xs rec 0 (k + 1) (.slice a 0 c) w12 := fun a c => ⟨a, c, ve, 0, rfl, X, O, B, HL, HD, fun h => absurd h (Nat.lt_irrefl 0)⟩
          clear X O B HL HD hc4 hvm
          refine beside_by (n := 400) ?_
          (refine Goes.step rfl (fun _ h₁ => ?_); replace hF := Sm.trans hF h₁; clear h₁; refine goes_oper_k rfl rfl (by decide) (fun K hK => ?_); go_simp; refine hK _ _ ⟨still_listed rfl, ?_⟩; clear hK K)
          (refine Goes.step rfl (fun _ h₁ => ?_); replace hF := Sm.trans hF h₁; clear h₁; refine goes_oper_k rfl rfl (by decide) (fun K hK => ?_); go_simp; refine hK _ _ ⟨still_listed rfl, ?_⟩; clear hK K)
          repeat a_ctl hF Sm.trans D0.nil
          refine Goes.stop fun w₁ h₁ => ?_
          exact ih (k + 1) _ _ _ _ _ _ _ _ _ _ _ _ _ (by omega) ((hI _ _).sm (hF.trans h₁))
        · have hI : EdAt Be D (D + 1) w xs rec m (k + 1) (.slice (some ⟨g4, 1, none⟩) m m) w12 := ⟨_, _, ve, w11.heap.size, rfl, X, O, B, HL, HD, fun _ => ⟨⟨g4, 1, m, m, rfl, by have := HN.out; omega, hg4, fun j hj => hc4 j (by omega)⟩, hXl, hL11, by omega, hvm⟩⟩
          clear X O B HL HD hc4 hvm
          have i2 : (1 : Int) ≤ (m : Int) + 1 := by omega
          refine beside_by (n := 400) ?_
          (refine Goes.step rfl (fun _ h₁ => ?_); replace hF := Sm.trans hF h₁; clear h₁; refine goes_oper_k rfl rfl (by decide) (fun K hK => ?_); go_simp; refine hK _ _ ⟨still_listed rfl, ?_⟩; clear hK K)
          (refine Goes.step rfl (fun _ h₁ => ?_); replace hF := Sm.trans hF h₁; clear h₁; refine goes_oper_k rfl rfl (by decide) (fun K hK => ?_); go_simp; refine hK _ _ ⟨still_listed rfl, ?_⟩; clear hK K)
          repeat a_ctl hF Sm.trans D0.nil
          refine Goes.stop fun w₁ h₁ => ?_
          exact ih (k + 1) _ _ _ _ _ _ _ _ _ _ _ _ _ (by omega) (hI.sm (hF.trans h₁))
end Go.Proofs.YtagncoahobghpacGreatDoor
