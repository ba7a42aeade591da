/-
  SignsOf in company.
-/
import Derived.Test.YtagncoahobghpacGreatDoorJGdE30
import Derived.Test.YtagncoahobghpacGreatDoorJGdE31
namespace Go.Proofs.YtagncoahobghpacGreatDoor
open Go Go.Conc Go.RowKit
set_option linter.unusedVariables false
set_option maxRecDepth 100000

theorem sgAt_b (x y : Nat) (w : World) (hx : x < 16) (hy : y < 16) : BCalls Tryz.prog 88 #[.int .i64 y, .int .i64 x] w (BTells (sg x y) w) :=
  btells_of [88, 110, 133, 134] (by kernel_rfl) Tryz.func88 rfl (by kernel_rfl) (by kernel_rfl) fun τ d => (sgAt_any x y (reT w τ d) hx hy).mono fun e w' ⟨h1, h2⟩ => ⟨h1, by rw [← h2]; exact Below.refl _ _⟩
theorem isBinary_b (v : Value) (xs : List Int) (w : World) (h : Rd w v xs) (hl : xs.length ≤ maxLen) : BCalls Tryz.prog 85 #[v] w (BSays (cubeB xs) w) :=
  bsays_of [73, 85] (by kernel_rfl) Tryz.func85 rfl (by kernel_rfl) (by kernel_rfl) fun τ d => isBinaryRow_any v xs (reT w τ d) h hl

set_option maxHeartbeats 8000000 in
theorem weighSg_b (F : Nat → Int) (y : Nat) (w : World) (hy : y < 16) :
    BCalls Tryz.prog 87 #[.agg (arr F), .func (.func 88) #[.int .i64 y] #[]] w (BTells (wrap64 (sgE F 16 y)) w) := by
  intro cs
  have HS := arr_size F
  rw [enter_at _ Tryz.func87 rfl]
  simp only [Tryz.f87, List.size_toArray, List.length_cons, List.length_nil, Nat.reduceAdd, Nat.reduceSub, Array.replicate_succ, Array.replicate_zero, List.push_toArray, List.append_toArray, List.nil_append, List.cons_append]
  have hF : Sm w w := Sm.refl w
  obtain ⟨g, hg⟩ : ∃ g, g = w.heap.size := ⟨_, rfl⟩
  have HG := Lib.hid hg
  clear hg
  refine beside_by (n := 400) ?_
  repeat a_ctl hF Sm.trans D0.nil
  (refine Goes.step rfl (fun _ h₁ => ?_); replace hF := Sm.trans hF h₁; clear h₁; refine goes_oper_k rfl rfl (by decide) (fun K hK => ?_); go_simp; refine hK _ _ ⟨still_listed rfl, ?_⟩; clear hK K)
  refine Goes.stop fun w₁ h₁ => ?_
  obtain ⟨d0, rfl⟩ := hF
  obtain ⟨d1, rfl⟩ := h₁
  rw [show (w.at d0).heap.size = g from HG.out.symm]
  have B1 : Below w.heap.size w (((w.at d0).alloc (.cells (arr F) 110)).at d1) := ((Below.refl w.heap.size w).alloc (Nat.le_refl _) (.cells (arr F) 110)).sm ⟨d1, rfl⟩
  have E1 : (((w.at d0).alloc (.cells (arr F) 110)).at d1).heap[g]? = some (.cells (arr F) 110 (0, 0)) := by rw [HG.out]; exact heap_alloc_last w _
  generalize ((w.at d0).alloc (.cells (arr F) 110)).at d1 = w1 at B1 E1 ⊢
  have hF := Sm.refl w1
  try walk_nrm
  refine beside_by (n := 400) ?_
  repeat a_ctl hF Sm.trans D0.nil
  (refine Goes.step rfl (fun _ h₁ => ?_); replace hF := Sm.trans hF h₁; clear h₁; refine goes_oper_k rfl rfl (by decide) (fun K hK => ?_); go_simp; refine hK _ _ ⟨still_listed rfl, ?_⟩; clear hK K)
  repeat a_ctl hF Sm.trans D0.nil
  (refine Goes.step rfl (fun _ h₁ => ?_); replace hF := Sm.trans hF h₁; clear h₁; refine goes_oper_k rfl rfl (by decide) (fun K hK => ?_); go_simp; refine hK _ _ ⟨still_listed rfl, ?_⟩; clear hK K)
  repeat a_ctl hF Sm.trans D0.nil
  refine Goes.step rfl (fun _ h₁ => ?_)
  replace hF := Sm.trans hF h₁
  clear h₁
  obtain ⟨dx, rfl⟩ := hF
  refine goes_oper_k rfl rfl (by decide) (fun K hK => ?_)
  refine uponK_of_list rfl rfl ?_
  refine wpList_loadv rfl (.tmp 2) 110 rfl _ rfl _ (load_arr (show (w1.at dx).heap[g]? = _ from E1)) ?_
  refine ⟨rfl, hK _ _ ⟨still_listed rfl, ?_⟩⟩
  clear hK K
  have hF := Sm.refl (w1.at dx)
  walk_nrm
  (refine Goes.step rfl (fun _ h₁ => ?_); replace hF := Sm.trans hF h₁; clear h₁; refine goes_oper_k rfl rfl (by decide) (fun K hK => ?_); go_simp; refine hK _ _ ⟨still_listed rfl, ?_⟩; clear hK K)
  repeat a_ctl hF Sm.trans D0.nil
  refine Goes.stop fun w₁ h₁ => ?_
  have B2 : Below w.heap.size w w₁ := (B1.sm ⟨dx, rfl⟩).sm (hF.trans h₁)
  clear hF h₁ B1 E1
  refine (?_ : ∀ (n k : Nat) (v5 v9 v6 v7 v10 v11 v12 v13 v14 v15 v16 v17 v18 v19 v20 : Value) (w' : World), k + n = 16 → v5 = .int .i64 (wrap64 (sumN (fun x => sg x y * F x) k)) → v9 = .int .i64 (k : Int) → Below w.heap.size w w' → Beside _ (G (Frame.at _ ⟨#[.agg (arr F), .func (.func 88) #[.int .i64 y] #[], .pointer (some ⟨g, 0, none⟩), undef, .int .i64 0, v5, v6, v7, .agg (arr F), v9, v10, v11, v12, v13, v14, v15, v16, v17, v18, v19, v20, undef], []⟩ _) cs) w' _) 16 0 _ _ _ _ _ _ _ _ _ _ _ _ _ _ _ _ rfl (by simp [sumN, wrap64]) rfl B2
  clear B2
  intro n
  induction n with
  | zero =>
    intro k v5 v9 v6 v7 v10 v11 v12 v13 v14 v15 v16 v17 v18 v19 v20 w2 hk h5 h9 B2
    obtain rfl : k = 16 := by omega
    subst h5 h9
    have hF := Sm.refl w2
    have i1 : ¬ (((16 : Nat) : Int) < 16) := by omega
    refine beside_by (n := 400) ?_
    repeat (first | a_ctl hF Sm.trans D0.nil | (refine Goes.step rfl (fun _ h₁ => ?_); replace hF := Sm.trans hF h₁; clear h₁; refine goes_oper_k rfl rfl (by decide) (fun K hK => ?_); go_simp; refine hK _ _ ⟨still_listed rfl, ?_⟩; clear hK K) | (refine Goes.step rfl (fun _ h₁ => ?_); rw [stepG_unwanted rfl rfl]; simp only [goes_go]; refine ⟨D0.nil, ?_⟩; replace hF := Sm.trans hF h₁; clear h₁; walk_nrm))
    a_cond false hF Sm.trans D0.nil
    refine Goes.step rfl (fun _ h₁ => ?_)
    refine goes_of_eq (stepG_exit rfl) ?_
    simp only [goes_go]
    refine ⟨D0.nil, ?_⟩
    replace hF := Sm.trans hF h₁
    clear h₁
    repeat (first | a_ctl hF Sm.trans D0.nil | (refine Goes.step rfl (fun _ h₁ => ?_); replace hF := Sm.trans hF h₁; clear h₁; refine goes_oper_k rfl rfl (by decide) (fun K hK => ?_); go_simp; refine hK _ _ ⟨still_listed rfl, ?_⟩; clear hK K) | (refine Goes.step rfl (fun _ h₁ => ?_); rw [stepG_unwanted rfl rfl]; simp only [goes_go]; refine ⟨D0.nil, ?_⟩; replace hF := Sm.trans hF h₁; clear h₁; walk_nrm))
    refine Goes.step rfl (fun _ h₁ => ?_)
    rw [stepG_ret']
    simp only [goes_go]
    refine ⟨D0.nil, ?_⟩
    refine Goes.stop fun w₁ h₂ => .at0 fun d => ?_
    have hF := (Sm.trans hF h₁).trans (h₂.trans ⟨d, rfl⟩)
    exact leave1 Tryz.func87 rfl (R := BTells (wrap64 (sgE F 16 y)) w) ⟨rfl, B2.sm hF⟩
  | succ n ih =>
    intro k v5 v9 v6 v7 v10 v11 v12 v13 v14 v15 v16 v17 v18 v19 v20 w2 hk h5 h9 B2
    have hlt : k < 16 := by omega
    subst h5 h9
    have hF := Sm.refl w2
    have i1 : (k : Int) < 16 := by omega
    have HA := arr_get F k hlt
    have HI := index_arr F k hlt
    refine beside_by (n := 400) ?_
    repeat (first | a_ctl hF Sm.trans D0.nil | (refine Goes.step rfl (fun _ h₁ => ?_); replace hF := Sm.trans hF h₁; clear h₁; refine goes_oper_k rfl rfl (by decide) (fun K hK => ?_); go_simp; refine hK _ _ ⟨still_listed rfl, ?_⟩; clear hK K) | (refine Goes.step rfl (fun _ h₁ => ?_); rw [stepG_unwanted rfl rfl]; simp only [goes_go]; refine ⟨D0.nil, ?_⟩; replace hF := Sm.trans hF h₁; clear h₁; walk_nrm))
    a_cond true hF Sm.trans D0.nil
    repeat (first | a_ctl hF Sm.trans D0.nil | (refine Goes.step rfl (fun _ h₁ => ?_); replace hF := Sm.trans hF h₁; clear h₁; refine goes_oper_k rfl rfl (by decide) (fun K hK => ?_); go_simp; refine hK _ _ ⟨still_listed rfl, ?_⟩; clear hK K) | (refine Goes.step rfl (fun _ h₁ => ?_); rw [stepG_unwanted rfl rfl]; simp only [goes_go]; refine ⟨D0.nil, ?_⟩; replace hF := Sm.trans hF h₁; clear h₁; walk_nrm))
    refine Goes.stop fun w₁ h₁ => ?_
    replace hF := Sm.trans hF h₁
    clear h₁
    refine beside_call_any rfl rfl (by decide) rfl (caps := #[.int .i64 y]) rfl Tryz.func88 rfl rfl (vals := #[.int .i64 y, .int .i64 k]) (by simp [Act.eval]) (fun d => btells_sm (hF.trans ⟨d, rfl⟩) (sgAt_b k y _ hlt hy)) ?_
    rintro r w3 ⟨rfl, b3⟩
    have B3 := bel_nxt B2 b3
    clear hF b3 B2
    obtain ⟨c, hc⟩ : ∃ c, c = sg k y := ⟨_, rfl⟩
    obtain ⟨z, hz⟩ : ∃ z, z = F k := ⟨_, rfl⟩
    obtain ⟨s, hs⟩ : ∃ s, s = wrap64 (sumN (fun x => sg x y * F x) k) := ⟨_, rfl⟩
    obtain ⟨q, hq⟩ : ∃ q, q = wrap64 (c * z) := ⟨_, rfl⟩
    obtain ⟨p, hp⟩ : ∃ p, p = wrap64 (s + q) := ⟨_, rfl⟩
    have HY : Hid (p = wrap64 (sumN (fun x => sg x y * F x) (k + 1))) := Lib.hid (by rw [hp, hs, hq, hz, hc, w64_add, sumN])
    have e1 : IntKind.i64.wrap (c * z) = q := by rw [hq, IntKind.wrap_i64]; unfold wrap64; rfl
    have e2 : IntKind.i64.wrap (s + q) = p := by rw [hp, IntKind.wrap_i64]; unfold wrap64; rfl
    have e3 : IntKind.i64.wrap ((k : Int) + 1) = (k : Int) + 1 := IntWalk.i64_in _ (by omega)
    rw [← hc, ← hz, ← hs]
    clear hc hz hs hq hp HA HI
    have hF := Sm.refl w3
    try walk_nrm
    refine beside_by (n := 400) ?_
    (refine Goes.step rfl (fun _ h₁ => ?_); replace hF := Sm.trans hF h₁; clear h₁; refine goes_oper_k rfl rfl (by decide) (fun K hK => ?_); go_simp; refine hK _ _ ⟨still_listed rfl, ?_⟩; clear hK K)
    (refine Goes.step rfl (fun _ h₁ => ?_); replace hF := Sm.trans hF h₁; clear h₁; refine goes_oper_k rfl rfl (by decide) (fun K hK => ?_); go_simp; refine hK _ _ ⟨still_listed rfl, ?_⟩; clear hK K)
    (refine Goes.step rfl (fun _ h₁ => ?_); replace hF := Sm.trans hF h₁; clear h₁; refine goes_oper_k rfl rfl (by decide) (fun K hK => ?_); go_simp; refine hK _ _ ⟨still_listed rfl, ?_⟩; clear hK K)
    (refine Goes.step rfl (fun _ h₁ => ?_); replace hF := Sm.trans hF h₁; clear h₁; refine goes_oper_k rfl rfl (by decide) (fun K hK => ?_); go_simp; refine hK _ _ ⟨still_listed rfl, ?_⟩; clear hK K)
    repeat a_ctl hF Sm.trans D0.nil
    (refine Goes.step rfl (fun _ h₁ => ?_); replace hF := Sm.trans hF h₁; clear h₁; refine goes_oper_k rfl rfl (by decide) (fun K hK => ?_); go_simp; refine hK _ _ ⟨still_listed rfl, ?_⟩; clear hK K)
    (refine Goes.step rfl (fun _ h₁ => ?_); replace hF := Sm.trans hF h₁; clear h₁; refine goes_oper_k rfl rfl (by decide) (fun K hK => ?_); go_simp; refine hK _ _ ⟨still_listed rfl, ?_⟩; clear hK K)
    repeat a_ctl hF Sm.trans D0.nil
    refine Goes.stop fun w₁ h₁ => ?_
    exact ih (k + 1) _ _ _ _ _ _ _ _ _ _ _ _ _ _ _ _ (by omega) (by rw [HY.out]) (by simp) (B3.sm (Sm.trans hF h₁))

theorem SgInv.sm {E g0 g1 n c k : Nat} {w wr w2 : World} {F : Nat → Int} (h : SgInv E w wr g0 g1 n c k F) (s : Sm wr w2) : SgInv E w w2 g0 g1 n c k F := by
  obtain ⟨d, rfl⟩ := s
  exact ⟨h.1, h.2.1, h.2.2.sm ⟨d, rfl⟩⟩

set_option maxHeartbeats 8000000 in
theorem implSignsOf_b (v : Value) (xs : List Int) (w : World) (h : Rd w v xs) (hl : xs.length ≤ maxLen) :
    BCalls Tryz.prog 63 #[v] w (BMade 3 w (signsF xs)) := by
  intro cs
  obtain ⟨a, cap, hv, -⟩ := id h
  rw [enter_at _ Tryz.func63 rfl]
  simp only [Tryz.f63, List.size_toArray, List.length_cons, List.length_nil, Nat.reduceAdd, Nat.reduceSub, Array.replicate_succ, Array.replicate_zero, List.push_toArray, List.append_toArray, List.nil_append, List.cons_append]
  have hF : Sm w w := Sm.refl w
  subst hv
  refine beside_by (n := 400) ?_
  repeat (first | a_ctl hF Sm.trans D0.nil | (refine Goes.step rfl (fun _ h₁ => ?_); replace hF := Sm.trans hF h₁; clear h₁; refine goes_oper_k rfl rfl (by decide) (fun K hK => ?_); go_simp; refine hK _ _ ⟨still_listed rfl, ?_⟩; clear hK K) | (refine Goes.step rfl (fun _ h₁ => ?_); rw [stepG_unwanted rfl rfl]; simp only [goes_go]; refine ⟨D0.nil, ?_⟩; replace hF := Sm.trans hF h₁; clear h₁; walk_nrm))
  refine Goes.stop fun w₁ h₁ => ?_
  replace hF := Sm.trans hF h₁
  clear h₁
  refine beside_call rfl rfl (by decide) rfl Tryz.func85 rfl rfl (by kernel_rfl) (show _ = (#[.slice a xs.length cap] : Array Value) from by walk_nrm) (fun d => bsays_sm (hF.trans ⟨d, rfl⟩) (isBinary_b _ xs _ (h.sm (hF.trans ⟨d, rfl⟩)) hl)) ?_
  rintro r w1 ⟨rfl, b1⟩
  clear hF
  have h := h.below b1 (Nat.le_refl _)
  have hF := Sm.refl w1
  walk_nrm
  cases hb : cubeB xs with
  | false =>
    have hE : Hid (signsF xs = []) := by show signsF xs = _; unfold signsF; exact if_neg (by simp [hb])
    clear hb
    refine beside_by (n := 400) ?_
    repeat (first | a_ctl hF Sm.trans D0.nil | (refine Goes.step rfl (fun _ h₁ => ?_); replace hF := Sm.trans hF h₁; clear h₁; refine goes_oper_k rfl rfl (by decide) (fun K hK => ?_); go_simp; refine hK _ _ ⟨still_listed rfl, ?_⟩; clear hK K) | (refine Goes.step rfl (fun _ h₁ => ?_); rw [stepG_unwanted rfl rfl]; simp only [goes_go]; refine ⟨D0.nil, ?_⟩; replace hF := Sm.trans hF h₁; clear h₁; walk_nrm))
    a_cond true hF Sm.trans D0.nil
    repeat (first | a_ctl hF Sm.trans D0.nil | (refine Goes.step rfl (fun _ h₁ => ?_); replace hF := Sm.trans hF h₁; clear h₁; refine goes_oper_k rfl rfl (by decide) (fun K hK => ?_); go_simp; refine hK _ _ ⟨still_listed rfl, ?_⟩; clear hK K) | (refine Goes.step rfl (fun _ h₁ => ?_); rw [stepG_unwanted rfl rfl]; simp only [goes_go]; refine ⟨D0.nil, ?_⟩; replace hF := Sm.trans hF h₁; clear h₁; walk_nrm))
    refine Goes.step rfl (fun _ h₁ => ?_)
    rw [stepG_ret']
    simp only [goes_go]
    refine ⟨D0.nil, ?_⟩
    refine Goes.stop fun w₁ h₂ => .at0 fun d => ?_
    have hF := (Sm.trans hF h₁).trans (h₂.trans ⟨d, rfl⟩)
    exact leave1 Tryz.func63 rfl (R := BMade 3 w (signsF xs)) ⟨by rw [hE.out]; exact Own.nil _ _ _, b1.sm hF⟩
  | true =>
    have hle := (vrB_of (cubeB_of hb).1).1
    have hpos := cube_pos hb
    obtain ⟨F, hFF⟩ : ∃ F, F = ix xs := ⟨_, rfl⟩
    obtain ⟨n, hn⟩ : ∃ n, n = xs.length := ⟨_, rfl⟩
    have HN := Lib.hid hn
    have hE : Hid (signsF xs = tab n (sK F n)) := by
      show signsF xs = _
      unfold signsF
      rw [if_pos hb, signsL, ← hn]
      exact tab_congr fun j hj => by unfold sK; rw [if_pos hj, hFF, sg_noughts xs hle j, hn]
    have HCE := Lib.hid fun w (q : Rd w (.slice a n cap) xs) => cellsOf_b _ xs w q hle
    have h := Lib.hid h
    rw [← hn] at h hle hpos ⊢
    rw [← hFF] at HCE
    obtain ⟨i0, hi, hz0, hz1, hz2⟩ := info_parts infoInt
    clear hb hn hFF hl
    refine beside_by (n := 400) ?_
    repeat (first | a_ctl hF Sm.trans D0.nil | (refine Goes.step rfl (fun _ h₁ => ?_); replace hF := Sm.trans hF h₁; clear h₁; refine goes_oper_k rfl rfl (by decide) (fun K hK => ?_); go_simp; refine hK _ _ ⟨still_listed rfl, ?_⟩; clear hK K) | (refine Goes.step rfl (fun _ h₁ => ?_); rw [stepG_unwanted rfl rfl]; simp only [goes_go]; refine ⟨D0.nil, ?_⟩; replace hF := Sm.trans hF h₁; clear h₁; walk_nrm))
    a_cond false hF Sm.trans D0.nil
    repeat (first | a_ctl hF Sm.trans D0.nil | (refine Goes.step rfl (fun _ h₁ => ?_); replace hF := Sm.trans hF h₁; clear h₁; refine goes_oper_k rfl rfl (by decide) (fun K hK => ?_); go_simp; refine hK _ _ ⟨still_listed rfl, ?_⟩; clear hK K) | (refine Goes.step rfl (fun _ h₁ => ?_); rw [stepG_unwanted rfl rfl]; simp only [goes_go]; refine ⟨D0.nil, ?_⟩; replace hF := Sm.trans hF h₁; clear h₁; walk_nrm))
    refine Goes.stop fun w₁ h₁ => ?_
    replace hF := Sm.trans hF h₁
    clear h₁
    refine beside_call_any rfl rfl (by decide) rfl (caps := #[]) rfl Tryz.func86 rfl rfl (vals := #[.slice a n cap]) (by simp [Act.eval]) (R := fun r w' => r = .agg (arr F) ∧ Below w1.heap.size w1 w') (fun d => ?_) ?_
    · obtain ⟨dd, he⟩ := (hF.trans ⟨d, rfl⟩)
      rw [he]
      refine (HCE.out _ (show Rd (w1.at dd) _ xs from h.out)).mono fun r w' q => ⟨q.1, ?_⟩
      exact ⟨q.2.os, q.2.tape, q.2.output, q.2.size, q.2.block⟩
    rintro r w2 ⟨rfl, b2⟩
    have bb := bel_nxt b1 b2
    clear hF b2 b1 h HCE
    have HS := arr_size F
    obtain ⟨g0, hg⟩ : ∃ g0, g0 = w2.heap.size := ⟨_, rfl⟩
    have HG := Lib.hid hg
    clear hg
    have hF := Sm.refl w2
    try walk_nrm
    refine beside_by (n := 400) ?_
    (refine Goes.step rfl (fun _ h₁ => ?_); replace hF := Sm.trans hF h₁; clear h₁; refine goes_oper_k rfl rfl (by decide) (fun K hK => ?_); go_simp; refine hK _ _ ⟨still_listed rfl, ?_⟩; clear hK K)
    refine Goes.stop fun w₁ h₁ => ?_
    obtain ⟨d0, rfl⟩ := hF
    obtain ⟨d1, rfl⟩ := h₁
    rw [zero16_lit, show (w2.at d0).heap.size = g0 from HG.out.symm]
    have B1 : Below w.heap.size w (((w2.at d0).alloc (.cells zero16.toArray 110)).at d1) := (bb.alloc bb.size (.cells zero16.toArray 110)).sm ⟨d1, rfl⟩
    have E1 : (((w2.at d0).alloc (.cells zero16.toArray 110)).at d1).heap[g0]? = some (.cells zero16.toArray 110 (0, 0)) := by rw [HG.out]; exact heap_alloc_last w2 _
    have S1 : (((w2.at d0).alloc (.cells zero16.toArray 110)).at d1).heap.size = g0 + 1 := by rw [HG.out]; exact size_one w2 _
    have hgw : w.heap.size ≤ g0 := by rw [HG.out]; exact bb.size
    generalize ((w2.at d0).alloc (.cells zero16.toArray 110)).at d1 = w3 at B1 E1 S1 ⊢
    clear bb
    have hF := Sm.refl w3
    try walk_nrm
    refine beside_by (n := 400) ?_
    refine Goes.step rfl (fun _ h₁ => ?_)
    replace hF := Sm.trans hF h₁
    clear h₁
    obtain ⟨dx, rfl⟩ := hF
    refine goes_oper_k rfl rfl (by decide) (fun K hK => ?_)
    refine uponK_of_list rfl rfl ?_
    refine wpList_storev rfl (.tmp 3) (.tmp 10) 110 rfl _ rfl _ rfl (store_arr (F := F) (show (w3.at dx).heap[g0]? = _ from E1) (by simp [zero16])) ?_
    refine ⟨rfl, hK _ _ ⟨still_listed rfl, ?_⟩⟩
    clear hK K
    refine Goes.stop fun w₁ h₁ => ?_
    obtain ⟨d5, rfl⟩ := h₁
    have E2 : (((w3.at dx).setRow g0 (arr F)).at d5).heap[g0]? = some (.cells (arr F) 110 (0, 0)) := setRow_heap w3 g0 _ _ _ _ E1
    have B2 : Below w.heap.size w (((w3.at dx).setRow g0 (arr F)).at d5) := (below_setRow (B1.sm ⟨dx, rfl⟩) hgw _).sm ⟨d5, rfl⟩
    have S2 : (((w3.at dx).setRow g0 (arr F)).at d5).heap.size = g0 + 1 := by rw [← S1]; exact (setRow_size w3 g0 (arr F))
    generalize ((w3.at dx).setRow g0 (arr F)).at d5 = w4 at E2 B2 S2 ⊢
    clear B1 E1 S1
    have hF := Sm.refl w4
    try walk_nrm
    refine beside_by (n := 400) ?_
    repeat a_ctl hF Sm.trans D0.nil
    (refine Goes.step rfl (fun _ h₁ => ?_); replace hF := Sm.trans hF h₁; clear h₁; refine goes_oper_k rfl rfl (by decide) (fun K hK => ?_); go_simp; refine hK _ _ ⟨still_listed rfl, ?_⟩; clear hK K)
    (refine Goes.step rfl (fun _ h₁ => ?_); replace hF := Sm.trans hF h₁; clear h₁; refine goes_oper_k rfl rfl (by decide) (fun K hK => ?_); go_simp; refine hK _ _ ⟨still_listed rfl, ?_⟩; clear hK K)
    refine Goes.step rfl (fun _ h₁ => ?_)
    replace hF := Sm.trans hF h₁
    clear h₁
    obtain ⟨dx, rfl⟩ := hF
    refine goes_oper_k rfl rfl (by decide) (fun K hK => ?_)
    refine uponK_of_list rfl rfl ?_
    refine wpList_make_full _ rfl _ _ 35 rfl (w4.at dx).heap.size 3 i0 (.int .i64 0) 1 Tryz.underlying35 hi hz0 hz1 _ _ _ _ n rfl rfl rfl rfl ?c1 ?c2 ?c3 ?_
    case c1 => rw [hz2]; omega
    case c2 => unfold maxLen; omega
    case c3 => exact Nat.le_refl _
    intro w5 hown hgrow
    refine ⟨rfl, hK _ _ ⟨still_listed rfl, ?_⟩⟩
    clear hK K
    refine Goes.stop fun w₁ h₁ => ?_
    obtain ⟨d6, rfl⟩ := h₁
    have hB3 : Below (w4.at dx).heap.size (w4.at dx) w5 := (Below.refl _ (w4.at dx)).grown hgrow (Nat.le_refl _) (by simp)
    rw [Nat.mul_one] at hown
    have hO := own_made (show w5.ownsRow _ _ 1 _ n (madeCells #[Value.int .i64 0] n).toList from hown)
    rw [show (w4.at dx).heap.size = g0 + 1 from S2] at hO hB3 ⊢
    have hI : SgInv 3 w (w5.at d6) g0 (g0 + 1) n n 0 F := by
      refine ⟨?_, (hB3.block g0 (by omega)).trans E2, (B2.trans (Below.sm (show Below w.heap.size w4 w5 from ⟨hB3.os, hB3.tape, hB3.output, hB3.size, fun k hk => hB3.block k (by omega)⟩) ⟨d6, rfl⟩))⟩
      rw [tab_congr (g := fun _ => 0) (fun j _ => by unfold sK; rw [if_neg (by omega)])]
      exact hO
    obtain ⟨g1, hg1e⟩ : ∃ g1, g1 = g0 + 1 := ⟨_, rfl⟩
    have hg1 : g0 + 1 ≤ g1 := by omega
    rw [← hg1e] at hI ⊢
    generalize w5.at d6 = w6 at hI ⊢
    clear hown hgrow hO hB3 E2 B2 S2 hg1e hi hz0 hz1 hz2
    have hF := Sm.refl w6
    try walk_nrm
    refine beside_by (n := 400) ?_
    repeat a_ctl hF Sm.trans D0.nil
    (refine Goes.step rfl (fun _ h₁ => ?_); replace hF := Sm.trans hF h₁; clear h₁; refine goes_oper_k rfl rfl (by decide) (fun K hK => ?_); go_simp; refine hK _ _ ⟨still_listed rfl, ?_⟩; clear hK K)
    repeat a_ctl hF Sm.trans D0.nil
    (refine Goes.step rfl (fun _ h₁ => ?_); replace hF := Sm.trans hF h₁; clear h₁; refine goes_oper_k rfl rfl (by decide) (fun K hK => ?_); go_simp; refine hK _ _ ⟨still_listed rfl, ?_⟩; clear hK K)
    (refine Goes.step rfl (fun _ h₁ => ?_); replace hF := Sm.trans hF h₁; clear h₁; refine goes_oper_k rfl rfl (by decide) (fun K hK => ?_); go_simp; refine hK _ _ ⟨still_listed rfl, ?_⟩; clear hK K)
    (refine Goes.step rfl (fun _ h₁ => ?_); replace hF := Sm.trans hF h₁; clear h₁; refine goes_oper_k rfl rfl (by decide) (fun K hK => ?_); go_simp; refine hK _ _ ⟨still_listed rfl, ?_⟩; clear hK K)
    repeat a_ctl hF Sm.trans D0.nil
    refine Goes.stop fun w₁ h₁ => ?_
    have hI := hI.sm (hF.trans h₁)
    clear hF h₁
    refine (?_ : ∀ (m k : Nat) (v16 v5 v17 v18 v19 v20 v21 v22 v23 v24 v25 v26 : Value) (w' : World), k + m = n → v16 = .int .i64 (k : Int) → SgInv 3 w w' g0 g1 n n k F → Beside _ (G (Frame.at _ ⟨#[_, _, _, _, _, v5, _, _, _, _, _, _, _, _, _, _, v16, v17, v18, v19, v20, v21, v22, v23, v24, v25, v26, _], []⟩ _) cs) w' _) n 0 _ _ _ _ _ _ _ _ _ _ _ _ _ (by omega) rfl hI
    clear hI
    intro m
    induction m with
    | zero =>
      intro k v16 v5 v17 v18 v19 v20 v21 v22 v23 v24 v25 v26 w7 hk h16 hI
      obtain rfl : k = n := by omega
      subst h16
      have hF := Sm.refl w7
      have i1 : ¬ ((k : Int) < (k : Int)) := by omega
      refine beside_by (n := 400) ?_
      repeat (first | a_ctl hF Sm.trans D0.nil | (refine Goes.step rfl (fun _ h₁ => ?_); replace hF := Sm.trans hF h₁; clear h₁; refine goes_oper_k rfl rfl (by decide) (fun K hK => ?_); go_simp; refine hK _ _ ⟨still_listed rfl, ?_⟩; clear hK K) | (refine Goes.step rfl (fun _ h₁ => ?_); rw [stepG_unwanted rfl rfl]; simp only [goes_go]; refine ⟨D0.nil, ?_⟩; replace hF := Sm.trans hF h₁; clear h₁; walk_nrm))
      a_cond false hF Sm.trans D0.nil
      refine Goes.step rfl (fun _ h₁ => ?_)
      refine goes_of_eq (stepG_exit rfl) ?_
      simp only [goes_go]
      refine ⟨D0.nil, ?_⟩
      replace hF := Sm.trans hF h₁
      clear h₁
      repeat (first | a_ctl hF Sm.trans D0.nil | (refine Goes.step rfl (fun _ h₁ => ?_); replace hF := Sm.trans hF h₁; clear h₁; refine goes_oper_k rfl rfl (by decide) (fun K hK => ?_); go_simp; refine hK _ _ ⟨still_listed rfl, ?_⟩; clear hK K) | (refine Goes.step rfl (fun _ h₁ => ?_); rw [stepG_unwanted rfl rfl]; simp only [goes_go]; refine ⟨D0.nil, ?_⟩; replace hF := Sm.trans hF h₁; clear h₁; walk_nrm))
      refine Goes.step rfl (fun _ h₁ => ?_)
      rw [stepG_ret']
      simp only [goes_go]
      refine ⟨D0.nil, ?_⟩
      refine Goes.stop fun w₁ h₂ => .at0 fun d => ?_
      have hF := (Sm.trans hF h₁).trans (h₂.trans ⟨d, rfl⟩)
      exact leave1 Tryz.func63 rfl (R := BMade 3 w (signsF xs)) ⟨by rw [hE.out]; exact ((hI.sm hF).1.mono (by omega)), (hI.sm hF).2.2⟩
    | succ m ih =>
      intro k v16 v5 v17 v18 v19 v20 v21 v22 v23 v24 v25 v26 w7 hk h16 hI
      have hlt : k < n := by omega
      subst h16
      have hF := Sm.refl w7
      have i1 : (k : Int) < (n : Int) := by omega
      refine beside_by (n := 400) ?_
      repeat (first | a_ctl hF Sm.trans D0.nil | (refine Goes.step rfl (fun _ h₁ => ?_); replace hF := Sm.trans hF h₁; clear h₁; refine goes_oper_k rfl rfl (by decide) (fun K hK => ?_); go_simp; refine hK _ _ ⟨still_listed rfl, ?_⟩; clear hK K) | (refine Goes.step rfl (fun _ h₁ => ?_); rw [stepG_unwanted rfl rfl]; simp only [goes_go]; refine ⟨D0.nil, ?_⟩; replace hF := Sm.trans hF h₁; clear h₁; walk_nrm))
      a_cond true hF Sm.trans D0.nil
      repeat a_ctl hF Sm.trans D0.nil
      (refine Goes.step rfl (fun _ h₁ => ?_); replace hF := Sm.trans hF h₁; clear h₁; refine goes_oper_k rfl rfl (by decide) (fun K hK => ?_); go_simp; refine hK _ _ ⟨still_listed rfl, ?_⟩; clear hK K)
      (refine Goes.step rfl (fun _ h₁ => ?_); replace hF := Sm.trans hF h₁; clear h₁; refine goes_oper_k rfl rfl (by decide) (fun K hK => ?_); go_simp; refine hK _ _ ⟨still_listed rfl, ?_⟩; clear hK K)
      repeat a_ctl hF Sm.trans D0.nil
      (refine Goes.step rfl (fun _ h₁ => ?_); replace hF := Sm.trans hF h₁; clear h₁; refine goes_oper_k rfl rfl (by decide) (fun K hK => ?_); go_simp; refine hK _ _ ⟨still_listed rfl, ?_⟩; clear hK K)
      (refine Goes.step rfl (fun _ h₁ => ?_); replace hF := Sm.trans hF h₁; clear h₁; refine goes_oper_k rfl rfl (by decide) (fun K hK => ?_); go_simp; refine hK _ _ ⟨still_listed rfl, ?_⟩; clear hK K)
      refine Goes.step rfl (fun _ h₁ => ?_)
      replace hF := Sm.trans hF h₁
      clear h₁
      obtain ⟨dx, rfl⟩ := hF
      refine goes_oper_k rfl rfl (by decide) (fun K hK => ?_)
      refine uponK_of_list rfl rfl ?_
      refine wpList_loadv rfl (.tmp 3) 110 rfl _ rfl _ (load_arr (show (w7.at dx).heap[g0]? = _ from hI.2.1)) ?_
      refine ⟨rfl, hK _ _ ⟨still_listed rfl, ?_⟩⟩
      clear hK K
      have hF : Sm w7 (w7.at dx) := ⟨dx, rfl⟩
      walk_nrm
      (refine Goes.step rfl (fun _ h₁ => ?_); replace hF := Sm.trans hF h₁; clear h₁; refine goes_oper_k rfl rfl (by decide) (fun K hK => ?_); go_simp; refine hK _ _ ⟨still_listed rfl, ?_⟩; clear hK K)
      (refine Goes.step rfl (fun _ h₁ => ?_); replace hF := Sm.trans hF h₁; clear h₁; refine goes_oper_k rfl rfl (by decide) (fun K hK => ?_); go_simp; refine hK _ _ ⟨still_listed rfl, ?_⟩; clear hK K)
      refine Goes.stop fun w₁ h₁ => ?_
      replace hF := Sm.trans hF h₁
      clear h₁
      refine beside_call_any rfl rfl (by decide) rfl (caps := #[]) rfl Tryz.func87 rfl rfl (vals := #[.agg (arr F), .func (.func 88) #[.int .i64 k] #[]]) (by simp [Act.eval]) (fun d => btells_sm (hF.trans ⟨d, rfl⟩) (weighSg_b F k _ (by omega))) ?_
      rintro r w8 ⟨rfl, b8⟩
      have hI := hI.call b8
      clear hF b8
      have hcx := hI.1.cell k (by simpa using hlt)
      have hfx := hI.1.frozen k
      have hF := Sm.refl w8
      try walk_nrm
      refine beside_by (n := 400) ?_
      (refine Goes.step rfl (fun _ h₁ => ?_); replace hF := Sm.trans hF h₁; clear h₁; refine goes_oper_k rfl rfl (by decide) (fun K hK => ?_); go_simp; refine hK _ _ ⟨still_listed rfl, ?_⟩; clear hK K)
      refine Goes.step rfl (fun _ h₁ => ?_)
      replace hF := Sm.trans hF h₁
      clear h₁
      obtain ⟨dx, rfl⟩ := hF
      replace hcx := (show (w8.at dx).cell? ⟨g1, k, none⟩ = _ from hcx)
      replace hfx := (show (w8.at dx).frozen? ⟨g1, k, none⟩ = _ from hfx)
      refine goes_oper_k rfl rfl (by decide) (fun K hK => ?_)
      go_simp
      refine hK _ _ ⟨still_listed rfl, ?_⟩
      clear hK K
      refine Goes.stop fun w₁ h₁ => ?_
      obtain ⟨d8, rfl⟩ := h₁
      have hI : SgInv 3 w ((((w8.at dx).setCell ⟨g1, k, none⟩ (.int .i64 (wrap64 (sgE F 16 k)))).at d8)) g0 g1 n n (k + 1) F := ((hI.sm ⟨dx, rfl⟩).step hgw hg1).sm ⟨d8, rfl⟩
      generalize ((w8.at dx).setCell ⟨g1, k, none⟩ (.int .i64 (wrap64 (sgE F 16 k)))).at d8 = w9 at hI ⊢
      clear hcx hfx
      have e3 : IntKind.i64.wrap ((k : Int) + 1) = (k : Int) + 1 := IntWalk.i64_in _ (by omega)
      have hF := Sm.refl w9
      try walk_nrm
      refine beside_by (n := 400) ?_
      repeat a_ctl hF Sm.trans D0.nil
      (refine Goes.step rfl (fun _ h₁ => ?_); replace hF := Sm.trans hF h₁; clear h₁; refine goes_oper_k rfl rfl (by decide) (fun K hK => ?_); go_simp; refine hK _ _ ⟨still_listed rfl, ?_⟩; clear hK K)
      (refine Goes.step rfl (fun _ h₁ => ?_); replace hF := Sm.trans hF h₁; clear h₁; refine goes_oper_k rfl rfl (by decide) (fun K hK => ?_); go_simp; refine hK _ _ ⟨still_listed rfl, ?_⟩; clear hK K)
      repeat a_ctl hF Sm.trans D0.nil
      refine Goes.stop fun w₁ h₁ => ?_
      exact ih (k + 1) _ _ _ _ _ _ _ _ _ _ _ _ _ (by omega) (by simp) (hI.sm (Sm.trans hF h₁))
end Go.Proofs.YtagncoahobghpacGreatDoor
