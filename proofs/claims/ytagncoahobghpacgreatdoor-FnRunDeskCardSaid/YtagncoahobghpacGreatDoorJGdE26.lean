/-
  Joined texts: App2, HvP, HvQ.
-/
import Derived.Test.YtagncoahobghpacGreatDoorJGdE11
import Derived.Test.YtagncoahobghpacGreatDoorJGdE25
import Derived.Test.YtagncoahobghpacGreatDoorJGdE19
import Derived.Test.YtagncoahobghpacGreatDoorJGdE22
import Derived.StillTailTactics
import Derived.Deep.RegionLaw
import Derived.IntWalk
namespace Go.Proofs.YtagncoahobghpacGreatDoor
open Go.RowKit
set_option linter.unusedVariables false

/-- Two slices lie in two blocks. -/
def Apt (u v : Value) : Prop := ∀ k, u.ownBlock = some k → v.ownBlock ≠ some k
theorem Apt.symm {u v : Value} (h : Apt u v) : Apt v u := fun k hk hu => h k hu hk
theorem Apt.kept {u v : Value} (h : Apt u v) : u.ownBlock = none ∨ u.ownBlock ≠ v.ownBlock := by
  cases hu : u.ownBlock with
  | none => exact .inl rfl
  | some k => exact .inr fun e => h k hu e.symm
/-- v' is v grown, in the same block or in a new one. -/
theorem Apt.grown {E B : Nat} {w : World} {u v v' : Value} {xs : List Int} (h : Apt u v) (hu : Own E B w u xs) (hv : v'.ownBlock = v.ownBlock ∨ v'.ownBlock = some w.heap.size) : Apt u v' := by
  intro k hk e
  have hl := (World.ownsRow.lt hu k hk).2
  rcases hv with q | q
  · exact h k hk (q ▸ e)
  · rw [q] at e; injection e with e; omega

theorem app_int_at {P : Program} {w : World} {ops : Array Oper} {rest : List Oper} {o : Oper} {a : Act} {Q : Exit → Act → World → Prop} (hgd : o.guard = none) (s x : Operand) (t : TypeId)
    (ho : o.op = .call { callee := .builtin .append, args := #[s, x], argTypes := #[t, t] })
    (B E : Nat) (ht : P.underlying t = some (.slice E)) (hinfo : (P.info? E).map (fun i => (i.zero, i.size, i.bytes)) = some (some (.int .i64 0), 1, 8))
    (v : Value) (xs : List Int) (hs : a.eval s = v) (hown : Own E B w v xs) (ad : Addr) (hx : a.eval x = .slice (some ad) 1 1) (u : Int) (hnew : w.cell? ad = some (.int .i64 u))
    (hlen : xs.length ≤ 16777216) (hbase : B ≤ w.heap.size)
    (h : ∀ v' w', Own E B w' v' (xs ++ [u]) → w.grownBy w' v.ownBlock → (v'.ownBlock = v.ownBlock ∨ v'.ownBlock = some w.heap.size) → wpList P ops Q rest (a.put o.dst v') w') : wpList P ops Q (o :: rest) a w := by
  obtain ⟨i0, hi, hz0, hz1, hz2⟩ := info_parts hinfo
  refine wpList_append_own_at w hgd s x t ho B E i0 (.int .i64 0) 1 8 ht hi hz0 hz1 hz2 rfl (by decide) v xs.length _ hs hown ad 1 1 [.int .i64 u] hx rfl ?_ ?_ ?_ ?_ hbase ?_
  · intro j y hj
    match j, hj with
    | 0, hj =>
      simp at hj; subst hj
      rw [show ad.add 0 = ad by cases ad; simp [Addr.add]]; exact hnew
  · intro y hy; simp at hy; subst hy; rfl
  · unfold maxLen; omega
  · omega
  · intro v' w' h1 h2 _ h4
    refine h v' w' ?_ h2 h4
    unfold Own
    simpa using h1

/-- The same in a region that draws its order: w0 is the world before the region. -/
theorem step_app_int_at {P : Program} {ops : Array Oper} {o : Oper} {a : Act} {w : World} {K : Act → World → Prop} {Q : Exit → Act → World → Prop} {F : Prop} (w0 : World)
    (hgd : o.guard = none) (s x : Operand) (t : TypeId) (ho : o.op = .call { callee := .builtin .append, args := #[s, x], argTypes := #[t, t] })
    (B E : Nat) (ht : P.underlying t = some (.slice E)) (hinfo : (P.info? E).map (fun i => (i.zero, i.size, i.bytes)) = some (some (.int .i64 0), 1, 8))
    (v : Value) (xs : List Int) (hs : a.eval s = v) (hown0 : Own E B w0 v xs) (hg0 : w0.grownBy w none) (ad : Addr) (hx : a.eval x = .slice (some ad) 1 1) (u : Int) (hnew : w.cell? ad = some (.int .i64 u))
    (hlen : xs.length ≤ 16777216) (hbase : B ≤ w0.heap.size)
    (h : ∀ v' w', Own E B w' v' (xs ++ [u]) → w0.grownBy w' v.ownBlock → (v'.ownBlock = v.ownBlock ∨ ∃ g, v'.ownBlock = some g ∧ w0.heap.size ≤ g) → K (a.put o.dst v') w') : if Region.wanted o (yielded ops a.tmps) = true then Oper.wp P o a w K Q else F := by
  have hw : Region.wanted o (yielded ops a.tmps) = true := by simp [Region.wanted, hgd]
  rw [if_pos hw]
  have hown : Own E B w v xs := hown0.kept hg0 (by cases v.ownBlock <;> simp)
  obtain ⟨i0, hi, hz0, hz1, hz2⟩ := info_parts hinfo
  obtain ⟨v', w', hr, h2, h3, h4, h5⟩ := run_append_own_at (P := P) w B t o.type E i0 (.int .i64 0) 1 8 ht hi hz0 hz1 hz2 rfl (by decide) v xs.length _ hown ad 1 1 [.int .i64 u] (by simp) (by
    intro j y hj
    match j, hj with
    | 0, hj =>
      simp at hj; subst hj
      rw [show ad.add 0 = ad by cases ad; simp [Addr.add]]; exact hnew) (by intro y hy; simp at hy; subst hy; rfl) (by unfold maxLen; omega) (by omega) (Nat.le_trans hbase hg0.size)
  unfold Oper.wp execOp
  simp only [ho, resolve, invoke, builtin, Sem.run_bind, Sem.run_pure, Result.andThen_ok, List.map_toArray, List.map_cons, List.map_nil, hs, hx, hr]
  refine h v' w' ?_ (grown_thru hg0 h3) ?_
  · unfold Own
    simpa using h2
  · rcases h5 with q | q
    · exact .inl q
    · exact .inr ⟨_, q, hg0.size⟩
/-- Many ints, in a region that draws its order. -/
theorem step_app_many {P : Program} {ops : Array Oper} {o : Oper} {a : Act} {w : World} {K : Act → World → Prop} {Q : Exit → Act → World → Prop} {F : Prop}
    (hgd : o.guard = none) (s x : Operand) (t : TypeId) (ho : o.op = .call { callee := .builtin .append, args := #[s, x], argTypes := #[t, t] })
    (B E : Nat) (ht : P.underlying t = some (.slice E)) (hinfo : (P.info? E).map (fun i => (i.zero, i.size, i.bytes)) = some (some (.int .i64 0), 1, 8))
    (v : Value) (xs : List Int) (hs : a.eval s = v) (hown : Own E B w v xs) (u : Value) (ys : List Int) (hx : a.eval x = u) (hrd : Rd w u ys)
    (hlen : xs.length + ys.length ≤ 16777216) (hbase : B ≤ w.heap.size)
    (h : ∀ v' w', Own E B w' v' (xs ++ ys) → w.grownBy w' v.ownBlock → K (a.put o.dst v') w') : if Region.wanted o (yielded ops a.tmps) = true then Oper.wp P o a w K Q else F := by
  have hw : Region.wanted o (yielded ops a.tmps) = true := by simp [Region.wanted, hgd]
  rw [if_pos hw]
  obtain ⟨v', w', hrun, h1, h2⟩ := run_append_rd (P := P) B E t o.type ht hinfo v xs hown u ys hrd hlen hbase
  unfold Oper.wp
  simp [execOp, ho, resolve, invoke, builtin, hs, hx, hrun, Result.andThen]
  exact h v' w' h1 h2
theorem Apt.grown2 {E B : Nat} {w : World} {u v v' : Value} {xs : List Int} (h : Apt u v) (hu : Own E B w u xs) (hv : v'.ownBlock = v.ownBlock ∨ ∃ g, v'.ownBlock = some g ∧ w.heap.size ≤ g) : Apt u v' := by
  intro k hk e
  have hl := (World.ownsRow.lt hu k hk).2
  rcases hv with q | ⟨g, q, hg⟩
  · exact h k hk (q ▸ e)
  · rw [q] at e; injection e with e; omega

theorem own_slN {E B n : Nat} {w : World} {v : Value} {xs : List Int} (h : Own E B w v xs) (hn : xs.length = n) : ∃ a cap, v = .slice a n cap := by
  subst hn
  rcases h.shape with ⟨rfl, rfl⟩ | ⟨g, cap, rfl, _⟩
  · exact ⟨none, 0, rfl⟩
  · exact ⟨_, _, rfl⟩

/-- A piece of a slice that is read. -/
theorem Rd.drop {w : World} {b off n cap k : Nat} {xs : List Int} (h : Rd w (.slice (some ⟨b, off, none⟩) n cap) xs) (hk : k ≤ n) : Rd w (.slice (some ⟨b, off + k, none⟩) (n - k) (cap - k)) (xs.drop k) := by
  obtain ⟨a', cap', he, h⟩ := h
  simp only [Value.slice.injEq] at he
  obtain ⟨rfl, rfl, rfl⟩ := he
  have hl : (xs.drop k).length = xs.length - k := by simp
  refine ⟨_, cap - k, by rw [hl], ?_⟩
  rcases h with rfl | ⟨b', off', he, hlt, hc⟩
  · left; simp
  · simp only [Option.some.injEq, Addr.mk.injEq, and_true] at he
    obtain ⟨rfl, rfl⟩ := he
    refine .inr ⟨b, off + k, rfl, hlt, fun j hj => ?_⟩
    rw [hl] at hj
    have := hc (k + j) (by omega)
    rw [show off + k + j = off + (k + j) by omega, this]
    simp [ix, List.getD]

/-- 's[k:]' as the model has it: at its capacity it keeps the old address. -/
theorem rd_tail {w : World} {g n cap k : Nat} {xs : List Int} (h : Rd w (.slice (some ⟨g, 0, none⟩) n cap) xs) (hk : k ≤ n) (hc : n ≤ cap) : Rd w (.slice (if cap = k then some ⟨g, 0, none⟩ else some ⟨g, k, none⟩) (n - k) (cap - k)) (xs.drop k) := by
  by_cases e : cap = k
  · rw [if_pos e]
    have hn : n = xs.length := by
      obtain ⟨a', cap', he, _⟩ := h
      simp only [Value.slice.injEq] at he
      exact he.2.1
    have h0 : xs.drop k = [] := List.eq_nil_of_length_eq_zero (by rw [List.length_drop]; omega)
    rw [h0, show n - k = 0 by omega]
    exact ⟨_, _, rfl, .inl rfl⟩
  · rw [if_neg e]
    have := h.drop hk
    rw [Nat.zero_add] at this
    exact this

end Go.Proofs.YtagncoahobghpacGreatDoor

namespace Go.Proofs.YtagncoahobghpacGreatDoor
open Go.RowKit
set_option linter.unusedVariables false
set_option maxRecDepth 100000

theorem floor2_any (x : Int) (w : World) (h : -1000000 ≤ x ∧ x ≤ 1000000) :
    Calls Tryz.prog 59 #[.int .i64 x, .int .i64 2] w fun e w' => e = .returned (.int .i64 (x / 2)) ∧ w = w' := by
  obtain ⟨h0, h1⟩ := h
  by_cases hx : x < 0
  · have HE := Lib.hid (show -((-x + 2 - 1) / 2) = x / 2 by omega)
    have hq : 0 ≤ -x + 2 - 1 := by omega
    have hq1 : (-x + 2 - 1) / 2 ≤ 1000000 := by omega
    have hq2 : 0 ≤ (-x + 2 - 1) / 2 := by omega
    go_enter Tryz.func59, Tryz.ntmps59
    go_wp2
    go_ret
    exact ⟨ret_int HE.out, rfl⟩
  · have hx0 : 0 ≤ x := by omega
    clear hx
    go_enter Tryz.func59, Tryz.ntmps59
    go_wp2
    go_ret
    exact ⟨rfl, rfl⟩

theorem floor4_any (x : Int) (w : World) (h : -1000000 ≤ x ∧ x ≤ 1000000) :
    Calls Tryz.prog 59 #[.int .i64 x, .int .i64 4] w fun e w' => e = .returned (.int .i64 (x / 4)) ∧ w = w' := by
  obtain ⟨h0, h1⟩ := h
  by_cases hx : x < 0
  · have HE := Lib.hid (show -((-x + 4 - 1) / 4) = x / 4 by omega)
    have hq : 0 ≤ -x + 4 - 1 := by omega
    have hq1 : (-x + 4 - 1) / 4 ≤ 1000000 := by omega
    have hq2 : 0 ≤ (-x + 4 - 1) / 4 := by omega
    go_enter Tryz.func59, Tryz.ntmps59
    go_wp2
    go_ret
    exact ⟨ret_int HE.out, rfl⟩
  · have hx0 : 0 ≤ x := by omega
    clear hx
    go_enter Tryz.func59, Tryz.ntmps59
    go_wp2
    go_ret
    exact ⟨rfl, rfl⟩

/-- A row of an even number of numbers. -/
def evB (xs : List Int) : Bool := vrB xs && decide (xs.length % 2 = 0)
theorem evB_of {xs : List Int} (h : evB xs = true) : vrB xs = true ∧ xs.length % 2 = 0 := by simpa [evB] using h
theorem evB_no {xs : List Int} (h : vrB xs = false) : evB xs = false := by simp [evB, h]
theorem evB_eq {xs : List Int} (h : vrB xs = true) : evB xs = decide (xs.length % 2 = 0) := by simp [evB, h]

theorem validEven_any (v : Value) (xs : List Int) (w : World) (h : Rd w v xs) (hl : xs.length ≤ maxLen) :
    Calls Tryz.prog 37 #[v] w (Says (evB xs) w) := by
  have hv := specvalid_any v xs w h hl
  obtain ⟨a, cap, rfl, -⟩ := h
  cases hb : vrB xs with
  | true =>
    have h16 := (vrB_of hb).1
    have HE := Lib.hid (evB_eq hb)
    rw [hb] at hv
    clear hb
    by_cases h2 : xs.length % 2 = 0
    · have e1 : ((xs.length : Int) % 2 == 0) = true := by rw [beq_iff_eq]; omega
      have HD : Hid (decide (xs.length % 2 = 0) = true) := decide_eq_true h2
      clear h2
      go_enter Tryz.func37, Tryz.ntmps37
      go_wp2_with fail
      refine hv.mono ?_
      rintro e w1 ⟨rfl, b1⟩
      go_wp2
      go_ret
      exact ⟨ret_bool (by rw [HE.out, HD.out]), b1⟩
    · have e1 : ((xs.length : Int) % 2 == 0) = false := by rw [beq_eq_false_iff_ne]; omega
      have HD : Hid (decide (xs.length % 2 = 0) = false) := decide_eq_false h2
      clear h2
      go_enter Tryz.func37, Tryz.ntmps37
      go_wp2_with fail
      refine hv.mono ?_
      rintro e w1 ⟨rfl, b1⟩
      go_wp2
      go_ret
      exact ⟨ret_bool (by rw [HE.out, HD.out]), b1⟩
  | false =>
    have HE := Lib.hid (evB_no hb)
    rw [hb] at hv
    clear hb
    go_enter Tryz.func37, Tryz.ntmps37
    go_wp2_with fail
    refine hv.mono ?_
    rintro e w1 ⟨rfl, b1⟩
    go_wp2
    go_ret
    exact ⟨ret_bool HE.out.symm, b1⟩

set_option maxHeartbeats 4000000 in
theorem spechalve_any (v : Value) (xs : List Int) (m : Nat) (w : World) (h : Rd w v xs) (hm : xs.length = 2 * m) (hl : m ≤ 32) (hb : ∀ j, j < xs.length → -100000 ≤ ix xs j ∧ ix xs j ≤ 100000) :
    Calls Tryz.prog 38 #[v] w (Made 3 w (tab (2 * m) (hS m (ix xs)))) := by
  obtain ⟨a, cap, rfl, h⟩ := h
  have HX := Lib.hid h
  obtain ⟨F, hF⟩ : ∃ F, F = ix xs := ⟨_, rfl⟩
  have HR := Lib.hid (hal_parts m F)
  rw [← hF] at hb ⊢
  rw [hm] at hb ⊢
  have HF := Lib.hid hF
  have HM := Lib.hid hm
  clear h hF hm
  go_enter Tryz.func38, Tryz.ntmps38
  go_wp2
  go_loopw [3, 4, 5] (fun u v i wr => ∃ (k q ca cb : Nat) (ga gb : Option Addr), k ≤ m ∧ Hid (q = 2 * k) ∧ i = .int .i64 q ∧ u = .slice ga k ca ∧ v = .slice gb k cb ∧ Own 3 w.heap.size wr (.slice ga k ca) (tab k fun i => F (2 * i) + (F (2 * i + 1) - F (2 * i)) / 2) ∧ Own 3 w.heap.size wr (.slice gb k cb) (tab k fun i => F (2 * i + 1) - F (2 * i)) ∧ Apt (.slice ga k ca) (.slice gb k cb) ∧ Below w.heap.size w wr) (fun _ _ i _ => 2 * m - (intOf i).toNat)
  case atStart =>
    refine ⟨0, 0, _, _, _, _, Nat.zero_le _, rfl, rfl, rfl, rfl, (own_empty _ _ _ (Nat.le_refl _)).grow _, ?_, ?_, ((Below.refl _ _).alloc (Nat.le_refl _) _).alloc (by simp) _⟩
    · have := own_empty 3 w.heap.size (w.alloc (.cells #[] 3)) (by simp)
      simp at this
      exact this
    · intro j hj e
      simp [Value.ownBlock] at hj e
      omega
  case round =>
    obtain ⟨k, q, ca, cb, ga, gb, hk, hq, rfl, rfl, rfl, hU, hV, hA, hB⟩ := hrel
    by_cases hlt : k < m
    · rcases HX.out with hx | ⟨b, off, rfl, hbl, hc⟩
      · have := HM.out; rw [hx] at this; simp at this; omega
      have hqo := hq.out
      have hc0 : wr.cell? ⟨b, off + q, none⟩ = some (.int .i64 (F (2 * k))) := by rw [hB.cell (p := ⟨b, off + q, none⟩) hbl, hc q (by rw [HM.out]; omega), HF.out, hqo]
      have hc1 : wr.cell? ⟨b, off + (q + 1), none⟩ = some (.int .i64 (F (2 * k + 1))) := by rw [hB.cell (p := ⟨b, off + (q + 1), none⟩) hbl, hc (q + 1) (by rw [HM.out]; omega), HF.out, hqo]
      have b0 := hb (2 * k) (by omega)
      have b1 := hb (2 * k + 1) (by omega)
      obtain ⟨x, hx⟩ : ∃ x, x = F (2 * k) := ⟨_, rfl⟩
      obtain ⟨y, hy⟩ : ∃ y, y = F (2 * k + 1) := ⟨_, rfl⟩
      rw [← hx] at hc0 b0
      rw [← hy] at hc1 b1
      have HXX := Lib.hid hx
      have HY := Lib.hid hy
      have hq1 : (q : Int) + 1 < 2 * (m : Int) := by omega
      have hq2 : (q : Int) < 2 * (m : Int) := by omega
      have hq3 : (0 : Int) ≤ (q : Int) := by omega
      have hq4 : (0 : Int) ≤ (q : Int) + 1 := by omega
      have j1 : IntKind.i64.wrap ((q : Int) + 1) = (q : Int) + 1 := IntWalk.i64_in _ (by omega)
      have j2 : ((q : Int) + 1).toNat = q + 1 := by omega
      obtain ⟨d, hd⟩ : ∃ d, d = y - x := ⟨_, rfl⟩
      have j3 : IntKind.i64.wrap (y - x) = d := by rw [← hd]; exact IntWalk.i64_in _ (by omega)
      have hdb : -1000000 ≤ d ∧ d ≤ 1000000 := by omega
      have HDD := Lib.hid hd
      clear hc hb hx hy hqo hd
      go_wp2
      go_quiet (fail)
      clear j1 j2 j3
      have hU := hU.below (below_drewN (Below.refl wr.heap.size wr) nq) (Nat.le_refl _)
      have hV := hV.below (below_drewN (Below.refl wr.heap.size wr) nq) (Nat.le_refl _)
      have hB := below_drewN hB nq
      have hc0 : (wr.drewN nq).cell? ⟨b, off + q, none⟩ = some (.int .i64 x) := hc0
      generalize wr.drewN nq = wq at hU hV hB hc0 ⊢
      have HFL := Lib.hid fun w => floor2_any d w hdb
      obtain ⟨f, hf⟩ : ∃ f, f = d / 2 := ⟨_, rfl⟩
      rw [← hf] at HFL
      obtain ⟨z, hz⟩ : ∃ z, z = x + f := ⟨_, rfl⟩
      have j3 : IntKind.i64.wrap (x + f) = z := by rw [← hz]; exact IntWalk.i64_in _ (by omega)
      have HZ := Lib.hid hz
      have HF2 := Lib.hid hf
      clear hf hz
      go_wp2
      have HU := Lib.hid hU
      clear hU
      go_region_law
        (first
          | (refine step_app_int_at wq rfl (.tmp 26) (.tmp 34) 35 rfl w.heap.size 3 Tryz.underlying35 infoInt _ _ (by simp [Act.eval]) HU.out (grown_alloc_drew _ _) ⟨wq.heap.size, 0, none⟩ (by simp [Act.eval]) z (cell_new1 _ _ _) (by simp; omega) hB.size ?_; intro v' w' hO' hg' hat)
          | (go_simp; go_at_call 59; refine (HFL.out _).mono ?_; rintro e w' ⟨rfl, rfl⟩))
      all_goals
        have hO2 : Own 3 w.heap.size w' v' (tab (k + 1) fun i => F (2 * i) + (F (2 * i + 1) - F (2 * i)) / 2) := by
          rw [← tab_snoc k _ z (by rw [HZ.out, HF2.out, HDD.out, HXX.out, HY.out])]; exact hO'
        have hA2 := hA.symm.grown2 hV hat
        have hV2 := hV.kept hg' hA.symm.kept
        have hB2 := app_below0 hB HU.out hg'
        obtain ⟨ga', ca', rfl⟩ := own_slN hO2 (len_tab _ _)
        clear hO' hg' hat HU hV hB hc0 hA j3
        go_wp2_with (at_builtin; refine app_int_at rfl _ _ 35 rfl w.heap.size 3 Tryz.underlying35 infoInt _ _ rfl (hV2.grow _) ⟨w'.heap.size, 0, none⟩ rfl d ?_ ?_ ?_ ?_)
        · exact cell_new1 _ _ _
        · simp; omega
        · have := hB2.size; simp; omega
        intro v'' w2 hO' hg' hat
        have hV3 : Own 3 w.heap.size w2 v'' (tab (k + 1) fun i => F (2 * i + 1) - F (2 * i)) := by
          rw [← tab_snoc k _ d (by rw [HDD.out, HXX.out, HY.out])]; exact hO'
        have hat : v''.ownBlock = (Value.slice gb k cb).ownBlock ∨ v''.ownBlock = some (w'.alloc (.cells #[.int .i64 d] 3)).heap.size := by simpa using hat
        have hA3 := hA2.symm.grown (hO2.grow (.cells #[.int .i64 d] 3)) hat
        have hO3 := (hO2.grow (.cells #[.int .i64 d] 3)).kept hg' hA2.symm.kept
        have hB3 := app_below hB2 hV2 hg'
        obtain ⟨gb', cb', rfl⟩ := own_slN hV3 (len_tab _ _)
        have HQ : Hid (q + 2 = 2 * (k + 1)) := by show q + 2 = 2 * (k + 1); have := hq.out; omega
        clear hO' hg' hat hV2 hB2 hO2 hA2
        go_wp2
        go_roundw
        case rel => exact ⟨k + 1, q + 2, ca', cb', ga', gb', by omega, HQ, by go_num, rfl, rfl, hO3, hV3, hA3, hB3⟩
        case measure => have := hq.out; simp [intOf]; omega
    · obtain rfl : k = m := by omega
      have hqo := hq.out
      have hq1 : 2 * (k : Int) ≤ (q : Int) + 1 := by omega
      have hqb : (q : Int) ≤ 64 := by omega
      clear hqo hb
      go_wp2_with (at_builtin; refine app_many rfl _ _ 35 rfl w.heap.size 3 Tryz.underlying35 infoInt _ _ rfl hU _ _ rfl hV.rd ?e1 ?e2 ?_)
      case e1 => simp; omega
      case e2 => exact hB.size
      intro v' w1 hO' hg'
      have hB' := app_below0 hB hU hg'
      rw [HR.out] at hO'
      obtain ⟨ga', ca', rfl⟩ := own_slN hO' (len_tab _ _)
      clear hU hV hB hg'
      go_wp2
      go_ret
      exact ⟨_, rfl, hO', hB'⟩

theorem rd_lit2 (w : World) (x y : Int) (E k : Nat) (hk : w.heap.size = k) : Rd (w.alloc (.cells #[.int .i64 x, .int .i64 y] E)) (.slice (some ⟨k, 0, none⟩) 2 2) [x, y] := by
  subst hk
  refine ⟨_, 2, rfl, .inr ⟨_, _, rfl, by simp, fun j hj => ?_⟩⟩
  rw [World.cell?_alloc_at _ _ _ _ rfl]
  match j, hj with
  | 0, _ => rfl
  | 1, _ => rfl

end Go.Proofs.YtagncoahobghpacGreatDoor

namespace Go.Proofs.YtagncoahobghpacGreatDoor
open Go.RowKit
set_option linter.unusedVariables false
set_option maxRecDepth 100000

def halF (xs : List Int) : List Int := if evB xs = true then halL xs else []
def unhF (xs : List Int) : List Int := if evB xs = true then unhL xs else []
theorem halF_yes {xs : List Int} (h : evB xs = true) : halF xs = halL xs := by unfold halF; exact if_pos h
theorem halF_no {xs : List Int} (h : evB xs = false) : halF xs = [] := by unfold halF; exact if_neg (by simp [h])
theorem unhF_yes {xs : List Int} (h : evB xs = true) : unhF xs = unhL xs := by unfold unhF; exact if_pos h
theorem unhF_no {xs : List Int} (h : evB xs = false) : unhF xs = [] := by unfold unhF; exact if_neg (by simp [h])
theorem halF_len (xs : List Int) (h : xs.length ≤ 1048576) : (halF xs).length ≤ 1048576 := by unfold halF; split <;> simp [len_halL, h]
theorem unhF_len (xs : List Int) (h : xs.length ≤ 1048576) : (unhF xs).length ≤ 1048576 := by unfold unhF; split <;> simp [len_unhL, h]
theorem vr_bd {xs : List Int} (h : vrB xs = true) : ∀ j, j < xs.length → -100000 ≤ ix xs j ∧ ix xs j ≤ 100000 := fun j hj => by have := (vrB_of h).2 j hj; omega
theorem half_two {n : Nat} (h : n % 2 = 0) : n = 2 * (n / 2) := by omega

end Go.Proofs.YtagncoahobghpacGreatDoor
