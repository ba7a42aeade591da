/-
  SumCounts and SumSet of the program, by their lone contracts.
-/
import Derived.Test.YtagncoahobghpaaStI
namespace Go.Proofs.Ytagncoahobghpaa
open Go.RowKit
set_option linter.unusedVariables false

/-- How often z stands among the first k. -/
def cntT (zs : List Int) (k : Nat) (z : Int) : Int := sumN (fun i => if ix zs i = z then 1 else 0) k
theorem cntT_all (zs : List Int) (z : Int) : cntT zs zs.length z = cnt z zs := by
  unfold cnt cntT; rw [sumL_ix]
theorem cntT_next (zs : List Int) (k : Nat) (z : Int) : cntT zs (k + 1) z = cntT zs k z + if ix zs k = z then 1 else 0 := rfl
theorem cntT_pos (zs : List Int) (k : Nat) (z : Int) : 0 ≤ cntT zs k z ∧ cntT zs k z ≤ k := by
  induction k with
  | zero => exact ⟨Int.le_refl _, Int.le_refl _⟩
  | succ k ih => rw [cntT_next]; split <;> omega
/-- The sums of two sets of places. -/
def zsS (a b : Nat) : List Int := smL (fil (bitS a) 13) (fil (bitS b) 13)
theorem fil_plc (P : Nat → Bool) : Plc (fil P 13) := by
  intro j hj
  obtain ⟨i, hi, _, e⟩ := (fil_mem P 13 _).mp (ix_mem hj)
  rw [e]; omega
theorem zsS_len (a b : Nat) : (zsS a b).length ≤ 169 := by
  unfold zsS
  rw [smL_len]
  exact Nat.le_trans (Nat.mul_le_mul (fil_len _ _) (fil_len _ _)) (by decide)
theorem zsS_in (a b j : Nat) (h : j < (zsS a b).length) : ∃ z : Nat, ix (zsS a b) j = z ∧ z < 13 := by
  have := smL_in _ _ j h
  exact ⟨(ix (zsS a b) j).toNat, by unfold zsS at *; omega, by unfold zsS; omega⟩
theorem zsS_cnt (a b z : Nat) : cntT (zsS a b) (zsS a b).length z = cntP (bitS a) (bitS b) z := by
  rw [cntT_all]; exact cnt_pairs _ _ _
/-- The counts of two sets' sums. -/
def scF (a b : Int) : List Int := if seB a = true ∧ seB b = true then tab 13 fun z => cntP (bitS a.toNat) (bitS b.toNat) z else []
/-- The set of two sets' sums. -/
def ssF (a b : Int) : Int := if seB a = true ∧ seB b = true then (ssN (bitS a.toNat) (bitS b.toNat) : Int) else -1

set_option maxHeartbeats 4000000 in
theorem implSumCounts_any (a b : Int) (w : World) :
    Calls Try.prog 12 #[.int .i64 a, .int .i64 b] w (Made 3 w (scF a b)) := by
  have hA := fun w => isSet_any a w
  have hB := fun w => isSet_any b w
  cases qa : seB a with
  | false =>
    have e : scF a b = [] := if_neg (by rw [qa]; simp)
    rw [qa] at hA
    rw [e]
    clear hB qa e
    go_enter Try.func12, Try.ntmps12
    go_wp2_with fail
    refine (hA _).mono ?_
    rintro e w1 ⟨rfl, rfl⟩
    go_wp2
    go_ret
    exact ⟨_, rfl, Own.nil _ _ _, Below.refl _ _⟩
  | true =>
    cases qb : seB b with
    | false =>
      have e : scF a b = [] := if_neg (by rw [qb]; simp)
      rw [qa] at hA
      rw [qb] at hB
      rw [e]
      clear qa qb e
      go_enter Try.func12, Try.ntmps12
      go_wp2_with fail
      refine (hA _).mono ?_
      rintro e w1 ⟨rfl, rfl⟩
      go_wp2_with fail
      refine (hB _).mono ?_
      rintro e w1 ⟨rfl, rfl⟩
      go_wp2
      go_ret
      exact ⟨_, rfl, Own.nil _ _ _, Below.refl _ _⟩
    | true =>
      rw [qa] at hA
      rw [qb] at hB
      have e : scF a b = tab 13 fun z => cntP (bitS a.toNat) (bitS b.toNat) z := if_pos ⟨qa, qb⟩
      rw [e]
      obtain ⟨x, rfl, hx⟩ := seB_of qa
      obtain ⟨y, rfl, hy⟩ := seB_of qb
      obtain ⟨zs, hz⟩ : ∃ zs, zs = zsS x y := ⟨_, rfl⟩
      have HZ := Lib.hid hz
      have hzl : zs.length ≤ 169 := by rw [hz]; exact zsS_len x y
      have HZI := Lib.hid (fun j (hj : j < zs.length) => show ∃ z : Nat, ix zs j = z ∧ z < 13 by subst hz; exact zsS_in x y j hj)
      have HE := Lib.hid (show (tab 13 fun z => cntP (bitS (x : Int).toNat) (bitS (y : Int).toNat) z) = tab 13 fun z => cntT zs zs.length z from tab_congr fun z _ => by subst hz; exact (zsS_cnt x y z).symm)
      have hP1 := fun w => placesOf_any x w hx
      have hP2 := fun w => placesOf_any y w hy
      have hS := fun u v w (h1 : Rd w u _) (h2 : Rd w v _) => sumsOf_any u v (fil (bitS x) 13) (fil (bitS y) 13) w h1 h2 (fil_len _ _) (fil_len _ _) (fil_plc _) (fil_plc _)
      rw [show smL (fil (bitS x) 13) (fil (bitS y) 13) = zs from hz.symm] at hS
      obtain ⟨i0, hi, hz0, hz1, hz2⟩ := info_parts infoInt
      clear hz qa qb e
      go_enter Try.func12, Try.ntmps12
      go_wp2_with fail
      refine (hA _).mono ?_
      rintro e w1 ⟨rfl, rfl⟩
      go_wp2_with fail
      refine (hB _).mono ?_
      rintro e w1 ⟨rfl, rfl⟩
      clear hA hB
      go_wp2_with (at_make; refine wpList_make_full _ rfl _ _ 28 rfl w.heap.size 3 i0 (.int .i64 0) 1 Try.underlying28 hi hz0 hz1 _ _ _ _ 13 rfl rfl rfl rfl ?c1 ?c2 ?c3 ?_)
      case c1 => rw [hz2]; omega
      case c2 => unfold maxLen; omega
      case c3 => omega
      intro w1 hown hgrow
      have hO := own_made hown
      have hB := (Below.refl w.heap.size w).grown hgrow (Nat.le_refl _) (by simp)
      clear hown hgrow
      go_wp2_with fail
      refine (hP1 _).mono ?_
      rintro e w2 ⟨v1, rfl, o1, b1⟩
      have r1 := o1.rd
      have hO := hO.below b1 (Nat.le_refl _)
      have hB := hB.trans (b1.mono hB.size)
      clear o1 b1
      go_wp2_with fail
      refine (hP2 _).mono ?_
      rintro e w3 ⟨v2, rfl, o2, b2⟩
      have r2 := o2.rd
      have r1 := r1.below b2 (Nat.le_refl _)
      have hO := hO.below b2 (Nat.le_refl _)
      have hB := hB.trans (b2.mono hB.size)
      clear o2 b2
      go_wp2_with fail
      refine (hS _ _ _ r1 r2).mono ?_
      rintro e w4 ⟨v3, rfl, o3, b3⟩
      have hne := (Own.apart hO o3).2
      have r3 := o3.rd
      have hO := hO.below b3 (Nat.le_refl _)
      have hB := hB.trans (b3.mono hB.size)
      have hg0 : w.heap.size < w4.heap.size := (World.ownsRow.lt hO _ rfl).2
      obtain ⟨n, hn⟩ : ∃ n, n = zs.length := ⟨_, rfl⟩
      have hnv : ∃ a3 c3, v3 = .slice a3 n c3 := by obtain ⟨a3, c3, h, _⟩ := r3; exact ⟨a3, c3, by rw [hn]; exact h⟩
      obtain ⟨a3, c3, rfl⟩ := hnv
      have HNN := Lib.hid hn
      rw [← hn] at hzl
      have hO := own_eq hO (show (tab 13 fun _ => 0) = tab 13 fun z => cntT zs 0 z from rfl)
      have HNE := Lib.hid (show (Value.slice a3 n c3).ownBlock ≠ some w.heap.size by
        rcases hne with h | h
        · rw [h]; simp
        · exact h)
      clear o3 b3 r1 r2 hP1 hP2 hS hne hn
      go_wp2
      go_loopw [23] (fun i wr => ∃ k : Nat, k ≤ n ∧ i = .int .i64 k ∧ Own 3 w.heap.size wr (.slice (some ⟨w.heap.size, 0, none⟩) 13 13) (tab 13 fun z => cntT zs k z) ∧ Rd wr (.slice a3 n c3) zs ∧ Below w.heap.size w wr) (fun i _ => n - (intOf i).toNat)
      case atStart => exact ⟨0, Nat.zero_le _, rfl, hO, r3, hB⟩
      case round =>
        obtain ⟨k, hk, rfl, hO1, r1, hB1⟩ := hrel
        clear hO r3 hB
        by_cases hlt : k < n
        · have hkz : k < zs.length := by rw [← HNN.out]; exact hlt
          obtain ⟨s, hs, hs13⟩ := HZI.out k hkz
          obtain ⟨b, off, ha, hc⟩ : ∃ b off, a3 = some ⟨b, off, none⟩ ∧ wr.cell? ⟨b, off + k, none⟩ = some (.int .i64 s) := by
            obtain ⟨a', c', he, h⟩ := r1
            simp only [Value.slice.injEq] at he
            obtain ⟨rfl, -, -⟩ := he
            rcases h with h | ⟨b, off, h, _, hc⟩
            · rw [h] at hkz; exact absurd hkz (Nat.not_lt_zero k)
            · exact ⟨b, off, h, by rw [hc k hkz, hs]⟩
          subst ha
          have hcs := hO1.cell s (by rw [len_tab]; exact hs13)
          rw [ix_tab _ _ _ hs13] at hcs
          have hcb := cntT_pos zs k s
          obtain ⟨q, hq⟩ : ∃ q, q = cntT zs k s := ⟨_, rfl⟩
          rw [← hq] at hcs hcb
          have hfz := hO1.frozen s
          have HO2 := Lib.hid (own_eq (hO1.set s (q + 1)) (show _ = tab 13 fun z => cntT zs (k + 1) z by
            rw [tab_set]
            refine tab_congr fun z hz => ?_
            rw [cntT_next, hs]
            by_cases e : z = s
            · subst e; rw [if_pos rfl, if_pos rfl, hq]
            · rw [if_neg e, if_neg (by omega)]; omega))
          have HR2 := Lib.hid (r1.other ⟨w.heap.size, s, none⟩ (.int .i64 (q + 1)) HNE.out)
          have HB2 := Lib.hid (hB1.setCell (p := ⟨w.heap.size, s, none⟩) (Nat.le_refl _) (.int .i64 (q + 1)))
          have j1 : IntKind.i64.wrap (q + 1) = q + 1 := IntWalk.i64_in _ (by omega)
          clear hO1 r1 hB1 hkz hs hq
          go_wp2
          go_roundw
          case rel => exact ⟨k + 1, by omega, by go_num, HO2.out, HR2.out, HB2.out⟩
          case measure => simp [intOf]; omega
        · obtain rfl : k = n := by omega
          have HO2 := Lib.hid (own_eq hO1 (show (tab 13 fun z => cntT zs k z) = (tab 13 fun z => cntP (bitS (x : Int).toNat) (bitS (y : Int).toNat) z) by rw [HNN.out]; exact HE.out.symm))
          clear hO1
          go_wp2
          go_ret
          exact ⟨_, rfl, HO2.out, hB1⟩

set_option maxHeartbeats 4000000 in
theorem implSumSet_any (a b : Int) (w : World) :
    Calls Try.prog 8 #[.int .i64 a, .int .i64 b] w (Tells (ssF a b) w) := by
  have hA := fun w => isSet_any a w
  have hB := fun w => isSet_any b w
  cases qa : seB a with
  | false =>
    have e : ssF a b = -1 := if_neg (by rw [qa]; simp)
    rw [qa] at hA
    rw [e]
    clear hB qa e
    go_enter Try.func8, Try.ntmps8
    go_wp2_with fail
    refine (hA _).mono ?_
    rintro e w1 ⟨rfl, rfl⟩
    go_wp2
    go_ret
    exact ⟨rfl, Below.refl _ _⟩
  | true =>
    cases qb : seB b with
    | false =>
      have e : ssF a b = -1 := if_neg (by rw [qb]; simp)
      rw [qa] at hA
      rw [qb] at hB
      rw [e]
      clear qa qb e
      go_enter Try.func8, Try.ntmps8
      go_wp2_with fail
      refine (hA _).mono ?_
      rintro e w1 ⟨rfl, rfl⟩
      go_wp2_with fail
      refine (hB _).mono ?_
      rintro e w1 ⟨rfl, rfl⟩
      go_wp2
      go_ret
      exact ⟨rfl, Below.refl _ _⟩
    | true =>
      rw [qa] at hA
      rw [qb] at hB
      have e : ssF a b = (ssN (bitS a.toNat) (bitS b.toNat) : Int) := if_pos ⟨qa, qb⟩
      rw [e]
      obtain ⟨x, rfl, hx⟩ := seB_of qa
      obtain ⟨y, rfl, hy⟩ := seB_of qb
      obtain ⟨zs, hz⟩ : ∃ zs, zs = zsS x y := ⟨_, rfl⟩
      have hzl : zs.length ≤ 169 := by rw [hz]; exact zsS_len x y
      have HZI := Lib.hid (fun j (hj : j < zs.length) => show ∃ z : Nat, ix zs j = z ∧ z < 13 by subst hz; exact zsS_in x y j hj)
      obtain ⟨mis, hmis⟩ : ∃ mis : Nat → Bool, mis = fun z : Nat => decide (cntT zs zs.length (z : Int) = 0) := ⟨_, rfl⟩
      have HE := Lib.hid (show 8191 - mskN mis 13 = ssN (bitS (x : Int).toNat) (bitS (y : Int).toNat) by
        have h1 := msk_not mis 13
        rw [show mskN (fun i => !mis i) 13 = ssN (bitS (x : Int).toNat) (bitS (y : Int).toNat) from msk_congr fun z _ => by
          rw [hmis]; subst hz
          show (!decide (cntT (zsS x y) _ z = 0)) = decide (0 < cntP (bitS x) (bitS y) z)
          rw [← zsS_cnt]
          have := (cntT_pos (zsS x y) (zsS x y).length z).1
          by_cases q : cntT (zsS x y) (zsS x y).length z = 0
          · rw [q]; simp
          · rw [decide_eq_false q, decide_eq_true (show 0 < cntT (zsS x y) (zsS x y).length (z : Int) by omega)]; rfl] at h1
        omega)
      have hP1 := fun w => placesOf_any x w hx
      have hP2 := fun w => placesOf_any y w hy
      have hS := fun u v w (h1 : Rd w u _) (h2 : Rd w v _) => sumsOf_any u v (fil (bitS x) 13) (fil (bitS y) 13) w h1 h2 (fil_len _ _) (fil_len _ _) (fil_plc _) (fil_plc _)
      rw [show smL (fil (bitS x) 13) (fil (bitS y) 13) = zs from hz.symm] at hS
      clear hz qa qb e
      go_enter Try.func8, Try.ntmps8
      go_wp2_with fail
      refine (hA _).mono ?_
      rintro e w1 ⟨rfl, rfl⟩
      go_wp2_with fail
      refine (hB _).mono ?_
      rintro e w1 ⟨rfl, rfl⟩
      clear hA hB
      go_wp2_with fail
      refine (circle_any _).mono ?_
      rintro e w1 ⟨rfl, hM, hB⟩
      go_wp2_with fail
      refine (hP1 _).mono ?_
      rintro e w2 ⟨v1, rfl, o1, b1⟩
      have r1 := o1.rd
      have hM := hM.below b1 (Nat.le_refl _)
      have hB := hB.trans (b1.mono hB.size)
      clear o1 b1
      go_wp2_with fail
      refine (hP2 _).mono ?_
      rintro e w3 ⟨v2, rfl, o2, b2⟩
      have r2 := o2.rd
      have r1 := r1.below b2 (Nat.le_refl _)
      have hM := hM.below b2 (Nat.le_refl _)
      have hB := hB.trans (b2.mono hB.size)
      have hlt3 := hM.lt
      clear o2 b2
      go_wp2_with fail
      refine (hS _ _ _ r1 r2).mono ?_
      rintro e w4 ⟨v3, rfl, o3, b3⟩
      have hM := hM.below b3 (Nat.le_refl _)
      have hB := hB.trans (b3.mono hB.size)
      have r3 := o3.rd
      obtain ⟨n, hn⟩ : ∃ n, n = zs.length := ⟨_, rfl⟩
      have hnv : ∃ a3 c3, v3 = .slice a3 n c3 := by obtain ⟨a3, c3, h, _⟩ := r3; exact ⟨a3, c3, by rw [hn]; exact h⟩
      obtain ⟨a3, c3, rfl⟩ := hnv
      have HNN := Lib.hid hn
      rw [← hn] at hzl
      have hM := hM.congr (M' := fun z => upB 13 z && decide (cntT zs 0 z = 0)) fun z => by
        show _ = (upB 13 z && decide ((0 : Int) = 0))
        simp
      have HNE := Lib.hid (show (Value.slice a3 n c3).ownBlock = none ∨ (Value.slice a3 n c3).ownBlock ≠ some w.heap.size by
        cases q : (Value.slice a3 n c3).ownBlock with
        | none => exact .inl rfl
        | some k => right; have := (World.ownsRow.lt o3 k q).1; intro h; injection h with h; omega)
      clear o3 b3 r1 r2 hP1 hP2 hS hn
      go_wp2
      go_loopw [25] (fun i wr => ∃ k : Nat, k ≤ n ∧ i = .int .i64 k ∧ Free Try.prog 3 4 wr w.heap.size 13 (fun z => upB 13 z && decide (cntT zs k z = 0)) ∧ Rd wr (.slice a3 n c3) zs ∧ Below w.heap.size w wr) (fun i _ => n - (intOf i).toNat)
      case atStart => exact ⟨0, Nat.zero_le _, rfl, hM, r3, hB⟩
      case round =>
        obtain ⟨k, hk, rfl, hM1, r1, hB1⟩ := hrel
        clear hM r3 hB
        by_cases hlt : k < n
        · have hkz : k < zs.length := by rw [← HNN.out]; exact hlt
          obtain ⟨s, hs, hs13⟩ := HZI.out k hkz
          obtain ⟨b, off, ha, hc⟩ : ∃ b off, a3 = some ⟨b, off, none⟩ ∧ wr.cell? ⟨b, off + k, none⟩ = some (.int .i64 s) := by
            obtain ⟨a', c', he, h⟩ := r1
            simp only [Value.slice.injEq] at he
            obtain ⟨rfl, -, -⟩ := he
            rcases h with h | ⟨b, off, h, _, hc⟩
            · rw [h] at hkz; exact absurd hkz (Nat.not_lt_zero k)
            · exact ⟨b, off, h, by rw [hc k hkz, hs]⟩
          subst ha
          have hwf : (Lit.int .i64 (s : Int)).wf = true := WalkArith.wf_i64 (by omega)
          have HCG := Lib.hid (show ∀ z : Int, ((upB 13 z && decide (cntT zs k z = 0)) && !(z == (s : Int))) = (upB 13 z && decide (cntT zs (k + 1) z = 0)) by
            intro z
            rw [cntT_next, hs]
            have := (cntT_pos zs k z).1
            by_cases e : z = (s : Int)
            · subst e
              rw [if_pos rfl, decide_eq_false (show ¬ cntT zs k (s : Int) + 1 = 0 by omega)]
              simp
            · have e2 : (z == (s : Int)) = false := by simp [e]
              rw [if_neg (fun q => e q.symm), e2]; simp)
          clear hkz hs
          go_wp2_with (first | (at_delete; refine free_delete _ rfl _ _ 38 rfl Try.underlying38 Try.underlying3 _ 13 _ rfl hM1 s rfl hwf ?_; intro w5 hM5 hg5) | go_in)
          have hM5 := hM5.congr HCG.out
          have r5 := r1.kept hg5 HNE.out
          have hB5 := hB1.grown hg5 hB1.size (fun q hq => by injection hq with hq; omega)
          clear hM1 r1 hB1 hg5
          go_roundw
          case rel => exact ⟨k + 1, by omega, by go_num, hM5, r5, hB5⟩
          case measure => simp [intOf]; omega
        · obtain rfl : k = n := by omega
          have HMIS := Lib.hid hmis
          have hgB := hM1.lt
          clear hmis r1
          go_wp2_with (first | (at_range; refine free_range _ rfl _ 38 rfl Try.underlying38 Try.underlying3 _ 13 _ rfl hM1 ?_; intro w5 c5 hR5 hg5 hs5) | go_in)
          have hB5 := hB1.grown hg5 hB1.size (fun q hq => by cases hq)
          clear hM1 hB1 hg5
          go_frame
          go_loopw [8] (fun o w6 => ∃ (L : Int → Bool) (cnt : Nat), o = .int .i64 (8191 - ((mskN (fun z => mis z && !L z) 13 : Nat) : Int)) ∧ FreeR Try.prog 3 4 w6 w.heap.size wr.heap.size 13 (fun z => upB 13 z && decide (cntT zs k z = 0)) L cnt ∧ Hid (∀ z, (Lit.int .i64 z).wf = true → L z = true → (upB 13 z && decide (cntT zs k z = 0)) = true) ∧ Below w.heap.size w w6) (fun _ w6 => w6.rangeLeft w.heap.size wr.heap.size)
          case atStart => exact ⟨_, c5, by
            rw [msk_congr (Q := fun _ => false) fun z hz => by
              rw [HMIS.out]
              show (decide (cntT zs zs.length (z : Int) = 0) && !(upB 13 z && decide (cntT zs k (z : Int) = 0))) = false
              rw [← HNN.out, show upB 13 (z : Int) = true from decide_eq_true (by omega)]; simp]
            rfl, hR5, Lib.hid fun z _ h => h, hB5⟩
          case round =>
            obtain ⟨L, cnt, rfl, hR, hLM, hB6⟩ := hrel
            clear hR5 hB5
            go_wp2_with (first | (at_next; refine free_next _ rfl _ rfl Try.underlying3 Try.underlying4 _ _ 13 _ _ cnt rfl hR ?_ ?_) | go_in)
            · intro hl0
              have HF := Lib.hid (show (8191 : Int) - ((mskN (fun z => mis z && !L z) 13 : Nat) : Int) = ((ssN (bitS (x : Int).toNat) (bitS (y : Int).toNat) : Nat) : Int) by
                have h1 := HE.out
                have h2 := msk_lt mis 13
                rw [msk_congr (Q := mis) fun z hz => by rw [hl0 z (WalkArith.wf_i64 (by omega))]; simp]
                omega)
              clear hR hLM
              go_wp2
              go_ret
              exact ⟨ret_int HF.out, hB6⟩
            · intro x1 c1 w7 cnt1 hwx hlx hR7 hcl hg7 hs7 hen
              have hB7 := hB6.grown hg7 hB6.size (fun q hq => by injection hq with hq; omega)
              have hm := hLM.out x1 hwx hlx
              rw [Bool.and_eq_true] at hm
              have hx1 := of_decide_eq_true hm.1
              obtain ⟨p, rfl⟩ : ∃ p : Nat, x1 = p := ⟨x1.toNat, by omega⟩
              have hp : p < 13 := by omega
              have hmp : mis p = true := by rw [HMIS.out, ← HNN.out]; exact hm.2
              have hmk := msk_add (P := fun z => mis z && !L z) (n := 13) hp (by show (mis p && !L p) = false; rw [hlx]; simp)
              rw [msk_congr (P := fun i => (mis i && !L i) || (i == p)) (Q := fun z : Nat => mis z && !(L z && !((z : Int) == (p : Int)))) fun z hz => by
                by_cases e : z = p
                · subst e; rw [hmp]; simp
                · have e1 : (z == p) = false := by simp [e]
                  have e2 : ((z : Int) == (p : Int)) = false := by simp; omega
                  rw [e1, e2]; simp] at hmk
              have hp2 : 2 ^ p < 8192 := Nat.pow_lt_pow_right (by decide) hp
              have HMK := Lib.hid hmk
              have hml := msk_lt (fun z => mis z && !L z) 13
              have HLM2 := Lib.hid (show ∀ z : Int, (Lit.int .i64 z).wf = true → (L z && !(z == (p : Int))) = true → (upB 13 z && decide (cntT zs k z = 0)) = true from fun z hz h => hLM.out z hz (by rw [Bool.and_eq_true] at h; exact h.1))
              obtain ⟨m0, hm0⟩ : ∃ m0, m0 = mskN (fun z => mis z && !L z) 13 := ⟨_, rfl⟩
              rw [← hm0] at hml HMK ⊢
              have HLE := Lib.hid hR.left_eq
              have e2 : (2 : Int) ^ p = ((2 ^ p : Nat) : Int) := by simp
              have HV := Lib.hid (show wrap64 ((8191 : Int) - (m0 : Int) - wrap64 (2 ^ p)) = 8191 - ((mskN (fun z : Nat => mis z && !(L z && !((z : Int) == (p : Int)))) 13 : Nat) : Int) by
                rw [← HMK.out, e2, w64_id (a := ((2 ^ p : Nat) : Int)) (by omega), w64_id (by omega)]; omega)
              clear hmk hm hmp hR hLM hm0 hB6 hg7 e2
              go_wp2
              refine ⟨⟨_, cnt1, ?_, hR7, HLM2, hB7⟩, ?_⟩
              · rw [HV.out]
              · rw [hR7.left_eq, HLE.out]; exact hcl
end Go.Proofs.Ytagncoahobghpaa
