/-
  IsSparse of the program and of the model.
-/
import Derived.Test.YtagncoahobghpaaStS
import Derived.Test.YtagncoahobghpaaSpM
import Derived.Deep.RegionWith
namespace Go.Proofs.Ytagncoahobghpaa
open Go.RowKit
set_option linter.unusedVariables false

/-- Is it the number of a set whose sums are all different? -/
def spF (a : Int) : Bool := seB a && spB (bitS a.toNat)
theorem Seen.lt {P : Nat → Bool} {x y seen : Nat} (h : Seen P x y seen) : seen < 8192 := by rw [h.1]; exact msk_lt _ 13
theorem Seen.passx {P : Nat → Bool} {x y seen : Nat} (h : Seen P x y seen) (px : P x = false) : Seen P x (y + 1) seen :=
  h.of fun z => by rw [uP_next, show uT P z x y = 0 from if_neg (by rw [px]; simp), Int.add_zero]

set_option maxHeartbeats 4000000 in
theorem apart_any (s : Nat) (w : World) (hs : s < 8192) :
    Calls Try.prog 32 #[.int .i64 s] w fun e w' => e = .returned (.bool (spB (bitS s))) ∧ w = w' := by
  go_enter Try.func32, Try.ntmps32
  go_wp2
  go_loop [4, 3] (fun i o => ∃ x seen : Nat, x ≤ 13 ∧ i = .int .i64 x ∧ o = .int .i64 seen ∧ Hid (Seen (bitS s) x 0 seen)) (fun i _ => 13 - (intOf i).toNat)
  case atStart => exact ⟨0, 0, Nat.zero_le _, rfl, rfl, Seen.zero _⟩
  case round =>
    obtain ⟨x, s0, hx, rfl, rfl, hS⟩ := hrel
    by_cases hlt : x < 13
    · have i1 : (x : Int) < 13 := by omega
      have hS0 := Lib.hid hS.out.start
      clear hS
      go_wp2
      go_loop [5, 3] (fun i o => ∃ y seen : Nat, x ≤ y ∧ y ≤ 13 ∧ i = .int .i64 y ∧ o = .int .i64 seen ∧ Hid (Seen (bitS s) x y seen)) (fun i _ => 13 - (intOf i).toNat)
      case atStart => exact ⟨x, s0, Nat.le_refl _, hx, rfl, rfl, hS0⟩
      case round =>
        obtain ⟨y, seen, hxy, hy, rfl, rfl, hS⟩ := hrel
        clear hS0
        by_cases hly : y < 13
        · have i2 : (y : Int) < 13 := by omega
          have hA := fun w => bit_in s x w (by omega) (by omega)
          have hB := fun w => bit_in s y w (by omega) (by omega)
          cases qa : bitS s x with
          | false =>
            rw [inS_no (by rw [qa]; simp)] at hA
            have HN := Lib.hid (hS.out.passx qa)
            clear hB qa hS
            go_wp2_with fail
            refine (hA _).mono ?_
            rintro e w1 ⟨rfl, rfl⟩
            go_wp2
            go_round
            case rel => exact ⟨y + 1, seen, by omega, by omega, by go_num, rfl, HN⟩
            case measure => simp [intOf]; omega
          | true =>
            rw [inS_yes qa] at hA
            cases qb : bitS s y with
            | false =>
              rw [inS_no (by rw [qb]; simp)] at hB
              have HN := Lib.hid (hS.out.pass qb)
              clear qa qb hS
              go_wp2_with fail
              refine (hA _).mono ?_
              rintro e w1 ⟨rfl, rfl⟩
              go_wp2_with fail
              refine (hB _).mono ?_
              rintro e w1 ⟨rfl, rfl⟩
              go_wp2
              go_round
              case rel => exact ⟨y + 1, seen, by omega, by omega, by go_num, rfl, HN⟩
              case measure => simp [intOf]; omega
            | true =>
              rw [inS_yes qb] at hB
              have ht : (x + y) % 13 < 13 := Nat.mod_lt _ (by decide)
              have hsl := hS.out.lt
              have hnx := hS.out.next hxy qa qb
              have hht := hS.out.hit hlt hly hxy qa qb
              obtain ⟨t, hte⟩ : ∃ t, t = (x + y) % 13 := ⟨_, rfl⟩
              rw [← hte] at ht hnx hht
              have hC := fun w => bit_in seen t w (by omega) (by omega)
              have b1 : -1000000 ≤ (x : Int) + (y : Int) ∧ (x : Int) + (y : Int) ≤ 1000000 := by omega
              have j2 : ((x : Int) + (y : Int)) % 13 = (t : Int) := by omega
              have j1 : IntKind.i64.wrap ((x : Int) + (y : Int)) = (x : Int) + (y : Int) := i64_sm b1
              cases qc : bitS seen t with
              | true =>
                rw [inS_yes qc] at hC
                have HN := Lib.hid (hht qc)
                clear hnx hht qa qb qc hS hte hsl b1
                go_wp2_with fail
                refine (hA _).mono ?_
                rintro e w1 ⟨rfl, rfl⟩
                go_wp2_with fail
                refine (hB _).mono ?_
                rintro e w1 ⟨rfl, rfl⟩
                go_wp2_with fail
                refine (hC _).mono ?_
                rintro e w1 ⟨rfl, rfl⟩
                go_wp2
                go_ret
                exact ⟨ret_bool HN.out.symm, rfl⟩
              | false =>
                rw [inS_no (by rw [qc]; simp)] at hC
                have hN := hnx qc
                have hnl := hN.lt
                have ht16 : t ≤ 16 := by omega
                have hP := fun w => power_any t _ w ht16 rfl
                obtain ⟨p, hpe⟩ : ∃ p, p = 2 ^ t := ⟨_, rfl⟩
                rw [← hpe] at hP hN hnl
                have b2 : -1000000 ≤ (seen : Int) + (p : Int) ∧ (seen : Int) + (p : Int) ≤ 1000000 := by omega
                have j3 : IntKind.i64.wrap ((seen : Int) + (p : Int)) = (seen : Int) + (p : Int) := i64_sm b2
                have HN := Lib.hid hN
                clear hnx hht qa qb qc hS hte hsl b1 b2 hN hnl hpe ht16
                go_wp2_with fail
                refine (hA _).mono ?_
                rintro e w1 ⟨rfl, rfl⟩
                go_wp2_with fail
                refine (hB _).mono ?_
                rintro e w1 ⟨rfl, rfl⟩
                go_wp2_with fail
                refine (hC _).mono ?_
                rintro e w1 ⟨rfl, rfl⟩
                go_wp2_with fail
                refine (hP _).mono ?_
                rintro e w1 ⟨rfl, rfl⟩
                go_wp2
                go_round
                case rel => exact ⟨y + 1, seen + p, by omega, by omega, by go_num, by go_num, HN⟩
                case measure => simp [intOf]; omega
        · obtain rfl : y = 13 := by omega
          have HN := Lib.hid hS.out.row
          clear hS
          go_wp2
          go_round
          case rel => exact ⟨x + 1, seen, by omega, by go_num, rfl, HN⟩
          case measure => simp [intOf]; omega
    · obtain rfl : x = 13 := by omega
      have HN := Lib.hid hS.out.spB
      clear hS
      go_wp2
      go_ret
      exact ⟨ret_bool HN.out.symm, rfl⟩

theorem specIsSparse_any (a : Int) (w : World) :
    Calls Try.prog 18 #[.int .i64 a] w fun e w' => e = .returned (.bool (spF a)) ∧ w = w' := by
  have hA := fun w => validMarks_any a w
  cases qa : seB a with
  | false =>
    have e : spF a = false := by unfold spF; rw [qa]; rfl
    rw [qa] at hA
    rw [e]
    clear qa e
    go_enter Try.func18, Try.ntmps18
    go_wp2_with fail
    refine (hA _).mono ?_
    rintro e w1 ⟨rfl, rfl⟩
    go_wp2
    go_ret
    exact ⟨rfl, rfl⟩
  | true =>
    have e : spF a = spB (bitS a.toNat) := by unfold spF; rw [qa]; rfl
    rw [qa] at hA
    rw [e]
    obtain ⟨s, rfl, hs⟩ := seB_of qa
    rw [Int.toNat_natCast]
    have hP := fun w => apart_any s w hs
    obtain ⟨b, hb⟩ : ∃ b, b = spB (bitS s) := ⟨_, rfl⟩
    rw [← hb] at hP ⊢
    clear qa e hb
    go_enter Try.func18, Try.ntmps18
    go_wp2_with fail
    refine (hA _).mono ?_
    rintro e w1 ⟨rfl, rfl⟩
    go_wp2_with fail
    refine (hP _).mono ?_
    rintro e w1 ⟨rfl, rfl⟩
    go_wp2
    go_ret
    exact ⟨rfl, rfl⟩

theorem own_room {E B : Nat} {w : World} {v : Value} {xs : List Int} (h : Own E B w v xs) : ∀ a n c, v = .slice a n c → n ≤ c := by
  intro a n c e
  rcases h.2 with ⟨h', h0⟩ | ⟨g', cap', cur, h', _, _, hn, _⟩
  · rw [e] at h'; simp only [Value.slice.injEq] at h'; omega
  · rw [e] at h'; simp only [Value.slice.injEq] at h'; omega
theorem World.grownBy_refl_drew (w : World) : w.grownBy w.drew none := ⟨rfl, rfl, rfl, Nat.le_refl _, fun _ _ _ => rfl⟩
/-- One number of a slice that is read, as a slice. -/
theorem rd_one {w : World} {b off n cap k : Nat} {xs : List Int} (h : Rd w (.slice (some ⟨b, off, none⟩) n cap) xs) (hk : k < n) : Rd w (.slice (some ⟨b, off + k, none⟩) 1 (cap - k)) [ix xs k] := by
  obtain ⟨a', cap', he, h⟩ := h
  simp only [Value.slice.injEq] at he
  obtain ⟨rfl, rfl, rfl⟩ := he
  rcases h with rfl | ⟨b', off', he, hlt, hc⟩
  · exact absurd hk (Nat.not_lt_zero k)
  · simp only [Option.some.injEq, Addr.mk.injEq, and_true] at he
    obtain ⟨rfl, rfl⟩ := he
    refine ⟨_, _, rfl, .inr ⟨b, off + k, rfl, hlt, fun j hj => ?_⟩⟩
    obtain rfl : j = 0 := by simp at hj; omega
    rw [Nat.add_zero, hc k hk]; rfl
theorem plc_one {xs : List Int} {k : Nat} (h : Plc xs) (hk : k < xs.length) : Plc [ix xs k] := by
  intro j hj
  obtain rfl : j = 0 := by simp at hj; omega
  exact h k hk
theorem plc_drop {xs : List Int} {k : Nat} (h : Plc xs) : Plc (xs.drop k) := by
  intro j hj
  rw [List.length_drop] at hj
  rw [ix_drop]; exact h _ (by omega)
/-- How often z has come: among the rows ahead, and among the first l of this one. -/
def totN (xs : List Int) (k l : Nat) (z : Int) : Int := cnt z (usA xs k) + cntT (smL [ix xs k] (xs.drop k)) l z
/-- What is still free. -/
def freM (f : Int → Int) (z : Int) : Bool := upB 13 z && decide (f z = 0)
theorem totN_zero (xs : List Int) (k : Nat) (z : Int) : totN xs k 0 z = cnt z (usA xs k) := by show _ + 0 = _; omega
theorem totN_all (xs : List Int) (k : Nat) (z : Int) : totN xs k (smL [ix xs k] (xs.drop k)).length z = cnt z (usA xs (k + 1)) := by
  unfold totN; rw [cntT_all, usA, cnt_app]
theorem totN_next (xs : List Int) (k l : Nat) (z : Int) : totN xs k (l + 1) z = totN xs k l z + if ix (smL [ix xs k] (xs.drop k)) l = z then 1 else 0 := by
  unfold totN; rw [cntT_next]; omega
theorem totN_pos (xs : List Int) (k l : Nat) (z : Int) : 0 ≤ totN xs k l z := by
  have a := cnt_nonneg z (usA xs k)
  have b := (cntT_pos (smL [ix xs k] (xs.drop k)) l z).1
  unfold totN; omega
theorem cntT_up (zs : List Int) {k l : Nat} (h : k ≤ l) (z : Int) : cntT zs k z ≤ cntT zs l z := sumN_up h fun i => by split <;> decide
theorem totN_hit {P : Nat → Bool} {k l s : Nat} (hk : k < (fil P 13).length) (hl : l < (smL [ix (fil P 13) k] ((fil P 13).drop k)).length) (hs : s < 13) (e : ix (smL [ix (fil P 13) k] ((fil P 13).drop k)) l = s) (h : ¬ totN (fil P 13) k l s = 0) : spB P = false := by
  refine spB_not hs ?_
  rw [← cnt_us]
  have h1 := totN_pos (fil P 13) k l s
  have h2 := totN_next (fil P 13) k l s
  rw [if_pos e] at h2
  have h3 := cntT_up (smL [ix (fil P 13) k] ((fil P 13).drop k)) (show l + 1 ≤ _ from hl) (s : Int)
  have h4 := totN_all (fil P 13) k s
  have h5 := cnt_us_le (s : Int) (fil P 13) (show k + 1 ≤ (fil P 13).length by omega)
  unfold totN at h1 h2 h4 h
  omega

set_option maxHeartbeats 8000000 in
theorem implIsSparse_any (a : Int) (w : World) :
    Calls Try.prog 17 #[.int .i64 a] w (Says (spF a) w) := by
  have hA := fun w => isSet_any a w
  cases qa : seB a with
  | false =>
    have e : spF a = false := by unfold spF; rw [qa]; rfl
    rw [qa] at hA
    rw [e]
    clear qa e
    go_enter Try.func17, Try.ntmps17
    go_wp2_with fail
    refine (hA _).mono ?_
    rintro e w1 ⟨rfl, rfl⟩
    go_wp2
    go_ret
    exact ⟨rfl, Below.refl _ _⟩
  | true =>
    have e : spF a = spB (bitS a.toNat) := by unfold spF; rw [qa]; rfl
    rw [qa] at hA
    rw [e]
    obtain ⟨s, rfl, hs⟩ := seB_of qa
    rw [Int.toNat_natCast]
    have hP := fun w => placesOf_any s w hs
    obtain ⟨P, hPe⟩ : ∃ P, P = bitS s := ⟨_, rfl⟩
    rw [← hPe] at hP ⊢
    have hpl := fil_plc P
    have hfl := fil_len P 13
    have HHIT := Lib.hid (fun k l s => totN_hit (P := P) (k := k) (l := l) (s := s))
    have HEND := Lib.hid (show (∀ z : Int, cnt z (usA (fil P 13) (fil P 13).length) ≤ 1) → spB P = true from fun h => spB_of fun z hz => by rw [← cnt_us]; exact h z)
    obtain ⟨xs, hxs⟩ : ∃ xs, xs = fil P 13 := ⟨_, rfl⟩
    rw [← hxs] at hP hpl hfl HHIT HEND
    obtain ⟨n, hn⟩ : ∃ n, n = xs.length := ⟨_, rfl⟩
    have HN := Lib.hid hn
    rw [← hn] at hfl
    have HPL := Lib.hid hpl
    clear qa e hPe hxs hn hpl
    go_enter Try.func17, Try.ntmps17
    go_wp2_with fail
    refine (hA _).mono ?_
    rintro e w1 ⟨rfl, rfl⟩
    go_wp2_with fail
    refine (circle_any _).mono ?_
    rintro e w1 ⟨rfl, hM, hB⟩
    have hgB := hM.lt
    go_wp2_with fail
    refine (hP _).mono ?_
    rintro e w2 ⟨v1, rfl, o1, b1⟩
    have hM := hM.below b1 (Nat.le_refl _)
    have hB := hB.trans (b1.mono hB.size)
    have hM := hM.congr (M' := freM fun z => cnt z (usA xs 0)) fun z => by
      show _ = (upB 13 z && decide ((0 : Int) = 0))
      simp
    have hOC := Lib.hid (own_room o1)
    obtain ⟨a1, c1, rfl⟩ : ∃ a1 c1, v1 = .slice a1 n c1 := by
      obtain ⟨a1, c1, h, _⟩ := o1.rd
      exact ⟨a1, c1, by rw [HN.out]; exact h⟩
    have hcap := hOC.out a1 n c1 rfl
    have r1 := o1.rd
    have HNE := Lib.hid (show (Value.slice a1 n c1).ownBlock = none ∨ (Value.slice a1 n c1).ownBlock ≠ some w.heap.size by
      cases q : (Value.slice a1 n c1).ownBlock with
      | none => exact .inl rfl
      | some k => right; have := (World.ownsRow.lt o1 k q).1; intro h; injection h with h; omega)
    clear o1 b1 hA hP hOC
    go_wp2
    go_loopw [16] (fun i wr => ∃ k : Nat, k ≤ n ∧ i = .int .i64 k ∧ Free Try.prog 3 4 wr w.heap.size 13 (freM fun z => cnt z (usA xs k)) ∧ Rd wr (.slice a1 n c1) xs ∧ Hid (∀ z : Int, cnt z (usA xs k) ≤ 1) ∧ Below w.heap.size w wr) (fun i _ => n - (intOf i).toNat)
    case atStart => exact ⟨0, Nat.zero_le _, rfl, hM, r1, Lib.hid fun z => by show (0 : Int) ≤ 1; decide, hB⟩
    case round =>
      obtain ⟨k, hk, rfl, hM1, r2, hone, hB1⟩ := hrel
      clear hM r1 hB
      by_cases hlt : k < n
      · have hkx : k < xs.length := by rw [← HN.out]; exact hlt
        obtain ⟨b, off, rfl⟩ : ∃ b off, a1 = some ⟨b, off, none⟩ := by
          obtain ⟨a', c', he, h⟩ := r2
          simp only [Value.slice.injEq] at he
          obtain ⟨rfl, -, -⟩ := he
          rcases h with h | ⟨b, off, h, _⟩
          · rw [h] at hkx; exact absurd hkx (Nat.not_lt_zero k)
          · exact ⟨b, off, h⟩
        have RA := Lib.hid ((rd_one r2 hlt).drew)
        have RB := Lib.hid ((r2.drop (k := k) (by omega)).drew)
        have HS := Lib.hid fun u v w (h1 : Rd w u [ix xs k]) (h2 : Rd w v (xs.drop k)) => sumsOf_any u v _ _ w h1 h2 (by simp) (by rw [List.length_drop, ← HN.out]; omega) (plc_one HPL.out hkx) (plc_drop HPL.out)
        obtain ⟨zs, hzs⟩ : ∃ zs, zs = smL [ix xs k] (xs.drop k) := ⟨_, rfl⟩
        rw [← hzs] at HS
        have HZS := Lib.hid hzs
        have hzl : zs.length ≤ 13 := by rw [hzs, smL_len]; simp [← HN.out]; omega
        have HZI := Lib.hid (fun j (hj : j < zs.length) => show ∃ z : Nat, ix zs j = z ∧ z < 13 by
          subst hzs
          have := smL_in _ _ j hj
          exact ⟨(ix (smL [ix xs k] (xs.drop k)) j).toNat, by omega, by omega⟩)
        have i1 : (k : Int) < (n : Int) := by omega
        have i2 : ¬ c1 = k := by omega
        have i3 : k + 1 ≤ c1 := by omega
        have i4 : k ≤ n := hk
        have i5 : (k : Int) + 1 ≤ (c1 : Int) := by omega
        have i6 : k ≤ c1 := by omega
        have i7 : (0 : Int) ≤ (k : Int) + 1 := by omega
        have i8 : ((k : Int) + 1).toNat = k + 1 := by omega
        have i9 : (k : Int) ≤ (c1 : Int) := by omega
        have b0 : -1000000 ≤ (k : Int) + 1 ∧ (k : Int) + 1 ≤ 1000000 := by omega
        have j1 : IntKind.i64.wrap ((k : Int) + 1) = (k : Int) + 1 := i64_sm b0
        have HR2 := Lib.hid r2
        obtain ⟨m, hm⟩ : ∃ m, m = zs.length := ⟨_, rfl⟩
        have HMM := Lib.hid hm
        rw [← hm] at hzl
        clear hzs hkx r2 hm b0
        go_wp2
        go_region_with (go_at_call 25; refine (HS.out _ _ _ RA.out RB.out).mono ?_; rintro e w3 ⟨v3, rfl, o3, b3⟩; obtain ⟨a3, c3, rfl⟩ := own_slN o3 HMM.out.symm)
        all_goals
          have hgl := hM1.lt
          have hM1 := (hM1.kept (World.grownBy_refl_drew wr) (by simp)).below b3 (Nat.le_refl _)
          have hB1 := hB1.drew.trans (b3.mono hB1.size)
          have HR2 := Lib.hid ((HR2.out.drew).below b3 (Nat.le_refl _))
          have r3 := o3.rd
          have HNE3 := Lib.hid (show (Value.slice a3 m c3).ownBlock = none ∨ (Value.slice a3 m c3).ownBlock ≠ some w.heap.size by
            cases q : (Value.slice a3 m c3).ownBlock with
            | none => exact .inl rfl
            | some k => right; have := (World.ownsRow.lt o3 k q).1; intro h; injection h with h; simp at this; omega)
          have hM1 := hM1.congr (M' := freM fun z => totN xs k 0 z) fun z => by
            show (upB 13 z && decide (cnt z (usA xs k) = 0)) = (upB 13 z && decide (totN xs k 0 z = 0))
            rw [totN_zero]
          have hone := Lib.hid fun z => show totN xs k 0 z ≤ 1 by rw [totN_zero]; exact hone.out z
          clear o3 b3
          go_wp2
          go_simp
          go_loopw [29] (fun i wq => ∃ l : Nat, l ≤ m ∧ i = .int .i64 l ∧ Free Try.prog 3 4 wq w.heap.size 13 (freM fun z => totN xs k l z) ∧ Rd wq (.slice a3 m c3) zs ∧ Rd wq (.slice (some ⟨b, off, none⟩) n c1) xs ∧ Hid (∀ z : Int, totN xs k l z ≤ 1) ∧ Below w.heap.size w wq) (fun i _ => m - (intOf i).toNat)
          case atStart => exact ⟨0, Nat.zero_le _, rfl, hM1, r3, HR2.out, hone, hB1⟩
          case round =>
            obtain ⟨l, hl, rfl, hM4, r4, r5, hone4, hB4⟩ := hrel
            by_cases hlm : l < m
            · have hlz : l < zs.length := by rw [← HMM.out]; exact hlm
              obtain ⟨t, ht, ht13⟩ := HZI.out l hlz
              obtain ⟨b', off', ha, hc⟩ : ∃ b' off', a3 = some ⟨b', off', none⟩ ∧ wr.cell? ⟨b', off' + l, none⟩ = some (.int .i64 t) := by
                obtain ⟨a', c', he, h⟩ := r4
                simp only [Value.slice.injEq] at he
                obtain ⟨rfl, -, -⟩ := he
                rcases h with h | ⟨b', off', h, _, hc⟩
                · rw [h] at hlz; exact absurd hlz (Nat.not_lt_zero l)
                · exact ⟨b', off', h, by rw [hc l hlz, ht]⟩
              subst ha
              have hwf : (Lit.int .i64 (t : Int)).wf = true := WalkArith.wf_i64 (by omega)
              have i20 : (l : Int) < (m : Int) := by omega
              by_cases hz0 : totN xs k l (t : Int) = 0
              · have e1 : freM (fun z => totN xs k l z) (t : Int) = true := by
                  show (upB 13 (t : Int) && decide (totN xs k l (t : Int) = 0)) = true
                  rw [hz0, show upB 13 (t : Int) = true from decide_eq_true (by omega)]; rfl
                have HCG := Lib.hid (show ∀ z : Int, (freM (fun z => totN xs k l z) z && !(z == (t : Int))) = freM (fun z => totN xs k (l + 1) z) z by
                  intro z
                  show ((upB 13 z && decide (totN xs k l z = 0)) && !(z == (t : Int))) = (upB 13 z && decide (totN xs k (l + 1) z = 0))
                  rw [totN_next, ← HZS.out, ht]
                  have := totN_pos xs k l z
                  by_cases e : z = (t : Int)
                  · subst e
                    rw [if_pos rfl, decide_eq_false (show ¬ totN xs k l (t : Int) + 1 = 0 by omega)]
                    simp
                  · have e2 : (z == (t : Int)) = false := by simp [e]
                    rw [if_neg (fun q => e q.symm), e2]; simp)
                have HON := Lib.hid (show ∀ z : Int, totN xs k (l + 1) z ≤ 1 by
                  intro z
                  rw [totN_next, ← HZS.out, ht]
                  by_cases e : z = (t : Int)
                  · subst e; rw [if_pos rfl, hz0]; decide
                  · rw [if_neg (fun q => e q.symm)]; have := hone4.out z; omega)
                clear hlz ht hz0 hone4
                go_wp2_with (first
                  | (at_lookup; refine free_lookup _ rfl _ _ 38 rfl Try.underlying38 Try.underlying3 Try.underlying4 (by kernel_rfl) _ 13 _ rfl hM4 t rfl hwf ?_; rw [e1])
                  | (at_delete; refine free_delete _ rfl _ _ 38 rfl Try.underlying38 Try.underlying3 _ 13 _ rfl hM4 t rfl hwf ?_; intro w5 hM5 hg5)
                  | go_in)
                have hM5 := hM5.congr HCG.out
                have r4' := r4.kept hg5 HNE3.out
                have r5' := r5.kept hg5 HNE.out
                have hB5 := hB4.grown hg5 hB4.size (fun q hq => by injection hq with hq; omega)
                clear hM4 r4 r5 hB4 hg5
                go_roundw
                case rel => exact ⟨l + 1, by omega, by go_num, hM5, r4', r5', HON, hB5⟩
                case measure => simp [intOf]; omega
              · have e1 : freM (fun z => totN xs k l z) (t : Int) = false := by
                  show (upB 13 (t : Int) && decide (totN xs k l (t : Int) = 0)) = false
                  rw [decide_eq_false hz0]; simp
                have HF := Lib.hid (HHIT.out k l t (by rw [← HN.out]; exact hlt) (by rw [← HZS.out]; exact hlz) ht13 (by rw [← HZS.out]; exact ht) hz0)
                clear hlz ht hz0 hone4
                go_wp2_with (first
                  | (at_lookup; refine free_lookup _ rfl _ _ 38 rfl Try.underlying38 Try.underlying3 Try.underlying4 (by kernel_rfl) _ 13 _ rfl hM4 t rfl hwf ?_; rw [e1])
                  | go_in)
                go_ret
                exact ⟨ret_bool HF.out.symm, hB4⟩
            · obtain rfl : l = m := by omega
              have HCG := Lib.hid (show ∀ z : Int, freM (fun z => totN xs k l z) z = freM (fun z => cnt z (usA xs (k + 1))) z by
                intro z
                show (upB 13 z && decide (totN xs k l z = 0)) = (upB 13 z && decide (cnt z (usA xs (k + 1)) = 0))
                rw [HMM.out, HZS.out, totN_all])
              have HON := Lib.hid (show ∀ z : Int, cnt z (usA xs (k + 1)) ≤ 1 by
                intro z
                have := hone4.out z
                rw [HMM.out, HZS.out, totN_all] at this
                exact this)
              have hM5 := hM4.congr HCG.out
              clear hone4 hM4 r4
              go_wp2
              go_roundw
              case rel => exact ⟨k + 1, by omega, by go_num, hM5, r5, HON, hB4⟩
              case measure => simp [intOf]; omega
      · obtain rfl : k = n := by omega
        have HE := Lib.hid (HEND.out (by rw [← HN.out]; exact hone.out))
        clear hone
        go_wp2
        go_ret
        exact ⟨ret_bool HE.out.symm, hB1⟩
end Go.Proofs.Ytagncoahobghpaa
