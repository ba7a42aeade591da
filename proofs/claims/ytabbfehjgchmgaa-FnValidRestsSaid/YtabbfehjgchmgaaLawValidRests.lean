/-
  The law FnValidRests, as a contract.
-/
import Derived.Test.YtabbfehjgchmgaaDraw3
import Derived.Test.YtabbfehjgchmgaaWvQ
namespace Go.Proofs.Ytabbfehjgchmgaa
open Go.RowKit
set_option linter.unusedVariables false

set_option maxHeartbeats 8000000 in
set_option maxRecDepth 100000 in
theorem lawValidRests_any (v : Value) (n : Nat) (w : World) (h : RdB w v n) :
    Calls Try.prog 5 #[v] w (Says true w) := by
  have h0 := h
  obtain ⟨a, cap, rfl, h1, h2, -⟩ := h0
  unfold maxLen at h2
  by_cases hbig : n ≤ 1048576
  · go_enter Try.func5, Try.ntmps5
    go_wp2_with fail
    refine (drawValidRests_any _ n _ h).mono ?_
    rintro e w1 ⟨v, xs, rfl, o, hl, hw, bb⟩
    clear h h1 h2 hbig
    have hM := Own.max64 hl
    have HI := Lib.hid fun w (v : Value) (h : Rd w v xs) => implValidRests_any v xs w h hM
    have HS := Lib.hid fun w (v : Value) (h : Rd w v xs) => specValidRests_any v xs w h hM
    have HV := Lib.hid fun (h : vsB xs = true) => (vsB_iff xs).1 h
    have HD := Lib.hid o
    obtain ⟨a1, c1, rfl⟩ := own_slD o
    cases hb : vsB xs with
    | false =>
      rw [hb] at HI HS
      clear hb o
      go_wp2_with fail
      refine (HI.out _ _ HD.out.rd).mono ?_
      rintro e w2 ⟨rfl, rfl⟩
      go_wp2_with fail
      refine (HS.out _ _ HD.out.rd).mono ?_
      rintro e w2 ⟨rfl, rfl⟩
      go_wp2_with fail
      refine (HS.out _ _ HD.out.rd).mono ?_
      rintro e w2 ⟨rfl, rfl⟩
      go_wp2
      go_ret
      exact ⟨rfl, bb⟩
    | true =>
      have hV := HV.out hb
      rw [hb] at HI HS
      obtain ⟨n, hn⟩ : ∃ n, n = xs.length := ⟨_, rfl⟩
      have hn0 : 0 < n := by rw [hn]; exact hV.some
      have hn1 : n ≤ 96 := by rw [hn]; exact hV.few
      have hn2 : 96 % n = 0 := by rw [hn]; exact hV.div
      have HZ := Lib.hid fun w (v : Value) (h : Rd w v (tab n fun _ => 0)) => implValidRests_any v _ w h (by rw [len_tab]; unfold maxLen; omega)
      rw [show vsB (tab n fun _ => 0) = true from (vsB_iff _).2 (vs_tab (fun _ => 0) hn0 hn1 hn2)] at HZ
      rw [← hn] at HD ⊢
      have f1 : ((96 : Int) % (n : Int) == 0) = true := by rw [mod96, hn2]; rfl
      have f2 : ((n : Int) == 0) = false := by rw [beq_eq_false_iff_ne]; omega
      have f3 : (0 : Int) < (n : Int) := by omega
      obtain ⟨i0, hi, hz0, hz1, hz2⟩ := info_parts infoInt
      clear hb o hV hn hn2 HV hl
      go_wp2_with fail
      refine (HI.out _ _ HD.out.rd).mono ?_
      rintro e w2 ⟨rfl, rfl⟩
      go_wp2_with fail
      refine (HS.out _ _ HD.out.rd).mono ?_
      rintro e w2 ⟨rfl, rfl⟩
      go_wp2_with (at_make; refine wpList_make_full _ rfl _ _ 27 rfl w1.heap.size 3 i0 (.int .i64 0) 1 Try.underlying27 hi hz0 hz1 _ _ _ _ n rfl rfl rfl rfl ?c1 ?c2 ?c3 ?_)
      case c1 => rw [hz2]; omega
      case c2 => unfold maxLen; omega
      case c3 => omega
      intro w2 hown hgrow
      have hO := own_made hown
      have bb := bel_nxt bb ((Below.refl w1.heap.size w1).grown hgrow (Nat.le_refl _) (by simp))
      clear hown hgrow hi hz0 hz1 hz2
      go_wp2_with fail
      refine (HZ.out _ _ hO.rd).mono ?_
      rintro e w3 ⟨rfl, rfl⟩
      clear hO
      go_wp2
      go_ret
      exact ⟨rfl, bb⟩
  · clear h
    go_enter Try.func5, Try.ntmps5
    go_wp2
    go_ret
    exact ⟨rfl, Below.refl _ _⟩

end Go.Proofs.Ytabbfehjgchmgaa
