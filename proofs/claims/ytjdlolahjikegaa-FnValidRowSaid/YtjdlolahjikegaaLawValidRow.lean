/-
  The law FnValidRow, as a contract.
-/
import Derived.Test.YtjdlolahjikegaaFnM
import Derived.Test.YtjdlolahjikegaaDrawRow
namespace Go.Proofs.Ytjdlolahjikegaa
open Go.RowKit
set_option linter.unusedVariables false

set_option maxHeartbeats 1000000 in
theorem lawValidRow_any (v : Value) (n : Nat) (w : World) (h : RdB w v n) :
    Calls Try.prog 3 #[v] w (Says true w) := by
  have h0 := h
  obtain ⟨a, cap, rfl, h1, h2, -⟩ := h0
  unfold maxLen at h2
  by_cases hbig : n ≤ 1048576
  · go_enter Try.func3, Try.ntmps3
    go_wp2_with fail
    refine (drawValidRow_any _ n _ h).mono ?_
    rintro e w1 ⟨v, xs, rfl, o, hl, hw, bb⟩
    have hM := Own.max64 hl
    clear h hw
    cases hv : vrB xs with
    | false =>
      have HI := Lib.hid fun w h => implValid_any v xs w h hM
      have HS := Lib.hid fun w h => specValid_any v xs w h hM
      go_wp2_with fail
      refine (HI.out _ o.rd).mono ?_
      rintro e w2 ⟨rfl, b2⟩
      rw [hv]
      have o := o.below b2 (Nat.le_refl _)
      have bb := bel_nxt bb b2
      go_wp2_with fail
      refine (HS.out _ o.rd).mono ?_
      rintro e w3 ⟨rfl, b3⟩
      rw [hv]
      have o := o.below b3 (Nat.le_refl _)
      have bb := bel_nxt bb b3
      go_wp2_with fail
      refine (HS.out _ o.rd).mono ?_
      rintro e w4 ⟨rfl, b4⟩
      rw [hv]
      have bb := bel_nxt bb b4
      go_wp2
      go_ret
      exact ⟨rfl, bb⟩
    | true =>
      have HI := Lib.hid fun w h => implValid_any v xs w h hM
      have HS := Lib.hid fun w h => specValid_any v xs w h hM
      go_wp2_with fail
      refine (HI.out _ o.rd).mono ?_
      rintro e w2 ⟨rfl, b2⟩
      rw [hv]
      have o := o.below b2 (Nat.le_refl _)
      have bb := bel_nxt bb b2
      go_wp2_with fail
      refine (HS.out _ o.rd).mono ?_
      rintro e w3 ⟨rfl, b3⟩
      rw [hv]
      have o := o.below b3 (Nat.le_refl _)
      have bb := bel_nxt bb b3
      obtain ⟨a1, c1, rfl⟩ := own_sl o
      have hr := o.rd
      have hcap : xs.length ≤ c1 := by
        rcases o.2 with ⟨h', h0⟩ | ⟨g, cap, cur, h', _, _, hn, _⟩
        · omega
        · simp only [Value.slice.injEq] at h'; omega
      clear o HI HS
      by_cases h0 : xs.length = 0
      · rw [h0]
        go_wp2
        go_ret
        exact ⟨rfl, bb⟩
      · obtain ⟨m, hm⟩ : ∃ m, xs.length = m + 1 := ⟨xs.length - 1, by omega⟩
        have hrt := hr.take (k := m) (by omega)
        have hvt := vrB_take m hv
        have HI := Lib.hid (implValid_any _ _ w3 hrt (by rw [List.length_take]; unfold maxLen; omega))
        rw [hvt] at HI
        have e0 : (((m : Int) + 1) == 0) = false := by simp; omega
        have i1 : (m : Int) ≤ (c1 : Int) := by omega
        have i2 : m ≤ 64 := by omega
        rw [hm]
        clear hr hrt hvt hm hv
        go_wp2_with fail
        refine HI.out.mono ?_
        rintro e w4 ⟨rfl, b4⟩
        have bb := bel_nxt bb b4
        go_wp2
        go_ret
        exact ⟨rfl, bb⟩
  · clear h
    go_enter Try.func3, Try.ntmps3
    go_wp2
    go_ret
    exact ⟨rfl, Below.refl _ _⟩

end Go.Proofs.Ytjdlolahjikegaa
