/-
  Goroutine 0 beside leavers: a walk by steps that list nothing but what is still, and the go statement behind which both talk over a channel with a buffer. No program is named here.
-/
import Derived.Test.YtlglokbakmbpdabTd
namespace Go.Proofs.Ytlglokbakmbpdab
open Go Go.Conc
open Go.ConcN (sumTo upd sumTo_upd upd_ne upd_same)
set_option linter.unusedVariables false
set_option linter.unusedSimpArgs false

/-- But for the tape's place the worlds are the same. -/
def Sm (w w₁ : World) : Prop := ∃ d, w₁ = w.at d
theorem Sm.refl (w : World) : Sm w w := ⟨w.drawn, rfl⟩
theorem Sm.trans {a b c : World} (h : Sm a b) (h' : Sm b c) : Sm a c := by
  obtain ⟨d, rfl⟩ := h
  obtain ⟨e, rfl⟩ := h'
  exact ⟨e, rfl⟩
theorem Sm.alloc {a b : World} (h : Sm a b) (o : Obj) : Sm (a.alloc o) (b.alloc o) := by
  obtain ⟨d, rfl⟩ := h
  exact ⟨d, rfl⟩
theorem Sm.setCell {a b : World} (h : Sm a b) (p : Addr) (v : Value) : Sm (a.setCell p v) (b.setCell p v) := by
  obtain ⟨d, rfl⟩ := h
  exact ⟨d, rfl⟩
theorem Sm.heap {a b : World} (h : Sm a b) : b.heap = a.heap := by
  obtain ⟨d, rfl⟩ := h
  rfl
theorem Sm.cell {a b : World} (h : Sm a b) (p : Addr) : b.cell? p = a.cell? p := by
  obtain ⟨d, rfl⟩ := h
  rfl
theorem Sm.frozen {a b : World} (h : Sm a b) (p : Addr) : b.frozen? p = a.frozen? p := by
  obtain ⟨d, rfl⟩ := h
  rfl

/-- What a step of such a walk lists. -/
def D0 (w w' : World) (es : Array Event) : Prop := stillA es
theorem D0.nil {w w' : World} : D0 w w' #[] := fun e he => by simp at he
theorem D0.evs {w w' : World} {es : Array Event} (h : ∀ e ∈ es, stillE e) : D0 w w' es := h

section
variable {P : Program} {g : Goroutine} {w : World} {Stop : Goroutine → World → Prop}

theorem beside_goes : ∀ {n : Nat} {g : Goroutine} {w : World}, Goes P true Sm D0 Stop n g w → Beside P g w Stop
  | 0, g, w, h => .at0 fun d => h _ ⟨d, rfl⟩
  | n + 1, g, w, h => by
    rcases h with h | ⟨hr, h⟩
    · exact .at0 fun d => h _ ⟨d, rfl⟩
    · refine .step hr fun d => ?_
      obtain ⟨a', w', es, h1, h2, h3⟩ := goes_elim (h (w.at d) ⟨d, rfl⟩)
      exact ⟨a', w', es, h1, h2, beside_goes h3⟩
end

section
variable {P : Program} {c : Nat} {S : World → Prop} {Mine : Loc → Prop} {z : Value} {Fin : Goroutine → World → Prop} {cap : Nat} {tm : Bool} {a a' child : Goroutine} {w : World} {ys : List Value}

/-- THE go STATEMENT. -/
theorem beside_spawn (hr : a.status = .running) (hgo : ∀ d, stepG P true a (w.at d) = .spawn a' child (w.at d) #[]) {s r : Nat} (hch : w.heap[c]? = some (.chan cap #[] false s r tm))
    (hS : ∀ w w', Aside c w w' → S w → S w') (hMc : ¬ Mine (.obj c)) (hcap : 0 < cap) (hw : S w)
    (hrecv : ∃ n, Goes P true (Aside c) (DA c S Mine) (StopA P c S Mine z Fin ys) n a' w) (hsend : SendsB P c S Mine ys child) : Beside P a w Fin := fun gs t q sl d hF => by
  obtain ⟨N, gs1, d1, sl1, t1, q1, h1, hsz, hrun, e, sl2, hst⟩ := Fr.turn (w := w.at d) (sl := sl) _ (Nat.le_refl _) hF hr
  have hlt : 0 < gs1.size := (Array.getElem?_eq_some_iff.1 h1.h0).1
  have hsp := runT_crowd_spawn (P := P) (sl := sl2) (i := 0) h1.h0 (show stepG P (0 == 0) a (w.at e) = _ from hgo e)
  obtain ⟨na, hGa⟩ := hrecv
  obtain ⟨nb, hGb⟩ := (sendsB_iff P c S Mine ys child).1 hsend
  have hm0 : gs1.size ≠ 0 := by omega
  have e0 : ((MemOp.ofEvents 0 a.frame.fn a.frame.place (#[] : Array Event)).push { g := 0, fn := a.frame.fn, pos := a.frame.place, act := .go gs1.size }).push { g := gs1.size, fn := child.frame.fn, pos := a.frame.place, act := .start } = #[{ g := 0, fn := a.frame.fn, pos := a.frame.place, act := .go gs1.size }, { g := gs1.size, fn := child.frame.fn, pos := a.frame.place, act := .start }] := rfl
  rw [e0] at hsp
  have hTP := TP.start (Mine := Mine) h1.past hm0 (h1.lv.above _ (Nat.le_refl _)) (y := { g := 0, fn := a.frame.fn, pos := a.frame.place, act := .go gs1.size }) (z := { g := gs1.size, fn := child.frame.fn, pos := a.frame.place, act := .start }) rfl rfl rfl rfl
  have hu : ∀ op ∈ (#[{ g := 0, fn := a.frame.fn, pos := a.frame.place, act := .go gs1.size }, { g := gs1.size, fn := child.frame.fn, pos := a.frame.place, act := .start }] : Trace), op.g = 0 ∨ op.g = gs1.size := by
    intro op hop
    simp at hop
    rcases hop with rfl | rfl
    · exact .inl rfl
    · exact .inr rfl
  generalize (#[{ g := 0, fn := a.frame.fn, pos := a.frame.place, act := .go gs1.size }, { g := gs1.size, fn := child.frame.fn, pos := a.frame.place, act := .start }] : Trace) = u at hsp hTP hu
  have hO : Others P gs1.size (t1 ++ u) ((gs1.setIfInBounds 0 a').push child) q1 := by
    refine ⟨fun i x hi hm hx => ?_, fun j hj => ?_, hlt⟩
    · have hi' : i < gs1.size := by
        have := (Array.getElem?_eq_some_iff.1 hx).1
        simp at this
        omega
      rw [Array.getElem?_push, if_neg (by simp; omega), Array.getElem?_setIfInBounds_ne (by omega)] at hx
      have hx' := hx
      rw [deaf_two hu hi hm]
      exact h1.lv.old i x hi hx'
    · have hj' : gs1.size + 1 ≤ j := by simpa using hj
      rw [deaf_two hu (by omega) (by omega)]
      exact h1.lv.above j (by omega)
  have hop : Op P c S Mine z Fin gs1.size cap tm ((gs1.setIfInBounds 0 a').push child) (w.at e) (t1 ++ u) q1 [] ys (na + 1) (nb + 1) := by
    refine ⟨⟨a', child, ?_, by rw [Array.getElem?_push]; simp, .inl ⟨na, rfl, ?_⟩, .inl ⟨nb, rfl, ?_⟩⟩, hO, hTP, ⟨s, r, hch⟩, hS _ _ (Aside.at c w e) hw, fun h => by omega, fun h => by omega⟩
    · rw [Array.getElem?_push, if_neg (by simp; omega)]
      simp [hlt]
    · exact Goes.rely (asd_trans c) hGa (Aside.at c w e)
    · exact hGb
  obtain ⟨M, gs', w', t', q', sl', k1, ⟨a₂, k2, k3⟩⟩ := op_reach hS hMc hcap hop sl2
  refine ⟨N + (M + 1), gs', t', q', sl', a₂, w', runNT_app hrun ?_, k2, k3⟩
  simp only [runNT]
  rw [show stepT P (crowd gs1 ((w.at d).at d1) sl1) = _ from hst, show ((w.at d).at e) = w.at e from rfl, hsp]
  exact k1
end
end Go.Proofs.Ytlglokbakmbpdab
