/-
  Joined texts: DsP, RfLaw.
-/
import Derived.Test.YtagncoahobghpacGreatDoorJGdE08
import Derived.Lib.IndexBytes
import Derived.Lib.CountLaws
import Derived.Lib.CutLaws
import Derived.Test.YtagncoahobghpacGreatDoorBase
import Derived.RangeFuncNested
import Derived.RangeFuncBound
import Derived.RangeFuncCalls
import Derived.RangeFuncLeaves
import Derived.RangeFuncBox
namespace Go.Proofs.YtagncoahobghpacGreatDoor
open Go Go.RowKit
set_option linter.unusedVariables false
set_option linter.unusedSimpArgs false

def splitL (c : UInt8) : List UInt8 → List (List UInt8)
  | [] => [[]]
  | x :: l => if x = c then [] :: splitL c l else match splitL c l with
    | [] => [[x]]
    | p :: ps => (x :: p) :: ps
theorem splitL_cons (c x : UInt8) (l : List UInt8) : splitL c (x :: l) = if x = c then [] :: splitL c l else match splitL c l with | [] => [[x]] | p :: ps => (x :: p) :: ps := rfl
theorem splitL_ne (c : UInt8) : ∀ l, splitL c l ≠ []
  | [] => by simp [splitL]
  | x :: l => by
    unfold splitL
    split
    · simp
    · split <;> simp
theorem splitL_no {c : UInt8} : ∀ {l : List UInt8}, c ∉ l → splitL c l = [l]
  | [], _ => rfl
  | x :: l, h => by
    simp only [List.mem_cons, not_or] at h
    unfold splitL
    rw [if_neg (fun e => h.1 e.symm), splitL_no h.2]
theorem splitL_at {c : UInt8} (b : List UInt8) : ∀ {a : List UInt8}, c ∉ a → splitL c (a ++ c :: b) = a :: splitL c b
  | [], _ => by simp [splitL]
  | x :: a, h => by
    simp only [List.mem_cons, not_or] at h
    rw [List.cons_append, splitL_cons, if_neg (fun e => h.1 e.symm), splitL_at b h.2]
theorem splitL_len (c : UInt8) : ∀ l, (splitL c l).length = l.count c + 1
  | [] => rfl
  | x :: l => by
    have ih := splitL_len c l
    unfold splitL
    split
    · rename_i e
      subst e
      simp [ih]
    · rename_i e
      rw [List.count_cons_of_ne (by simpa using e)]
      cases h : splitL c l with
      | nil => exact absurd h (splitL_ne c l)
      | cons p ps => rw [h] at ih; simpa using ih
theorem splitL_snoc {c x : UInt8} : ∀ {l : List UInt8} {A : List (List UInt8)} {q : List UInt8}, splitL c l = A ++ [q] → splitL c (l ++ [x]) = if x = c then A ++ [q] ++ [[]] else A ++ [q ++ [x]]
  | [], A, q, h => by
    have : A = [] ∧ q = [] := by
      cases A with
      | nil => simpa [splitL] using h.symm
      | cons y A => simp [splitL] at h
    obtain ⟨rfl, rfl⟩ := this
    simp [splitL]
  | y :: l, A, q, h => by
    rw [List.cons_append]
    unfold splitL at h ⊢
    by_cases e : y = c
    · rw [if_pos e] at h ⊢
      cases A with
      | nil =>
        simp at h
        exact absurd h.2 (splitL_ne c l)
      | cons z A =>
        simp only [List.cons_append, List.cons.injEq] at h
        obtain ⟨rfl, h⟩ := h
        rw [splitL_snoc h]
        by_cases hx : x = c
        · simp only [if_pos hx]; rfl
        · simp only [if_neg hx]; rfl
    · rw [if_neg e] at h ⊢
      cases hs : splitL c l with
      | nil => exact absurd hs (splitL_ne c l)
      | cons p ps =>
        rw [hs] at h
        dsimp only at h
        cases A with
        | nil =>
          simp only [List.nil_append, List.cons.injEq] at h
          obtain ⟨rfl, rfl⟩ := h
          rw [splitL_snoc (A := []) (q := p) (by rw [hs]; rfl)]
          by_cases hx : x = c
          · simp only [if_pos hx]; rfl
          · simp only [if_neg hx]; rfl
        | cons z A =>
          simp only [List.cons_append, List.cons.injEq] at h
          obtain ⟨rfl, rfl⟩ := h
          rw [splitL_snoc (A := p :: A) (q := q) (by rw [hs]; rfl)]
          by_cases hx : x = c
          · simp only [if_pos hx]; rfl
          · simp only [if_neg hx]; rfl
theorem byte_at {c : UInt8} : ∀ {l : List UInt8} {i : Nat}, Lib.indexByte l c = i → l = l.take i ++ c :: l.drop (i + 1) ∧ c ∉ l.take i
  | [], i, h => by simp [Lib.indexByte] at h
  | b :: l, i, h => by
    unfold Lib.indexByte at h
    by_cases e : b = c
    · subst e
      simp at h
      obtain rfl : i = 0 := by omega
      simp
    · rw [if_neg (by simpa using e)] at h
      split at h
      · omega
      · have hge := Lib.indexByte_ge l c
        rename_i hm
        have hm' : Lib.indexByte l c ≠ -1 := by simpa using hm
        obtain ⟨j, rfl⟩ : ∃ j, i = j + 1 := ⟨i - 1, by omega⟩
        obtain ⟨h1, h2⟩ := byte_at (c := c) (l := l) (i := j) (by omega)
        refine ⟨?_, ?_⟩
        · rw [List.take_succ_cons, List.drop_succ_cons, List.cons_append, ← h1]
        · rw [List.take_succ_cons, List.mem_cons, not_or]
          exact ⟨fun q => e q.symm, h2⟩
theorem byte_no {c : UInt8} : ∀ {l : List UInt8}, Lib.indexByte l c = -1 → c ∉ l
  | [], _ => by simp
  | b :: l, h => by
    unfold Lib.indexByte at h
    by_cases e : b = c
    · subst e; simp at h
    · rw [if_neg (by simpa using e)] at h
      split at h
      · rename_i hm
        rw [List.mem_cons, not_or]
        exact ⟨fun q => e q.symm, byte_no (by simpa using hm)⟩
      · have hge := Lib.indexByte_ge l c
        omega
theorem indexB_byte (s : ByteArray) (c : UInt8) : Lib.indexB s ⟨#[c]⟩ = Lib.indexByte s.data.toList c := Lib.index_one _ _
theorem splitB_L (c : UInt8) : ∀ (k : Nat) (s : ByteArray), Lib.countB s ⟨#[c]⟩ = k → Lib.splitB ⟨#[c]⟩ 0 k s = (splitL c s.data.toList).map bs
  | 0, s, h => by
    rw [Lib.splitB_zero]
    rcases Lib.indexB_cases s ⟨#[c]⟩ with hm | ⟨i, hi, _⟩
    · rw [indexB_byte] at hm
      rw [splitL_no (byte_no hm)]
      simp [bs_list]
    · rw [Lib.countB_hit s ⟨#[c]⟩ i (show 1 ≤ (⟨#[c]⟩ : ByteArray).size from Nat.le_refl 1) hi] at h
      omega
  | k + 1, s, h => by
    rcases Lib.indexB_cases s ⟨#[c]⟩ with hm | ⟨i, hi, hle⟩
    · rw [Lib.countB_miss s ⟨#[c]⟩ hm] at h
      omega
    · rw [Lib.splitB_hit ⟨#[c]⟩ 0 k s i hi]
      rw [Lib.countB_hit s ⟨#[c]⟩ i (show 1 ≤ (⟨#[c]⟩ : ByteArray).size from Nat.le_refl 1) hi] at h
      rw [splitB_L c k _ (by omega)]
      rw [indexB_byte] at hi
      obtain ⟨h1, h2⟩ := byte_at hi
      have hs : splitL c s.data.toList = s.data.toList.take i :: splitL c (s.data.toList.drop (i + 1)) := by
        conv => lhs; rw [h1]
        exact splitL_at _ h2
      rw [hs, List.map_cons]
      have e1 : s.extract 0 (i + 0) = bs (s.data.toList.take i) := by
        rw [Nat.add_zero, ← bs_list (s.extract 0 i), ByteArray.data_extract, Array.toList_extract]
        simp [List.extract]
      have e2 : (s.extract (i + (⟨#[c]⟩ : ByteArray).size) s.size).data.toList = s.data.toList.drop (i + 1) := Lib.extract_to_end s (i + 1)
      rw [e1, e2]
theorem partsP_L (s : ByteArray) : partsP s = (splitL 44 s.data.toList).map bs := splitB_L 44 _ s rfl
/-- A line of two words. -/
theorem cut_two {l a b : List UInt8} (h : splitL 32 l = [a, b]) : Lib.cut l [32] = (a, b, true) := by
  have hc := splitL_len 32 l
  rw [h] at hc
  have hge := Lib.indexByte_ge l 32
  by_cases hm : Lib.indexByte l 32 = -1
  · rw [splitL_no (byte_no hm)] at h
    simp at h
  · obtain ⟨i, hi⟩ : ∃ i : Nat, Lib.indexByte l 32 = i := ⟨(Lib.indexByte l 32).toNat, by omega⟩
    obtain ⟨h1, h2⟩ := byte_at hi
    rw [h1, splitL_at _ h2, List.cons.injEq] at h
    obtain ⟨rfl, h3⟩ := h
    have h4 := splitL_len 32 (l.drop (i + 1))
    rw [h3] at h4
    have h5 : (32 : UInt8) ∉ l.drop (i + 1) := by
      rw [← List.count_eq_zero]
      simpa using h4.symm
    rw [splitL_no h5] at h3
    unfold Lib.cut
    rw [Lib.index_one, hi, if_pos (by omega)]
    simp at h3
    simp [h3]
end Go.Proofs.YtagncoahobghpacGreatDoor

namespace Go.Proofs.YtagncoahobghpacGreatDoor
open Go.RowKit
set_option linter.unusedVariables false

/-- The iterator's contract. J k: k rounds are over. A: the world in which the last round ended; W1: the world in which yield is called; Good k m v W1: what is said of the value v of round k, which lies in blocks from m on. -/
def Hands (F : Fence) (n : Nat) (P : Program) (g : Nat) (lb : Array Value) (Good : Nat → Nat → Value → World → Prop) (N : Nat) (w : World) : Prop :=
  ∀ (l : Nat) (J Jx : Nat → World → Prop) (W : World), Below w.heap.size w W →
    (∀ k v A W1, k < N → J k A → Below A.heap.size A W1 → Good k A.heap.size v W1 → YieldAt F (n - 1) P l #[v] W1 fun e W' =>
      (e = .returned (.bool true) ∧ J (k + 1) W' ∧ Good k A.heap.size v W') ∨ (e = .returned (.bool false) ∧ Jx (k + 1) W')) →
    J 0 W →
    CallsIn F n P g (#[.func (.yield l) #[] #[]] ++ lb) W fun e W' => (∃ v, e = .returned v) ∧ ((∃ A, J N A ∧ Below A.heap.size A W') ∨ (∃ k, k ≤ N ∧ Jx k W'))

/-- How the body of a round may be left. -/
def handPost (Good : World → Prop) (I : World → Prop) (Ix : Code → World → Prop) (W : World) : Exit → Act → World → Prop
  | .normal, _, W' => KeepsOthers W W' ∧ Good W' ∧ I W'
  | .ret, _, W' => KeepsOthers W W' ∧ Ix .ret W'
  | .exit id, _, W' => KeepsOthers W W' ∧ Ix (.exit id) W'
  | .goto t, _, W' => KeepsOthers W W' ∧ Ix (.goto t) W'
  | .panic _, _, _ => False
  | .outgrown, _, _ => False

theorem below_putObj2 {A W : World} (h : Below A.heap.size A W) (l : Nat) (hl : l < A.heap.size) (o : Obj) : Below (A.putObj l o).heap.size (A.putObj l o) (W.putObj l o) := by
  refine ⟨h.os, h.tape, h.output, by simp; exact h.size, fun k hk => ?_⟩
  simp at hk
  by_cases e : k = l
  · subst e
    rw [World.putObj_heap_same (Nat.lt_of_lt_of_le hl h.size), World.putObj_heap_same hl]
  · rw [World.putObj_heap_other e, World.putObj_heap_other e]; exact h.block k hk

variable {F : Fence} {n : Nat} {P : Program}

theorem wpIn_hands {g : Operand} {ps : Array Tmp} {assign body : Code} {Q : Exit → Act → World → Prop} {a : Act} {w : World}
    (hro : F.round = none) (h1 : F.depth.isSome = true → 1 ≤ n) {gf : Nat} {lb : Array Value} (hg : a.eval g = .func (.func gf) #[] lb) (hFg : F.fn gf) (eg : ∀ args w, (callFunc gf args).run P w = .ok (.enter gf args) w)
    {Good : Nat → Nat → Value → World → Prop} {N : Nat} {w0 : World} (hseq : Hands F (n - 1) P gf lb Good N w0)
    (hG : ∀ k m v W l o o', Good k m v W → W.heap[l]? = some o → o.isCells = false → Good k m v (W.putObj l o'))
    (hb0 : Below w0.heap.size w0 w) (hps : ps.size = 1)
    (I : Nat → World → Prop) (Ix : Code → Nat → World → Prop)
    (hI : ∀ k A l o o', I k A → w.heap.size ≤ l → A.heap[l]? = some o → o.isCells = false → I k (A.putObj l o'))
    (hIb : ∀ k A B, I k A → Below A.heap.size A B → I k B)
    (hIx : ∀ c k A l o o', Ix c k A → w.heap.size ≤ l → A.heap[l]? = some o → o.isCells = false → Ix c k (A.putObj l o'))
    (h0 : I 0 w) (a₁ : Value → Act)
    (hassign : ∀ (l : Nat) (x : Value) (W : World) (K : Act → World → Prop), K (a₁ x) W →
      assign.wpIn (F.inRound l) (n - 1 - 1) P (Exit.then K (fun _ _ _ => False)) { tmps := (ps.zip #[x]).foldl (fun t (p, v) => t.setIfInBounds p v) a.tmps, defers := [] } W)
    (hbody : ∀ (l : Nat) (k : Nat) (x : Value) (A W : World), k < N → I k A → w.heap.size ≤ A.heap.size → Below A.heap.size A W → Good k A.heap.size x W → body.wpIn (F.inRound l) (n - 1 - 1) P (handPost (Good k A.heap.size x) (I (k + 1)) (fun c => Ix c (k + 1)) W) (a₁ x) W)
    (hdone : ∀ (D : Nat) (A W : World), w.heap.size ≤ D → I N W → W.heap[D]? = some (.deferred (some [])) → Q .normal { a with defers := { target := .collected D, args := #[] } :: a.defers } W)
    (hstop : ∀ (D : Nat) (c : Code) (k : Nat) (W : World), w.heap.size ≤ D → k ≤ N → Ix c k W → W.heap[D]? = some (.deferred (some [])) → c.wpIn F n P Q { a with defers := { target := .collected D, args := #[] } :: a.defers } W) :
    (Code.rangeFunc g ps assign body).wpIn F n P Q a w := by
  refine wpIn_rangeFunc ?_
  intro fn hfn
  rw [hro]
  obtain ⟨rec, hrec⟩ : ∃ rec : LoopState → Option Code → Loop, rec = fun st pe => { state := st, pending := pe, fn, tmps := a.tmps, params := ps, assign, body, defers := w.heap.size } := ⟨_, rfl⟩
  obtain ⟨W1, hW1⟩ : ∃ W1, (w.alloc (.deferred (some []))).alloc (.loop (rec .ready none)) = W1 := ⟨_, rfl⟩
  have hL1 : W1.heap[w.heap.size + 1]? = some (.loop (rec .ready none)) := by
    rw [← hW1]; have := World.alloc_heap_new (w.alloc (.deferred (some []))) (.loop (rec .ready none)); rwa [World.size_alloc] at this
  have hK1 : W1.heap[w.heap.size]? = some (.deferred (some [])) := by
    rw [← hW1]; exact (Below.heap_alloc _ _ _ (by simp)).trans (World.alloc_heap_new w _)
  have hbW1 : Below w.heap.size w W1 := by
    rw [← hW1]; exact ((Below.refl _ w).alloc (Nat.le_refl _) _).alloc (by simp) _
  have hI1 : I 0 W1 := hIb 0 w W1 h0 hbW1
  have hb1 : Below w0.heap.size w0 W1 := hb0.trans (hbW1.mono hb0.size)
  have hs1 : w.heap.size + 1 < W1.heap.size := (Array.getElem?_eq_some_iff.1 hL1).1
  refine ⟨w.heap.size + 1, [{ target := .collected w.heap.size, args := #[] }], W1, { target := .fn (.func gf) lb, args := #[.func (.yield (w.heap.size + 1)) #[] #[]] }, W1, gf,
    #[.func (.yield (w.heap.size + 1)) #[] #[]] ++ lb, W1, ?_, ?_, ?_, ?_, h1, ?_⟩
  · rw [← hW1, hrec]; exact run_enterLoop_outer _ _ _ _ _
  · simp only [resolve, hg]
    simp [go_sem]
  · intro f' hf'; simp [Target.leads] at hf'; subst hf'; exact hFg
  · simp [invoke, go_sem, eg]
  · refine (hseq (w.heap.size + 1)
      (fun k W => I k W ∧ W.heap[w.heap.size + 1]? = some (.loop (rec .ready none)) ∧ W.heap[w.heap.size]? = some (.deferred (some [])))
      (fun k W => ∃ c, Ix c k W ∧ W.heap[w.heap.size + 1]? = some (.loop (rec .done (some c))) ∧ W.heap[w.heap.size]? = some (.deferred (some [])))
      W1 hb1 ?_ ⟨hI1, hL1, hK1⟩).mono ?_
    · -- ONE ROUND
      rintro k x A W hkN ⟨hi, hlA, hkA⟩ hAW hgood
      have hltA : w.heap.size + 1 < A.heap.size := (Array.getElem?_eq_some_iff.1 hlA).1
      have hl : W.heap[w.heap.size + 1]? = some (.loop (rec .ready none)) := (hAW.block _ hltA).trans hlA
      have hk : W.heap[w.heap.size]? = some (.deferred (some [])) := (hAW.block _ (by omega)).trans hkA
      have hlt : w.heap.size + 1 < W.heap.size := (Array.getElem?_eq_some_iff.1 hl).1
      have hy := run_yield (P := P) (args := #[x]) hl (by rw [hrec]; simp [hps])
      rw [hrec] at hy
      refine ⟨fn, _, assign, body, hy, roundIn_of_wpIn hfn (hassign _ x W _ ⟨_, run_beginRound hl (by rw [hrec]), ?_⟩)⟩
      have hl2 : (W.putObj (w.heap.size + 1) (.loop { rec .ready none with state := .busy })).heap[w.heap.size + 1]? = some (.loop { rec .ready none with state := .busy }) := World.putObj_heap_same hlt
      have hk2 : (W.putObj (w.heap.size + 1) (.loop { rec .ready none with state := .busy })).heap[w.heap.size]? = some (.deferred (some [])) := (World.putObj_heap_other (by omega)).trans hk
      have hbd := hbody (w.heap.size + 1) k x (A.putObj (w.heap.size + 1) (.loop { rec .ready none with state := .busy })) (W.putObj (w.heap.size + 1) (.loop { rec .ready none with state := .busy })) hkN (hI k A _ _ _ hi (by omega) hlA rfl) (by simp; omega) (below_putObj2 hAW _ hltA _)
        (by rw [World.putObj_size]; exact hG k _ x W _ _ _ hgood hl rfl)
      rw [World.putObj_size] at hbd
      refine wpIn_mono hbd ?_
      have fin : ∀ (jump : Option Code) (W3 : World), KeepsOthers (W.putObj (w.heap.size + 1) (.loop { rec .ready none with state := .busy })) W3 →
          (Instr.endRound (w.heap.size + 1) jump).run P W3 = .ok (.bool jump.isNone) (W3.putObj (w.heap.size + 1) (.loop (rec (if jump.isNone then .ready else .done) jump))) ∧
          W3.heap[w.heap.size + 1]? = some (.loop { rec .ready none with state := .busy }) ∧
          (W3.putObj (w.heap.size + 1) (.loop (rec (if jump.isNone then .ready else .done) jump))).heap[w.heap.size + 1]? = some (.loop (rec (if jump.isNone then .ready else .done) jump)) ∧
          (W3.putObj (w.heap.size + 1) (.loop (rec (if jump.isNone then .ready else .done) jump))).heap[w.heap.size]? = some (.deferred (some [])) := fun jump W3 hk3 => by
        have hl3 := hk3.same _ _ hl2 rfl
        have := run_endRound (P := P) jump hl3
        rw [hrec] at this ⊢
        exact ⟨this, by rw [hrec] at hl3; exact hl3, World.putObj_heap_same (Array.getElem?_eq_some_iff.1 hl3).1, (World.putObj_heap_other (by omega)).trans (hk3.same _ _ hk2 rfl)⟩
      rintro e a3 W3 hp
      cases e with
      | normal =>
        obtain ⟨hk3, hg3, hi3⟩ := hp
        obtain ⟨hr, hl3, hl4, hk4⟩ := fin none W3 hk3
        exact ⟨_, _, hr, .inl ⟨rfl, ⟨hI _ _ _ _ _ hi3 (by omega) hl3 rfl, hl4, hk4⟩, hG _ _ _ _ _ _ _ hg3 hl3 rfl⟩⟩
      | ret =>
        obtain ⟨hk3, hi3⟩ := hp
        obtain ⟨hr, hl3, hl4, hk4⟩ := fin (some .ret) W3 hk3
        exact ⟨_, _, hr, .inr ⟨rfl, .ret, hIx _ _ _ _ _ _ hi3 (by omega) hl3 rfl, hl4, hk4⟩⟩
      | exit id =>
        obtain ⟨hk3, hi3⟩ := hp
        obtain ⟨hr, hl3, hl4, hk4⟩ := fin (some (.exit id)) W3 hk3
        exact ⟨_, _, hr, .inr ⟨rfl, .exit id, hIx _ _ _ _ _ _ hi3 (by omega) hl3 rfl, hl4, hk4⟩⟩
      | goto t =>
        obtain ⟨hk3, hi3⟩ := hp
        obtain ⟨hr, hl3, hl4, hk4⟩ := fin (some (.goto t)) W3 hk3
        exact ⟨_, _, hr, .inr ⟨rfl, .goto t, hIx _ _ _ _ _ _ hi3 (by omega) hl3 rfl, hl4, hk4⟩⟩
      | panic ch => exact hp.elim
      | outgrown => exact hp.elim
    · -- BEHIND THE ITERATOR
      rintro e W2 ⟨⟨v, rfl⟩, (⟨A, ⟨hi, hlA, hkA⟩, hAW⟩ | ⟨k, hkN, c, hi, hl, hk⟩)⟩
      · have hltA : w.heap.size + 1 < A.heap.size := (Array.getElem?_eq_some_iff.1 hlA).1
        have hl := (hAW.block _ hltA).trans hlA
        have hk := (hAW.block w.heap.size (by omega)).trans hkA
        exact ⟨none, _, by have := run_endLoop (P := P) hl (by rw [hrec]; simp); rw [hrec] at this; exact this, hdone _ A _ (Nat.le_refl _) (hI _ _ _ _ _ (hIb _ _ _ hi hAW) (by omega) hl rfl) ((World.putObj_heap_other (by omega)).trans hk)⟩
      · exact ⟨some c, _, by have := run_endLoop (P := P) hl (by rw [hrec]; simp); rw [hrec] at this; exact this, hstop _ c k _ (Nat.le_refl _) hkN (hIx c _ _ _ _ _ hi (by omega) hl rfl) ((World.putObj_heap_other (by omega)).trans hk)⟩

end Go.Proofs.YtagncoahobghpacGreatDoor
