/-
  Texts by their letters: which are letters, misses, matches. Nothing of a program is named here.
-/
import Derived.Test.YtagncoahobghpaaDoorMtM
import Derived.Test.YtagncoahobghpaaDoorStM
import Derived.Lib.SlTrimSet
namespace Go.Proofs.YtagncoahobghpaaDoor
open Go.RowKit
set_option linter.unusedVariables false

/-- The letter at place k. -/
def bt (s : ByteArray) (k : Nat) : Nat := if h : k < s.size then s[k].toNat else 0
theorem bt_at {s : ByteArray} {k : Nat} (h : k < s.size) : s[k].toNat = bt s k := by unfold bt; rw [dif_pos h]
theorem bt_lt (s : ByteArray) (k : Nat) : bt s k < 256 := by
  unfold bt
  split
  · exact UInt8.toNat_lt _
  · decide
/-- Is it a letter, or, where op says so, a question mark? -/
def okC (op : Bool) (c : Nat) : Bool := (decide (97 ≤ c) && decide (c ≤ 100)) || (op && (c == 63))
/-- Is it a text of letters? -/
def vpB (s : ByteArray) (op : Bool) : Bool := (List.range s.size).all (fun k => okC op (bt s k)) && decide (s.size ≤ 20)
theorem vp_all {s : ByteArray} {op : Bool} : ((List.range s.size).all (fun k => okC op (bt s k))) = true ↔ ∀ k, k < s.size → okC op (bt s k) = true := by
  rw [List.all_eq_true]
  exact ⟨fun h k hk => h k (List.mem_range.2 hk), fun h k hk => h k (List.mem_range.1 hk)⟩
theorem vp_no {s : ByteArray} {op : Bool} {k : Nat} (hk : k < s.size) (h : okC op (bt s k) = false) : vpB s op = false := by
  cases e : vpB s op with
  | false => rfl
  | true =>
    unfold vpB at e
    rw [Bool.and_eq_true] at e
    have := vp_all.1 e.1 k hk
    rw [h] at this; cases this
theorem vp_len {s : ByteArray} {op : Bool} (h : vpB s op = true) : s.size ≤ 20 := by
  unfold vpB at h
  rw [Bool.and_eq_true] at h
  exact of_decide_eq_true h.2
theorem vp_ok {s : ByteArray} {op : Bool} (h : vpB s op = true) : ∀ k, k < s.size → okC op (bt s k) = true := by
  unfold vpB at h
  rw [Bool.and_eq_true] at h
  exact vp_all.1 h.1
theorem vp_end {s : ByteArray} {op : Bool} (h : ∀ k, k < s.size → okC op (bt s k) = true) : vpB s op = decide (s.size ≤ 20) := by
  unfold vpB; rw [vp_all.2 h, Bool.true_and]
/-- Nothing stays of a text whose bytes are all of the set. -/
theorem drop_all {p : UInt8 → Bool} {l : List UInt8} : l.dropWhile p = [] ↔ ∀ x ∈ l, p x = true := by
  induction l with
  | nil => simp
  | cons a r ih =>
    rw [List.dropWhile_cons]
    by_cases h : p a = true
    · rw [if_pos h, ih]; simp [h]
    · rw [if_neg h]
      constructor
      · intro q; cases q
      · intro q; exact absurd (q a (by simp)) h
theorem trim_all (l cs : List UInt8) : Lib.trimS l cs = [] ↔ ∀ x ∈ l, cs.contains x = true := by
  unfold Lib.trimS Lib.trimLeftS Lib.trimRightS
  rw [drop_all]
  constructor
  · intro h x hx
    apply Classical.byContradiction
    intro q
    have h1 : (l.reverse.dropWhile fun x => cs.contains x) ≠ [] := fun e => by
      have := drop_all.1 e x (List.mem_reverse.2 hx)
      exact q this
    have h2 := List.head_dropWhile_not (fun x => cs.contains x) h1
    have h3 := h _ (List.mem_reverse.2 (List.head_mem h1))
    rw [h2] at h3; cases h3
  · intro h x hx
    exact h x (List.mem_reverse.1 ((List.dropWhile_sublist _).mem (List.mem_reverse.1 hx)))
theorem bt_mem {s : ByteArray} (f : UInt8 → Prop) : (∀ x ∈ s.data.toList, f x) ↔ ∀ k (h : k < s.size), f s[k] := by
  constructor
  · intro h k hk
    exact h _ (by
      have : s[k] = s.data[k]'hk := rfl
      rw [this]
      exact Array.getElem_mem_toList hk)
  · intro h x hx
    obtain ⟨k, hk, e⟩ := List.getElem_of_mem hx
    have hk2 : k < s.size := by simpa using hk
    have := h k hk2
    have e2 : s[k] = x := by rw [← e]; rfl
    rw [e2] at this; exact this
/-- The misses of a pattern, at each place that it reaches. -/
def bI (s : ByteArray) (k : Nat) : Int := (bt s k : Int)
def msL (s p : ByteArray) : List Int := tab (s.size + 1 - p.size) fun i => msN (bI s) (bI p) p.size i
/-- Where there are none. -/
def mtL (s p : ByteArray) : List Int := fil (fun i => msN (bI s) (bI p) p.size i == 0) (s.size + 1 - p.size)
def mgB (s p : ByteArray) : Bool := vpB s false && vpB p true && decide (p.size ≠ 0)
theorem mgB_of {s p : ByteArray} (h : mgB s p = true) : vpB s false = true ∧ vpB p true = true ∧ p.size ≠ 0 := by
  unfold mgB at h
  rw [Bool.and_eq_true, Bool.and_eq_true] at h
  exact ⟨h.1.1, h.1.2, of_decide_eq_true h.2⟩
def msgF (s p : ByteArray) : List Int := if mgB s p = true then msL s p else []
def mtF (s p : ByteArray) : List Int := if mgB s p = true then mtL s p else []
theorem msgF_len (s p : ByteArray) : (msgF s p).length ≤ 21 := by
  unfold msgF
  split
  · rename_i h
    have := vp_len (mgB_of h).1
    unfold msL; rw [len_tab]; omega
  · exact Nat.zero_le _
theorem mtF_len (s p : ByteArray) : (mtF s p).length ≤ 21 := by
  unfold mtF
  split
  · rename_i h
    have := vp_len (mgB_of h).1
    have := fil_len (fun i => msN (bI s) (bI p) p.size i == 0) (s.size + 1 - p.size)
    unfold mtL; omega
  · exact Nat.zero_le _
end Go.Proofs.YtagncoahobghpaaDoor
