/-
  Joined texts: RdB, DsD, HlZ.
-/
import Derived.Test.YtagncoahobghpacGreatDoorJGdEAnB
import Derived.Test.YtagncoahobghpacGreatDoorJGdEDsA
import Derived.BigQuiet
namespace Go.Proofs.YtagncoahobghpacGreatDoor
open Go Go.Conc Go.RowKit
set_option linter.unusedVariables false
set_option maxRecDepth 100000

/-- The answers to lines, each with a newline. -/
def deskL (ls : List ByteArray) : List UInt8 := ls.flatMap fun l => (ansT (workP l)).data.toList ++ [10]
def deskT (ls : List ByteArray) : ByteArray := if 20 < ls.length then ⟨#[]⟩ else bs (deskL ls)
def lineAt (ls : List ByteArray) (k : Nat) : ByteArray := ls.getD k .empty
theorem deskL_snoc (ls : List ByteArray) (k : Nat) (h : k < ls.length) : deskL (ls.take (k + 1)) = deskL (ls.take k) ++ (ansT (workP (lineAt ls k))).data.toList ++ [10] := by
  have e : ls.take (k + 1) = ls.take k ++ [lineAt ls k] := by
    rw [List.take_add_one, List.getElem?_eq_getElem h]
    simp [lineAt, List.getD, List.getElem?_eq_getElem h]
  unfold deskL
  rw [e, List.flatMap_append]
  simp
theorem ans_size (l : ByteArray) : (ansT (workP l)).size ≤ 400 := by
  cases h : workP l with
  | what => decide
  | wrong => decide
  | row xs =>
    obtain ⟨h1, h2⟩ := workP_row h
    have := join_len 44 (xs.map Lib.itoa) 21 (fun x hx => by
      obtain ⟨n, hn, rfl⟩ := List.mem_map.1 hx
      exact Lib.itoa_length_le n (h2 n hn).1 (h2 n hn).2)
    rw [List.length_map] at this
    show (Lib.join (xs.map Lib.itoa) [44]).toArray.size ≤ 400
    rw [List.size_toArray]
    omega
theorem ans_len (l : ByteArray) : (ansT (workP l)).data.toList.length ≤ 400 := by
  have := ans_size l
  rw [Array.length_toList]
  exact this
theorem deskL_len (ls : List ByteArray) : (deskL ls).length ≤ ls.length * 401 := by
  unfold deskL
  induction ls with
  | nil => simp
  | cons l ls ih =>
    have := ans_len l
    rw [List.flatMap_cons, List.length_append, List.length_append, List.length_cons]
    simp only [List.length_nil, List.length_cons]
    omega

/-- A slice of texts. -/
def RdT (w : World) (v : Value) (ls : List ByteArray) : Prop :=
  ∃ a cap, v = .slice a ls.length cap ∧ (ls.length = 0 ∨ ∃ b off, a = some ⟨b, off, none⟩ ∧ b < w.heap.size ∧ ∀ j, j < ls.length → w.cell? ⟨b, off + j, none⟩ = some (.string (lineAt ls j)))
theorem RdT.below {w w' : World} {v : Value} {ls : List ByteArray} (h : RdT w v ls) (hb : Below w.heap.size w w') : RdT w' v ls := by
  obtain ⟨a, cap, h1, h2⟩ := h
  refine ⟨a, cap, h1, h2.imp id ?_⟩
  rintro ⟨b, off, h3, h4, h5⟩
  exact ⟨b, off, h3, Nat.lt_of_lt_of_le h4 hb.size, fun j hj => (hb.cell (p := ⟨b, off + j, none⟩) h4).trans (h5 j hj)⟩
theorem builder_below {T e : TypeId} {B b : Nat} {p : Value} {bs : List Value} {w w' : World} (h : Lib.BuilderAtF T e B b p bs w) (hb : Below w.heap.size w w') : Lib.BuilderAtF T e B b p bs w' := by
  have hlt := h.lt
  obtain ⟨hB, v, h1, hown, hne⟩ := h
  exact ⟨hB, v, (hb.block b hlt).trans h1, hown.kept (row := none) ⟨hb.os, hb.tape, hb.output, hb.size, fun k hk _ => hb.block k hk⟩ (by cases hv : v.ownBlock <;> simp), hne⟩
theorem isBuilder_below {T e : TypeId} {B b : Nat} {bs : List Value} {w w' : World} (h : Lib.IsBuilderF T e B b bs w) (hb : Below w.heap.size w w') : Lib.IsBuilderF T e B b bs w' :=
  h.imp (fun h => builder_below h hb) (fun h => builder_below h hb)
theorem isBuilder_sm {T e : TypeId} {B b : Nat} {bs : List Value} {w w' : World} (h : Lib.IsBuilderF T e B b bs w) (hs : Sm w w') : Lib.IsBuilderF T e B b bs w' := by
  obtain ⟨d, rfl⟩ := hs
  exact h
theorem byteCells_app (a b : List UInt8) : Lib.byteCells (a ++ b) = Lib.byteCells a ++ Lib.byteCells b := List.map_append
theorem byteCells_len (a : List UInt8) : (Lib.byteCells a).length = a.length := List.length_map _

def BBuild (x : Value) (B b : Nat) (bs : List Value) (w : World) (v : Value) (w' : World) : Prop := v = x ∧ Lib.IsBuilderF 42 5 B b bs w' ∧ Below B w w'
theorem bbuild_sm {x : Value} {B b : Nat} {bs : List Value} {f : FuncId} {args : Array Value} {w w1 : World} (hs : Sm w w1) (h : BCalls Tryz.prog f args w1 (BBuild x B b bs w1)) : BCalls Tryz.prog f args w1 (BBuild x B b bs w) := by
  obtain ⟨d, rfl⟩ := hs
  exact h.mono fun v w' ⟨h1, h2, h3⟩ => ⟨h1, h2, ⟨h3.os, h3.tape, h3.output, h3.size, h3.block⟩⟩
theorem writeString_b (B b : Nat) (l : List UInt8) (s : ByteArray) (w : World) (h : Lib.IsBuilderF 42 5 B b (Lib.byteCells l) w) (hlen : l.length + s.size ≤ 140737488355328) (hBw : B ≤ w.heap.size) :
    BCalls Tryz.prog 20 #[.pointer (some ⟨b, 0, none⟩), .string s] w (BBuild (.tuple #[.int .i64 s.size, .nilIface]) B b (Lib.byteCells (l ++ s.data.toList)) w) :=
  (bWriteString_b B b _ s w h (by rw [byteCells_len]; exact hlen) hBw).mono fun v w' ⟨h1, h2, h3⟩ => ⟨h1, .inr (by rw [byteCells_app]; exact h2), h3⟩
theorem writeByte_b (B b : Nat) (l : List UInt8) (w : World) (h : Lib.IsBuilderF 42 5 B b (Lib.byteCells l) w) (hlen : l.length + 1 ≤ 140737488355328) (hBw : B ≤ w.heap.size) :
    BCalls Tryz.prog 22 #[.pointer (some ⟨b, 0, none⟩), .int .u8 10] w (BBuild .nilIface B b (Lib.byteCells (l ++ [10])) w) :=
  (bWriteByte_b B b _ 10 w h (by rw [byteCells_len]; exact hlen) hBw).mono fun v w' ⟨h1, h2, h3⟩ => ⟨h1, .inr (by rw [byteCells_app]; exact h2), h3⟩
theorem string_b (B b : Nat) (l : List UInt8) (w : World) (h : Lib.IsBuilderF 42 5 B b (Lib.byteCells l) w) (hBw : B ≤ w.heap.size) :
    BCalls Tryz.prog 23 #[.pointer (some ⟨b, 0, none⟩)] w (BBuild (.string (bs l)) B b (Lib.byteCells l) w) := bString_b B b l w h hBw
theorem answer_sm {line : ByteArray} {w w1 : World} (h : Dsk w) (hl : line.size ≤ 1048576) (hs : Sm w w1) : BCalls Tryz.prog 21 #[.string line] w1 (BGives (.string (ansT (workP line))) w.heap.size w) := by
  obtain ⟨d, rfl⟩ := hs
  exact bgives_sm ⟨d, rfl⟩ (answerTo_b line _ (h.sm ⟨d, rfl⟩) hl)

set_option maxHeartbeats 8000000 in
theorem runDesk_b (v : Value) (ls : List ByteArray) (w : World) (hr : RdT w v ls) (h : Dsk w) (hs : ∀ k, (lineAt ls k).size ≤ 1048576) (hl : ls.length ≤ 1048576) : BCalls Tryz.prog 6 #[v] w (BGives (.string (deskT ls)) w.heap.size w) := by
  intro cs
  have HR := Lib.hid hr
  have HS := Lib.hid hs
  obtain ⟨a, cap, rfl, -⟩ := hr
  obtain ⟨n, hn⟩ : ∃ n, n = ls.length := ⟨_, rfl⟩
  have HN := Lib.hid hn
  rw [← hn] at HR hl ⊢
  clear hn hs
  rw [enter_at _ Tryz.func6 rfl]
  simp only [Tryz.f6, List.size_toArray, List.length_cons, List.length_nil, Nat.reduceAdd, Nat.reduceSub, Array.replicate_succ, Array.replicate_zero, List.push_toArray, List.append_toArray, List.nil_append, List.cons_append]
  have hF : Sm w w := Sm.refl w
  by_cases h20 : 20 < n
  · have i1 : (20 : Int) < (n : Int) := by omega
    have HW : Hid (deskT ls = ⟨#[]⟩) := Lib.hid (if_pos (by rw [← HN.out]; exact h20))
    refine beside_by (n := 400) ?_
    repeat (first | a_ctl hF Sm.trans D0.nil | (refine Goes.step rfl (fun _ h₁ => ?_); replace hF := Sm.trans hF h₁; clear h₁; refine goes_oper_k rfl rfl (by decide) (fun K hK => ?_); go_simp; refine hK _ _ ⟨still_listed rfl, ?_⟩; clear hK K) | (refine Goes.step rfl (fun _ h₁ => ?_); rw [stepG_unwanted rfl rfl]; simp only [goes_go]; refine ⟨D0.nil, ?_⟩; replace hF := Sm.trans hF h₁; clear h₁; walk_nrm))
    a_cond true hF Sm.trans D0.nil
    repeat (first | a_ctl hF Sm.trans D0.nil | (refine Goes.step rfl (fun _ h₁ => ?_); replace hF := Sm.trans hF h₁; clear h₁; refine goes_oper_k rfl rfl (by decide) (fun K hK => ?_); go_simp; refine hK _ _ ⟨still_listed rfl, ?_⟩; clear hK K) | (refine Goes.step rfl (fun _ h₁ => ?_); rw [stepG_unwanted rfl rfl]; simp only [goes_go]; refine ⟨D0.nil, ?_⟩; replace hF := Sm.trans hF h₁; clear h₁; walk_nrm))
    refine Goes.step rfl (fun _ h₁ => ?_)
    rw [stepG_ret']
    simp only [goes_go]
    refine ⟨D0.nil, ?_⟩
    refine Goes.stop fun w₁ h₂ => .at0 fun d => ?_
    have hF := (Sm.trans hF h₁).trans (h₂.trans ⟨d, rfl⟩)
    exact leave1 Tryz.func6 rfl (R := BGives (.string (deskT ls)) w.heap.size w) ⟨by rw [HW.out]; rfl, (Below.refl w.heap.size w).sm hF⟩
  · have i1 : ¬ ((20 : Int) < (n : Int)) := by omega
    have HW : Hid (deskT ls = bs (deskL (ls.take n))) := Lib.hid (by rw [HN.out, List.take_length]; exact if_neg (by rw [← HN.out]; exact h20))
    refine beside_by (n := 400) ?_
    repeat (first | a_ctl hF Sm.trans D0.nil | (refine Goes.step rfl (fun _ h₁ => ?_); replace hF := Sm.trans hF h₁; clear h₁; refine goes_oper_k rfl rfl (by decide) (fun K hK => ?_); go_simp; refine hK _ _ ⟨still_listed rfl, ?_⟩; clear hK K) | (refine Goes.step rfl (fun _ h₁ => ?_); rw [stepG_unwanted rfl rfl]; simp only [goes_go]; refine ⟨D0.nil, ?_⟩; replace hF := Sm.trans hF h₁; clear h₁; walk_nrm))
    a_cond false hF Sm.trans D0.nil
    repeat a_ctl hF Sm.trans D0.nil
    (refine Goes.step rfl (fun _ h₁ => ?_); replace hF := Sm.trans hF h₁; clear h₁; refine goes_oper_k rfl rfl (by decide) (fun K hK => ?_); go_simp; refine hK _ _ ⟨still_listed rfl, ?_⟩; clear hK K)
    refine Goes.stop fun w₁ h₁ => ?_
    obtain ⟨d0, rfl⟩ := hF
    obtain ⟨d1, rfl⟩ := h₁
    obtain ⟨Bb, hB⟩ : ∃ Bb, Bb = w.heap.size := ⟨_, rfl⟩
    have HB := Lib.hid hB
    rw [show (w.at d0).heap.size = Bb from hB.symm]
    have hI : Lib.IsBuilderF 42 5 w.heap.size Bb (Lib.byteCells (deskL (ls.take 0))) (((w.at d0).alloc (.cells #[.pointer none, .slice none 0 0] 42)).at d1) := by
      rw [hB]
      exact .inl ⟨Nat.le_refl _, .slice none 0 0, World.alloc_heap_new w _, ⟨rfl, .inl ⟨rfl, rfl⟩⟩, by intro e; cases e⟩
    have b : Below w.heap.size w (((w.at d0).alloc (.cells #[.pointer none, .slice none 0 0] 42)).at d1) := ((Below.refl w.heap.size w).alloc (Nat.le_refl _) (.cells #[.pointer none, .slice none 0 0] 42)).sm ⟨d1, rfl⟩
    generalize ((w.at d0).alloc (.cells #[.pointer none, .slice none 0 0] 42)).at d1 = w1 at hI b ⊢
    clear hB
    have hF := Sm.refl w1
    try walk_nrm
    refine beside_by (n := 400) ?_
    repeat a_ctl hF Sm.trans D0.nil
    (refine Goes.step rfl (fun _ h₁ => ?_); replace hF := Sm.trans hF h₁; clear h₁; refine goes_oper_k rfl rfl (by decide) (fun K hK => ?_); go_simp; refine hK _ _ ⟨still_listed rfl, ?_⟩; clear hK K)
    (refine Goes.step rfl (fun _ h₁ => ?_); replace hF := Sm.trans hF h₁; clear h₁; refine goes_oper_k rfl rfl (by decide) (fun K hK => ?_); go_simp; refine hK _ _ ⟨still_listed rfl, ?_⟩; clear hK K)
    (refine Goes.step rfl (fun _ h₁ => ?_); replace hF := Sm.trans hF h₁; clear h₁; refine goes_oper_k rfl rfl (by decide) (fun K hK => ?_); go_simp; refine hK _ _ ⟨still_listed rfl, ?_⟩; clear hK K)
    repeat a_ctl hF Sm.trans D0.nil
    refine Goes.stop fun w₁ h₁ => ?_
    have hI := isBuilder_sm hI (hF.trans h₁)
    have b := b.sm (hF.trans h₁)
    clear hF h₁
    refine (?_ : ∀ (m k : Nat) (v11 v5 v12 v13 v14 v15 v16 v17 v18 v19 : Value) (w' : World), k + m = n → v11 = .int .i64 (k : Int) → Lib.IsBuilderF 42 5 w.heap.size Bb (Lib.byteCells (deskL (ls.take k))) w' → Below w.heap.size w w' → Beside _ (G (Frame.at _ ⟨#[_, _, _, _, _, v5, _, _, _, _, _, v11, v12, v13, v14, v15, v16, v17, v18, v19, _], []⟩ _) _) w' _) n 0 _ _ _ _ _ _ _ _ _ _ _ (Nat.zero_add _) rfl hI b
    clear hI b
    intro m
    induction m with
    | zero =>
      intro k v11 v5 v12 v13 v14 v15 v16 v17 v18 v19 w2 hk h11 hI b
      obtain rfl : k = n := by omega
      subst h11
      have hF := Sm.refl w2
      have i2 : ¬ ((k : Int) < (k : Int)) := by omega
      refine beside_by (n := 400) ?_
      repeat (first | a_ctl hF Sm.trans D0.nil | (refine Goes.step rfl (fun _ h₁ => ?_); replace hF := Sm.trans hF h₁; clear h₁; refine goes_oper_k rfl rfl (by decide) (fun K hK => ?_); go_simp; refine hK _ _ ⟨still_listed rfl, ?_⟩; clear hK K) | (refine Goes.step rfl (fun _ h₁ => ?_); rw [stepG_unwanted rfl rfl]; simp only [goes_go]; refine ⟨D0.nil, ?_⟩; replace hF := Sm.trans hF h₁; clear h₁; walk_nrm))
      a_cond false hF Sm.trans D0.nil
      refine Goes.step rfl (fun _ h₁ => ?_)
      refine goes_of_eq (stepG_exit rfl) ?_
      simp only [goes_go]
      refine ⟨D0.nil, ?_⟩
      replace hF := Sm.trans hF h₁
      clear h₁
      repeat (first | a_ctl hF Sm.trans D0.nil | (refine Goes.step rfl (fun _ h₁ => ?_); replace hF := Sm.trans hF h₁; clear h₁; refine goes_oper_k rfl rfl (by decide) (fun K hK => ?_); go_simp; refine hK _ _ ⟨still_listed rfl, ?_⟩; clear hK K) | (refine Goes.step rfl (fun _ h₁ => ?_); rw [stepG_unwanted rfl rfl]; simp only [goes_go]; refine ⟨D0.nil, ?_⟩; replace hF := Sm.trans hF h₁; clear h₁; walk_nrm))
      refine Goes.stop fun w₁ h₁ => ?_
      replace hF := Sm.trans hF h₁
      clear h₁
      refine beside_call rfl rfl (by decide) rfl Tryz.func23 rfl rfl (by kernel_rfl) (show _ = (#[.pointer (some ⟨Bb, 0, none⟩)] : Array Value) from by walk_nrm) (fun d => bbuild_sm (hF.trans ⟨d, rfl⟩) (string_b w.heap.size Bb _ _ (isBuilder_sm hI (hF.trans ⟨d, rfl⟩)) (b.sm (hF.trans ⟨d, rfl⟩)).size)) ?_
      rintro r w3 ⟨rfl, -, b3⟩
      have b := b.trans b3
      clear hF b3 hI
      have hF := Sm.refl w3
      walk_nrm
      refine beside_by (n := 400) ?_
      repeat (first | a_ctl hF Sm.trans D0.nil | (refine Goes.step rfl (fun _ h₁ => ?_); replace hF := Sm.trans hF h₁; clear h₁; refine goes_oper_k rfl rfl (by decide) (fun K hK => ?_); go_simp; refine hK _ _ ⟨still_listed rfl, ?_⟩; clear hK K) | (refine Goes.step rfl (fun _ h₁ => ?_); rw [stepG_unwanted rfl rfl]; simp only [goes_go]; refine ⟨D0.nil, ?_⟩; replace hF := Sm.trans hF h₁; clear h₁; walk_nrm))
      refine Goes.step rfl (fun _ h₁ => ?_)
      rw [stepG_ret']
      simp only [goes_go]
      refine ⟨D0.nil, ?_⟩
      refine Goes.stop fun w₁ h₂ => .at0 fun d => ?_
      have hF := (Sm.trans hF h₁).trans (h₂.trans ⟨d, rfl⟩)
      exact leave1 Tryz.func6 rfl (R := BGives (.string (deskT ls)) w.heap.size w) ⟨by rw [HW.out]; rfl, b.sm hF⟩
    | succ m ih =>
      intro k v11 v5 v12 v13 v14 v15 v16 v17 v18 v19 w2 hk h11 hI b
      have hlt : k < n := by omega
      subst h11
      obtain ⟨b0, off, rfl, hb0, hcc⟩ : ∃ b0 off, a = some ⟨b0, off, none⟩ ∧ b0 < w.heap.size ∧ w.cell? ⟨b0, off + k, none⟩ = some (.string (lineAt ls k)) := by
        obtain ⟨a2, c2, e2, hh⟩ := HR.out
        simp only [Value.slice.injEq] at e2
        obtain ⟨rfl, -, -⟩ := e2
        rcases hh with q | ⟨b0, off, q, hb, hc⟩
        · have := HN.out; omega
        · exact ⟨b0, off, q, hb, hc k (by rw [← HN.out]; exact hlt)⟩
      have hc := (b.cell (p := ⟨b0, off + k, none⟩) hb0).trans hcc
      have hD := h.below b
      have hq := HS.out k
      have HK := Lib.hid (deskL_snoc ls k (by rw [← HN.out]; exact hlt))
      have hL : (deskL (ls.take k)).length ≤ 20 * 401 := Nat.le_trans (deskL_len _) (Nat.mul_le_mul_right _ (by rw [List.length_take]; omega))
      have hA := ans_size (lineAt ls k)
      obtain ⟨q, hqe⟩ : ∃ q, q = lineAt ls k := ⟨_, rfl⟩
      rw [← hqe] at hc hq HK hA
      clear hqe hcc
      have hF := Sm.refl w2
      have i2 : (k : Int) < (n : Int) := by omega
      refine beside_by (n := 400) ?_
      repeat (first | a_ctl hF Sm.trans D0.nil | (refine Goes.step rfl (fun _ h₁ => ?_); replace hF := Sm.trans hF h₁; clear h₁; refine goes_oper_k rfl rfl (by decide) (fun K hK => ?_); go_simp; refine hK _ _ ⟨still_listed rfl, ?_⟩; clear hK K) | (refine Goes.step rfl (fun _ h₁ => ?_); rw [stepG_unwanted rfl rfl]; simp only [goes_go]; refine ⟨D0.nil, ?_⟩; replace hF := Sm.trans hF h₁; clear h₁; walk_nrm))
      a_cond true hF Sm.trans D0.nil
      repeat a_ctl hF Sm.trans D0.nil
      (refine Goes.step rfl (fun _ h₁ => ?_); replace hF := Sm.trans hF h₁; clear h₁; refine goes_oper_k rfl rfl (by decide) (fun K hK => ?_); go_simp; refine hK _ _ ⟨still_listed rfl, ?_⟩; clear hK K)
      refine Goes.step rfl (fun _ h₁ => ?_)
      replace hF := Sm.trans hF h₁
      clear h₁
      obtain ⟨dx, rfl⟩ := hF
      replace hc := (show (w2.at dx).cell? ⟨b0, off + k, none⟩ = _ from hc)
      refine goes_oper_k rfl rfl (by decide) (fun K hK => ?_)
      go_simp
      refine hK _ _ ⟨still_listed rfl, ?_⟩
      clear hK K
      have hF : Sm w2 (w2.at dx) := ⟨dx, rfl⟩
      repeat (first | a_ctl hF Sm.trans D0.nil | (refine Goes.step rfl (fun _ h₁ => ?_); replace hF := Sm.trans hF h₁; clear h₁; refine goes_oper_k rfl rfl (by decide) (fun K hK => ?_); go_simp; refine hK _ _ ⟨still_listed rfl, ?_⟩; clear hK K) | (refine Goes.step rfl (fun _ h₁ => ?_); rw [stepG_unwanted rfl rfl]; simp only [goes_go]; refine ⟨D0.nil, ?_⟩; replace hF := Sm.trans hF h₁; clear h₁; walk_nrm))
      refine Goes.stop fun w₁ h₁ => ?_
      replace hF := Sm.trans hF h₁
      clear h₁
      refine beside_call rfl rfl (by decide) rfl Tryz.func21 rfl rfl (by kernel_rfl) (show _ = (#[.string q] : Array Value) from by walk_nrm) (fun d => answer_sm hD hq (hF.trans ⟨d, rfl⟩)) ?_
      rintro r w3 ⟨rfl, b3⟩
      have hI := isBuilder_below hI b3
      have b := bel_nxt b b3
      clear hF b3 hc hD hq
      obtain ⟨s, hs⟩ : ∃ s, s = ansT (workP q) := ⟨_, rfl⟩
      rw [← hs] at HK hA ⊢
      clear hs
      have hF := Sm.refl w3
      walk_nrm
      refine beside_by (n := 400) ?_
      repeat (first | a_ctl hF Sm.trans D0.nil | (refine Goes.step rfl (fun _ h₁ => ?_); replace hF := Sm.trans hF h₁; clear h₁; refine goes_oper_k rfl rfl (by decide) (fun K hK => ?_); go_simp; refine hK _ _ ⟨still_listed rfl, ?_⟩; clear hK K) | (refine Goes.step rfl (fun _ h₁ => ?_); rw [stepG_unwanted rfl rfl]; simp only [goes_go]; refine ⟨D0.nil, ?_⟩; replace hF := Sm.trans hF h₁; clear h₁; walk_nrm))
      refine Goes.stop fun w₁ h₁ => ?_
      replace hF := Sm.trans hF h₁
      clear h₁
      refine beside_call rfl rfl (by decide) rfl Tryz.func20 rfl rfl (by kernel_rfl) (show _ = (#[.pointer (some ⟨Bb, 0, none⟩), .string s] : Array Value) from by walk_nrm) (fun d => bbuild_sm (hF.trans ⟨d, rfl⟩) (writeString_b w.heap.size Bb _ s _ (isBuilder_sm hI (hF.trans ⟨d, rfl⟩)) (by omega) (b.sm (hF.trans ⟨d, rfl⟩)).size)) ?_
      rintro r w4 ⟨rfl, hI4, b4⟩
      have b := b.trans b4
      clear hF b4 hI
      have hF := Sm.refl w4
      walk_nrm
      refine beside_by (n := 400) ?_
      repeat (first | a_ctl hF Sm.trans D0.nil | (refine Goes.step rfl (fun _ h₁ => ?_); replace hF := Sm.trans hF h₁; clear h₁; refine goes_oper_k rfl rfl (by decide) (fun K hK => ?_); go_simp; refine hK _ _ ⟨still_listed rfl, ?_⟩; clear hK K) | (refine Goes.step rfl (fun _ h₁ => ?_); rw [stepG_unwanted rfl rfl]; simp only [goes_go]; refine ⟨D0.nil, ?_⟩; replace hF := Sm.trans hF h₁; clear h₁; walk_nrm))
      refine Goes.stop fun w₁ h₁ => ?_
      replace hF := Sm.trans hF h₁
      clear h₁
      refine beside_call rfl rfl (by decide) rfl Tryz.func22 rfl rfl (by kernel_rfl) (show _ = (#[.pointer (some ⟨Bb, 0, none⟩), .int .u8 10] : Array Value) from by walk_nrm) (fun d => bbuild_sm (hF.trans ⟨d, rfl⟩) (writeByte_b w.heap.size Bb _ _ (isBuilder_sm hI4 (hF.trans ⟨d, rfl⟩)) (by rw [List.length_append, show s.data.toList.length = s.size from Array.length_toList]; omega) (b.sm (hF.trans ⟨d, rfl⟩)).size)) ?_
      rintro r w5 ⟨rfl, hI5, b5⟩
      have b := b.trans b5
      rw [← HK.out] at hI5
      clear hF b5 hI4 HK
      have e3 : IntKind.i64.wrap ((k : Int) + 1) = (k : Int) + 1 := IntWalk.i64_in _ (by omega)
      have hF := Sm.refl w5
      walk_nrm
      refine beside_by (n := 400) ?_
      repeat a_ctl hF Sm.trans D0.nil
      (refine Goes.step rfl (fun _ h₁ => ?_); replace hF := Sm.trans hF h₁; clear h₁; refine goes_oper_k rfl rfl (by decide) (fun K hK => ?_); go_simp; refine hK _ _ ⟨still_listed rfl, ?_⟩; clear hK K)
      (refine Goes.step rfl (fun _ h₁ => ?_); replace hF := Sm.trans hF h₁; clear h₁; refine goes_oper_k rfl rfl (by decide) (fun K hK => ?_); go_simp; refine hK _ _ ⟨still_listed rfl, ?_⟩; clear hK K)
      repeat a_ctl hF Sm.trans D0.nil
      refine Goes.stop fun w₁ h₁ => ?_
      exact ih (k + 1) _ _ _ _ _ _ _ _ _ _ _ (by omega) (by simp) (isBuilder_sm hI5 (Sm.trans hF h₁)) (b.sm (Sm.trans hF h₁))
end Go.Proofs.YtagncoahobghpacGreatDoor

namespace Go.Proofs.YtagncoahobghpacGreatDoor
open Go Go.RowKit
set_option linter.unusedVariables false
set_option linter.unusedSimpArgs false
set_option maxRecDepth 100000

set_option maxHeartbeats 8000000 in
theorem specRunDesk_any (v : Value) (ls : List ByteArray) (w : World) (hr : RdT w v ls) (hs : ∀ k, (lineAt ls k).size ≤ 1048576) (hl : ls.length ≤ 1048576) :
    Calls Tryz.prog 7 #[v] w fun e w' => e = .returned (.string (deskT ls)) ∧ Below w.heap.size w w' := by
  have HR := Lib.hid hr
  have HS := Lib.hid hs
  obtain ⟨a, cap, rfl, -⟩ := hr
  obtain ⟨n, hn⟩ : ∃ n, n = ls.length := ⟨_, rfl⟩
  have HN := Lib.hid hn
  rw [← hn] at HR hl ⊢
  clear hn hs
  by_cases h20 : 20 < n
  · have i1 : (20 : Int) < (n : Int) := by omega
    have HW : Hid (deskT ls = ⟨#[]⟩) := Lib.hid (if_pos (by rw [← HN.out]; exact h20))
    go_enter Tryz.func7, Tryz.ntmps7
    go_wp2
    go_ret
    exact ⟨by rw [HW.out]; rfl, Below.refl _ _⟩
  · have i1 : ¬ ((20 : Int) < (n : Int)) := by omega
    have HW : Hid (deskT ls = bs (deskL (ls.take n))) := Lib.hid (by rw [HN.out, List.take_length]; exact if_neg (by rw [← HN.out]; exact h20))
    go_enter Tryz.func7, Tryz.ntmps7
    go_wp2_with fail
    go_loopw [3, 4] (fun s i wr => ∃ k : Nat, k ≤ n ∧ i = .int .i64 k ∧ s = .string (bs (deskL (ls.take k))) ∧ Below w.heap.size w wr) (fun _ i _ => n - (intOf i).toNat)
    case atStart => exact ⟨0, Nat.zero_le _, rfl, rfl, Below.refl _ _⟩
    case round =>
      obtain ⟨k, hk, rfl, rfl, hB⟩ := hrel
      by_cases hlt : k < n
      · obtain ⟨b0, off, rfl, hb0, hcc⟩ : ∃ b0 off, a = some ⟨b0, off, none⟩ ∧ b0 < w.heap.size ∧ w.cell? ⟨b0, off + k, none⟩ = some (.string (lineAt ls k)) := by
          obtain ⟨a2, c2, e2, hh⟩ := HR.out
          simp only [Value.slice.injEq] at e2
          obtain ⟨rfl, -, -⟩ := e2
          rcases hh with q | ⟨b0, off, q, hb, hc⟩
          · have := HN.out; omega
          · exact ⟨b0, off, q, hb, hc k (by rw [← HN.out]; exact hlt)⟩
        have hc := (hB.cell (p := ⟨b0, off + k, none⟩) hb0).trans hcc
        have hq := HS.out k
        have hA := ans_size (lineAt ls k)
        have hL : (bs (deskL (ls.take k))).size ≤ 20 * 401 := by
          rw [bs_size]
          exact Nat.le_trans (deskL_len _) (Nat.mul_le_mul_right _ (by rw [List.length_take]; omega))
        have HK : Hid (bs (deskL (ls.take k)) ++ ansT (workP (lineAt ls k)) ++ ⟨#[10]⟩ = bs (deskL (ls.take (k + 1)))) := Lib.hid (by
          rw [deskL_snoc ls k (by rw [← HN.out]; exact hlt), ← bs_app, ← bs_app, bs_list]
          rfl)
        have HQ := Lib.hid (answer_any (lineAt ls k) wr hq)
        obtain ⟨q, hqe⟩ : ∃ q, q = lineAt ls k := ⟨_, rfl⟩
        obtain ⟨s0, hs0⟩ : ∃ s0, s0 = bs (deskL (ls.take k)) := ⟨_, rfl⟩
        obtain ⟨r, hre⟩ : ∃ r, r = ansT (workP (lineAt ls k)) := ⟨_, rfl⟩
        rw [← hre] at HK HQ hA
        rw [← hqe] at hc HQ
        rw [← hs0] at HK hL ⊢
        have i2 : (k : Int) < (n : Int) := by omega
        have i3 : ¬ (9223372036854775807 < s0.size + r.size) := by omega
        have i4 : ¬ (9223372036854775807 < s0.size + r.size + 1) := by omega
        have e3 : IntKind.i64.wrap ((k : Int) + 1) = (k : Int) + 1 := IntWalk.i64_in _ (by omega)
        clear hqe hs0 hre hA hL hq hcc
        go_wp2_with fail
        refine HQ.out.mono ?_
        rintro e w3 ⟨rfl, b3⟩
        have hB := bel_nxt hB b3
        clear b3 HQ hc
        go_wp2
        go_roundw
        case rel => exact ⟨k + 1, by omega, by go_num, congrArg Value.string HK.out, hB⟩
        case measure => simp [intOf]; omega
      · obtain rfl : k = n := by omega
        have i2 : ¬ ((k : Int) < (k : Int)) := by omega
        go_wp2
        go_ret
        exact ⟨by rw [HW.out]; rfl, hB⟩
end Go.Proofs.YtagncoahobghpacGreatDoor

namespace Go.Proofs.YtagncoahobghpacGreatDoor
open Go Go.RowKit
set_option linter.unusedVariables false
set_option linter.unusedSimpArgs false
set_option maxRecDepth 100000

theorem rdT_at {w : World} {a : Option Addr} {n cap : Nat} {ls : List ByteArray} (h : RdT w (.slice a n cap) ls) (hn : n = ls.length) {k : Nat} (hk : k < n) : ∃ b off, a = some ⟨b, off, none⟩ ∧ b < w.heap.size ∧ w.cell? ⟨b, off + k, none⟩ = some (.string (lineAt ls k)) := by
  obtain ⟨a2, c2, e2, hh⟩ := h
  simp only [Value.slice.injEq] at e2
  obtain ⟨rfl, -, -⟩ := e2
  rcases hh with q | ⟨b0, off, q, hb, hc⟩
  · omega
  · exact ⟨b0, off, q, hb, hc k (by omega)⟩

set_option maxHeartbeats 8000000 in
theorem szStringS_any (v : Value) (ls : List ByteArray) (w : World) (hr : RdT w v ls) (hs : ∀ k, (lineAt ls k).size ≤ 9223372036854775807) (hl : ls.length ≤ 9223372036854775807) :
    Calls Tryz.prog 9 #[v, .int .i64 1048576] w fun e w' => ∃ z : Int, e = .returned (.int .i64 z) ∧ w' = w ∧ (0 ≤ z → ls.length ≤ 1048576 ∧ ∀ k, (lineAt ls k).size ≤ 1048576) := by
  have HR := Lib.hid hr
  have HS := Lib.hid hs
  obtain ⟨a, cap, rfl, -⟩ := hr
  obtain ⟨n, hn⟩ : ∃ n, n = ls.length := ⟨_, rfl⟩
  have HN := Lib.hid hn
  rw [← hn] at HR hl ⊢
  clear hn hs
  have e1 : IntKind.i64.wrap (1048576 - (n : Int)) = 1048576 - (n : Int) := IntWalk.i64_in _ (by omega)
  by_cases h0 : 1048576 - (n : Int) < 0
  · go_enter Tryz.func9, Tryz.ntmps9
    go_wp2
    go_ret
    exact ⟨-1, rfl, rfl, fun h => by omega⟩
  · go_enter Tryz.func9, Tryz.ntmps9
    go_wp2_with fail
    go_loopw [1, 5] (fun l i wr => ∃ (k : Nat) (z : Int), k ≤ n ∧ i = .int .i64 k ∧ l = .int .i64 z ∧ 0 ≤ z ∧ z ≤ 1048576 ∧ wr = w ∧ Hid (∀ j, j < k → (lineAt ls j).size ≤ 1048576)) (fun _ i _ => n - (intOf i).toNat)
    case atStart => exact ⟨0, 1048576 - (n : Int), Nat.zero_le _, rfl, rfl, by omega, by omega, rfl, fun j hj => absurd hj (Nat.not_lt_zero j)⟩
    case round =>
      obtain ⟨k, z, hk, rfl, rfl, hz0, hz1, rfl, hall⟩ := hrel
      by_cases hlt : k < n
      · obtain ⟨b0, off, rfl, hb0, hc⟩ := rdT_at HR.out HN.out hlt
        have hsz := HS.out k
        have HA := Lib.hid fun (q : (lineAt ls k).size ≤ 1048576) j (hj : j < k + 1) => show (lineAt ls j).size ≤ 1048576 by
          by_cases e : j = k
          · subst e; exact q
          · exact hall.out j (by omega)
        obtain ⟨q, hq⟩ : ∃ q, q = lineAt ls k := ⟨_, rfl⟩
        rw [← hq] at hc hsz HA
        clear hq hall e1
        have i2 : (k : Int) < (n : Int) := by omega
        have e2 : IntKind.i64.wrap (z - (q.size : Int)) = z - (q.size : Int) := IntWalk.i64_in _ (by omega)
        have e3 : IntKind.i64.wrap ((k : Int) + 1) = (k : Int) + 1 := IntWalk.i64_in _ (by omega)
        by_cases hneg : z - (q.size : Int) < 0
        · go_wp2
          go_ret
          exact ⟨-1, rfl, rfl, fun h => by omega⟩
        · have HB := Lib.hid (HA.out (by omega))
          clear HA
          go_wp2
          go_roundw
          case rel => exact ⟨k + 1, z - (q.size : Int), by omega, by go_num, rfl, by omega, by omega, trivial, HB⟩
          case measure => simp [intOf]; omega
      · obtain rfl : k = n := by omega
        have i2 : ¬ ((k : Int) < (k : Int)) := by omega
        have HF : Hid (∀ j, (lineAt ls j).size ≤ 1048576) := Lib.hid fun j => by
          by_cases hj : j < k
          · exact hall.out j hj
          · have : lineAt ls j = .empty := by
              unfold lineAt
              rw [List.getD_eq_getElem?_getD, List.getElem?_eq_none (by have := HN.out; omega)]
              rfl
            rw [this]
            exact Nat.zero_le _
        clear hall
        go_wp2
        go_ret
        exact ⟨z, rfl, rfl, fun _ => ⟨by omega, HF.out⟩⟩
theorem rdT_heap {w : World} {g n : Nat} {ls : List ByteArray} (h : w.heap[g]? = some (.cells (tabS n (lineAt ls)).toArray 9 (0, 0))) (hn : n = ls.length) : RdT w (.slice (some ⟨g, 0, none⟩) n n) ls := by
  refine ⟨_, n, by rw [hn], .inr ⟨g, 0, rfl, (Array.getElem?_eq_some_iff.1 h).1, fun j hj => ?_⟩⟩
  rw [Lib.cell_of_heap h, Nat.zero_add, tabS_get _ (by omega)]

set_option maxHeartbeats 8000000 in
theorem toStringS_any (v : Value) (ls : List ByteArray) (w : World) (hr : RdT w v ls) (hl : ls.length ≤ 1048576) :
    Calls Tryz.prog 10 #[v] w fun e w' => ∃ v', e = .returned v' ∧ RdT w' v' ls ∧ Below w.heap.size w w' := by
  have HR := Lib.hid hr
  obtain ⟨a, cap, rfl, -⟩ := hr
  obtain ⟨n, hn⟩ : ∃ n, n = ls.length := ⟨_, rfl⟩
  have HN := Lib.hid hn
  rw [← hn] at HR hl ⊢
  obtain ⟨i0, hi, hz0, hz1, hz2⟩ := info_parts infoStr
  clear hn
  go_enter Tryz.func10, Tryz.ntmps10
  go_wp2_with (at_make; refine wpList_make_full _ rfl _ _ 23 rfl w.heap.size 9 i0 (.string ⟨#[]⟩) 1 Tryz.underlying23 hi hz0 hz1 _ _ _ _ n rfl rfl rfl rfl ?c1 ?c2 ?c3 ?_)
  case c1 => rw [hz2]; omega
  case c2 => unfold maxLen; omega
  case c3 => omega
  intro w1 hown hgrow
  have hH := strs_made hown
  have hB := (Below.refl w.heap.size w).grown hgrow (Nat.le_refl _) (by simp)
  clear hown hgrow
  have hH0 : w1.heap[w.heap.size]? = some (.cells (tabS n fun j => if j < 0 then lineAt ls j else ByteArray.empty).toArray 9 (0, 0)) := hH
  clear hH
  go_wp2_with fail
  go_loopw [4] (fun i wr => ∃ k : Nat, k ≤ n ∧ i = .int .i64 k ∧ wr.heap[w.heap.size]? = some (.cells (tabS n fun j => if j < k then lineAt ls j else ByteArray.empty).toArray 9 (0, 0)) ∧ Below w.heap.size w wr) (fun i _ => n - (intOf i).toNat)
  case atStart => exact ⟨0, Nat.zero_le _, rfl, hH0, hB⟩
  case round =>
    obtain ⟨k, hk, rfl, hH, hB⟩ := hrel
    clear hH0
    by_cases hlt : k < n
    · obtain ⟨b, off, rfl, hbl, hc⟩ := rdT_at HR.out HN.out hlt
      have hcw := (hB.cell (p := ⟨b, off + k, none⟩) hbl).trans hc
      have i1 : (k : Int) < (n : Int) := by omega
      have HS := Lib.hid (tabS_set (n := n) (f := fun j => if j < k then lineAt ls j else ByteArray.empty) (g := fun j => if j < k + 1 then lineAt ls j else ByteArray.empty) (k := k) (u := lineAt ls k) (if_pos (Nat.lt_succ_self k)) (fun j hj => by by_cases q : j < k <;> simp only [q, if_true, if_false] <;> split <;> first | rfl | omega))
      have hcg : ((tabS n fun j => if j < k then lineAt ls j else ByteArray.empty).toArray)[k]? = some (.string ByteArray.empty) := by rw [tabS_get _ hlt, if_neg (Nat.lt_irrefl k)]
      obtain ⟨q, hq⟩ : ∃ q, q = lineAt ls k := ⟨_, rfl⟩
      rw [← hq] at hcw HS
      clear hq hc
      have c4 : wr.cell? ⟨w.heap.size, k, none⟩ = some (.string ByteArray.empty) := by rw [Lib.cell_of_heap hH, hcg]
      have f4 := Lib.frozen_of_heap hH k
      have hH5 := Lib.heap_setCell_same (i := k) hH (.string q)
      rw [HS.out] at hH5
      have hB5 := hB.setCell (p := ⟨w.heap.size, k, none⟩) (Nat.le_refl _) (.string q)
      have e3 : IntKind.i64.wrap ((k : Int) + 1) = (k : Int) + 1 := IntWalk.i64_in _ (by omega)
      clear hH hB hcg
      go_wp2
      go_roundw
      case rel => exact ⟨k + 1, by omega, by go_num, hH5, hB5⟩
      case measure => simp [intOf]; omega
    · obtain rfl : k = n := by omega
      have i1 : ¬ ((k : Int) < (k : Int)) := by omega
      have hT := rdT_heap (ls := ls) (by rw [hH, tabS_congr fun j hj => if_pos hj]) HN.out
      clear hH
      go_wp2
      go_ret
      exact ⟨_, rfl, hT, hB⟩
set_option maxHeartbeats 8000000 in
theorem eqStringS_any (u v : Value) (ls : List ByteArray) (w : World) (hr : RdT w u ls) (hr2 : RdT w v ls) (hl : ls.length ≤ 1048576) :
    Calls Tryz.prog 11 #[u, v] w (Says true w) := by
  have HR := Lib.hid hr
  have HR2 := Lib.hid hr2
  obtain ⟨a, cap, rfl, -⟩ := hr
  obtain ⟨a', cap', rfl, -⟩ := hr2
  obtain ⟨n, hn⟩ : ∃ n, n = ls.length := ⟨_, rfl⟩
  have HN := Lib.hid hn
  rw [← hn] at HR HR2 hl ⊢
  clear hn
  go_enter Tryz.func11, Tryz.ntmps11
  go_wp2_with fail
  go_loopw [5] (fun i wr => ∃ k : Nat, k ≤ n ∧ i = .int .i64 k ∧ Below w.heap.size w wr) (fun i _ => n - (intOf i).toNat)
  case atStart => exact ⟨0, Nat.zero_le _, rfl, Below.refl _ _⟩
  case round =>
    obtain ⟨k, hk, rfl, hB⟩ := hrel
    by_cases hlt : k < n
    · obtain ⟨b, off, rfl, hbl, hc⟩ := rdT_at HR.out HN.out hlt
      obtain ⟨b2, off2, rfl, hbl2, hc2⟩ := rdT_at HR2.out HN.out hlt
      have hcx := (hB.cell (p := ⟨b, off + k, none⟩) hbl).trans hc
      have hcy := (hB.cell (p := ⟨b2, off2 + k, none⟩) hbl2).trans hc2
      have i1 : (k : Int) < (n : Int) := by omega
      have e3 : IntKind.i64.wrap ((k : Int) + 1) = (k : Int) + 1 := IntWalk.i64_in _ (by omega)
      obtain ⟨q, hq⟩ : ∃ q, q = lineAt ls k := ⟨_, rfl⟩
      rw [← hq] at hcx hcy
      clear hq hc hc2
      go_wp2
      go_quiet (fail)
      go_wp2
      go_roundw
      case rel => exact ⟨k + 1, by omega, by go_num, bel_drewN hB _⟩
      case measure => simp [intOf]; omega
    · obtain rfl : k = n := by omega
      have i1 : ¬ ((k : Int) < (k : Int)) := by omega
      go_wp2
      go_ret
      exact ⟨rfl, hB⟩
end Go.Proofs.YtagncoahobghpacGreatDoor
