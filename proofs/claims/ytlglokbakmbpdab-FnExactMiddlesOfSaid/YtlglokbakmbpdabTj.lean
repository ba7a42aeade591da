/-
  From runs alone on every tape to the walk that no tape turns aside. No program is named here.
-/
import Derived.Test.YtlglokbakmbpdabTk
namespace Go.Proofs.Ytlglokbakmbpdab
open Go Go.Conc
set_option linter.unusedVariables false
set_option linter.unusedSimpArgs false

section
variable {P : Program} {ok : FuncId → Bool}

theorem plug_mem {z : List Item} {x : Frame} : ∀ {l : List Frame}, x ∈ plug z l → ∃ y ∈ l, ∃ z', x = addT y z'
  | [], h => by cases h
  | [y], h => by
    rw [show plug z [y] = [addT y z] from rfl] at h
    exact ⟨y, by simp, z, by simpa using h⟩
  | y :: y2 :: r, h => by
    rw [plug_cons2] at h
    rcases List.mem_cons.1 h with rfl | h
    · exact ⟨_, List.mem_cons_self .., [], by simp [addT]⟩
    · obtain ⟨a, ha, z', e⟩ := plug_mem h
      exact ⟨a, List.mem_cons_of_mem _ ha, z', e⟩

theorem okS_frames {l : List Frame} (h : okS P ok l) : ∀ fr ∈ l, okFr P ok fr := by
  cases l with
  | nil => exact h.elim
  | cons x r =>
    intro fr hfr
    rcases List.mem_cons.1 hfr with rfl | hfr
    · exact h.1
    · exact (h.2.2 fr hfr).1

theorem okFr_plain {fr : Frame} (h : okFr P ok fr) : fr.defers = [] ∧ (P.funcs[fr.fn]?).isSome = true := by
  obtain ⟨f, hf, _⟩ := h.fn
  exact ⟨h.defers, by rw [hf]; rfl⟩

/-- Behind a bad step the machine over the trap never stands where a plain text is left. -/
theorem bad_never {z0 : List Item} {l : List Frame} {W : World} (hS : okS P ok l)
    (hb : (∃ v fr r w' es, plug z0 l = fr :: r ∧ stepG P true (GL (plug z0 l) [trap P]) W = .go (G (fr.raise [v]) (r ++ [trap P])) w' es) ∨ (∃ o w' es, stepG P true (GL (plug z0 l) [trap P]) W = .ended o w' es))
    {n : Nat} {fr1 : Frame} {cs1 : List Frame} {w1 : World} (hn : runN P (n + 1) (onTrap P z0 l W) = .next (lone fr1 cs1 w1)) : ∃ ch, fr1.mode = .panicking ch := by
  have hne : l ≠ [] := by rintro rfl; exact hS.elim
  obtain ⟨fr, r, hp⟩ := plug_cons_of z0 hne
  have hgl : GL (plug z0 l) [trap P] = G fr (r ++ [trap P]) := by rw [hp]; rfl
  have hfrs : ∀ x ∈ plug z0 l, x.defers = [] ∧ (P.funcs[x.fn]?).isSome = true := by
    intro x hx
    obtain ⟨y, hy, z', rfl⟩ := plug_mem hx
    have h := okFr_plain (okS_frames hS y hy)
    exact h
  rw [onTrap_eq hp] at hn
  rcases hb with ⟨v, fr', r', w', es, hp', hg⟩ | ⟨o, w', es, hg⟩
  · rw [hp] at hp'
    simp only [List.cons.injEq] at hp'
    obtain ⟨rfl, rfl⟩ := hp'
    rw [hgl] at hg
    simp only [runN, step_of_go hg] at hn
    have h0 := hfrs fr (by rw [hp]; simp)
    obtain ⟨ch, hch⟩ : ∃ ch, (fr.raise [v]).mode = .panicking ch := by unfold Frame.raise; split <;> exact ⟨_, rfl⟩
    have hk : (fr.raise [v]).defers = fr.defers ∧ (fr.raise [v]).fn = fr.fn := by unfold Frame.raise; split <;> exact ⟨rfl, rfl⟩
    exact panic_never r (fun x hx => hfrs x (by rw [hp]; simp [hx])) _ ch w' hch (by rw [hk.1]; exact h0.1) (by rw [hk.2]; exact h0.2) n fr1 cs1 w1 hn
  · rw [hgl] at hg
    simp [runN, step_of_ended hg] at hn

/-- Where a plain text is left the machine over the trap stands but once. -/
theorem final_once {z0 : List Item} {fr : Frame} {W : World} (hf : okFr P ok fr) (hd : done z0 fr) {n : Nat} {fr1 : Frame} {w1 : World} (hn : runN P n (onTrap P z0 [fr] W) = .next (lone fr1 [trap P] w1)) : n = 0 := by
  cases n with
  | zero => rfl
  | succ n =>
    exfalso
    rw [onTrap_eq (show plug z0 [fr] = addT fr z0 :: [] from rfl)] at hn
    obtain ⟨fn, hfn, hres⟩ := hf.fn
    rcases hd with hm | ⟨rfl, hm, ht⟩
    · obtain ⟨v, hv⟩ := results_tmp (P := P) hres fr.tmps
      have h1 := hf.defers
      have h2 := hf.kind
      have e : stepG P true (G (addT fr z0) ([] ++ [trap P])) W = .go (G ((trap P).finish v) []) W #[] := by
        simp [G, addT, stepG, unwind, hm, h1, hfn, hv, pure, Sem.runT, seen, doReturn, h2, GStep.after]
      simp only [runN, step_of_go e] at hn
      cases n with
      | zero =>
        simp only [runN, Stepped.next.injEq] at hn
        obtain ⟨_, h, _⟩ := lone_inj hn
        cases h
      | succ n =>
        have e3 : Extern.next "fmt's door" = none := by kernel_rfl
        have e2 : ∃ o w' es, stepG P true (G ((trap P).finish v) []) W = .ended o w' es := by
          simp only [G, trap, Frame.finish, stepG, stepG.exec, e3, Option.elim]
          exact ⟨_, _, _, rfl⟩
        obtain ⟨o, w', es, e2⟩ := e2
        simp [runN, step_of_ended e2] at hn
    · have e : ∃ o w' es, stepG P true (G (addT fr kT) ([] ++ [trap P])) W = .ended o w' es := by
        simp only [G, addT, ht, kT, List.nil_append, stepG, stepG.exec, hm]
        exact ⟨_, _, _, rfl⟩
      obtain ⟨o, w', es, e⟩ := e
      have e' := step_of_ended e
      simp only [List.nil_append] at e'
      simp [runN, e'] at hn

theorem ahead_of (hP : NoInit P) (hok : okFns P ok) {z0 : List Item} (hz0 : z0 = [] ∨ z0 = kT) {l0 : List Frame} {w0 : World} (hS : okS P ok l0) {R : Frame → World → Prop}
    (H : ∀ τ' d', ∃ N fr1 w1, runN P N (onTrap P z0 l0 (reT w0 τ' d')) = .next (lone fr1 [trap P] w1) ∧ (fr1.mode = .returning ∨ (z0 = kT ∧ fr1.mode = .run ∧ fr1.todo = z0)) ∧ R fr1 w1) (τ : Nat → Question → Nat) :
    Ahead P ok z0 τ (fun fr w => ∃ τ' d', R (addT fr z0) (reT w τ' d')) l0 w0 := by
  apply Classical.byContradiction
  intro hno
  -- what is known of one step
  let A := Ahead P ok z0 τ (fun fr w => ∃ τ' d', R (addT fr z0) (reT w τ' d'))
  let Good : List Frame × World → Nat × Nat × List Frame × World → Prop := fun s x => okS P ok x.2.2.1 ∧ ¬ A x.2.2.1 x.2.2.2 ∧
    ∀ τ' d', agree τ τ' x.1 d' x.2.1 → ∃ es, stepG P true (GL (plug z0 s.1) [trap P]) (reT s.2 τ' d') = .go (GL (plug z0 x.2.2.1) [trap P]) (reT x.2.2.2 τ' (d' + x.2.1)) es
  let Bad : List Frame × World → Nat × Nat × List Frame × World → Prop := fun s x => ∀ τ' d', agree τ τ' x.1 d' x.2.1 →
    (∃ v fr r w' es, plug z0 s.1 = fr :: r ∧ stepG P true (GL (plug z0 s.1) [trap P]) (reT s.2 τ' d') = .go (G (fr.raise [v]) (r ++ [trap P])) w' es)
        ∨ (∃ o w' es, stepG P true (GL (plug z0 s.1) [trap P]) (reT s.2 τ' d') = .ended o w' es)
  have hstep : ∀ s : List Frame × World, ∃ x : Nat × Nat × List Frame × World, okS P ok s.1 → ¬ A s.1 s.2 → ¬ final z0 s.1 → Good s x ∨ Bad s x := by
    intro s
    by_cases h1 : okS P ok s.1
    · by_cases h3 : final z0 s.1
      · exact ⟨(0, 0, [], s.2), fun _ _ h => absurd h3 h⟩
      · by_cases h4 : ∃ x, Good s x ∨ Bad s x
        · obtain ⟨x, hx⟩ := h4
          exact ⟨x, fun _ _ _ => hx⟩
        · refine ⟨(0, 0, [], s.2), fun _ h _ => absurd ?_ h⟩
          have hall : ∀ d, ∃ x : List Frame × World × Array Event × Nat, stillA x.2.2.1 ∧ (∀ (z : List Item), fits z0 z → ∀ (cs : List Frame) (main : Bool), stepG P main (GL (plug z s.1) cs) (reT s.2 τ d) = .go (GL (plug z x.1) cs) (reT x.2.1 τ (d + x.2.2.2)) x.2.2.1) ∧ A x.1 x.2.1 := by
            intro d
            rcases ok_step hP hok hz0 h1 h3 s.2 τ d with ⟨l', w', es, c, g1, g2, g3⟩ | ⟨c, g⟩
            · refine ⟨(l', w', es, c), g2, fun z hz cs main => g3 z hz cs main τ d fun j _ => rfl, ?_⟩
              apply Classical.byContradiction
              intro hA
              exact h4 ⟨(d, c, l', w'), .inl ⟨g1, hA, fun τ' d' hj => ⟨es, g3 z0 (fits_self z0) [trap P] true τ' d' hj⟩⟩⟩
            · exact absurd ⟨(d, c, [], s.2), .inr fun τ' d' hj => g τ' d' hj⟩ h4
          obtain ⟨f, hf⟩ := Classical.axiomOfChoice hall
          exact .step s.1 s.2 h1 h3 (fun d => (f d).1) (fun d => (f d).2.1) (fun d => (f d).2.2.1) (fun d => (f d).2.2.2) (fun d => (hf d).1) (fun d => (hf d).2.1) (fun d => (hf d).2.2)
    · exact ⟨(0, 0, [], s.2), fun h => absurd h h1⟩
  obtain ⟨F, hF⟩ := Classical.axiomOfChoice hstep
  -- the walk, and the tape that gives its answers
  let S : Nat → (List Frame × World) × Nat := fun n => Nat.rec ((l0, w0), 0) (fun _ s => (((F s.1).2.2.1, (F s.1).2.2.2), s.2 + (F s.1).2.1)) n
  have S0 : S 0 = ((l0, w0), 0) := rfl
  have Sn : ∀ n, S (n + 1) = (((F (S n).1).2.2.1, (F (S n).1).2.2.2), (S n).2 + (F (S n).1).2.1) := fun n => rfl
  have hmono : ∀ n m, n < m → (S n).2 + (F (S n).1).2.1 ≤ (S m).2 := by
    intro n m h
    induction m with
    | zero => omega
    | succ m ih =>
      rw [Sn]
      by_cases e : n = m
      · subst e; exact Nat.le_refl _
      · exact Nat.le_trans (ih (by omega)) (Nat.le_add_right _ _)
  let T : Nat → Question → Nat := fun p q => open Classical in if h : ∃ n j, (S n).2 + j = p ∧ j < (F (S n).1).2.1 then τ ((F (S h.choose).1).1 + h.choose_spec.choose) q else 0
  have hT : ∀ n, agree τ T (F (S n).1).1 (S n).2 (F (S n).1).2.1 := by
    intro n j hj
    funext q
    have h : ∃ n' j', (S n').2 + j' = (S n).2 + j ∧ j' < (F (S n').1).2.1 := ⟨n, j, rfl, hj⟩
    show (open Classical in if h : ∃ n' j', (S n').2 + j' = (S n).2 + j ∧ j' < (F (S n').1).2.1 then τ ((F (S h.choose).1).1 + h.choose_spec.choose) q else 0) = _
    rw [dif_pos h]
    obtain ⟨g1, g2⟩ := h.choose_spec.choose_spec
    have key : ∀ n' j', (S n').2 + j' = (S n).2 + j → j' < (F (S n').1).2.1 → τ ((F (S n').1).1 + j') q = τ ((F (S n).1).1 + j) q := by
      intro n' j' h1 h2
      rcases Nat.lt_trichotomy n' n with hl | hl | hl
      · have := hmono _ _ hl; omega
      · subst hl
        have : j' = j := by omega
        rw [this]
      · have := hmono _ _ hl; omega
    exact key _ _ g1 g2
  obtain ⟨N, fr1, w1, hN, hfin, hR⟩ := H T 0
  have notpan : ¬ ∃ ch, fr1.mode = .panicking ch := by
    rintro ⟨ch, hch⟩
    rcases hfin with h | ⟨_, h, _⟩ <;> rw [hch] at h <;> cases h
  have main : ∀ n, n ≤ N → okS P ok (S n).1.1 ∧ ¬ A (S n).1.1 (S n).1.2 ∧ runN P n (onTrap P z0 l0 (reT w0 T 0)) = .next (onTrap P z0 (S n).1.1 (reT (S n).1.2 T (S n).2)) := by
    intro n
    induction n with
    | zero => intro _; rw [S0]; exact ⟨hS, hno, rfl⟩
    | succ n ih =>
      intro hle
      obtain ⟨g1, g2, g3⟩ := ih (by omega)
      obtain ⟨m, hm⟩ : ∃ m, N = n + (m + 1) := ⟨N - n - 1, by omega⟩
      have hrest : runN P (m + 1) (onTrap P z0 (S n).1.1 (reT (S n).1.2 T (S n).2)) = .next (lone fr1 [trap P] w1) := by
        have := hN
        rw [hm, runN_add, g3] at this
        exact this
      have hnf : ¬ final z0 (S n).1.1 := by
        rintro ⟨fr, hl, hd⟩
        rw [hl] at hrest g1
        have := final_once (okS_frames g1 fr (by simp)) hd hrest
        omega
      rcases hF (S n).1 g1 g2 hnf with hg | hb
      · obtain ⟨k1, k2, k3⟩ := hg
        rw [Sn]
        refine ⟨k1, k2, ?_⟩
        obtain ⟨es, k4⟩ := k3 T (S n).2 (hT n)
        rw [runN_add, g3]
        have hne : (S n).1.1 ≠ [] := by intro h; rw [h] at g1; exact g1.elim
        have hne2 : (F (S n).1).2.2.1 ≠ [] := by intro h; rw [h] at k1; exact k1.elim
        obtain ⟨fr, r, hp⟩ := plug_cons_of z0 hne
        obtain ⟨fr2, r2, hp2⟩ := plug_cons_of z0 hne2
        rw [onTrap_eq hp, onTrap_eq hp2]
        rw [hp, hp2] at k4
        simp only [runN, step_of_go k4]
      · exact absurd (bad_never g1 (hb T (S n).2 (hT n)) hrest) notpan
  obtain ⟨g1, g2, g3⟩ := main N (Nat.le_refl _)
  rw [hN] at g3
  simp only [Stepped.next.injEq] at g3
  have hne : (S N).1.1 ≠ [] := by intro h; rw [h] at g1; exact g1.elim
  obtain ⟨fr, r, hp⟩ := plug_cons_of z0 hne
  rw [onTrap_eq hp] at g3
  obtain ⟨e1, e2, e3⟩ := lone_inj g3
  have er : r = [] := by
    cases r with
    | nil => rfl
    | cons a r => simp at e2
  subst er
  -- the stack is one frame
  match hl : (S N).1.1, hne with
  | [x], _ =>
    rw [hl] at hp g2
    simp only [plug, List.cons.injEq, and_true] at hp
    subst hp
    refine g2 (.stop x _ ?_ ⟨T, (S N).2, by rw [← e1, ← e3]; exact hR⟩)
    rcases hfin with h | ⟨hk, h, h'⟩
    · exact .inl (by rw [e1] at h; exact h)
    · refine .inr ⟨hk, by rw [e1] at h; exact h, ?_⟩
      rw [e1] at h'
      have : x.todo ++ z0 = z0 := h'
      exact List.append_left_eq_self.1 this
  | x :: y :: q, _ =>
    rw [hl, plug_cons2] at hp
    obtain ⟨a, b, hab⟩ := plug_cons_of z0 (l := y :: q) (by simp)
    rw [hab] at hp
    simp at hp

end
end Go.Proofs.Ytlglokbakmbpdab
