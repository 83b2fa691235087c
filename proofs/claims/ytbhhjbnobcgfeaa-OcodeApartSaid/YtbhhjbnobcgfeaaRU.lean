/- Code with its labels numbered anew is valid where the code is. Nothing here speaks of a program. -/
import Derived.Test.YtbhhjbnobcgfeaaRV
namespace Go.Proofs.Ytbhhjbnobcgfeaa
set_option linter.unusedVariables false
set_option linter.unusedSimpArgs false

theorem home_from : ∀ (l : List Op3) (h : Nat → Int) (p : Int) (g : Nat → Int) (q : Int), homeL h p l = some (g, q) → ∀ k, g k ≠ 0 → h k ≠ 0 ∨ Lab l k
  | [], h, p, g, q, e, k, hk => by
    rw [homeL] at e
    injection e with e; injection e with e1 e2
    subst e1; exact Or.inl hk
  | o :: r, h, p, g, q, e, k, hk => by
    rw [home_cons] at e
    have up : (∃ x ∈ r, x.op = 19 ∧ x.n.toNat = k) → Lab (o :: r) k := fun ⟨x, hx, h1, h2⟩ => ⟨x, List.mem_cons_of_mem _ hx, h1, h2⟩
    by_cases h24 : o.op = 24
    · rw [if_pos h24] at e
      exact (home_from r h o.n g q e k hk).imp id up
    · rw [if_neg h24] at e
      by_cases h19 : o.op = 19
      · rw [if_pos h19] at e
        by_cases hc : h o.n.toNat = 0 ∧ nextB r = true
        · rw [if_pos hc] at e
          rcases home_from r _ p g q e k hk with h1 | h1
          · by_cases hkn : k = o.n.toNat
            · exact Or.inr ⟨o, List.mem_cons_self, h19, hkn.symm⟩
            · unfold upd at h1
              rw [if_neg hkn] at h1
              exact Or.inl h1
          · exact Or.inr (up h1)
        · rw [if_neg hc] at e; exact absurd e (by simp)
      · rw [if_neg h19] at e
        exact (home_from r h p g q e k hk).imp id up
/-- What an instruction names is there, in front of which a procedure has begun. -/
theorem named_lab {l0 : List Op3} {g : Nat → Int} (hg : ∀ k, g k ≠ 0 → Lab l0 k) : ∀ (l : List Op3) (s : Int) (on : Bool) (p : Int), 0 ≤ s → (s ≠ 0 → p = s) → (runS prF (s, on) l).isSome = true → (runS (hmF g) p l).isSome = true → ∀ o ∈ l, ∀ x, labO o = some x → Lab l0 x.toNat
  | [], _, _, _, _, _, _, _, o, ho, _, _ => by cases ho
  | o :: r, s, on, p, hs, hp, h1, h2, y, hy, x, hx => by
    rw [runS] at h1 h2
    cases e1 : prF (s, on) o with
    | none => rw [e1] at h1; exact absurd h1 (by simp)
    | some s2 =>
      cases e2 : hmF g p o with
      | none => rw [e2] at h2; exact absurd h2 (by simp)
      | some p2 =>
        rw [e1] at h1
        rw [e2] at h2
        simp only at h1 h2
        obtain ⟨s2, on2⟩ := s2
        have key : 0 ≤ s2 ∧ (s2 ≠ 0 → p2 = s2) ∧ (∀ x, labO o = some x → Lab l0 x.toNat) := by
          unfold prF at e1
          unfold hmF at e2
          simp only at e1 e2
          by_cases h24 : o.op = 24
          · rw [if_pos h24] at e1 e2
            have hno : labO o = none := by unfold labO; rw [if_neg (by omega), if_neg (by omega)]
            rw [hno] at e2
            split at e1
            · rename_i hc
              injection e1 with e1; injection e1 with e3 e4
              simp only [Option.some.injEq] at e2
              refine ⟨by omega, fun _ => by omega, fun x hx => ?_⟩
              rw [hno] at hx; exact absurd hx (by simp)
            · exact absurd e1 (by simp)
          · rw [if_neg h24] at e1 e2
            split at e1
            · exact absurd e1 (by simp)
            · rename_i hs0
              injection e1 with e1; injection e1 with e3 e4
              subst e3
              have hps := hp hs0
              cases hlo : labO o with
              | none =>
                rw [hlo] at e2
                simp only [Option.some.injEq] at e2
                exact ⟨hs, fun _ => by omega, fun x hx => absurd hx (by simp)⟩
              | some z =>
                rw [hlo] at e2
                simp only at e2
                split at e2
                · rename_i hz
                  injection e2 with e2
                  refine ⟨hs, fun _ => by omega, fun x hx => ?_⟩
                  obtain rfl : z = x := by simpa using hx
                  exact hg _ (by omega)
                · exact absurd e2 (by simp)
        rcases List.mem_cons.1 hy with rfl | hy
        · exact key.2.2 x hx
        · exact named_lab hg r s2 on2 p2 key.1 key.2.1 h1 h2 y hy x hx
theorem hm_re (f : Int → Int) (L : Nat → Prop) (g g' : Nat → Int) (hgg : ∀ x : Int, L x.toNat → g' (f x).toNat = g x.toNat) : ∀ (l : List Op3) (p : Int), (∀ o ∈ l, ∀ x, labO o = some x → L x.toNat) → runS (hmF g') p (l.map (reO f)) = runS (hmF g) p l
  | [], _, _ => rfl
  | o :: r, p, hl => by
    have e : hmF g' p (reO f o) = hmF g p o := by
      unfold hmF
      simp only
      rw [reO_op, reO_lab]
      have hp : (if o.op = 24 then (reO f o).n else p) = (if o.op = 24 then o.n else p) := by
        by_cases h24 : o.op = 24
        · rw [if_pos h24, if_pos h24, reO_n f o (by omega)]
        · rw [if_neg h24, if_neg h24]
      rw [hp]
      cases hlo : labO o with
      | none => rfl
      | some x =>
        simp only [Option.map_some]
        rw [hgg x (hl o List.mem_cons_self x hlo)]
    rw [List.map_cons, runS, runS, e]
    cases hmF g p o with
    | none => rfl
    | some p2 => exact hm_re f L g g' hgg r p2 (fun x hx => hl x (List.mem_cons_of_mem _ hx))
theorem takes_re (f : Int → Int) (L : Nat → Prop) (hinj : ∀ x y : Int, L x.toNat → L y.toNat → (f x).toNat = (f y).toNat → x.toNat = y.toNat) (hcg : ∀ x y : Int, x.toNat = y.toNat → f x = f y) :
    ∀ (l : List Op3), (∀ o ∈ l, o.op = 19 → L o.n.toNat) → ((l.map (reO f)).foldr ltF (fun _ => false, false)).2 = (l.foldr ltF (fun _ => false, false)).2 ∧ ∀ x : Int, L x.toNat → ((l.map (reO f)).foldr ltF (fun _ => false, false)).1 (f x).toNat = (l.foldr ltF (fun _ => false, false)).1 x.toNat
  | [], _ => ⟨rfl, fun _ _ => rfl⟩
  | o :: r, hl => by
    obtain ⟨h2, h1⟩ := takes_re f L hinj hcg r (fun x hx => hl x (List.mem_cons_of_mem _ hx))
    rw [List.map_cons, List.foldr_cons, List.foldr_cons]
    unfold ltF
    rw [reO_op]
    by_cases h19 : o.op = 19
    · have hL := hl o List.mem_cons_self h19
      have hn : (reO f o).n = f o.n := by unfold reO; rw [if_pos (Or.inl h19)]
      rw [if_pos h19, if_pos h19, hn]
      refine ⟨h2, fun x hx => ?_⟩
      simp only [upd]
      by_cases hxe : x.toNat = o.n.toNat
      · rw [if_pos hxe, if_pos (by rw [hcg x o.n hxe])]
        exact h2
      · rw [if_neg hxe, if_neg (fun e => hxe (hinj x o.n hx hL e))]
        exact h1 x hx
    · rw [if_neg h19, if_neg h19]
      exact ⟨rfl, h1⟩
theorem tk_re (f : Int → Int) (L : Nat → Prop) (tk tk' : Nat → Bool) (htk : ∀ x : Int, L x.toNat → tk' (f x).toNat = tk x.toNat) : ∀ (l : List Op3) (on : Bool), (∀ o ∈ l, ∀ x, labO o = some x → L x.toNat) → runS (tkF tk') on (l.map (reO f)) = runS (tkF tk) on l
  | [], _, _ => rfl
  | o :: r, on, hl => by
    have e : tkF tk' on (reO f o) = tkF tk on o := by
      unfold tkF
      rw [reO_op, reO_lab]
      cases hlo : labO o with
      | none => rfl
      | some x =>
        simp only [Option.map_some, htk x (hl o List.mem_cons_self x hlo)]
    rw [List.map_cons, runS, runS, e]
    cases tkF tk on o with
    | none => rfl
    | some p2 => exact tk_re f L tk tk' htk r p2 (fun x hx => hl x (List.mem_cons_of_mem _ hx))
theorem beyond_no {n : Int} (h : -2147483648 ≤ n ∧ n ≤ 2147483647) : beyond n = false := by
  unfold beyond
  rw [decide_eq_false (by omega), decide_eq_false (by omega)]; rfl
theorem inI_of {a b c : Int} (h : b ≤ a ∧ a ≤ c) : inI a b c = true := inI_iff.2 h
/-- An instruction that is valid stays so. -/
theorem ins_re (f : Int → Int) {nd : Nat} {procs lb lb' : Int} {o : Op3} (h : insB nd procs lb o = true) (hf : ∀ x, (o.op = 19 ∧ o.n = x ∨ labO o = some x) → 1 ≤ f x ∧ f x ≤ lb') (hlb : lb' ≤ 2147483647) : insB nd procs lb' (reO f o) = true := by
  obtain ⟨op, n, m⟩ := o
  by_cases hA : op = 19 ∨ op = 20 ∨ op = 21 ∨ op = 22 ∨ op = 27 ∨ op = 29
  · have e : reO f ⟨op, n, m⟩ = ⟨op, f n, m⟩ := by unfold reO; rw [if_pos hA]
    have hfn : 1 ≤ f n ∧ f n ≤ lb' := hf n (by
      rcases hA with hA | hA
      · exact Or.inl ⟨hA, rfl⟩
      · exact Or.inr (by unfold labO; rw [if_pos hA]))
    rw [e]
    simp only [insB, Bool.and_eq_true, Bool.not_eq_true'] at h ⊢
    obtain ⟨⟨⟨h1, h2⟩, h3⟩, h4⟩ := h
    refine ⟨⟨⟨beyond_no (by omega), h2⟩, ?_⟩, ?_⟩
    · unfold firstB
      simp only
      rw [if_neg (by omega), if_neg (by omega), if_neg (by omega), if_neg (by omega), if_neg (by omega), if_pos (by omega)]
      exact inI_of hfn
    · unfold secondB at h4 ⊢
      simp only at h4 ⊢
      have n24 : ¬ op = 24 := by omega
      have n30 : ¬ op = 30 := by omega
      simp only [n24, n30, if_false] at h4 ⊢
      exact h4
  · by_cases hB : op = 30
    · have e : reO f ⟨op, n, m⟩ = ⟨op, n, f m⟩ := by unfold reO; rw [if_neg hA, if_pos hB]
      have hfm : 1 ≤ f m ∧ f m ≤ lb' := hf m (Or.inr (by simp [labO, hB]))
      rw [e]
      simp only [insB, Bool.and_eq_true, Bool.not_eq_true'] at h ⊢
      obtain ⟨⟨⟨h1, h2⟩, h3⟩, h4⟩ := h
      refine ⟨⟨⟨h1, beyond_no (by omega)⟩, ?_⟩, ?_⟩
      · unfold firstB
        simp only
        rw [if_pos (by omega)]
      · unfold secondB
        simp only
        rw [if_neg (by omega), if_neg (by omega), if_pos hB]
        exact inI_of hfm
    · have e : reO f ⟨op, n, m⟩ = ⟨op, n, m⟩ := by unfold reO; rw [if_neg hA, if_neg hB]
      rw [e]
      simp only [insB, Bool.and_eq_true, Bool.not_eq_true'] at h ⊢
      obtain ⟨⟨⟨h1, h2⟩, h3⟩, h4⟩ := h
      refine ⟨⟨⟨h1, h2⟩, ?_⟩, ?_⟩
      · unfold firstB at h3 ⊢
        simp only [hA, if_false] at h3 ⊢
        exact h3
      · unfold secondB at h4 ⊢
        simp only [hB, if_false] at h4 ⊢
        exact h4
theorem great_max (l : List Op3) (k : Int) (B : Int) : ∀ (a : Int), a ≤ B → (∀ o ∈ l, o.op = k → o.n ≤ B) → l.foldl (fun n o => if o.op = k then max n o.n else n) a ≤ B := by
  induction l with
  | nil => intro a h _; exact h
  | cons o r ih =>
    intro a h hl
    rw [List.foldl_cons]
    refine ih _ ?_ (fun x hx => hl x (List.mem_cons_of_mem _ hx))
    by_cases e : o.op = k
    · rw [if_pos e]; have := hl o List.mem_cons_self e; omega
    · rw [if_neg e]; exact h
theorem great_ge (l : List Op3) (k : Int) : ∀ (a : Int) (o : Op3), o ∈ l → o.op = k → o.n ≤ l.foldl (fun n o => if o.op = k then max n o.n else n) a := by
  induction l with
  | nil => intro a o h; cases h
  | cons x r ih =>
    intro a o h e
    rw [List.foldl_cons]
    rcases List.mem_cons.1 h with rfl | h
    · refine Int.le_trans ?_ (great_mono k r _)
      rw [if_pos e]; omega
    · exact ih _ o h e
/-- The last label's number is the count. -/
theorem nm_last : ∀ (l : List Op3) (s : Int × (Nat → Int)), (l.foldl nmF s).1 = s.1 ∨ ∃ o ∈ l, o.op = 19 ∧ (l.foldl nmF s).2 o.n.toNat = (l.foldl nmF s).1
  | [], s => Or.inl rfl
  | o :: r, s => by
    rw [List.foldl_cons]
    rcases nm_last r (nmF s o) with h | ⟨x, hx, h1, h2⟩
    · by_cases e : o.op = 19
      · by_cases hr : ∃ x ∈ r, x.op = 19
        · exfalso
          obtain ⟨x, hx, hxe⟩ := hr
          rw [nm_count] at h
          have hgt : ∀ (l : List Op3) (a : Int), (∃ x ∈ l, x.op = 19) → a < l.foldl (fun n o => if o.op = 19 then n + 1 else n) a := by
            intro l
            induction l with
            | nil => intro a ⟨x, hx, _⟩; cases hx
            | cons y q ih =>
              intro a hy
              have hmono : ∀ (l : List Op3) (a : Int), a ≤ l.foldl (fun n o => if o.op = 19 then n + 1 else n) a := by
                intro l
                induction l with
                | nil => intro a; exact Int.le_refl _
                | cons z t iz => intro a; rw [List.foldl_cons]; refine Int.le_trans ?_ (iz _); split <;> omega
              rw [List.foldl_cons]
              by_cases hy19 : y.op = 19
              · rw [if_pos hy19]
                have := hmono q (a + 1); omega
              · rw [if_neg hy19]
                refine ih a ?_
                obtain ⟨x, hx, hxe⟩ := hy
                rcases List.mem_cons.1 hx with rfl | hx
                · exact absurd hxe hy19
                · exact ⟨x, hx, hxe⟩
          have := hgt r (nmF s o).1 ⟨x, hx, hxe⟩
          omega
        · have hno : ∀ x ∈ r, ¬ x.op = 19 := fun x hx he => hr ⟨x, hx, he⟩
          have hid : ∀ (l : List Op3) (s : Int × (Nat → Int)), (∀ x ∈ l, ¬ x.op = 19) → l.foldl nmF s = s := by
            intro l
            induction l with
            | nil => intro s _; rfl
            | cons y q ih =>
              intro s hy
              rw [List.foldl_cons, show nmF s y = s from by unfold nmF; rw [if_neg (hy y List.mem_cons_self)]]
              exact ih s (fun x hx => hy x (List.mem_cons_of_mem _ hx))
          refine Or.inr ⟨o, List.mem_cons_self, e, ?_⟩
          rw [hid r _ hno]
          unfold nmF
          rw [if_pos e]
          simp [upd]
      · refine Or.inl ?_
        rw [h]
        unfold nmF
        rw [if_neg e]
    · exact Or.inr ⟨x, List.mem_cons_of_mem _ hx, h1, h2⟩
/-- **Valid code, its labels numbered anew, is valid.** -/
theorem renC_ok {c : Cod} (h : exE c = 0) : exE (renC c) = 0 := by
  have hlim := ex_lim h
  obtain ⟨lb, hlb, hok⟩ := instr_ok hlim.2
  have h20 := lim_ok hlim.1
  have hall : limB c = true ∧ (qtb c.name && areasB c.data && entB c && instrB c) = true ∧ (casB c.ops && procB c.ops && labB c) = true ∧ (depB c.ops && takeB c.ops) = true := by
    unfold exE at h
    cases h1 : limB c with
    | false => rw [h1] at h; simp at h
    | true =>
      rw [h1] at h
      cases h2 : (qtb c.name && areasB c.data && entB c && instrB c) with
      | false => rw [h2] at h; simp at h
      | true =>
        rw [h2] at h
        cases h3 : (casB c.ops && procB c.ops && labB c) with
        | false => rw [h3] at h; simp at h
        | true =>
          rw [h3] at h
          cases h4 : (depB c.ops && takeB c.ops) with
          | false => rw [h4] at h; simp at h
          | true => exact ⟨rfl, rfl, rfl, rfl⟩
  obtain ⟨H1, H2, H3, H4⟩ := hall
  simp only [Bool.and_eq_true] at H2 H3 H4
  obtain ⟨⟨⟨q1, q2⟩, q3⟩, q4⟩ := H2
  obtain ⟨⟨p1, p2⟩, p3⟩ := H3
  obtain ⟨d1, d2⟩ := H4
  have NM := nmL_ok c.ops
  obtain ⟨f, hf⟩ : ∃ f, f = (fun x : Int => (nmL c.ops).2 x.toNat) := ⟨_, rfl⟩
  have hren : renC c = ⟨c.name, c.data, c.ops.map (reO f), c.gl, c.procs, (nmL c.ops).1⟩ := by rw [hf]; rfl
  have hrng : ∀ x : Int, Lab c.ops x.toNat → 1 ≤ f x ∧ f x ≤ (nmL c.ops).1 := fun x hx => by rw [hf]; exact NM.rng _ hx
  have hcg : ∀ x y : Int, x.toNat = y.toNat → f x = f y := fun x y e => by rw [hf]; simp only; rw [e]
  have hinj : ∀ x y : Int, Lab c.ops x.toNat → Lab c.ops y.toNat → (f x).toNat = (f y).toNat → x.toNat = y.toNat := fun x y hx hy e => by
    have a1 := hrng x hx
    have a2 := hrng y hy
    refine NM.inj _ _ hx hy ?_
    have : f x = f y := by omega
    rw [hf] at this; exact this
  have hself : ∀ o ∈ c.ops, o.op = 19 → Lab c.ops o.n.toNat := fun o ho e => ⟨o, ho, e, rfl⟩
  have hcnt : (nmL c.ops).1 = countI c.ops 19 := nmL_count c.ops
  have hl20 : max c.labels (countI c.ops 19) ≤ 20000 := by
    have := H1
    simp only [limB, Bool.and_eq_true, decide_eq_true_eq] at this
    exact this.1.2
  -- homes
  have hnamed : ∀ o ∈ c.ops, ∀ x, labO o = some x → Lab c.ops x.toNat := by
    unfold labB at p3
    cases hh : homeL (fun _ => 0) 0 c.ops with
    | none => rw [hh] at p3; exact absurd p3 (by simp)
    | some gq =>
      obtain ⟨g, q⟩ := gq
      rw [hh] at p3
      simp only at p3
      have hg : ∀ k, g k ≠ 0 → Lab c.ops k := fun k hk => (home_from _ _ _ _ _ hh k hk).elim (fun e => absurd rfl e) id
      unfold procB at p2
      cases hr : runS prF (0, false) c.ops with
      | none => rw [hr] at p2; exact absurd p2 (by simp)
      | some z => exact named_lab hg c.ops 0 false q (Int.le_refl 0) (fun e => absurd rfl e) (by rw [hr]; rfl) p3
  have hlab : labB (renC c) = true := by
    unfold labB at p3 ⊢
    have hr := home_re (Lab c.ops) f hinj hcg c.ops (fun _ => 0) (fun _ => 0) 0 hself (fun _ _ => rfl)
    rw [hren]
    simp only
    cases hh : homeL (fun _ => 0) 0 c.ops with
    | none => rw [hh] at p3; exact absurd p3 (by simp)
    | some gq =>
      obtain ⟨g, q⟩ := gq
      rw [hh] at p3 hr
      simp only at p3 hr
      obtain ⟨g', e', hg'⟩ := hr
      rw [e']
      simp only
      rw [hm_re f (Lab c.ops) g g' hg' c.ops q hnamed]
      exact p3
  have htake : takeB (renC c).ops = true := by
    rw [hren]
    simp only
    unfold takeB at d2 ⊢
    rw [tk_re f (Lab c.ops) (takesL c.ops) (takesL (c.ops.map (reO f))) (fun x hx => (takes_re f (Lab c.ops) hinj hcg c.ops hself).2 x hx) c.ops false hnamed]
    exact d2
  have hins : instrB (renC c) = true := by
    rw [hren]
    simp only [instrB, Bool.and_eq_true, decide_eq_true_eq] at q4 ⊢
    refine ⟨⟨?_, ?_⟩, ?_⟩
    · rw [re_great f c.ops 24 (by decide)]; exact q4.1.1
    · refine Int.le_antisymm ?_ ?_
      · rcases nm_last c.ops (0, fun _ => 0) with e | ⟨o, ho, h1, h2⟩
        · have e2 : (nmL c.ops).1 = 0 := e
          rw [e2]; exact greatI_nn _ _
        · have e2 : (reO f o).n = (nmL c.ops).1 := by
            rw [show (reO f o).n = f o.n from by unfold reO; rw [if_pos (Or.inl h1)], hf]; exact h2
          have := great_ge (c.ops.map (reO f)) 19 0 (reO f o) (List.mem_map_of_mem ho) (by rw [reO_op]; exact h1)
          rw [e2] at this
          exact this
      · refine great_max _ 19 _ 0 NM.nn (fun y hy e => ?_)
        obtain ⟨o, ho, rfl⟩ := List.mem_map.1 hy
        rw [reO_op] at e
        rw [show (reO f o).n = f o.n from by unfold reO; rw [if_pos (Or.inl e)]]
        exact (hrng _ (hself o ho e)).2
    · rw [List.all_eq_true] at q4 ⊢
      intro y hy
      obtain ⟨o, ho, rfl⟩ := List.mem_map.1 hy
      refine ins_re f (q4.2 o ho) (fun x hx => ?_) (by omega)
      rcases hx with ⟨e, rfl⟩ | hx
      · exact hrng _ (hself o ho e)
      · exact hrng _ (hnamed o ho x hx)
  have hlimR : limB (renC c) = true := by
    have := H1
    rw [hren]
    simp only [limB, Bool.and_eq_true, decide_eq_true_eq, List.length_map, re_count] at this ⊢
    refine ⟨⟨⟨⟨this.1.1.1.1, this.1.1.1.2⟩, this.1.1.2⟩, ?_⟩, this.2⟩
    rw [hcnt]; omega
  have e1 : entB (renC c) = true := q3
  have e2 : casB (renC c).ops = true := by rw [hren]; exact (re_cas f c.ops).trans p1
  have e3 : procB (renC c).ops = true := by rw [hren]; exact (re_proc f c.ops).trans p2
  have e4 : depB (renC c).ops = true := by rw [hren]; exact (re_dep f c.ops).trans d1
  have e5 : qtb (renC c).name = true := q1
  have e6 : areasB (renC c).data = true := q2
  unfold exE
  rw [hlimR, e5, e6, e1, hins, e2, e3, hlab, e4, htake]
  rfl
end Go.Proofs.Ytbhhjbnobcgfeaa
