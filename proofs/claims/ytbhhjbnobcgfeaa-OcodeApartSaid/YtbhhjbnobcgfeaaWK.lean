/- Code without a procedure is valid. Nothing here speaks of a program. -/
import Derived.Test.YtbhhjbnobcgfeaaWJ
namespace Go.Proofs.Ytbhhjbnobcgfeaa
set_option linter.unusedVariables false
set_option linter.unusedSimpArgs false

theorem ex_all {c : Cod} (h : exE c = 0) : limB c = true ∧ (qtb c.name = true ∧ areasB c.data = true ∧ entB c = true ∧ instrB c = true) ∧ (casB c.ops = true ∧ procB c.ops = true ∧ labB c = true) ∧ depB c.ops = true ∧ takeB c.ops = true := by
  unfold exE at h
  cases h1 : limB c with
  | false => rw [h1] at h; simp at h
  | true =>
    rw [h1] at h
    cases h2 : (qtb c.name && areasB c.data && entB c && instrB c) with
    | false => rw [h2] at h; simp at h
    | true =>
      rw [h2] at h
      cases h3 : (casB c.ops && procB c.ops && labB c) with
      | false => rw [h3] at h; simp at h
      | true =>
        rw [h3] at h
        cases h4 : (depB c.ops && takeB c.ops) with
        | false => rw [h4] at h; simp at h
        | true =>
          simp only [Bool.and_eq_true] at h2 h3 h4
          exact ⟨rfl, ⟨h2.1.1.1, h2.1.1.2, h2.1.2, h2.2⟩, ⟨h3.1.1, h3.1.2, h3.2⟩, h4⟩
theorem ex_mk {c : Cod} (h1 : limB c = true) (h2 : qtb c.name = true ∧ areasB c.data = true ∧ entB c = true ∧ instrB c = true) (h3 : casB c.ops = true ∧ procB c.ops = true ∧ labB c = true) (h4 : depB c.ops = true ∧ takeB c.ops = true) : exE c = 0 := by
  unfold exE
  rw [h1, h2.1, h2.2.1, h2.2.2.1, h2.2.2.2, h3.1, h3.2.1, h3.2.2, h4.1, h4.2]
  rfl
theorem count_cut (p k : Int) : ∀ (l : List Op3) (q a b : Int), a ≤ b → (cutL p q l).foldl (fun n o => if o.op = k then n + 1 else n) a ≤ l.foldl (fun n o => if o.op = k then n + 1 else n) b
  | [], q, a, b, h => by rw [cutL]; exact h
  | o :: r, q, a, b, h => by
    rw [cutL]
    obtain ⟨q2, hq2⟩ : ∃ y, y = (if o.op = 24 then o.n else q) := ⟨_, rfl⟩
    rw [← hq2, List.foldl_cons]
    by_cases e : q2 = p
    · rw [if_pos e]
      refine count_cut p k r q2 a _ ?_
      by_cases hk : o.op = k
      · rw [if_pos hk]; omega
      · rw [if_neg hk]; exact h
    · rw [if_neg e, List.foldl_cons]
      refine count_cut p k r q2 _ _ ?_
      rw [cutO_op]
      by_cases hk : o.op = k
      · rw [if_pos hk, if_pos hk]; omega
      · rw [if_neg hk, if_neg hk]; exact h
theorem great_cut (p : Int) : ∀ (l : List Op3) (q a b : Int), a ≤ b → (cutL p q l).foldl (fun n o => if o.op = 19 then max n o.n else n) a ≤ l.foldl (fun n o => if o.op = 19 then max n o.n else n) b
  | [], q, a, b, h => by rw [cutL]; exact h
  | o :: r, q, a, b, h => by
    rw [cutL]
    obtain ⟨q2, hq2⟩ : ∃ y, y = (if o.op = 24 then o.n else q) := ⟨_, rfl⟩
    rw [← hq2, List.foldl_cons]
    by_cases e : q2 = p
    · rw [if_pos e]
      refine great_cut p r q2 a _ ?_
      by_cases hk : o.op = 19
      · rw [if_pos hk]; omega
      · rw [if_neg hk]; exact h
    · rw [if_neg e, List.foldl_cons]
      refine great_cut p r q2 _ _ ?_
      rw [cutO_op]
      by_cases hk : o.op = 19
      · rw [if_pos hk, if_pos hk, cutO_n p o (by omega)]; omega
      · rw [if_neg hk, if_neg hk]; exact h
theorem great_geC (k : Int) : ∀ (l : List Op3) (a : Int) (x : Op3), x ∈ l → x.op = k → x.n ≤ l.foldl (fun n o => if o.op = k then max n o.n else n) a
  | o :: r, a, x, hx, e => by
    rw [List.foldl_cons]
    rcases List.mem_cons.1 hx with rfl | hx
    · rw [if_pos e]
      have := great_mono k r (max a x.n)
      omega
    · exact great_geC k r _ x hx e
theorem hm_start (g : Nat → Int) (a b : Int) : ∀ (l : List Op3), (∀ o ∈ l.head?, o.op = 24) → (runS (hmF g) a l).isSome = (runS (hmF g) b l).isSome
  | [], _ => rfl
  | o :: r, h => by
    have h24 : o.op = 24 := h o rfl
    rw [runS, runS]
    have : hmF g a o = hmF g b o := by rw [hmF_eq, hmF_eq, if_pos h24, if_pos h24]
    rw [this]
theorem proc_head {l : List Op3} {on : Bool} {z : Int × Bool} (h : runS prF (0, on) l = some z) : ∀ o ∈ l.head?, o.op = 24 := by
  intro o ho
  cases l with
  | nil => cases ho
  | cons y r =>
    obtain rfl : y = o := by simpa using ho
    rw [runS] at h
    by_cases e : y.op = 24
    · exact e
    · have : prF (0, on) y = none := by unfold prF; rw [if_neg e, if_pos rfl]
      rw [this] at h
      exact absurd h (by simp)
theorem ins_cut {nd : Nat} {procs labels labels' p : Int} {o : Op3} (h1 : 1 ≤ p) (h2 : p ≤ procs) (h3 : 2 ≤ procs) (h : insB nd procs labels o = true) (hen : o.op = 24 → ¬ o.n = p) (h19 : o.op = 19 → o.n ≤ labels') (hlab : ∀ x, labO o = some x → x ≤ labels') : insB nd (procs - 1) labels' (cutO p o) = true := by
  unfold insB at h ⊢
  simp only [Bool.and_eq_true] at h ⊢
  obtain ⟨⟨⟨b1, b2⟩, b3⟩, b4⟩ := h
  by_cases hA : o.op = 24 ∨ o.op = 11
  · have hn : 1 ≤ o.n ∧ o.n ≤ procs := by
      have : inI o.n 1 procs = true := by
        rcases hA with e | e
        · simpa [firstB, e] using b3
        · simpa [firstB, e] using b3
      exact inI_iff.1 this
    have hn2 : 1 ≤ (cutO p o).n ∧ (cutO p o).n ≤ procs - 1 ∧ (cutO p o).n ≤ o.n := by
      unfold cutO
      by_cases h4 : p < o.n
      · rw [if_pos ⟨hA, h4⟩]; simp only; omega
      · rw [if_neg (fun hh => h4 hh.2)]
        by_cases h5 : o.op = 11 ∧ o.n = p
        · rw [if_pos h5]; simp only; omega
        · rw [if_neg h5]
          have : ¬ o.n = p := fun hh => by
            rcases hA with e | e
            · exact hen e hh
            · exact h5 ⟨e, hh⟩
          omega
    refine ⟨⟨⟨?_, by rw [cutO_m]; exact b2⟩, ?_⟩, ?_⟩
    · unfold beyond at b1 ⊢
      simp only [Bool.not_eq_true', Bool.or_eq_false_iff, decide_eq_false_iff_not] at b1 ⊢
      omega
    · have hi : inI (cutO p o).n 1 (procs - 1) = true := inI_iff.2 ⟨hn2.1, hn2.2.1⟩
      unfold firstB
      rw [cutO_op]
      rcases hA with e | e
      · simpa [e] using hi
      · simpa [e] using hi
    · unfold secondB at b4 ⊢
      rw [cutO_op, cutO_m]
      rcases hA with e | e
      · simpa [e] using b4
      · simpa [e] using b4
  · have e : (cutO p o) = o := by
      unfold cutO
      rw [if_neg (fun hh => hA hh.1), if_neg (fun hh => hA (Or.inr hh.1))]
    rw [e]
    refine ⟨⟨⟨b1, b2⟩, ?_⟩, ?_⟩
    · unfold firstB at b3 ⊢
      by_cases c1 : o.op = 1 ∨ o.op = 30
      · rw [if_pos c1]
      · rw [if_neg c1] at b3 ⊢
        by_cases c2 : o.op = 2 ∨ o.op = 3 ∨ o.op = 4 ∨ o.op = 18 ∨ o.op = 23 ∨ o.op = 28
        · rw [if_pos c2] at b3 ⊢; exact b3
        · rw [if_neg c2] at b3 ⊢
          by_cases c3 : o.op = 5 ∨ o.op = 6 ∨ o.op = 7
          · rw [if_pos c3] at b3 ⊢; exact b3
          · rw [if_neg c3] at b3 ⊢
            by_cases c4 : o.op = 8 ∨ o.op = 9 ∨ o.op = 10
            · rw [if_pos c4] at b3 ⊢; exact b3
            · rw [if_neg c4] at b3 ⊢
              have c5 : ¬ (o.op = 11 ∨ o.op = 24) := fun hh => hA hh.symm
              rw [if_neg c5] at b3 ⊢
              by_cases c6 : o.op = 19 ∨ o.op = 20 ∨ o.op = 21 ∨ o.op = 22 ∨ o.op = 27 ∨ o.op = 29
              · rw [if_pos c6] at b3 ⊢
                have hb := inI_iff.1 b3
                refine inI_iff.2 ⟨hb.1, ?_⟩
                by_cases e19 : o.op = 19
                · exact h19 e19
                · exact hlab o.n (by unfold labO; rw [if_pos (by omega)])
              · rw [if_neg c6] at b3 ⊢; exact b3
    · unfold secondB at b4 ⊢
      by_cases c1 : o.op = 24
      · rw [if_pos c1] at b4 ⊢; exact b4
      · rw [if_neg c1] at b4 ⊢
        by_cases c2 : o.op = 29
        · rw [if_pos c2] at b4 ⊢; exact b4
        · rw [if_neg c2] at b4 ⊢
          by_cases c3 : o.op = 30
          · rw [if_pos c3] at b4 ⊢
            exact inI_iff.2 ⟨(inI_iff.1 b4).1, hlab o.m (by unfold labO; rw [if_neg (by omega), if_pos c3])⟩
          · rw [if_neg c3] at b4 ⊢; exact b4
/-- **Valid code without a procedure is valid code.** -/
theorem cut_ok {c : Cod} {p : Int} (h : exE c = 0) (h1 : 1 ≤ p) (h2 : p ≤ c.procs) (h3 : 2 ≤ c.procs) : exE (cutC c p) = 0 := by
  obtain ⟨a1, ⟨a2, a3, a4, a5⟩, ⟨a6, a7, a8⟩, a9, a10⟩ := ex_all h
  unfold instrB at a5
  simp only [Bool.and_eq_true, decide_eq_true_eq] at a5
  obtain ⟨⟨i1, i2⟩, i3⟩ := a5
  rw [List.all_eq_true] at i3
  have hd0 : dn p 0 = 0 := by unfold dn; rw [if_neg (by omega)]
  -- procedures in order
  obtain ⟨K, hK⟩ : ∃ K, runS prF (0, false) c.ops = some (K, false) := by
    unfold procB at a7
    cases hr : runS prF (0, false) c.ops with
    | none => rw [hr] at a7; exact absurd a7 (by simp)
    | some z =>
      obtain ⟨K, b⟩ := z
      rw [hr] at a7
      cases b with
      | false => exact ⟨K, rfl⟩
      | true => exact absurd a7 (by simp)
  have hKp : K = c.procs := by rw [i1]; exact (great_run c.ops 0 false K false hK).symm
  have hpr := proc_cut p h1 c.ops 0 false false K (Int.le_refl 0) (fun _ => rfl) (fun _ => rfl) hK
  rw [hd0] at hpr
  have hdK : dn p K = c.procs - 1 := by unfold dn; rw [if_pos (by omega), hKp]
  have hgr : greatI (cutL p 0 c.ops) 24 = c.procs - 1 := by rw [← hdK]; exact great_run _ 0 false _ false hpr
  -- labels
  obtain ⟨g, q2, hg, hm⟩ : ∃ g q2, homeL (fun _ => 0) 0 c.ops = some (g, q2) ∧ (runS (hmF g) q2 c.ops).isSome = true := by
    unfold labB at a8
    cases hh : homeL (fun _ => 0) 0 c.ops with
    | none => rw [hh] at a8; exact absurd a8 (by simp)
    | some z => obtain ⟨g, q2⟩ := z; rw [hh] at a8; exact ⟨g, q2, rfl, a8⟩
  have hm0' : (runS (hmF g) 0 c.ops).isSome = true := by
    cases hl : c.ops with
    | nil => rfl
    | cons o r => rw [← hl, hm_start g 0 q2 c.ops (proc_head hK)]; exact hm
  obtain ⟨g', q2', hg', hgg⟩ := home_cut p h1 c.ops (fun _ => 0) (fun _ => 0) 0 0 g q2 (fun k => (hm0_zero h1).symm) (fun _ => hd0.symm) hg
  have hm1 := hm_cut p g g' hgg c.ops 0 0 (fun _ => hd0.symm) hm0'
  have hm2 : (runS (hmF g') q2' (cutL p 0 c.ops)).isSome = true := by
    cases hl : cutL p 0 c.ops with
    | nil => rfl
    | cons o r => rw [← hl, hm_start g' q2' 0 _ (proc_head hpr)]; exact hm1
  have hlabs : ∀ o ∈ cutL p 0 c.ops, ∀ x, labO o = some x → Lab (cutL p 0 c.ops) x.toNat :=
    named_lab (fun k hk => (home_from _ _ _ _ _ hg' k hk).elim (fun e => absurd rfl e) id) _ 0 false 0 (Int.le_refl 0) (fun e => absurd rfl e) (by rw [hpr]; rfl) hm1
  have hins : ∀ x ∈ cutL p 0 c.ops, insB c.data.length (c.procs - 1) (greatI (cutL p 0 c.ops) 19) x = true := fun x hx => by
    obtain ⟨o, ho, rfl, hen⟩ := cutL_mem p c.ops 0 x hx
    have hio := i3 o ho
    refine ins_cut h1 h2 h3 hio hen (fun e => ?_) (fun y hy => ?_)
    · have := great_geC 19 (cutL p 0 c.ops) 0 _ hx (by rw [cutO_op]; exact e)
      rw [cutO_n p o (by omega)] at this
      exact this
    · obtain ⟨z, hz, hz19, hzy⟩ := hlabs _ hx y (by rw [cutO_lab]; exact hy)
      obtain ⟨o2, ho2, rfl, _⟩ := cutL_mem p c.ops 0 z hz
      have h19 : o2.op = 19 := by rw [cutO_op] at hz19; exact hz19
      have hb := great_geC 19 (cutL p 0 c.ops) 0 _ hz hz19
      have hz1 : 1 ≤ o2.n := by
        have := (ins_one (lb := c.labels.toNat) (x := o2) (by have := i3 o2 ho2; rw [show c.labels = (c.labels.toNat : Int) from by have := greatI_nn c.ops 19; omega] at this; exact this)).1 h19
        exact this.1
      rw [cutO_n p o2 (by omega)] at hb hzy
      have : y = o2.n := by
        by_cases hy0 : 0 ≤ y
        · omega
        · exfalso; omega
      rw [this]; exact hb
  have hmm : ∀ x ∈ c.ops, x.op = 29 → 0 ≤ x.m := fun x hx e => by
    have := i3 x hx
    unfold insB at this
    simp only [Bool.and_eq_true] at this
    have h4 := this.2
    unfold secondB at h4
    rw [if_neg (by omega), if_pos e] at h4
    exact (inI_iff.1 h4).1
  have hlim := lim_ok a1
  refine ex_mk ?_ ⟨a2, a3, rfl, ?_⟩ ⟨?_, ?_, ?_⟩ ⟨?_, ?_⟩
  · unfold limB at a1 ⊢
    simp only [Bool.and_eq_true, decide_eq_true_eq] at a1 ⊢
    have c1 := cutL_len p c.ops 0
    have c2 := count_cut p 24 c.ops 0 0 0 (Int.le_refl 0)
    have c3 := count_cut p 19 c.ops 0 0 0 (Int.le_refl 0)
    have c4 := great_cut p c.ops 0 0 0 (Int.le_refl 0)
    have e1 : (cutC c p).ops.length = (cutL p 0 c.ops).length := rfl
    have e2 : (cutC c p).data = c.data := rfl
    have e3 : (cutC c p).procs = c.procs - 1 := rfl
    have e4 : (cutC c p).labels = greatI (cutL p 0 c.ops) 19 := rfl
    have e5 : (cutC c p).ops = cutL p 0 c.ops := rfl
    rw [e2, e3, e4, e5]
    unfold countI greatI at *
    refine ⟨⟨⟨⟨by omega, a1.1.1.1.2⟩, by omega⟩, by omega⟩, a1.2⟩
  · unfold instrB
    simp only [Bool.and_eq_true, decide_eq_true_eq]
    refine ⟨⟨hgr.symm, rfl⟩, ?_⟩
    rw [List.all_eq_true]
    exact hins
  · unfold casB at a6 ⊢
    rw [decide_eq_true_eq] at a6 ⊢
    exact cas_cut p c.ops 0 0 0 hmm (Int.le_refl 0) (fun _ => rfl) (fun _ => rfl) a6
  · unfold procB
    rw [show (cutC c p).ops = cutL p 0 c.ops from rfl, hpr]
  · unfold labB
    rw [show (cutC c p).ops = cutL p 0 c.ops from rfl, hg']
    exact hm2
  · exact dep_cut p c.ops 0 (0, false) (0, false) (fun _ => rfl) a9
  · unfold takeB at a10 ⊢
    exact take_cut p g (takesL c.ops) (takesL (cutL p 0 c.ops)) (fun x hx => (lt_cut p c.ops 0).2.2 x (stay_of p h1 x c.ops _ 0 g q2 hg hx)) c.ops 0 false false (fun _ => rfl) hm0' a10
end Go.Proofs.Ytbhhjbnobcgfeaa
