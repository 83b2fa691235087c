/- Labels numbered anew twice are numbered anew once. Nothing here speaks of a program. -/
import Derived.Test.YtbhhjbnobcgfeaaRU
namespace Go.Proofs.Ytbhhjbnobcgfeaa
set_option linter.unusedVariables false
set_option linter.unusedSimpArgs false

theorem home_fresh : ∀ (l : List Op3) (h : Nat → Int) (p : Int) (r : (Nat → Int) × Int), homeL h p l = some r → ∀ k, h k ≠ 0 → ∀ o ∈ l, o.op = 19 → o.n.toNat ≠ k
  | [], _, _, _, _, _, _, o, ho, _ => by cases ho
  | o :: t, h, p, r, e, k, hk, y, hy, hy19 => by
    rw [home_cons] at e
    by_cases h24 : o.op = 24
    · rw [if_pos h24] at e
      rcases List.mem_cons.1 hy with rfl | hy
      · omega
      · exact home_fresh t h o.n r e k hk y hy hy19
    · rw [if_neg h24] at e
      by_cases h19 : o.op = 19
      · rw [if_pos h19] at e
        by_cases hc : h o.n.toNat = 0 ∧ nextB t = true
        · rw [if_pos hc] at e
          have hne : o.n.toNat ≠ k := fun hh => hk (by rw [← hh]; exact hc.1)
          rcases List.mem_cons.1 hy with rfl | hy
          · exact hne
          · exact home_fresh t _ p r e k (by unfold upd; rw [if_neg (fun hh => hne hh.symm)]; exact hk) y hy hy19
        · rw [if_neg hc] at e; exact absurd e (by simp)
      · rw [if_neg h19] at e
        rcases List.mem_cons.1 hy with rfl | hy
        · exact absurd hy19 h19
        · exact home_fresh t h p r e k hk y hy hy19
/-- Each label is there once. -/
def OnceL : List Op3 → Prop
  | [] => True
  | o :: r => (o.op = 19 → ∀ x ∈ r, x.op = 19 → x.n.toNat ≠ o.n.toNat) ∧ OnceL r
theorem once_of : ∀ (l : List Op3) (h : Nat → Int) (p : Int) (r : (Nat → Int) × Int) (s : Int) (on : Bool), 0 ≤ s → (s ≠ 0 → p = s) → (runS prF (s, on) l).isSome = true → homeL h p l = some r → OnceL l
  | [], _, _, _, _, _, _, _, _, _ => trivial
  | o :: t, h, p, r, s, on, hs, hp, h1, e => by
    rw [runS] at h1
    rw [home_cons] at e
    cases e1 : prF (s, on) o with
    | none => rw [e1] at h1; exact absurd h1 (by simp)
    | some s2 =>
      obtain ⟨s2, on2⟩ := s2
      rw [e1] at h1
      simp only at h1
      unfold prF at e1
      simp only at e1
      by_cases h24 : o.op = 24
      · rw [if_pos h24] at e1 e
        split at e1
        · rename_i hc
          injection e1 with e1; injection e1 with e3 e4
          exact ⟨fun hh => by omega, once_of t h o.n r s2 on2 (by omega) (fun _ => by omega) h1 e⟩
        · exact absurd e1 (by simp)
      · rw [if_neg h24] at e1 e
        split at e1
        · exact absurd e1 (by simp)
        · rename_i hs0
          injection e1 with e1; injection e1 with e3 e4
          subst e3
          have hps := hp hs0
          by_cases h19 : o.op = 19
          · rw [if_pos h19] at e
            by_cases hc : h o.n.toNat = 0 ∧ nextB t = true
            · rw [if_pos hc] at e
              exact ⟨fun _ => home_fresh t _ p r e o.n.toNat (by unfold upd; rw [if_pos rfl]; omega), once_of t _ p r s on2 hs (fun _ => hps) h1 e⟩
            · rw [if_neg hc] at e; exact absurd e (by simp)
          · rw [if_neg h19] at e
            exact ⟨fun hh => absurd hh h19, once_of t h p r s on2 hs (fun _ => hps) h1 e⟩
theorem nm_keep : ∀ (l : List Op3) (s : Int × (Nat → Int)) (k : Nat), (∀ o ∈ l, o.op = 19 → o.n.toNat ≠ k) → (l.foldl nmF s).2 k = s.2 k
  | [], _, _, _ => rfl
  | o :: r, s, k, h => by
    rw [List.foldl_cons, nm_keep r _ k (fun x hx => h x (List.mem_cons_of_mem _ hx))]
    unfold nmF
    by_cases e : o.op = 19
    · rw [if_pos e]
      have := h o List.mem_cons_self e
      simp only [upd]
      rw [if_neg (fun hh => this hh.symm)]
    · rw [if_neg e]
/-- What a label's new number is: one more than the labels ahead of it. -/
theorem nm_head {o : Op3} {r : List Op3} (s : Int × (Nat → Int)) (h : OnceL (o :: r)) (e : o.op = 19) : ((o :: r).foldl nmF s).2 o.n.toNat = s.1 + 1 := by
  rw [List.foldl_cons, nm_keep r _ _ (h.1 e)]
  unfold nmF
  rw [if_pos e]
  simp [upd]
theorem nm_re (f : Int → Int) (L : Nat → Prop) (hinj : ∀ x y : Int, L x.toNat → L y.toNat → (f x).toNat = (f y).toNat → x.toNat = y.toNat) :
    ∀ (l : List Op3) (s s' : Int × (Nat → Int)), s.1 = s'.1 → OnceL l → (∀ o ∈ l, o.op = 19 → L o.n.toNat) → (∀ o ∈ l, o.op = 19 → f o.n = (l.foldl nmF s).2 o.n.toNat) →
      ∀ o ∈ l, o.op = 19 → ((l.map (reO f)).foldl nmF s').2 (f o.n).toNat = f o.n
  | [], _, _, _, _, _, _, o, ho, _ => by cases ho
  | o :: r, s, s', hss, ho, hl, hf, y, hy, hy19 => by
    have hstep : (nmF s o).1 = (nmF s' (reO f o)).1 := by
      unfold nmF
      rw [reO_op]
      by_cases e : o.op = 19
      · rw [if_pos e, if_pos e, hss]
      · rw [if_neg e, if_neg e, hss]
    rw [List.map_cons, List.foldl_cons]
    rcases List.mem_cons.1 hy with rfl | hy
    · have hn : (reO f y).n = f y.n := by unfold reO; rw [if_pos (Or.inl hy19)]
      rw [nm_keep _ _ _ (fun z hz hz19 => ?_)]
      · have h1 := hf y List.mem_cons_self hy19
        rw [nm_head s ho hy19] at h1
        unfold nmF
        rw [reO_op, if_pos hy19, hn, h1]
        simp only [upd, if_true]
        rw [hss]
      · obtain ⟨x, hx, rfl⟩ := List.mem_map.1 hz
        rw [reO_op] at hz19
        rw [show (reO f x).n = f x.n from by unfold reO; rw [if_pos (Or.inl hz19)]]
        intro e
        exact ho.1 hy19 x hx hz19 (hinj x.n y.n (hl x (List.mem_cons_of_mem _ hx) hz19) (hl y List.mem_cons_self hy19) e)
    · exact nm_re f L hinj r (nmF s o) (nmF s' (reO f o)) hstep ho.2 (fun x hx => hl x (List.mem_cons_of_mem _ hx)) (fun x hx hx19 => hf x (List.mem_cons_of_mem _ hx) hx19) y hy hy19
theorem reO_reO (f f' : Int → Int) (o : Op3) (h : ∀ x, (o.op = 19 ∧ o.n = x ∨ labO o = some x) → f' (f x) = f x) : reO f' (reO f o) = reO f o := by
  obtain ⟨op, n, m⟩ := o
  by_cases hA : op = 19 ∨ op = 20 ∨ op = 21 ∨ op = 22 ∨ op = 27 ∨ op = 29
  · have e : reO f ⟨op, n, m⟩ = ⟨op, f n, m⟩ := by unfold reO; rw [if_pos hA]
    rw [e]
    have e2 : reO f' ⟨op, f n, m⟩ = ⟨op, f' (f n), m⟩ := by unfold reO; rw [if_pos hA]
    rw [e2, h n (by
      rcases hA with hA | hA
      · exact Or.inl ⟨hA, rfl⟩
      · exact Or.inr (by unfold labO; rw [if_pos hA]))]
  · by_cases hB : op = 30
    · have e : reO f ⟨op, n, m⟩ = ⟨op, n, f m⟩ := by unfold reO; rw [if_neg hA, if_pos hB]
      have e2 : reO f' ⟨op, n, f m⟩ = ⟨op, n, f' (f m)⟩ := by unfold reO; rw [if_neg hA, if_pos hB]
      rw [e, e2, h m (Or.inr (by simp [labO, hB]))]
    · have e : reO f ⟨op, n, m⟩ = ⟨op, n, m⟩ := by unfold reO; rw [if_neg hA, if_neg hB]
      have e2 : reO f' ⟨op, n, m⟩ = ⟨op, n, m⟩ := by unfold reO; rw [if_neg hA, if_neg hB]
      rw [e, e2]
theorem ex_parts {c : Cod} (h : exE c = 0) : procB c.ops = true ∧ labB c = true := by
  unfold exE at h
  cases h1 : limB c with
  | false => rw [h1] at h; simp at h
  | true =>
    rw [h1] at h
    cases h2 : (qtb c.name && areasB c.data && entB c && instrB c) with
    | false => rw [h2] at h; simp at h
    | true =>
      rw [h2] at h
      cases h3 : (casB c.ops && procB c.ops && labB c) with
      | false => rw [h3] at h; simp at h
      | true =>
        simp only [Bool.and_eq_true] at h3
        exact ⟨h3.1.2, h3.2⟩
/-- Each label of valid code is there once, and what is named is there. -/
theorem once_ok {c : Cod} (h : exE c = 0) : OnceL c.ops ∧ ∀ o ∈ c.ops, ∀ x, labO o = some x → Lab c.ops x.toNat := by
  obtain ⟨p2, p3⟩ := ex_parts h
  unfold labB at p3
  unfold procB at p2
  cases hh : homeL (fun _ => 0) 0 c.ops with
  | none => rw [hh] at p3; exact absurd p3 (by simp)
  | some gq =>
    obtain ⟨g, q⟩ := gq
    rw [hh] at p3
    simp only at p3
    have hg : ∀ k, g k ≠ 0 → Lab c.ops k := fun k hk => (home_from _ _ _ _ _ hh k hk).elim (fun e => absurd rfl e) id
    cases hr : runS prF (0, false) c.ops with
    | none => rw [hr] at p2; exact absurd p2 (by simp)
    | some z => exact ⟨once_of c.ops _ 0 _ 0 false (Int.le_refl 0) (fun e => absurd rfl e) (by rw [hr]; rfl) hh, named_lab hg c.ops 0 false q (Int.le_refl 0) (fun e => absurd rfl e) (by rw [hr]; rfl) p3⟩
/-- **Numbering anew twice is numbering anew once.** -/
theorem renC_twice {c : Cod} (h : exE c = 0) : renC (renC c) = renC c := by
  obtain ⟨ho, hnamed⟩ := once_ok h
  have NM := nmL_ok c.ops
  obtain ⟨f, hf⟩ : ∃ f, f = (fun x : Int => (nmL c.ops).2 x.toNat) := ⟨_, rfl⟩
  have hren : renC c = ⟨c.name, c.data, c.ops.map (reO f), c.gl, c.procs, (nmL c.ops).1⟩ := by rw [hf]; rfl
  have hrng : ∀ x : Int, Lab c.ops x.toNat → 1 ≤ f x ∧ f x ≤ (nmL c.ops).1 := fun x hx => by rw [hf]; exact NM.rng _ hx
  have hinj : ∀ x y : Int, Lab c.ops x.toNat → Lab c.ops y.toNat → (f x).toNat = (f y).toNat → x.toNat = y.toNat := fun x y hx hy e => by
    have a1 := hrng x hx
    have a2 := hrng y hy
    refine NM.inj _ _ hx hy ?_
    have : f x = f y := by omega
    rw [hf] at this; exact this
  have hself : ∀ o ∈ c.ops, o.op = 19 → Lab c.ops o.n.toNat := fun o ho e => ⟨o, ho, e, rfl⟩
  have key := nm_re f (Lab c.ops) hinj c.ops (0, fun _ => 0) (0, fun _ => 0) rfl ho hself (fun o _ _ => by rw [hf]; rfl)
  have hfix : ∀ x : Int, Lab c.ops x.toNat → (nmL (c.ops.map (reO f))).2 (f x).toNat = f x := fun x hx => by
    obtain ⟨o, hoo, e, hx2⟩ := hx
    have := key o hoo e
    have e2 : f o.n = f x := by rw [hf]; simp only; rw [hx2]
    rw [e2] at this
    exact this
  have e1 : (nmL (c.ops.map (reO f))).1 = (nmL c.ops).1 := by rw [nmL_count, nmL_count, re_count]
  have e2 : (c.ops.map (reO f)).map (reO (fun x => (nmL (c.ops.map (reO f))).2 x.toNat)) = c.ops.map (reO f) := by
    rw [List.map_map]
    refine List.map_congr_left (fun o hoo => ?_)
    refine reO_reO f _ o (fun x hx => ?_)
    rcases hx with ⟨e, rfl⟩ | hx
    · exact hfix _ (hself o hoo e)
    · exact hfix _ (hnamed o hoo x hx)
  rw [hren]
  show (⟨c.name, c.data, _, c.gl, c.procs, _⟩ : Cod) = _
  simp only
  rw [e1]
  congr 1
end Go.Proofs.Ytbhhjbnobcgfeaa
