/- Labels numbered anew: valid code stays valid. Nothing here speaks of a program. -/
import Derived.Test.YtbhhjbnobcgfeaaRE
namespace Go.Proofs.Ytbhhjbnobcgfeaa
set_option linter.unusedVariables false
set_option linter.unusedSimpArgs false

/-- What the new numbers are like: each label that is there has one of 1 .. the count, and no two the same. -/
structure NmOk (seen : Nat → Prop) (s : Int × (Nat → Int)) : Prop where
  nn : 0 ≤ s.1
  rng : ∀ k, seen k → 1 ≤ s.2 k ∧ s.2 k ≤ s.1
  inj : ∀ i k, seen i → seen k → s.2 i = s.2 k → i = k
theorem nm_ok : ∀ (l : List Op3) (seen : Nat → Prop) (s : Int × (Nat → Int)), NmOk seen s → NmOk (fun k => seen k ∨ ∃ o ∈ l, o.op = 19 ∧ o.n.toNat = k) (l.foldl nmF s)
  | [], seen, s, h => ⟨h.nn, fun k hk => h.rng k (hk.elim id (fun ⟨_, hx, _⟩ => by cases hx)), fun i k hi hk e => h.inj i k (hi.elim id (fun ⟨_, hx, _⟩ => by cases hx)) (hk.elim id (fun ⟨_, hx, _⟩ => by cases hx)) e⟩
  | o :: r, seen, s, h => by
    rw [List.foldl_cons]
    have hstep : NmOk (fun k => seen k ∨ (o.op = 19 ∧ o.n.toNat = k)) (nmF s o) := by
      unfold nmF
      by_cases e : o.op = 19
      · rw [if_pos e]
        have hval : ∀ k, (seen k ∨ (o.op = 19 ∧ o.n.toNat = k)) → (k = o.n.toNat ∧ upd s.2 o.n.toNat (s.1 + 1) k = s.1 + 1) ∨ (k ≠ o.n.toNat ∧ seen k ∧ upd s.2 o.n.toNat (s.1 + 1) k = s.2 k) := fun k hk => by
          by_cases hk2 : k = o.n.toNat
          · exact Or.inl ⟨hk2, by unfold upd; rw [if_pos hk2]⟩
          · refine Or.inr ⟨hk2, hk.elim id (fun hh => absurd hh.2.symm hk2), by unfold upd; rw [if_neg hk2]⟩
        have hnn := h.nn
        refine ⟨by simp only; omega, fun k hk => ?_, fun i k hi hk he => ?_⟩
        · rcases hval k hk with ⟨_, h2⟩ | ⟨_, h1, h2⟩
          · simp only [h2]; omega
          · have := h.rng k h1
            simp only [h2]; omega
        · simp only at he
          rcases hval i hi with ⟨a1, a2⟩ | ⟨a1, a2, a3⟩
          · rcases hval k hk with ⟨b1, b2⟩ | ⟨b1, b2, b3⟩
            · rw [a1, b1]
            · rw [a2, b3] at he
              have := h.rng k b2
              omega
          · rcases hval k hk with ⟨b1, b2⟩ | ⟨b1, b2, b3⟩
            · rw [a3, b2] at he
              have := h.rng i a2
              omega
            · rw [a3, b3] at he
              exact h.inj i k a2 b2 he
      · rw [if_neg e]
        refine ⟨h.nn, fun k hk => h.rng k (hk.elim id (fun hh => absurd hh.1 e)), fun i k hi hk he => h.inj i k (hi.elim id (fun hh => absurd hh.1 e)) (hk.elim id (fun hh => absurd hh.1 e)) he⟩
    have hr := nm_ok r _ _ hstep
    have conv : ∀ k, (seen k ∨ ∃ x ∈ o :: r, x.op = 19 ∧ x.n.toNat = k) → ((seen k ∨ (o.op = 19 ∧ o.n.toNat = k)) ∨ ∃ x ∈ r, x.op = 19 ∧ x.n.toNat = k) := fun k hk => by
      rcases hk with hk | ⟨x, hx, h1, h2⟩
      · exact Or.inl (Or.inl hk)
      · rcases List.mem_cons.1 hx with rfl | hx
        · exact Or.inl (Or.inr ⟨h1, h2⟩)
        · exact Or.inr ⟨x, hx, h1, h2⟩
    exact ⟨hr.nn, fun k hk => hr.rng k (conv k hk), fun i k hi hk he => hr.inj i k (conv i hi) (conv k hk) he⟩
def Lab (l : List Op3) (k : Nat) : Prop := ∃ o ∈ l, o.op = 19 ∧ o.n.toNat = k
theorem nmL_ok (l : List Op3) : NmOk (Lab l) (nmL l) := by
  have h := nm_ok l (fun _ => False) (0, fun _ => 0) ⟨Int.le_refl 0, fun k hk => hk.elim, fun i k hi _ _ => hi.elim⟩
  exact ⟨h.nn, fun k hk => h.rng k (Or.inr hk), fun i k hi hk he => h.inj i k (Or.inr hi) (Or.inr hk) he⟩
theorem home_cons (h : Nat → Int) (p : Int) (o : Op3) (r : List Op3) : homeL h p (o :: r) = if o.op = 24 then homeL h o.n r
    else if o.op = 19 then (if h o.n.toNat = 0 ∧ nextB r = true then homeL (upd h o.n.toNat p) p r else none)
    else homeL h p r := homeL_drop (l := o :: r) (j := 0) h p rfl
theorem next_re (f : Int → Int) (r : List Op3) : nextB (r.map (reO f)) = nextB r := by
  cases r with
  | nil => rfl
  | cons q s => unfold nextB; simp only [List.map_cons, reO_op]
/-- The homes go with the labels. -/
theorem home_re (L : Nat → Prop) (f : Int → Int) (hinj : ∀ x y : Int, L x.toNat → L y.toNat → (f x).toNat = (f y).toNat → x.toNat = y.toNat) (hcg : ∀ x y : Int, x.toNat = y.toNat → f x = f y) :
    ∀ (l : List Op3) (h h' : Nat → Int) (p : Int), (∀ o ∈ l, o.op = 19 → L o.n.toNat) → (∀ x : Int, L x.toNat → h' (f x).toNat = h x.toNat) →
      match homeL h p l with
      | none => homeL h' p (l.map (reO f)) = none
      | some (g, q) => ∃ g', homeL h' p (l.map (reO f)) = some (g', q) ∧ ∀ x : Int, L x.toNat → g' (f x).toNat = g x.toNat
  | [], h, h', p, _, hh => ⟨h', rfl, hh⟩
  | o :: r, h, h', p, hl, hh => by
    have hr := fun a b c => home_re L f hinj hcg r a b c (fun x hx => hl x (List.mem_cons_of_mem _ hx))
    rw [List.map_cons]
    rw [home_cons, home_cons, reO_op]
    by_cases h24 : o.op = 24
    · rw [if_pos h24, if_pos h24, reO_n f o (by omega)]
      exact hr h h' o.n hh
    · rw [if_neg h24, if_neg h24]
      by_cases h19 : o.op = 19
      · rw [if_pos h19, if_pos h19]
        have hL := hl o List.mem_cons_self h19
        have hn : (reO f o).n = f o.n := by unfold reO; rw [if_pos (Or.inl h19)]
        rw [hn, next_re, hh o.n hL]
        by_cases hc : h o.n.toNat = 0 ∧ nextB r = true
        · rw [if_pos hc, if_pos hc]
          refine hr _ _ p (fun x hx => ?_)
          unfold upd
          by_cases hxe : x.toNat = o.n.toNat
          · rw [if_pos hxe, if_pos (by rw [hcg x o.n hxe])]
          · rw [if_neg hxe, if_neg (fun e => hxe (hinj x o.n hx hL e))]
            exact hh x hx
        · rw [if_neg hc, if_neg hc]
      · rw [if_neg h19, if_neg h19]
        exact hr h h' p hh
end Go.Proofs.Ytbhhjbnobcgfeaa
