/- Code without a procedure: labels, depths, results. Nothing here speaks of a program. -/
import Derived.Test.YtbhhjbnobcgfeaaWI
namespace Go.Proofs.Ytbhhjbnobcgfeaa
set_option linter.unusedVariables false
set_option linter.unusedSimpArgs false

/-- A label's new home: 0 for those that are gone. -/
def hm0 (p v : Int) : Int := if v = p then 0 else dn p v
theorem hm0_zero {p : Int} (hp : 1 ≤ p) : hm0 p 0 = 0 := by unfold hm0 dn; rw [if_neg (by omega), if_neg (by omega)]
theorem hm0_ne {p v : Int} (h : v ≠ p) : hm0 p v = dn p v := by unfold hm0; rw [if_neg h]
theorem dn_enter {p n : Int} (h : ¬ n = p) : (if p < n then n - 1 else n) = dn p n := by
  unfold dn
  by_cases h1 : p < n
  · rw [if_pos h1, if_pos (by omega)]
  · rw [if_neg h1, if_neg (by omega)]
theorem next_cut (p : Int) {q : Int} (hq : q ≠ p) : ∀ {r : List Op3}, nextB r = true → nextB (cutL p q r) = true
  | [], h => h
  | y :: r, h => by
    have hy : followB y.op = true := h
    have h24 : ¬ y.op = 24 := by
      intro e
      rw [e] at hy
      exact absurd hy (by decide)
    rw [cutL, if_neg h24, if_neg hq]
    show followB (cutO p y).op = true
    rw [cutO_op]; exact hy
theorem home_cut (p : Int) (hp : 1 ≤ p) : ∀ (l : List Op3) (h h' : Nat → Int) (q q' : Int) (g : Nat → Int) (q2 : Int), (∀ k, h' k = hm0 p (h k)) → (q ≠ p → q' = dn p q) → homeL h q l = some (g, q2) →
    ∃ g' q2', homeL h' q' (cutL p q l) = some (g', q2') ∧ ∀ k, g' k = hm0 p (g k)
  | [], h, h', q, q', g, q2, hh, hq, e => by
    rw [homeL] at e
    injection e with e; injection e with e1 e2
    subst e1
    exact ⟨h', q', by rw [cutL, homeL], hh⟩
  | o :: r, h, h', q, q', g, q2, hh, hq, e => by
    rw [home_cons] at e
    rw [cutL]
    by_cases h24 : o.op = 24
    · rw [if_pos h24] at e ⊢
      by_cases en : o.n = p
      · rw [if_pos en]
        exact home_cut p hp r h h' o.n q' g q2 hh (fun hh => absurd en hh) e
      · rw [if_neg en, home_cons, cutO_op, if_pos h24, cutO_enter p o h24, dn_enter en]
        exact home_cut p hp r h h' o.n (dn p o.n) g q2 hh (fun _ => rfl) e
    · rw [if_neg h24] at e ⊢
      by_cases h19 : o.op = 19
      · rw [if_pos h19] at e
        by_cases hc : h o.n.toNat = 0 ∧ nextB r = true
        · rw [if_pos hc] at e
          by_cases eq : q = p
          · rw [if_pos eq]
            refine home_cut p hp r (upd h o.n.toNat q) h' q q' g q2 (fun k => ?_) hq e
            unfold upd
            by_cases ek : k = o.n.toNat
            · rw [if_pos ek, hh k, ek, hc.1, hm0_zero hp, eq]
              unfold hm0; rw [if_pos rfl]
            · rw [if_neg ek]; exact hh k
          · rw [if_neg eq, home_cons, cutO_op, if_neg h24, if_pos h19, cutO_n p o (by omega), if_pos ⟨by rw [hh, hc.1]; exact hm0_zero hp, next_cut p eq hc.2⟩]
            refine home_cut p hp r (upd h o.n.toNat q) (upd h' o.n.toNat q') q q' g q2 (fun k => ?_) hq e
            unfold upd
            by_cases ek : k = o.n.toNat
            · rw [if_pos ek, if_pos ek, hq eq, hm0_ne eq]
            · rw [if_neg ek, if_neg ek]; exact hh k
        · rw [if_neg hc] at e; exact absurd e (by simp)
      · rw [if_neg h19] at e
        by_cases eq : q = p
        · rw [if_pos eq]
          exact home_cut p hp r h h' q q' g q2 hh hq e
        · rw [if_neg eq, home_cons, cutO_op, if_neg h24, if_neg h19]
          exact home_cut p hp r h h' q q' g q2 hh hq e
theorem hmF_eq (g : Nat → Int) (q : Int) (o : Op3) : hmF g q o = match labO o with
    | none => some (if o.op = 24 then o.n else q)
    | some x => if g x.toNat = (if o.op = 24 then o.n else q) then some (if o.op = 24 then o.n else q) else none := rfl
theorem hmF_some {g : Nat → Int} {q : Int} {o : Op3} {s2 : Int} (e1 : hmF g q o = some s2) : s2 = (if o.op = 24 then o.n else q) ∧ ∀ x, labO o = some x → g x.toNat = s2 := by
  rw [hmF_eq] at e1
  obtain ⟨z, hz⟩ : ∃ z, z = (if o.op = 24 then o.n else q) := ⟨_, rfl⟩
  rw [← hz] at e1 ⊢
  cases el : labO o with
  | none => rw [el] at e1; exact ⟨(Option.some.inj e1).symm, fun x hx => by cases hx⟩
  | some y =>
    rw [el] at e1
    simp only at e1
    by_cases hc : g y.toNat = z
    · rw [if_pos hc] at e1
      have e3 := Option.some.inj e1
      exact ⟨e3.symm, fun x hx => by rw [← Option.some.inj hx, hc]; exact e3⟩
    · rw [if_neg hc] at e1; exact absurd e1 (by simp)
theorem hm_cut (p : Int) (g g' : Nat → Int) (hg : ∀ k, g' k = hm0 p (g k)) : ∀ (l : List Op3) (q q' : Int), (q ≠ p → q' = dn p q) → (runS (hmF g) q l).isSome = true → (runS (hmF g') q' (cutL p q l)).isSome = true
  | [], q, q', _, h => by rw [cutL]; rfl
  | o :: r, q, q', hq, h => by
    rw [runS] at h
    cases e1 : hmF g q o with
    | none => rw [e1] at h; exact absurd h (by simp)
    | some s2 =>
      rw [e1] at h
      simp only at h
      have hs2 := hmF_some e1
      rw [cutL, ← hs2.1]
      by_cases e : s2 = p
      · rw [if_pos e]
        exact hm_cut p g g' hg r s2 q' (fun hh => absurd e hh) h
      · rw [if_neg e, runS]
        have hn : (if (cutO p o).op = 24 then (cutO p o).n else q') = dn p s2 := by
          rw [cutO_op]
          by_cases h24 : o.op = 24
          · rw [if_pos h24] at hs2 ⊢
            rw [cutO_enter p o h24, hs2.1]
            exact dn_enter (by rw [← hs2.1]; exact e)
          · rw [if_neg h24] at hs2 ⊢
            rw [hs2.1]
            exact hq (by rw [← hs2.1]; exact e)
        have : hmF g' q' (cutO p o) = some (dn p s2) := by
          rw [hmF_eq, cutO_lab, hn]
          cases el : labO o with
          | none => rfl
          | some y =>
            simp only
            rw [if_pos (by rw [hg, hs2.2 y el, hm0_ne e])]
        rw [this]
        simp only
        exact hm_cut p g g' hg r s2 (dn p s2) (fun _ => rfl) h
theorem dpF_enter (s s' : Int × Bool) (o : Op3) (h : o.op = 24) : dpF s' o = dpF s o := by
  unfold dpF
  simp only [h, if_true]
  simp
theorem cutO_dpF (p : Int) (s : Int × Bool) (o : Op3) : dpF s (cutO p o) = dpF s o := by
  unfold dpF
  simp only
  obtain ⟨d, hd⟩ : ∃ y, y = (if o.op = 24 then (0 : Int) else s.1) := ⟨_, rfl⟩
  rw [cutO_op, ← hd, cutO_finds, cutO_after]
  by_cases h : o.op = 18
  · rw [cutO_n p o (by omega)]
  · simp [h]
theorem dep_cut (p : Int) : ∀ (l : List Op3) (q : Int) (s s' : Int × Bool), (q ≠ p → s' = s) → (runS dpF s l).isSome = true → (runS dpF s' (cutL p q l)).isSome = true
  | [], q, s, s', _, h => by rw [cutL]; rfl
  | o :: r, q, s, s', hq, h => by
    rw [runS] at h
    cases e1 : dpF s o with
    | none => rw [e1] at h; exact absurd h (by simp)
    | some s2 =>
      rw [e1] at h
      simp only at h
      rw [cutL]
      by_cases h24 : o.op = 24
      · rw [if_pos h24]
        by_cases e : o.n = p
        · rw [if_pos e]
          exact dep_cut p r o.n s2 s' (fun hh => absurd e hh) h
        · rw [if_neg e, runS, cutO_dpF, dpF_enter s s' o h24, e1]
          exact dep_cut p r o.n s2 s2 (fun _ => rfl) h
      · rw [if_neg h24]
        by_cases e : q = p
        · rw [if_pos e]
          exact dep_cut p r q s2 s' (fun hh => absurd e hh) h
        · rw [if_neg e, runS, cutO_dpF, hq e, e1]
          exact dep_cut p r q s2 s2 (fun _ => rfl) h
/-- What is set stays. -/
theorem home_keep : ∀ (l : List Op3) (h : Nat → Int) (q : Int) (g : Nat → Int) (q2 : Int), homeL h q l = some (g, q2) → ∀ k, h k ≠ 0 → g k = h k
  | [], h, q, g, q2, e, k, hk => by
    rw [homeL] at e
    injection e with e; injection e with e1 e2
    rw [e1]
  | o :: r, h, q, g, q2, e, k, hk => by
    rw [home_cons] at e
    by_cases h24 : o.op = 24
    · rw [if_pos h24] at e
      exact home_keep r h o.n g q2 e k hk
    · rw [if_neg h24] at e
      by_cases h19 : o.op = 19
      · rw [if_pos h19] at e
        by_cases hc : h o.n.toNat = 0 ∧ nextB r = true
        · rw [if_pos hc] at e
          have hne : ¬ k = o.n.toNat := fun hh => hk (by rw [hh]; exact hc.1)
          have := home_keep r _ q g q2 e k (by unfold upd; rw [if_neg hne]; exact hk)
          rw [this]; unfold upd; rw [if_neg hne]
        · rw [if_neg hc] at e; exact absurd e (by simp)
      · rw [if_neg h19] at e
        exact home_keep r h q g q2 e k hk
/-- No label of this number is left out. -/
def StayL (p : Int) (x : Nat) : Int → List Op3 → Prop
  | _, [] => True
  | q, o :: r => ((if o.op = 24 then o.n else q) = p → o.op = 19 → o.n.toNat ≠ x) ∧ StayL p x (if o.op = 24 then o.n else q) r
theorem stay_of (p : Int) (hp : 1 ≤ p) (x : Nat) : ∀ (l : List Op3) (h : Nat → Int) (q : Int) (g : Nat → Int) (q2 : Int), homeL h q l = some (g, q2) → g x ≠ p → StayL p x q l
  | [], _, _, _, _, _, _ => trivial
  | o :: r, h, q, g, q2, e, hx => by
    rw [home_cons] at e
    unfold StayL
    by_cases h24 : o.op = 24
    · rw [if_pos h24] at e ⊢
      exact ⟨fun _ h19 => by omega, stay_of p hp x r h o.n g q2 e hx⟩
    · rw [if_neg h24] at e ⊢
      by_cases h19 : o.op = 19
      · rw [if_pos h19] at e
        by_cases hc : h o.n.toNat = 0 ∧ nextB r = true
        · rw [if_pos hc] at e
          refine ⟨fun eq _ en => hx ?_, stay_of p hp x r _ q g q2 e hx⟩
          have := home_keep r _ q g q2 e x (by unfold upd; rw [if_pos en.symm]; omega)
          rw [this]; unfold upd; rw [if_pos en.symm, eq]
        · rw [if_neg hc] at e; exact absurd e (by simp)
      · rw [if_neg h19] at e
        exact ⟨fun _ hh => absurd hh h19, stay_of p hp x r h q g q2 e hx⟩
def lt0 (l : List Op3) : (Nat → Bool) × Bool := l.foldr ltF (fun _ => false, false)
theorem lt_cut (p : Int) : ∀ (l : List Op3) (q : Int), (q ≠ p → (lt0 (cutL p q l)).2 = (lt0 l).2) ∧ (q = p → (lt0 (cutL p q l)).2 = false) ∧ ∀ x, StayL p x q l → (lt0 (cutL p q l)).1 x = (lt0 l).1 x
  | [], q => ⟨fun _ => rfl, fun _ => rfl, fun _ _ => rfl⟩
  | o :: r, q => by
    have hl : lt0 (o :: r) = ltF o (lt0 r) := rfl
    have hcons : ∀ t, lt0 (cutO p o :: t) = ltF (cutO p o) (lt0 t) := fun _ => rfl
    have hF : ∀ t, ltF (cutO p o) t = if o.op = 19 then (upd t.1 o.n.toNat t.2, t.2) else (t.1, decide (o.op = 28)) := fun t => by
      unfold ltF
      rw [cutO_op]
      by_cases h19 : o.op = 19
      · rw [if_pos h19, if_pos h19, cutO_n p o (by omega)]
      · rw [if_neg h19, if_neg h19]
    have hF0 : ltF o (lt0 r) = if o.op = 19 then (upd (lt0 r).1 o.n.toNat (lt0 r).2, (lt0 r).2) else ((lt0 r).1, decide (o.op = 28)) := rfl
    rw [cutL, hl]
    by_cases h24 : o.op = 24
    · have ih := lt_cut p r o.n
      rw [if_pos h24, hF0, if_neg (show ¬ o.op = 19 by omega), decide_eq_false (show ¬ o.op = 28 by omega)]
      by_cases e : o.n = p
      · rw [if_pos e]
        refine ⟨fun _ => ih.2.1 e, fun _ => ih.2.1 e, fun x hx => ?_⟩
        unfold StayL at hx
        rw [if_pos h24] at hx
        exact ih.2.2 x hx.2
      · rw [if_neg e, hcons, hF, if_neg (show ¬ o.op = 19 by omega), decide_eq_false (show ¬ o.op = 28 by omega)]
        refine ⟨fun _ => rfl, fun _ => rfl, fun x hx => ?_⟩
        unfold StayL at hx
        rw [if_pos h24] at hx
        exact ih.2.2 x hx.2
    · have ih := lt_cut p r q
      rw [if_neg h24, hF0]
      by_cases e : q = p
      · rw [if_pos e]
        refine ⟨fun hh => absurd e hh, fun _ => ih.2.1 e, fun x hx => ?_⟩
        unfold StayL at hx
        rw [if_neg h24] at hx
        rw [ih.2.2 x hx.2]
        by_cases h19 : o.op = 19
        · rw [if_pos h19]
          have := hx.1 e h19
          simp only [upd]
          rw [if_neg (fun hh => this hh.symm)]
        · rw [if_neg h19]
      · rw [if_neg e, hcons, hF]
        refine ⟨fun _ => ?_, fun hh => absurd hh e, fun x hx => ?_⟩
        · by_cases h19 : o.op = 19
          · rw [if_pos h19, if_pos h19]; exact ih.1 e
          · rw [if_neg h19, if_neg h19]
        · unfold StayL at hx
          rw [if_neg h24] at hx
          by_cases h19 : o.op = 19
          · rw [if_pos h19, if_pos h19]
            simp only [upd]
            rw [ih.1 e, ih.2.2 x hx.2]
          · rw [if_neg h19, if_neg h19]
            exact ih.2.2 x hx.2
theorem tkF_eq (tk : Nat → Bool) (on : Bool) (o : Op3) : tkF tk on o = if on = true ∧ o.op = 28 then none
  else if (match labO o with | none => true | some x => tk x.toNat == decide (o.op = 27)) = true then some (if o.op = 19 then on else goOn o.op) else none := rfl
theorem take_cut (p : Int) (g tk tk' : Nat → _) (hk : ∀ x : Nat, (g x : Int) ≠ p → (tk' x : Bool) = tk x) : ∀ (l : List Op3) (q : Int) (on on' : Bool), (q ≠ p → on' = on) → (runS (hmF g) q l).isSome = true → (runS (tkF tk) on l).isSome = true → (runS (tkF tk') on' (cutL p q l)).isSome = true
  | [], q, on, on', _, _, h => by rw [cutL]; rfl
  | o :: r, q, on, on', hq, h0, h => by
    rw [runS] at h h0
    cases e0 : hmF g q o with
    | none => rw [e0] at h0; exact absurd h0 (by simp)
    | some s2 =>
      rw [e0] at h0
      simp only at h0
      have hs2 := hmF_some e0
      cases e1 : tkF tk on o with
      | none => rw [e1] at h; exact absurd h (by simp)
      | some o2 =>
        rw [e1] at h
        simp only at h
        rw [cutL, ← hs2.1]
        by_cases e : s2 = p
        · rw [if_pos e]
          exact take_cut p g tk tk' hk r s2 o2 on' (fun hh => absurd e hh) h0 h
        · rw [if_neg e, runS]
          have : tkF tk' on' (cutO p o) = some o2 := by
            rw [tkF_eq] at e1
            rw [tkF_eq, cutO_op, cutO_lab]
            have hon : ¬ o.op = 24 → on' = on := fun h24 => hq (by rw [hs2.1, if_neg h24] at e; exact e)
            have c1 : ¬ (on' = true ∧ o.op = 28) := fun hh => by
              rw [hon (by omega)] at hh
              rw [if_pos hh] at e1
              exact absurd e1 (by simp)
            have c2 : (match labO o with | none => true | some x => tk' x.toNat == decide (o.op = 27)) = (match labO o with | none => true | some x => tk x.toNat == decide (o.op = 27)) := by
              cases el : labO o with
              | none => rfl
              | some y =>
                simp only
                rw [hk y.toNat (by rw [hs2.2 y el]; exact e)]
            have c3 : (if o.op = 19 then on' else goOn o.op) = (if o.op = 19 then on else goOn o.op) := by
              by_cases h19 : o.op = 19
              · rw [if_pos h19, if_pos h19]; exact hon (by omega)
              · rw [if_neg h19, if_neg h19]
            rw [if_neg c1, c2, c3]
            split at e1
            · exact absurd e1 (by simp)
            · exact e1
          rw [this]
          simp only
          exact take_cut p g tk tk' hk r s2 o2 o2 (fun _ => rfl) h0 h
end Go.Proofs.Ytbhhjbnobcgfeaa
