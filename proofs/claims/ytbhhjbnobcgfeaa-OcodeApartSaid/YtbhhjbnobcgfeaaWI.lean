/- Code without a procedure: what stays valid. Nothing here speaks of a program. -/
import Derived.Test.YtbhhjbnobcgfeaaRD
namespace Go.Proofs.Ytbhhjbnobcgfeaa
set_option linter.unusedVariables false
set_option linter.unusedSimpArgs false

/-- An instruction of another procedure, when procedure p is left out. -/
def cutO (p : Int) (o : Op3) : Op3 :=
  if (o.op = 24 ∨ o.op = 11) ∧ p < o.n then ⟨o.op, o.n - 1, o.m⟩ else if o.op = 11 ∧ o.n = p then ⟨o.op, 1, o.m⟩ else o
/-- The instructions but those of procedure p; q: the procedure before them. -/
def cutL (p : Int) : Int → List Op3 → List Op3
  | _, [] => []
  | q, o :: r => if (if o.op = 24 then o.n else q) = p then cutL p (if o.op = 24 then o.n else q) r else cutO p o :: cutL p (if o.op = 24 then o.n else q) r
def cutC (c : Cod) (p : Int) : Cod := ⟨c.name, c.data, cutL p 0 c.ops, [], c.procs - 1, greatI (cutL p 0 c.ops) 19⟩
theorem cutO_op (p : Int) (o : Op3) : (cutO p o).op = o.op := by
  unfold cutO; split
  · rfl
  · split <;> rfl
theorem cutO_m (p : Int) (o : Op3) : (cutO p o).m = o.m := by
  unfold cutO; split
  · rfl
  · split <;> rfl
theorem cutO_n (p : Int) (o : Op3) (h : ¬ (o.op = 24 ∨ o.op = 11)) : (cutO p o).n = o.n := by
  unfold cutO
  rw [if_neg (fun hh => h hh.1), if_neg (fun hh => h (Or.inr hh.1))]
theorem cutO_enter (p : Int) (o : Op3) (h : o.op = 24) : (cutO p o).n = if p < o.n then o.n - 1 else o.n := by
  unfold cutO
  by_cases h1 : p < o.n
  · rw [if_pos ⟨Or.inl h, h1⟩, if_pos h1]
  · rw [if_neg (fun hh => h1 hh.2), if_neg (by omega), if_neg h1]
theorem cutO_lab (p : Int) (o : Op3) : labO (cutO p o) = labO o := by
  unfold labO
  rw [cutO_op]
  by_cases h : o.op = 20 ∨ o.op = 21 ∨ o.op = 22 ∨ o.op = 27 ∨ o.op = 29
  · rw [if_pos h, if_pos h, cutO_n p o (by omega)]
  · rw [if_neg h, if_neg h, cutO_m]
theorem cutO_after (p : Int) (o : Op3) (d : Int) : afterI (cutO p o) d = afterI o d := by
  unfold afterI
  rw [cutO_op, cutO_m]
  by_cases h24 : o.op = 24
  · rw [if_pos h24, if_pos h24]
  · rw [if_neg h24, if_neg h24]
    by_cases h11 : o.op = 11
    · rw [h11]; rfl
    · rw [cutO_n p o (by omega)]
theorem cutO_finds (p : Int) (o : Op3) (d : Int) : findsB (cutO p o) d = findsB o d := by
  unfold findsB
  rw [cutO_op]
  by_cases h : o.op = 24 ∨ o.op = 11
  · rcases h with h | h <;> rw [h] <;> rfl
  · rw [cutO_n p o h]
theorem cutL_len (p : Int) : ∀ (l : List Op3) (q : Int), (cutL p q l).length ≤ l.length
  | [], _ => Nat.le_refl _
  | o :: r, q => by
    rw [cutL]
    obtain ⟨q2, hq2⟩ : ∃ y, y = (if o.op = 24 then o.n else q) := ⟨_, rfl⟩
    rw [← hq2]
    have := cutL_len p r q2
    by_cases e : q2 = p
    · rw [if_pos e]; simp only [List.length_cons]; omega
    · rw [if_neg e]; simp only [List.length_cons]; omega
theorem cutL_mem (p : Int) : ∀ (l : List Op3) (q : Int) (x : Op3), x ∈ cutL p q l → ∃ o ∈ l, x = cutO p o ∧ (o.op = 24 → ¬ o.n = p)
  | [], _, x, h => by rw [cutL] at h; cases h
  | o :: r, q, x, h => by
    rw [cutL] at h
    obtain ⟨q2, hq2⟩ : ∃ y, y = (if o.op = 24 then o.n else q) := ⟨_, rfl⟩
    rw [← hq2] at h
    by_cases hq : q2 = p
    · rw [if_pos hq] at h
      obtain ⟨y, hy, e⟩ := cutL_mem p r _ x h
      exact ⟨y, List.mem_cons_of_mem _ hy, e⟩
    · rw [if_neg hq] at h
      rcases List.mem_cons.1 h with rfl | h
      · exact ⟨o, List.mem_cons_self, rfl, fun e hn => hq (by rw [hq2, if_pos e]; exact hn)⟩
      · obtain ⟨y, hy, e⟩ := cutL_mem p r _ x h
        exact ⟨y, List.mem_cons_of_mem _ hy, e⟩
/-- Cases stay behind their switches. -/
theorem cas_cut (p : Int) : ∀ (l : List Op3) (q s s' : Int), (∀ x ∈ l, x.op = 29 → 0 ≤ x.m) → 0 ≤ s → (q ≠ p → s' = s) → (q = p → s' = 0) → runS casF s l = some 0 → runS casF s' (cutL p q l) = some 0
  | [], q, s, s', _, _, h1, h2, h => by
    rw [runS] at h
    rw [cutL, runS]
    by_cases e : q = p
    · rw [h2 e]
    · rw [h1 e]; exact h
  | o :: r, q, s, s', hm, hs, h1, h2, h => by
    have hmr := fun x hx => hm x (List.mem_cons_of_mem _ hx)
    rw [runS] at h
    cases e1 : casF s o with
    | none => rw [e1] at h; exact absurd h (by simp)
    | some s2 =>
      rw [e1] at h
      simp only at h
      unfold casF at e1
      split at e1
      · rename_i hc
        have e1 := Option.some.inj e1
        rw [cutL]
        by_cases h24 : o.op = 24
        · have hs0 : s = 0 := by
            have : decide (o.op = 30) = false := decide_eq_false (by omega)
            rw [this] at hc
            have := of_decide_eq_false hc.symm
            omega
          rw [if_neg (by omega), if_neg (by omega)] at e1
          have hs' : s' = 0 := by
            by_cases e : q = p
            · exact h2 e
            · rw [h1 e]; exact hs0
          rw [if_pos h24]
          by_cases e : o.n = p
          · rw [if_pos e]
            exact cas_cut p r o.n s2 s' hmr (by omega) (fun hh => absurd e hh) (fun _ => hs') h
          · rw [if_neg e, runS]
            have : casF s' (cutO p o) = some s2 := by
              have hc' : decide (o.op = 30) = decide (0 < s') := by rw [hs']; rw [hs0] at hc; exact hc
              unfold casF
              rw [cutO_op, cutO_m, if_pos hc', if_neg (by omega), if_neg (by omega), hs', ← e1, hs0]
            rw [this]
            exact cas_cut p r o.n s2 s2 hmr (by omega) (fun _ => rfl) (fun hh => absurd hh e) h
        · rw [if_neg h24]
          have hs2 : 0 ≤ s2 := by
            rw [← e1]
            split
            · rename_i e29; exact hm o List.mem_cons_self e29
            · split
              · rename_i e30
                have : decide (o.op = 30) = true := decide_eq_true e30
                rw [this] at hc
                have := of_decide_eq_true hc.symm
                omega
              · exact hs
          by_cases e : q = p
          · rw [if_pos e]
            exact cas_cut p r q s2 s' hmr hs2 (fun hh => absurd e hh) (fun _ => h2 e) h
          · rw [if_neg e, runS]
            have : casF s' (cutO p o) = some s2 := by
              rw [h1 e]
              unfold casF
              rw [cutO_op, cutO_m, if_pos hc, e1]
            rw [this]
            exact cas_cut p r q s2 s2 hmr hs2 (fun _ => rfl) (fun hh => absurd hh e) h
      · exact absurd e1 (by simp)
/-- A procedure's new number. -/
def dn (p k : Int) : Int := if p ≤ k then k - 1 else k
/-- Procedures stay in order. -/
theorem proc_cut (p : Int) (hp : 1 ≤ p) : ∀ (l : List Op3) (k : Int) (on on' : Bool) (K : Int), 0 ≤ k → (k ≠ p → on' = on) → (k = p → on' = false) → runS prF (k, on) l = some (K, false) → runS prF (dn p k, on') (cutL p k l) = some (dn p K, false)
  | [], k, on, on', K, hk, h1, h2, h => by
    rw [runS] at h
    rw [cutL, runS]
    injection h with h; injection h with e1 e2
    subst e1 e2
    by_cases e : k = p
    · rw [h2 e]
    · rw [h1 e]
  | o :: r, k, on, on', K, hk, h1, h2, h => by
    rw [runS] at h
    cases e1 : prF (k, on) o with
    | none => rw [e1] at h; exact absurd h (by simp)
    | some s2 =>
      obtain ⟨k2, on2⟩ := s2
      rw [e1] at h
      simp only at h
      unfold prF at e1
      simp only at e1
      rw [cutL]
      by_cases h24 : o.op = 24
      · rw [if_pos h24] at e1 ⊢
        split at e1
        · rename_i hc
          injection e1 with e1; injection e1 with e3 e4
          have hon : on' = false := by
            by_cases e : k = p
            · exact h2 e
            · rw [h1 e]; exact hc.2
          have hnk : o.n = k2 := by rw [hc.1, e3]
          by_cases e : o.n = p
          · rw [if_pos e, hnk]
            have := proc_cut p hp r k2 on2 on' K (by omega) (fun hh => absurd (hnk.symm.trans e) hh) (fun _ => hon) h
            rw [show dn p k2 = dn p k from by unfold dn; rw [if_pos (by omega), if_neg (by omega)]; omega] at this
            exact this
          · rw [if_neg e, runS]
            have : prF (dn p k, on') (cutO p o) = some (dn p k2, true) := by
              unfold prF
              simp only
              rw [cutO_op, if_pos h24, cutO_enter p o h24, hon]
              have hd : (if p < o.n then o.n - 1 else o.n) = dn p k + 1 := by
                unfold dn
                rw [hc.1]
                by_cases hlt : p ≤ k
                · rw [if_pos hlt, if_pos (by omega)]; omega
                · rw [if_neg hlt, if_neg (by omega)]
              have hd2 : dn p k + 1 = dn p k2 := by
                unfold dn
                by_cases hlt : p ≤ k
                · rw [if_pos hlt, if_pos (by omega)]; omega
                · rw [if_neg hlt, if_neg (by omega)]; omega
              rw [if_pos ⟨hd, rfl⟩, hd2]
            rw [this, hnk]
            simp only
            exact proc_cut p hp r k2 on2 true K (by omega) (fun _ => e4) (fun hh => absurd (hnk.trans hh) e) h
        · exact absurd e1 (by simp)
      · rw [if_neg h24] at e1 ⊢
        split at e1
        · exact absurd e1 (by simp)
        · rename_i hs0
          injection e1 with e1; injection e1 with e3 e4
          subst e3
          by_cases e : k = p
          · rw [if_pos e]
            exact proc_cut p hp r k on2 on' K hk (fun hh => absurd e hh) (fun _ => h2 e) h
          · rw [if_neg e, runS]
            have : prF (dn p k, on') (cutO p o) = some (dn p k, on2) := by
              unfold prF
              simp only
              rw [cutO_op, if_neg h24, if_neg (by unfold dn; split <;> omega), e4]
            rw [this]
            simp only
            exact proc_cut p hp r k on2 on2 K hk (fun _ => rfl) (fun hh => absurd hh e) h
/-- The greatest number of procedures in order is the last one. -/
theorem great_run : ∀ (l : List Op3) (k : Int) (on : Bool) (K : Int) (b : Bool), runS prF (k, on) l = some (K, b) → l.foldl (fun n o => if o.op = 24 then max n o.n else n) k = K
  | [], k, on, K, b, h => by
    rw [runS] at h
    injection h with h; injection h with e1 e2
  | o :: r, k, on, K, b, h => by
    rw [runS] at h
    cases e1 : prF (k, on) o with
    | none => rw [e1] at h; exact absurd h (by simp)
    | some s2 =>
      obtain ⟨k2, on2⟩ := s2
      rw [e1] at h
      simp only at h
      unfold prF at e1
      simp only at e1
      rw [List.foldl_cons]
      by_cases h24 : o.op = 24
      · rw [if_pos h24] at e1 ⊢
        split at e1
        · rename_i hc
          injection e1 with e1; injection e1 with e3 e4
          rw [show max k o.n = k2 by omega]
          exact great_run r k2 on2 K b h
        · exact absurd e1 (by simp)
      · rw [if_neg h24] at e1 ⊢
        split at e1
        · exact absurd e1 (by simp)
        · injection e1 with e1; injection e1 with e3 e4
          subst e3
          exact great_run r k on2 K b h
end Go.Proofs.Ytbhhjbnobcgfeaa
