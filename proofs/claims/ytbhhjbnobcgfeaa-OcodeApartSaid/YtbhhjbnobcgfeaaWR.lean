/- Code without a procedure: its depths and rooms are those of the others. Nothing here speaks of a program. -/
import Derived.Test.YtbhhjbnobcgfeaaWK
namespace Go.Proofs.Ytbhhjbnobcgfeaa
set_option linter.unusedVariables false
set_option linter.unusedSimpArgs false

/-- What stands at the instructions that stay. -/
def cutG {α : Type} (p : Int) : Int → List Op3 → List α → List α
  | _, [], _ => []
  | _, _ :: _, [] => []
  | q, o :: r, x :: t => if (if o.op = 24 then o.n else q) = p then cutG p (if o.op = 24 then o.n else q) r t else x :: cutG p (if o.op = 24 then o.n else q) r t
theorem depL_cut (p : Int) : ∀ (l : List Op3) (q d d' : Int), (q ≠ p → d' = d) → depL d' (cutL p q l) = cutG p q l (depL d l)
  | [], q, d, d', _ => by rw [cutL, depL, depL, cutG]
  | o :: r, q, d, d', hq => by
    rw [cutL, depL, cutG]
    by_cases h24 : o.op = 24
    · rw [if_pos h24, if_pos h24]
      by_cases e : o.n = p
      · rw [if_pos e, if_pos e]
        exact depL_cut p r o.n _ d' (fun hh => absurd e hh)
      · rw [if_neg e, if_neg e, depL, cutO_op, if_pos h24, cutO_after]
        rw [depL_cut p r o.n _ (afterI o 0) (fun _ => rfl)]
    · rw [if_neg h24, if_neg h24]
      by_cases e : q = p
      · rw [if_pos e, if_pos e]
        exact depL_cut p r q _ d' (fun hh => absurd e hh)
      · rw [if_neg e, if_neg e, depL, cutO_op, if_neg h24, cutO_after, hq e]
        rw [depL_cut p r q _ (afterI o d) (fun _ => rfl)]
/-- The place of a procedure's room among all. -/
def upN (P k : Nat) : Nat := if k + 1 < P then k else k + 1
theorem rm_cut (P : Nat) (hP : 1 ≤ P) : ∀ (l : List Op3) (n : Nat) (d : Int) (h : Nat → Int) (n' : Nat) (d' : Int) (h' : Nat → Int) (on : Bool), (runS prF ((n : Int), on) l).isSome = true → n' = (if P ≤ n then n - 1 else n) → (n ≠ P → d' = d) → (∀ k, h' k = h (upN P k)) →
    ∀ k, ((cutL (P : Int) (n : Int) l).foldl rmF (n', d', h')).2.2 k = (l.foldl rmF (n, d, h)).2.2 (upN P k)
  | [], n, d, h, n', d', h', on, _, _, _, hh, k => by rw [cutL]; exact hh k
  | o :: r, n, d, h, n', d', h', on, hr, hn, hd, hh, k => by
    rw [runS] at hr
    cases e1 : prF ((n : Int), on) o with
    | none => rw [e1] at hr; exact absurd hr (by simp)
    | some s2 =>
      obtain ⟨k2, on2⟩ := s2
      rw [e1] at hr
      simp only at hr
      unfold prF at e1
      simp only at e1
      rw [cutL, List.foldl_cons]
      by_cases h24 : o.op = 24
      · rw [if_pos h24] at e1 ⊢
        split at e1
        · rename_i hc
          injection e1 with e1; injection e1 with e3 e4
          have hk2 : k2 = ((n + 1 : Nat) : Int) := by omega
          have hon : o.n = ((n + 1 : Nat) : Int) := by rw [hc.1]; omega
          rw [hk2] at hr
          rw [show rmF (n, d, h) o = (n + 1, afterI o 0, upd h n (max (max (h n) 0) (afterI o 0))) from by simp only [rmF, if_pos h24]; rfl]
          by_cases e : n + 1 = P
          · rw [if_pos (by rw [hon, e]), hon]
            refine rm_cut P hP r (n + 1) (afterI o 0) _ n' d' h' on2 hr (by rw [hn, if_neg (by omega), if_pos (by omega)]; omega) (fun hx => absurd e hx) (fun j => ?_) k
            rw [hh j]; unfold upd
            rw [if_neg (by unfold upN; split <;> omega)]
          · rw [if_neg (by rw [hon]; omega), List.foldl_cons, hon]
            rw [show rmF (n', d', h') (cutO (P : Int) o) = (n' + 1, afterI o 0, upd h' n' (max (max (h' n') 0) (afterI o 0))) from by simp only [rmF, cutO_op, cutO_after, if_pos h24]; rfl]
            have hup : upN P n' = n := by rw [hn]; unfold upN; by_cases hx : P ≤ n
                                          · rw [if_pos hx, if_neg (by omega)]; omega
                                          · rw [if_neg hx, if_pos (by omega)]
            refine rm_cut P hP r (n + 1) (afterI o 0) _ (n' + 1) (afterI o 0) _ on2 hr (by rw [hn]; by_cases hx : P ≤ n
                                                                                           · rw [if_pos hx, if_pos (by omega)]; omega
                                                                                           · rw [if_neg hx, if_neg (by omega)]) (fun _ => rfl) (fun j => ?_) k
            unfold upd
            by_cases ej : j = n'
            · rw [if_pos ej, ej, hup, if_pos rfl, hh n', hup]
            · rw [if_neg ej, if_neg (fun hx => ej (by rw [hn]; unfold upN at hx; by_cases hy : P ≤ n
                                                      · rw [if_pos hy]; split at hx <;> omega
                                                      · rw [if_neg hy]; split at hx <;> omega))]
              exact hh j
        · exact absurd e1 (by simp)
      · rw [if_neg h24] at e1 ⊢
        split at e1
        · exact absurd e1 (by simp)
        · rename_i hs0
          injection e1 with e1; injection e1 with e3 e4
          subst e3
          have hn0 : 1 ≤ n := by omega
          rw [show rmF (n, d, h) o = (n, afterI o d, upd h (n - 1) (max (max (h (n - 1)) d) (afterI o d))) from by simp only [rmF, if_neg h24]]
          by_cases e : n = P
          · rw [if_pos (by rw [e])]
            refine rm_cut P hP r n (afterI o d) _ n' d' h' on2 hr hn (fun hx => absurd e hx) (fun j => ?_) k
            rw [hh j]; unfold upd
            rw [if_neg (by unfold upN; split <;> omega)]
          · rw [if_neg (by omega), List.foldl_cons]
            rw [show rmF (n', d', h') (cutO (P : Int) o) = (n', afterI o d, upd h' (n' - 1) (max (max (h' (n' - 1)) d) (afterI o d))) from by simp only [rmF, cutO_op, cutO_after, if_neg h24, hd e]]
            have hup : upN P (n' - 1) = n - 1 := by rw [hn]; unfold upN; by_cases hx : P ≤ n
                                                    · rw [if_pos hx, if_neg (by omega)]; omega
                                                    · rw [if_neg hx, if_pos (by omega)]
            refine rm_cut P hP r n (afterI o d) _ n' (afterI o d) _ on2 hr hn (fun _ => rfl) (fun j => ?_) k
            unfold upd
            by_cases ej : j = n' - 1
            · rw [if_pos ej, ej, hup, if_pos rfl, hh (n' - 1), hup]
            · rw [if_neg ej, if_neg (fun hx => ej (by rw [hn]; unfold upN at hx; by_cases hy : P ≤ n
                                                      · rw [if_pos hy]; split at hx <;> omega
                                                      · rw [if_neg hy]; split at hx <;> omega))]
              exact hh j
theorem rmL_cut {c : Cod} (h0 : exE c = 0) (P : Nat) (hP : 1 ≤ P) (k : Nat) : rmL (cutL (P : Int) 0 c.ops) k = rmL c.ops (upN P k) := by
  obtain ⟨_, _, ⟨_, a7, _⟩, _⟩ := ex_all h0
  have hr : (runS prF (((0 : Nat) : Int), false) c.ops).isSome = true := by
    unfold procB at a7
    show (runS prF (0, false) c.ops).isSome = true
    cases hr : runS prF (0, false) c.ops with
    | none => rw [hr] at a7; exact absurd a7 (by simp)
    | some z => rfl
  exact rm_cut P hP c.ops 0 0 (fun _ => 0) 0 0 (fun _ => 0) false hr (by rw [if_neg (by omega)]) (fun _ => rfl) (fun _ => rfl) k
end Go.Proofs.Ytbhhjbnobcgfeaa
