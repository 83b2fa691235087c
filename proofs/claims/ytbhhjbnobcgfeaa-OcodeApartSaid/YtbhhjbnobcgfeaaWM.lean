/- What the law wants, number by number. -/
import Derived.Test.YtbhhjbnobcgfeaaWH
namespace Go.Proofs.Ytbhhjbnobcgfeaa
open Go.RowKit
set_option linter.unusedVariables false
set_option linter.unusedSimpArgs false

theorem cutG_more {α : Type} (p : Int) (o : Op3) (x : α) : ∀ (l : List Op3) (t : List α) (q : Int), l.length = t.length → cutG p q (l ++ [o]) (t ++ [x]) = cutG p q l t ++ (if curP q (l ++ [o]) = p then [] else [x])
  | [], [], q, _ => by
    simp only [List.nil_append, cutG, curP]
  | y :: r, z :: t, q, h => by
    rw [List.cons_append, List.cons_append, cutG, cutG, curP]
    have h2 : r.length = t.length := by simpa using h
    by_cases hp : (if y.op = 24 then y.n else q) = p
    · rw [if_pos hp, if_pos hp]; exact cutG_more p o x r t _ h2
    · rw [if_neg hp, if_neg hp, cutG_more p o x r t _ h2]; rfl
  | [], _ :: _, _, h => by cases h
  | _ :: _, [], _, h => by cases h
theorem cutG_lenle {α : Type} (p : Int) : ∀ (l : List Op3) (t : List α) (q : Int), (cutG p q l t).length ≤ t.length
  | [], _, q => by rw [cutG]; exact Nat.zero_le _
  | _ :: _, [], q => by rw [cutG]; exact Nat.le_refl _
  | o :: r, x :: t, q => by
    rw [cutG]
    have := cutG_lenle p r t (if o.op = 24 then o.n else q)
    by_cases h : (if o.op = 24 then o.n else q) = p
    · rw [if_pos h, List.length_cons]; omega
    · rw [if_neg h, List.length_cons, List.length_cons]; omega
/-- One number more at the end of the row. -/
theorem clI_more (l : List Int) (x : Int) : rowN (clI_cs l) l.length ++ [.int .i64 x] = rowN (clI_cs (l ++ [x])) (l ++ [x]).length := by
  have h1 : ∀ n, n ≤ l.length → rowN (clI_cs l) n = rowN (clI_cs (l ++ [x])) n := by
    intro n
    induction n with
    | zero => intro _; rfl
    | succ n ih =>
      intro hn
      rw [rowN, rowN, ih (by omega)]
      unfold clI_cs
      have e : (l ++ [x]).getD n default = l.getD n default := by
        rw [List.getD_eq_getElem?_getD, List.getD_eq_getElem?_getD, List.getElem?_append_left (by omega)]
      rw [e]
  rw [show (l ++ [x]).length = l.length + 1 by simp, rowN, h1 _ (Nat.le_refl _)]
  unfold clI_cs
  have e : (l ++ [x]).getD l.length default = x := by
    rw [List.getD_eq_getElem?_getD]; simp
  rw [e]
end Go.Proofs.Ytbhhjbnobcgfeaa
