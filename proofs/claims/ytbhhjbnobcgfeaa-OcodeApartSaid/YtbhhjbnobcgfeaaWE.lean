/- The code without a procedure, instruction by instruction. -/
import Derived.Test.YtbhhjbnobcgfeaaWD
import Derived.Test.YtbhhjbnobcgfeaaWR
namespace Go.Proofs.Ytbhhjbnobcgfeaa
open Go.RowKit
set_option linter.unusedVariables false
set_option linter.unusedSimpArgs false

/-- The procedure that an instruction behind these stands in. -/
def curP : Int → List Op3 → Int
  | q, [] => q
  | q, o :: r => curP (if o.op = 24 then o.n else q) r
theorem curP_more (o : Op3) : ∀ (l : List Op3) (q : Int), curP q (l ++ [o]) = if o.op = 24 then o.n else curP q l
  | [], q => rfl
  | x :: r, q => curP_more o r _
theorem cutL_more (p : Int) (o : Op3) : ∀ (l : List Op3) (q : Int), cutL p q (l ++ [o]) = cutL p q l ++ (if curP q (l ++ [o]) = p then [] else [cutO p o])
  | [], q => by
    simp only [List.nil_append, cutL, curP]
  | x :: r, q => by
    rw [List.cons_append, cutL, cutL, curP]
    by_cases h : (if x.op = 24 then x.n else q) = p
    · rw [if_pos h, if_pos h]; exact cutL_more p o r _
    · rw [if_neg h, if_neg h, cutL_more p o r _]; rfl
theorem cutL_lenle (p : Int) : ∀ (l : List Op3) (q : Int), (cutL p q l).length ≤ l.length
  | [], q => Nat.le_refl _
  | x :: r, q => by
    rw [cutL]
    have := cutL_lenle p r (if x.op = 24 then x.n else q)
    by_cases h : (if x.op = 24 then x.n else q) = p
    · rw [if_pos h, List.length_cons]; omega
    · rw [if_neg h, List.length_cons, List.length_cons]; omega
/-- One instruction more at the end of the row. -/
theorem clO_more (l : List Op3) (o : Op3) : rowN (clO_cs l) l.length ++ [.int .i64 o.op, .int .i64 o.n, .int .i64 o.m] = rowN (clO_cs (l ++ [o])) (l ++ [o]).length := by
  have h1 : ∀ n, n ≤ l.length → rowN (clO_cs l) n = rowN (clO_cs (l ++ [o])) n := by
    intro n
    induction n with
    | zero => intro _; rfl
    | succ n ih =>
      intro hn
      rw [rowN, rowN, ih (by omega)]
      unfold clO_cs
      have e : (l ++ [o]).getD n default = l.getD n default := by
        rw [List.getD_eq_getElem?_getD, List.getD_eq_getElem?_getD, List.getElem?_append_left (by omega)]
      rw [e]
  rw [show (l ++ [o]).length = l.length + 1 by simp, rowN, h1 _ (Nat.le_refl _)]
  unfold clO_cs
  have e : (l ++ [o]).getD l.length default = o := by
    rw [List.getD_eq_getElem?_getD]; simp
  rw [e]
end Go.Proofs.Ytbhhjbnobcgfeaa
