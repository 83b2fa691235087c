/- Which labels are named how often; the walk of OcodeSums. -/
import Derived.Test.YtdnckbcknahakaaGreatFJ
namespace Go.Proofs.YtdnckbcknahakaaGreat
open Go.RowKit
set_option linter.unusedVariables false
set_option linter.unusedSimpArgs false

theorem ex_lim {c : Cod} (h : exE c = 0) : limB c = true ∧ instrB c = true := by
  unfold exE at h
  cases h1 : limB c with
  | false => rw [h1] at h; simp at h
  | true =>
    rw [h1] at h
    cases h2 : (qtb c.name && areasB c.data && entB c && instrB c) with
    | false => rw [h2] at h; simp at h
    | true =>
      simp only [Bool.and_eq_true] at h2
      exact ⟨rfl, h2.2⟩
end Go.Proofs.YtdnckbcknahakaaGreat
