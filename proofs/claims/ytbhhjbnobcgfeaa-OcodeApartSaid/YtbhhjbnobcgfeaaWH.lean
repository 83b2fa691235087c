/- The code without a procedure: its numbers are numbers of 64 bits. -/
import Derived.Test.YtbhhjbnobcgfeaaWF
import Derived.Test.YtbhhjbnobcgfeaaFB
namespace Go.Proofs.Ytbhhjbnobcgfeaa
open Go.RowKit
set_option linter.unusedVariables false
set_option linter.unusedSimpArgs false

theorem cutL_of {p : Int} : ∀ (l : List Op3) (q : Int) (x : Op3), x ∈ cutL p q l → ∃ y ∈ l, x = cutO p y
  | [], q, x, h => by cases h
  | o :: r, q, x, h => by
    rw [cutL] at h
    by_cases hp : (if o.op = 24 then o.n else q) = p
    · rw [if_pos hp] at h
      obtain ⟨y, hy, e⟩ := cutL_of r _ x h
      exact ⟨y, List.mem_cons_of_mem _ hy, e⟩
    · rw [if_neg hp] at h
      rcases List.mem_cons.1 h with rfl | h
      · exact ⟨o, List.mem_cons_self, rfl⟩
      · obtain ⟨y, hy, e⟩ := cutL_of r _ x h
        exact ⟨y, List.mem_cons_of_mem _ hy, e⟩
theorem cutO_wf {p : Int} (hp : wf64 p) {o : Op3} (h : wf64 o.op ∧ wf64 o.n ∧ wf64 o.m) : wf64 (cutO p o).op ∧ wf64 (cutO p o).n ∧ wf64 (cutO p o).m := by
  unfold cutO
  by_cases h1 : (o.op = 24 ∨ o.op = 11) ∧ p < o.n
  · rw [if_pos h1]
    refine ⟨h.1, ?_, h.2.2⟩
    have h2 := h.2.1
    have h3 := h1.2
    unfold wf64 at hp h2 ⊢
    show _ ≤ o.n - 1 ∧ o.n - 1 ≤ _
    omega
  · rw [if_neg h1]
    by_cases h2 : o.op = 11 ∧ o.n = p
    · rw [if_pos h2]
      exact ⟨h.1, by unfold wf64; show _ ≤ (1 : Int) ∧ (1 : Int) ≤ _; omega, h.2.2⟩
    · rw [if_neg h2]; exact h
theorem cutC_wf {c : Cod} {p : Int} (hc : wfC c) (hp : wf64 p) (h1 : 1 ≤ c.procs) : wfC (cutC c p) where
  name := hc.name
  data := hc.data
  ops := fun x hx => by
    obtain ⟨y, hy, rfl⟩ := cutL_of _ _ x hx
    exact cutO_wf hp (hc.ops y hy)
  gl := fun x hx => by cases hx
  procs := by have h := hc.procs; show wf64 (c.procs - 1); unfold wf64 at h ⊢; omega
  labels := greatI_wf _ _ (fun x hx => by
    obtain ⟨y, hy, rfl⟩ := cutL_of _ _ x hx
    exact cutO_wf hp (hc.ops y hy))
  dlen := hc.dlen
  olen := Nat.le_trans (cutL_lenle p _ _) hc.olen
  glen := Nat.zero_le _
end Go.Proofs.Ytbhhjbnobcgfeaa
