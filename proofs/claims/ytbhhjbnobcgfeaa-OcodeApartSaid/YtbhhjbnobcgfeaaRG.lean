/- Labels numbered anew, round by round. Nothing here speaks of a program. -/
import Derived.Test.YtbhhjbnobcgfeaaRD
namespace Go.Proofs.Ytbhhjbnobcgfeaa
set_option linter.unusedVariables false
set_option linter.unusedSimpArgs false

theorem OnceL.drop : ∀ {l : List Op3} (j : Nat), OnceL l → OnceL (l.drop j)
  | l, 0, h => h
  | [], j + 1, _ => trivial
  | o :: r, j + 1, h => OnceL.drop (l := r) j h.2
/-- A list whose first j are other ones. -/
def mixL {α : Type} (f : α → α) (l : List α) (j : Nat) : List α := (l.take j).map f ++ l.drop j
theorem mixL_len {α : Type} (f : α → α) (l : List α) (j : Nat) : (mixL f l j).length = l.length := by
  unfold mixL
  rw [List.length_append, List.length_map, ← List.length_append, List.take_append_drop]
theorem mixL_zero {α : Type} (f : α → α) (l : List α) : mixL f l 0 = l := by unfold mixL; simp
theorem mixL_all {α : Type} (f : α → α) (l : List α) : mixL f l l.length = l.map f := by unfold mixL; simp
theorem mixL_at {α : Type} (f : α → α) {l : List α} {j : Nat} {x : α} (h : l[j]? = some x) : (mixL f l j)[j]? = some x := by
  have hj := (List.getElem?_eq_some_iff.1 h).1
  unfold mixL
  rw [List.getElem?_append_right (by rw [List.length_map, List.length_take]; omega), List.length_map, List.length_take, Nat.min_eq_left (by omega), Nat.sub_self, List.getElem?_drop, Nat.add_zero]
  exact h
theorem mixL_step {α : Type} (f : α → α) {l : List α} {j : Nat} {x : α} (h : l[j]? = some x) : (mixL f l j).set j (f x) = mixL f l (j + 1) := by
  obtain ⟨hj, rfl⟩ := List.getElem?_eq_some_iff.1 h
  unfold mixL
  rw [List.set_append_right _ _ (by rw [List.length_map, List.length_take]; omega), List.length_map, List.length_take, Nat.min_eq_left (by omega), Nat.sub_self, List.drop_eq_getElem_cons hj, List.set_cons_zero, List.take_succ_eq_append_getElem hj, List.map_append, List.append_assoc]
  rfl
theorem mixL_keep {α : Type} (f : α → α) {l : List α} {j : Nat} {x : α} (h : l[j]? = some x) (hf : f x = x) : mixL f l j = mixL f l (j + 1) := by
  rw [← mixL_step f h, hf]
  apply List.ext_getElem?
  intro i
  rw [List.getElem?_set]
  by_cases e : j = i
  · subst e
    rw [if_pos rfl, mixL_at f h, if_pos (by rw [mixL_len]; exact (List.getElem?_eq_some_iff.1 h).1)]
  · rw [if_neg e]
/-- First the labels themselves, then what names them. -/
def labF (f : Int → Int) (o : Op3) : Op3 := if o.op = 19 then ⟨o.op, f o.n, o.m⟩ else o
def nmdF (f : Int → Int) (o : Op3) : Op3 := if o.op = 20 ∨ o.op = 21 ∨ o.op = 22 ∨ o.op = 27 ∨ o.op = 29 then ⟨o.op, f o.n, o.m⟩ else if o.op = 30 then ⟨o.op, o.n, f o.m⟩ else o
theorem nmd_lab (f : Int → Int) (o : Op3) : nmdF f (labF f o) = reO f o := by
  unfold labF
  by_cases h : o.op = 19
  · rw [if_pos h]
    unfold nmdF reO
    simp only
    rw [if_neg (by omega), if_neg (by omega), if_pos (Or.inl h)]
  · rw [if_neg h]
    unfold nmdF reO
    by_cases h2 : o.op = 20 ∨ o.op = 21 ∨ o.op = 22 ∨ o.op = 27 ∨ o.op = 29
    · rw [if_pos h2, if_pos (Or.inr h2)]
    · have hh : ¬ (o.op = 19 ∨ o.op = 20 ∨ o.op = 21 ∨ o.op = 22 ∨ o.op = 27 ∨ o.op = 29) := fun hx => hx.elim h h2
      rw [if_neg h2, if_neg hh]
theorem nmd_map (f : Int → Int) (l : List Op3) : (l.map (labF f)).map (nmdF f) = l.map (reO f) := by
  rw [List.map_map]
  exact List.map_congr_left (fun o _ => nmd_lab f o)
theorem nm_at {l : List Op3} {j : Nat} {o : Op3} (ho : l[j]? = some o) (s : Int × (Nat → Int)) (h : OnceL l) (e : o.op = 19) (hs : nmL l = (l.drop j).foldl nmF s) : (nmL l).2 o.n.toNat = s.1 + 1 := by
  have h1 := h.drop j
  obtain ⟨hj, rfl⟩ := List.getElem?_eq_some_iff.1 ho
  rw [hs]
  rw [List.drop_eq_getElem_cons hj] at h1 ⊢
  exact nm_head s h1 e
theorem lab_at {f : Int → Int} {l : List Op3} {j : Nat} {x : Op3} (h : (l.map (labF f))[j]? = some x) : ∃ y, l[j]? = some y ∧ x = labF f y := by
  rw [List.getElem?_map] at h
  obtain ⟨y, h1, h2⟩ := Option.map_eq_some_iff.1 h
  exact ⟨y, h1, h2.symm⟩
end Go.Proofs.Ytbhhjbnobcgfeaa
