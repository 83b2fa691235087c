/- Labels numbered anew: what doesn't see it. Nothing here speaks of a program. -/
import Derived.Test.YtbhhjbnobcgfeaaFM
namespace Go.Proofs.Ytbhhjbnobcgfeaa
set_option linter.unusedVariables false
set_option linter.unusedSimpArgs false

/-- An instruction whose labels go by f. -/
def reO (f : Int → Int) (o : Op3) : Op3 :=
  if o.op = 19 ∨ o.op = 20 ∨ o.op = 21 ∨ o.op = 22 ∨ o.op = 27 ∨ o.op = 29 then ⟨o.op, f o.n, o.m⟩ else if o.op = 30 then ⟨o.op, o.n, f o.m⟩ else o
theorem reO_op (f : Int → Int) (o : Op3) : (reO f o).op = o.op := by
  unfold reO; split
  · rfl
  · split <;> rfl
theorem reO_n (f : Int → Int) (o : Op3) (h : ¬ (o.op = 19 ∨ o.op = 20 ∨ o.op = 21 ∨ o.op = 22 ∨ o.op = 27 ∨ o.op = 29)) : (reO f o).n = o.n := by
  unfold reO; rw [if_neg h]; split <;> rfl
theorem reO_m (f : Int → Int) (o : Op3) (h : ¬ o.op = 30) : (reO f o).m = o.m := by
  unfold reO; split
  · rfl
  · simp only [if_neg h]
theorem reO_lab (f : Int → Int) (o : Op3) : labO (reO f o) = (labO o).map f := by
  unfold labO
  rw [reO_op]
  by_cases h : o.op = 20 ∨ o.op = 21 ∨ o.op = 22 ∨ o.op = 27 ∨ o.op = 29
  · rw [if_pos h, if_pos h]
    have h2 : o.op = 19 ∨ o.op = 20 ∨ o.op = 21 ∨ o.op = 22 ∨ o.op = 27 ∨ o.op = 29 := Or.inr h
    unfold reO; rw [if_pos h2]; rfl
  · rw [if_neg h, if_neg h]
    by_cases h3 : o.op = 30
    · rw [if_pos h3, if_pos h3]
      unfold reO
      rw [if_neg (by omega), if_pos h3]; rfl
    · rw [if_neg h3, if_neg h3]; rfl
theorem reO_after (f : Int → Int) (o : Op3) (d : Int) : afterI (reO f o) d = afterI o d := by
  unfold afterI
  rw [reO_op]
  by_cases h24 : o.op = 24
  · rw [if_pos h24, if_pos h24, reO_m f o (by omega)]
  · rw [if_neg h24, if_neg h24]
    by_cases h18 : o.op = 18
    · rw [if_pos h18, if_pos h18, reO_n f o (by omega)]
    · rw [if_neg h18, if_neg h18]
      by_cases h2 : o.op = 23 ∨ o.op = 28
      · rw [if_pos h2, if_pos h2, reO_n f o (by omega)]
      · rw [if_neg h2, if_neg h2]
theorem reO_finds (f : Int → Int) (o : Op3) (d : Int) : findsB (reO f o) d = findsB o d := by
  unfold findsB
  rw [reO_op]
  by_cases h1 : o.op = 2 ∨ o.op = 3
  · rw [if_pos h1, if_pos h1, reO_n f o (by omega)]
  · rw [if_neg h1, if_neg h1]
    by_cases h2 : o.op = 4
    · rw [if_pos h2, if_pos h2, reO_n f o (by omega)]
    · rw [if_neg h2, if_neg h2]
      by_cases h3 : o.op = 23
      · rw [if_pos h3, if_pos h3, reO_n f o (by omega)]
      · rw [if_neg h3, if_neg h3]
theorem reO_dpF (f : Int → Int) (s : Int × Bool) (o : Op3) : dpF s (reO f o) = dpF s o := by
  unfold dpF
  simp only
  obtain ⟨d, hd⟩ : ∃ y, y = (if o.op = 24 then (0 : Int) else s.1) := ⟨_, rfl⟩
  rw [reO_op, ← hd, reO_finds, reO_after]
  by_cases h : o.op = 18
  · rw [reO_n f o (by omega)]
  · simp [h]
theorem reO_prF (f : Int → Int) (s : Int × Bool) (o : Op3) : prF s (reO f o) = prF s o := by
  unfold prF
  rw [reO_op]
  by_cases h : o.op = 24
  · rw [reO_n f o (by omega)]
  · rw [if_neg h, if_neg h]
theorem reO_casF (f : Int → Int) (s : Int) (o : Op3) : casF s (reO f o) = casF s o := by
  unfold casF
  rw [reO_op]
  by_cases h : o.op = 29
  · rw [reO_m f o (by omega)]
  · simp only [h, if_false]
theorem runS_map {σ α : Type} {f : σ → α → Option σ} {g : α → α} (h : ∀ s x, f s (g x) = f s x) : ∀ (l : List α) (s : σ), runS f s (l.map g) = runS f s l
  | [], _ => rfl
  | x :: r, s => by
    rw [List.map_cons, runS, runS, h]
    cases f s x with
    | none => rfl
    | some s' => exact runS_map h r s'
theorem re_dep (f : Int → Int) (l : List Op3) : depB (l.map (reO f)) = depB l := by unfold depB; rw [runS_map (reO_dpF f)]
theorem re_proc (f : Int → Int) (l : List Op3) : procB (l.map (reO f)) = procB l := by unfold procB; rw [runS_map (reO_prF f)]
theorem re_cas (f : Int → Int) (l : List Op3) : casB (l.map (reO f)) = casB l := by unfold casB; rw [runS_map (reO_casF f)]
theorem re_depL (f : Int → Int) : ∀ (l : List Op3) (d : Int), depL d (l.map (reO f)) = depL d l
  | [], _ => rfl
  | o :: r, d => by rw [List.map_cons, depL, depL, reO_op, reO_after, re_depL f r]
theorem reO_rmF (f : Int → Int) (s : Nat × Int × (Nat → Int)) (o : Op3) : rmF s (reO f o) = rmF s o := by
  unfold rmF
  rw [reO_op, reO_after]
theorem re_fold {σ α : Type} {f : σ → α → σ} {g : α → α} (h : ∀ s x, f s (g x) = f s x) : ∀ (l : List α) (s : σ), (l.map g).foldl f s = l.foldl f s
  | [], _ => rfl
  | x :: r, s => by rw [List.map_cons, List.foldl_cons, List.foldl_cons, h, re_fold h r]
theorem re_rmL (f : Int → Int) (l : List Op3) : rmL (l.map (reO f)) = rmL l := by unfold rmL; rw [re_fold (reO_rmF f)]
theorem re_count (f : Int → Int) (l : List Op3) (k : Int) : countI (l.map (reO f)) k = countI l k := by
  unfold countI
  exact re_fold (fun s x => by rw [reO_op]) l 0
theorem re_great (f : Int → Int) (l : List Op3) (k : Int) (hk : ¬ (k = 19 ∨ k = 20 ∨ k = 21 ∨ k = 22 ∨ k = 27 ∨ k = 29)) : greatI (l.map (reO f)) k = greatI l k := by
  unfold greatI
  refine re_fold (fun s x => ?_) l 0
  rw [reO_op]
  by_cases h : x.op = k
  · rw [if_pos h, if_pos h, reO_n f x (by rw [h]; exact hk)]
  · rw [if_neg h, if_neg h]

/-- Labels numbered as they come: how many so far, and the new numbers. -/
def nmF (s : Int × (Nat → Int)) (o : Op3) : Int × (Nat → Int) := if o.op = 19 then (s.1 + 1, upd s.2 o.n.toNat (s.1 + 1)) else s
def nmL (l : List Op3) : Int × (Nat → Int) := l.foldl nmF (0, fun _ => 0)
theorem nm_count : ∀ (l : List Op3) (s : Int × (Nat → Int)), (l.foldl nmF s).1 = l.foldl (fun n o => if o.op = 19 then n + 1 else n) s.1
  | [], _ => rfl
  | o :: r, s => by
    rw [List.foldl_cons, List.foldl_cons, nm_count r]
    congr 1
    unfold nmF
    split <;> rfl
theorem nmL_count (l : List Op3) : (nmL l).1 = countI l 19 := nm_count l _
/-- The code with its labels numbered anew. -/
def renC (c : Cod) : Cod := ⟨c.name, c.data, c.ops.map (reO (fun x => (nmL c.ops).2 x.toNat)), c.gl, c.procs, (nmL c.ops).1⟩
theorem renC_len (c : Cod) : (renC c).ops.length = c.ops.length := by simp [renC]
theorem renC_depL (c : Cod) : depL 0 (renC c).ops = depL 0 c.ops := re_depL _ _ _
theorem renC_rmL (c : Cod) : rmL (renC c).ops = rmL c.ops := re_rmL _ _
end Go.Proofs.Ytbhhjbnobcgfeaa
