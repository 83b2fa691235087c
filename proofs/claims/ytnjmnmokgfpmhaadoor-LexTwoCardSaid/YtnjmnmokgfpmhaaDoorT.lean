/- What a source's tokens are. Nothing here speaks of a program. -/
import Derived.Test.YtnjmnmokgfpmhaaDoorD
import Derived.Laws.BytesArg
namespace Go.Proofs.YtnjmnmokgfpmhaaDoor
open Go.RowKit
set_option linter.unusedVariables false

/-- A token but for its place, where it ends, and what is wrong. -/
structure Tk where
  k : Nat
  t : ByteArray
  n : Int
  e : Nat
  er : Nat
def nul : ByteArray := ⟨#[]⟩
def bad (x : Nat) : Tk := ⟨0, nul, 0, 0, x⟩
noncomputable def wordT (s : ByteArray) (a : Nat) : Tk :=
  if hasB 43 keyB (s.extract a (run part s a)) = true then ⟨4, s.extract a (run part s a), 0, run part s a, 0⟩
  else if 24 < (s.extract a (run part s a)).size then bad 2 else ⟨1, s.extract a (run part s a), 0, run part s a, 0⟩
def dig (c : Nat) : Nat := if c ≤ 57 then c - 48 else if 97 ≤ c then c - 87 else c - 55
/-- The value of k digits from a on. -/
def val (b : Nat) (s : ByteArray) (a : Nat) : Nat → Nat
  | 0 => 0
  | k + 1 => val b s a k * b + dig (bt s (a + k))
def numT (s : ByteArray) (a : Nat) : Tk := if 2147483647 < val 10 s a (run digit s a - a) then bad 22 else ⟨2, nul, (val 10 s a (run digit s a - a) : Nat), run digit s a, 0⟩
def sg (v : Nat) : Int := if 2147483648 ≤ v then (v : Int) - 4294967296 else v
def hexT (s : ByteArray) (a : Nat) : Tk :=
  if run hexc s (a + 1) = a + 1 then bad 20
  else if 4294967295 < val 16 s (a + 1) (run hexc s (a + 1) - (a + 1)) then bad 22 else ⟨2, nul, sg (val 16 s (a + 1) (run hexc s (a + 1) - (a + 1))), run hexc s (a + 1), 0⟩
/-- The byte within a text that ends with a mark; where it ends; whether it may stand there. -/
structure In where
  c : Nat
  nx : Nat
  ok : Bool
def ins (s : ByteArray) (a q : Nat) : In :=
  if s.size ≤ a then ⟨0, 0, false⟩ else if bt s a = 42 then (if s.size ≤ a + 1 then ⟨0, 0, false⟩ else ⟨esc (bt s (a + 1)), a + 2, escOk (bt s (a + 1))⟩)
  else ⟨bt s a, a + 1, plain (bt s a) && (bt s a != q)⟩
def hasC (s : ByteArray) (a q : Nat) : Bool := decide (a < s.size ∧ bt s a = q)
theorem ins_ok {s : ByteArray} {a q : Nat} (h : (ins s a q).ok = true) : a < s.size ∧ a < (ins s a q).nx ∧ (ins s a q).nx ≤ s.size := by
  unfold ins at h ⊢
  by_cases h1 : s.size ≤ a
  · rw [if_pos h1] at h; simp at h
  · rw [if_neg h1] at h ⊢
    by_cases h2 : bt s a = 42
    · rw [if_pos h2] at h ⊢
      by_cases h3 : s.size ≤ a + 1
      · rw [if_pos h3] at h; simp at h
      · rw [if_neg h3]; simp only; omega
    · rw [if_neg h2]; simp only; omega
def chrT (s : ByteArray) (a : Nat) : Tk := if (ins s (a + 1) 39).ok = true ∧ hasC s (ins s (a + 1) 39).nx 39 = true then ⟨2, nul, ((ins s (a + 1) 39).c : Nat), (ins s (a + 1) 39).nx + 1, 0⟩ else bad 21
/-- The bytes of a text from a place within it on, and where its mark stands. -/
def strO (s : ByteArray) (a : Nat) : Option (List Nat × Nat) :=
  if hasC s a 34 = true then some ([], a)
  else if h : (ins s a 34).ok = true then (strO s (ins s a 34).nx).map (fun p => ((ins s a 34).c :: p.1, p.2)) else none
termination_by s.size - a
decreasing_by have := ins_ok h; omega
theorem strO_end {s : ByteArray} {a : Nat} (h : hasC s a 34 = true) : strO s a = some ([], a) := by rw [strO, if_pos h]
theorem strO_no {s : ByteArray} {a : Nat} (h : hasC s a 34 = false) (h2 : (ins s a 34).ok = false) : strO s a = none := by rw [strO, if_neg (by simp [h]), dif_neg (by simp [h2])]
theorem strO_step {s : ByteArray} {a : Nat} (h : hasC s a 34 = false) (h2 : (ins s a 34).ok = true) : strO s a = (strO s (ins s a 34).nx).map (fun p => ((ins s a 34).c :: p.1, p.2)) := by rw [strO, if_neg (by simp [h]), dif_pos h2]
def ofL (l : List Nat) : ByteArray := strOfNums (l.map fun (c : Nat) => (c : Int))
def strT (s : ByteArray) (a : Nat) : Tk :=
  match strO s (a + 1) with
  | none => bad 21
  | some p => if 100 < p.1.length then bad 2 else ⟨3, ofL p.1, 0, p.2 + 1, 0⟩
noncomputable def sgnT (s : ByteArray) (a : Nat) : Tk :=
  if a + 2 ≤ s.size ∧ hasB 28 sgnB (s.extract a (a + 2)) = true then ⟨5, s.extract a (a + 2), 0, a + 2, 0⟩
  else if a + 1 ≤ s.size ∧ hasB 28 sgnB (s.extract a (a + 1)) = true then ⟨5, s.extract a (a + 1), 0, a + 1, 0⟩ else bad 20
noncomputable def tokAt (s : ByteArray) (a : Nat) : Tk :=
  if small (bt s a) = true then wordT s a else if digit (bt s a) = true then numT s a else if bt s a = 35 then hexT s a
  else if bt s a = 39 then chrT s a else if bt s a = 34 then strT s a else sgnT s a
/-- Where the next token begins. -/
def slash (s : ByteArray) (a : Nat) : Bool := decide (a + 2 ≤ s.size ∧ bt s a = 47 ∧ bt s (a + 1) = 47)
theorem run_ge (p : Nat → Bool) (s : ByteArray) (a : Nat) : a ≤ run p s a := by
  by_cases h : a ≤ s.size
  · exact (run_bd p s _ a rfl h).1
  · rw [run_end (by omega)]; omega
theorem slash_line {s : ByteArray} {a : Nat} (h : slash s a = true) : a < run inl s a := by
  have h := of_decide_eq_true h
  rw [run_inside (by omega) (by rw [h.2.1]; rfl)]
  exact run_ge _ _ _
def skp (s : ByteArray) (a : Nat) : Nat := if h : slash s (run blank s a) = true then skp s (run inl s (run blank s a)) else run blank s a
termination_by s.size - a
decreasing_by
  have h1 := slash_line h
  have h2 := run_ge blank s a
  have h3 := of_decide_eq_true h
  omega
theorem skp_go {s : ByteArray} {a : Nat} (h : slash s (run blank s a) = true) : skp s a = skp s (run inl s (run blank s a)) := by rw [skp, dif_pos h]
theorem skp_stop {s : ByteArray} {a : Nat} (h : slash s (run blank s a) = false) : skp s a = run blank s a := by rw [skp, dif_neg (by simp [h])]
theorem skp_bd (s : ByteArray) : ∀ n a, n = s.size - a → a ≤ s.size → a ≤ skp s a ∧ skp s a ≤ s.size := by
  intro n
  induction n using Nat.strongRecOn with
  | ind n ih =>
    intro a hn ha
    have h1 := run_bd blank s _ a rfl ha
    cases hs : slash s (run blank s a) with
    | true =>
      rw [skp_go hs]
      have h2 := slash_line hs
      have h3 := run_bd inl s _ (run blank s a) rfl h1.2
      have := ih (s.size - run inl s (run blank s a)) (by omega) _ rfl h3.2
      omega
    | false => rw [skp_stop hs]; exact h1
/-- A token with its place. -/
structure Tp where
  k : Nat
  t : ByteArray
  n : Int
  a : Nat
/-- The tokens, what is wrong, and where. -/
structure Sc where
  l : List Tp
  er : Nat
  a : Nat
noncomputable def scG (s : ByteArray) (acc : List Tp) (a : Nat) : Sc :=
  if a < s.size then
    (if (tokAt s a).er ≠ 0 then ⟨[], (tokAt s a).er, a⟩ else if acc.length = 20000 then ⟨[], 2, a⟩
     else if h : a < skp s (tokAt s a).e then scG s (acc ++ [⟨(tokAt s a).k, (tokAt s a).t, (tokAt s a).n, a⟩]) (skp s (tokAt s a).e) else ⟨[], 0, 0⟩)
  else if acc.length = 20000 then ⟨[], 2, s.size⟩ else ⟨acc ++ [⟨0, nul, 0, s.size⟩], 0, 0⟩
termination_by s.size - a
noncomputable def scan (s : ByteArray) : Sc := if 40000 < s.size then ⟨[], 2, 0⟩ else scG s [] (skp s 0)
theorem wordT_e {s : ByteArray} {a : Nat} (ha : a < s.size) (hs : small (bt s a) = true) (h : (wordT s a).er = 0) : a < (wordT s a).e ∧ (wordT s a).e ≤ s.size := by
  have h1 : a < run part s a ∧ run part s a ≤ s.size := by
    rw [run_inside ha (by unfold part; rw [hs]; rfl)]
    have := run_bd part s _ (a + 1) rfl (by omega); omega
  unfold wordT at h ⊢
  split
  · exact h1
  · split
    · rename_i h2 h3; rw [if_neg h2, if_pos h3] at h; simp [bad] at h
    · exact h1
theorem numT_e {s : ByteArray} {a : Nat} (ha : a < s.size) (hs : digit (bt s a) = true) (h : (numT s a).er = 0) : a < (numT s a).e ∧ (numT s a).e ≤ s.size := by
  have h1 : a < run digit s a ∧ run digit s a ≤ s.size := by
    rw [run_inside ha hs]
    have := run_bd digit s _ (a + 1) rfl (by omega); omega
  unfold numT at h ⊢
  split
  · rename_i h2; rw [if_pos h2] at h; simp [bad] at h
  · exact h1
theorem hexT_e {s : ByteArray} {a : Nat} (ha : a < s.size) (h : (hexT s a).er = 0) : a < (hexT s a).e ∧ (hexT s a).e ≤ s.size := by
  have h1 := run_bd hexc s _ (a + 1) rfl (by omega)
  unfold hexT at h ⊢
  split
  · rename_i h2; rw [if_pos h2] at h; simp [bad] at h
  · split
    · rename_i h2 h3; rw [if_neg h2, if_pos h3] at h; simp [bad] at h
    · simp only; omega
theorem chrT_e {s : ByteArray} {a : Nat} (h : (chrT s a).er = 0) : a < (chrT s a).e ∧ (chrT s a).e ≤ s.size := by
  unfold chrT at h ⊢
  split
  · rename_i h2
    have h3 := ins_ok h2.1
    have h4 := of_decide_eq_true h2.2
    simp only; omega
  · rename_i h2; rw [if_neg h2] at h; simp [bad] at h
theorem strO_bd {s : ByteArray} : ∀ n a p, n = s.size - a → strO s a = some p → a ≤ p.2 ∧ p.2 < s.size := by
  intro n
  induction n using Nat.strongRecOn with
  | ind n ih =>
    intro a p hn h
    cases h1 : hasC s a 34 with
    | true =>
      rw [strO_end h1] at h
      injection h with h; subst h
      exact ⟨Nat.le_refl _, (of_decide_eq_true h1).1⟩
    | false =>
      cases h2 : (ins s a 34).ok with
      | false => rw [strO_no h1 h2] at h; cases h
      | true =>
        rw [strO_step h1 h2] at h
        obtain ⟨q, hq, rfl⟩ := Option.map_eq_some_iff.1 h
        have h3 := ins_ok h2
        have := ih (s.size - (ins s a 34).nx) (by omega) _ q rfl hq
        simp only; omega
theorem strT_e {s : ByteArray} {a : Nat} (h : (strT s a).er = 0) : a < (strT s a).e ∧ (strT s a).e ≤ s.size := by
  unfold strT at h ⊢
  cases h1 : strO s (a + 1) with
  | none => rw [h1] at h; simp [bad] at h
  | some p =>
    rw [h1] at h
    have h2 := strO_bd _ _ _ rfl h1
    simp only at h ⊢
    split
    · rename_i h3; rw [if_pos h3] at h; simp [bad] at h
    · simp only; omega
theorem sgnT_e {s : ByteArray} {a : Nat} (h : (sgnT s a).er = 0) : a < (sgnT s a).e ∧ (sgnT s a).e ≤ s.size := by
  unfold sgnT at h ⊢
  split
  · rename_i h2; simp only; omega
  · split
    · rename_i h2 h3; simp only; omega
    · rename_i h2 h3; rw [if_neg h2, if_neg h3] at h; simp [bad] at h
theorem tokAt_e {s : ByteArray} {a : Nat} (ha : a < s.size) (h : (tokAt s a).er = 0) : a < (tokAt s a).e ∧ (tokAt s a).e ≤ s.size := by
  unfold tokAt at h ⊢
  split
  · rename_i h1; rw [if_pos h1] at h; exact wordT_e ha h1 h
  · rename_i h1; rw [if_neg h1] at h
    split
    · rename_i h2; rw [if_pos h2] at h; exact numT_e ha h2 h
    · rename_i h2; rw [if_neg h2] at h
      split
      · rename_i h3; rw [if_pos h3] at h; exact hexT_e ha h
      · rename_i h3; rw [if_neg h3] at h
        split
        · rename_i h4; rw [if_pos h4] at h; exact chrT_e h
        · rename_i h4; rw [if_neg h4] at h
          split
          · rename_i h5; rw [if_pos h5] at h; exact strT_e h
          · rename_i h5; rw [if_neg h5] at h; exact sgnT_e h
theorem scG_err {s : ByteArray} {acc : List Tp} {a : Nat} (ha : a < s.size) (h : (tokAt s a).er ≠ 0) : scG s acc a = ⟨[], (tokAt s a).er, a⟩ := by rw [scG, if_pos ha, if_pos h]
theorem scG_full {s : ByteArray} {acc : List Tp} {a : Nat} (ha : a < s.size) (h : (tokAt s a).er = 0) (hl : acc.length = 20000) : scG s acc a = ⟨[], 2, a⟩ := by rw [scG, if_pos ha, if_neg (by simp [h]), if_pos hl]
theorem scG_step {s : ByteArray} {acc : List Tp} {a : Nat} (ha : a < s.size) (h : (tokAt s a).er = 0) (hl : acc.length ≠ 20000) : scG s acc a = scG s (acc ++ [⟨(tokAt s a).k, (tokAt s a).t, (tokAt s a).n, a⟩]) (skp s (tokAt s a).e) := by
  have h1 := tokAt_e ha h
  have h2 := skp_bd s _ _ rfl h1.2
  rw [scG, if_pos ha, if_neg (by simp [h]), if_neg hl, dif_pos (by omega)]
theorem scG_end {s : ByteArray} {acc : List Tp} {a : Nat} (ha : ¬ a < s.size) (hl : acc.length ≠ 20000) : scG s acc a = ⟨acc ++ [⟨0, nul, 0, s.size⟩], 0, 0⟩ := by rw [scG, if_neg ha, if_neg hl]
theorem scG_over {s : ByteArray} {acc : List Tp} {a : Nat} (ha : ¬ a < s.size) (hl : acc.length = 20000) : scG s acc a = ⟨[], 2, s.size⟩ := by rw [scG, if_neg ha, if_pos hl]
end Go.Proofs.YtnjmnmokgfpmhaaDoor
