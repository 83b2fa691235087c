/- The reference's After; valid code along its way; what a procedure's room is. -/
import Derived.Test.YtdnckbcknahakaaGreatFK
namespace Go.Proofs.YtdnckbcknahakaaGreat
open Go.RowKit
set_option linter.unusedVariables false
set_option linter.unusedSimpArgs false

/-- Valid code from a place on: the procedures so far, the depth. -/
def Vd (procs : Nat) : Nat → Int → List Op3 → Prop
  | _, _, [] => True
  | p, d, o :: r => (o.op = 24 → o.n = (p : Int) + 1 ∧ p + 1 ≤ procs) ∧ (¬ o.op = 24 → 1 ≤ p ∧ 2 ≤ d ∧ d ≤ 4000) ∧ (-2147483648 ≤ o.n ∧ o.n ≤ 2147483647 ∧ -2147483648 ≤ o.m ∧ o.m ≤ 2147483647) ∧ (2 ≤ afterI o (if o.op = 24 then 0 else d) ∧ afterI o (if o.op = 24 then 0 else d) ≤ 4000) ∧ Vd procs (if o.op = 24 then p + 1 else p) (afterI o (if o.op = 24 then 0 else d)) r
theorem Vd.step {procs p : Nat} {d : Int} {l : List Op3} {j : Nat} {o : Op3} (h : Vd procs p d (l.drop j)) (ho : l[j]? = some o) :
    (o.op = 24 → o.n = (p : Int) + 1 ∧ p + 1 ≤ procs) ∧ (¬ o.op = 24 → 1 ≤ p ∧ 2 ≤ d ∧ d ≤ 4000) ∧ (-2147483648 ≤ o.n ∧ o.n ≤ 2147483647 ∧ -2147483648 ≤ o.m ∧ o.m ≤ 2147483647) ∧ (2 ≤ afterI o (if o.op = 24 then 0 else d) ∧ afterI o (if o.op = 24 then 0 else d) ≤ 4000) ∧ Vd procs (if o.op = 24 then p + 1 else p) (afterI o (if o.op = 24 then 0 else d)) (l.drop (j + 1)) := by
  obtain ⟨hj, rfl⟩ := List.getElem?_eq_some_iff.1 ho
  rw [List.drop_eq_getElem_cons hj] at h
  exact h
theorem inI_iff {a b c : Int} : inI a b c = true ↔ b ≤ a ∧ a ≤ c := by simp [inI]
theorem vd_of (procs nd : Nat) (lb : Int) : ∀ (l : List Op3) (p : Nat) (d : Int) (on b : Bool), (1 ≤ p → 2 ≤ d ∧ d ≤ 4000) → (runS prF ((p : Int), on) l).isSome = true → (runS dpF (d, b) l).isSome = true → (∀ x ∈ l, insB nd (procs : Int) lb x = true) → Vd procs p d l
  | [], _, _, _, _, _, _, _, _ => trivial
  | o :: r, p, d, on, b, hd, hp, hr, hi => by
    have hb := hi o List.mem_cons_self
    have h24 : o.op = 24 → 1 ≤ o.n ∧ o.n ≤ (procs : Int) := fun e => by
      simp only [insB, Bool.and_eq_true] at hb
      have := hb.1.2
      refine inI_iff.1 ?_
      simpa [firstB, e] using this
    have hbd : -2147483648 ≤ o.n ∧ o.n ≤ 2147483647 ∧ -2147483648 ≤ o.m ∧ o.m ≤ 2147483647 := by
      simp only [insB, beyond, Bool.and_eq_true, Bool.not_eq_true', Bool.or_eq_false_iff, decide_eq_false_iff_not] at hb
      omega
    rw [runS] at hp hr
    cases h1 : prF ((p : Int), on) o with
    | none => rw [h1] at hp; exact absurd hp (by simp)
    | some s =>
      cases h2 : dpF (d, b) o with
      | none => rw [h2] at hr; exact absurd hr (by simp)
      | some t =>
        rw [h1] at hp
        rw [h2] at hr
        simp only at hp hr
        have hdp : inI (afterI o (if o.op = 24 then 0 else d)) 2 4000 = true ∧ t.1 = afterI o (if o.op = 24 then 0 else d) := by
          unfold dpF at h2
          simp only at h2
          obtain ⟨d', hd'⟩ : ∃ y, y = (if o.op = 24 then (0 : Int) else d) := ⟨_, rfl⟩
          rw [← hd'] at h2 ⊢
          split at h2
          · rename_i hc
            exact ⟨hc.2.2, by rw [← Option.some.inj h2]⟩
          · exact absurd h2 (by simp)
        obtain ⟨t1, t2⟩ := t
        simp only at hdp
        obtain ⟨ha, rfl⟩ := hdp
        rw [inI_iff] at ha
        by_cases e : o.op = 24
        · have hs : o.n = (p : Int) + 1 ∧ s = (((p + 1 : Nat) : Int), true) := by
            unfold prF at h1
            rw [if_pos e] at h1
            split at h1
            · rename_i hc
              exact ⟨hc.1, (Option.some.inj h1).symm⟩
            · exact absurd h1 (by simp)
          obtain ⟨hn, rfl⟩ := hs
          have := h24 e
          simp only [if_pos e] at ha hr ⊢
          refine ⟨fun _ => ⟨hn, by omega⟩, fun h => absurd e h, hbd, ?_, ?_⟩
          · rw [if_pos e]; exact ha
          · rw [if_pos e, if_pos e]
            exact vd_of procs nd lb r (p + 1) _ true _ (fun _ => ha) hp hr (fun x hx => hi x (List.mem_cons_of_mem _ hx))
        · have hs : ¬ (p : Int) = 0 ∧ s = ((p : Int), goOn o.op) := by
            unfold prF at h1
            rw [if_neg e] at h1
            split at h1
            · exact absurd h1 (by simp)
            · rename_i hc
              exact ⟨hc, (Option.some.inj h1).symm⟩
          obtain ⟨hn, rfl⟩ := hs
          have hdd := hd (by omega)
          simp only [if_neg e] at ha hr ⊢
          refine ⟨fun h => absurd h e, fun _ => ⟨by omega, hdd⟩, hbd, ?_, ?_⟩
          · rw [if_neg e]; exact ha
          · rw [if_neg e, if_neg e]
            exact vd_of procs nd lb r p _ _ _ (fun _ => ha) hp hr (fun x hx => hi x (List.mem_cons_of_mem _ hx))
theorem vd_ok {c : Cod} (h : exE c = 0) : ∃ lp : Nat, c.procs = (lp : Int) ∧ lp ≤ 200 ∧ Vd lp 0 0 c.ops := by
  have hl := (lim_ok (ex_lim h).1).2.2.1
  have hi := (ex_lim h).2
  have hpd : procB c.ops = true ∧ depB c.ops = true := by
    unfold exE at h
    cases h1 : limB c with
    | false => rw [h1] at h; simp at h
    | true =>
      rw [h1] at h
      cases h2 : (qtb c.name && areasB c.data && entB c && instrB c) with
      | false => rw [h2] at h; simp at h
      | true =>
        rw [h2] at h
        cases h3 : (casB c.ops && procB c.ops && labB c) with
        | false => rw [h3] at h; simp at h
        | true =>
          rw [h3] at h
          cases h4 : (depB c.ops && takeB c.ops) with
          | false => rw [h4] at h; simp at h
          | true =>
            simp only [Bool.and_eq_true] at h3 h4
            exact ⟨h3.1.2, h4.1⟩
  simp only [instrB, Bool.and_eq_true, decide_eq_true_eq] at hi
  obtain ⟨⟨h1, h2⟩, h3⟩ := hi
  have hn := greatI_nn c.ops 24
  have e : c.procs = (c.procs.toNat : Int) := by omega
  refine ⟨c.procs.toNat, e, by omega, ?_⟩
  rw [e] at h3
  rw [List.all_eq_true] at h3
  refine vd_of c.procs.toNat c.data.length c.labels c.ops 0 0 false false (fun h => absurd h (by omega)) ?_ hpd.2 h3
  have := hpd.1
  unfold procB at this
  show (runS prF (0, false) c.ops).isSome = true
  cases hr : runS prF (0, false) c.ops with
  | none => rw [hr] at this; exact absurd this (by simp)
  | some s => rfl
/-- The depths along the way. -/
theorem dep_step {l : List Op3} {j : Nat} {o : Op3} {d : Int} (h : (depL 0 l).drop j = depL d (l.drop j)) (ho : l[j]? = some o) :
    (depL 0 l)[j]?.getD 0 = (if o.op = 24 then 0 else d) ∧ (depL 0 l).drop (j + 1) = depL (afterI o (if o.op = 24 then 0 else d)) (l.drop (j + 1)) := by
  obtain ⟨hj, rfl⟩ := List.getElem?_eq_some_iff.1 ho
  rw [List.drop_eq_getElem_cons hj, depL] at h
  have hj2 : j < (depL 0 l).length := by rw [depL_len]; exact hj
  rw [List.drop_eq_getElem_cons hj2] at h
  injection h with h1 h2
  exact ⟨by rw [List.getElem?_eq_getElem hj2]; exact h1, h2⟩
/-- The room along the way. -/
def rmF (s : Nat × Int × (Nat → Int)) (o : Op3) : Nat × Int × (Nat → Int) :=
  ((if o.op = 24 then s.1 + 1 else s.1), afterI o (if o.op = 24 then 0 else s.2.1),
    upd s.2.2 ((if o.op = 24 then s.1 + 1 else s.1) - 1) (max (max (s.2.2 ((if o.op = 24 then s.1 + 1 else s.1) - 1)) (if o.op = 24 then 0 else s.2.1)) (afterI o (if o.op = 24 then 0 else s.2.1))))
def rmL (l : List Op3) : Nat → Int := (l.foldl rmF (0, 0, fun _ => 0)).2.2
theorem rm_keep : ∀ (l : List Op3) (p : Nat) (d : Int) (h : Nat → Int) (k : Nat), k + 1 < p → (l.foldl rmF (p, d, h)).2.2 k = h k
  | [], _, _, _, _, _ => rfl
  | o :: r, p, d, h, k, hk => by
    rw [List.foldl_cons]
    show (r.foldl rmF (_, _, _)).2.2 k = h k
    simp only [rmF]
    rw [rm_keep r _ _ _ k (by split <;> omega)]
    unfold upd
    rw [if_neg (by split <;> omega)]
theorem rm_enter {l : List Op3} {j : Nat} {o : Op3} (ho : l[j]? = some o) (e : o.op = 24) (p : Nat) (d : Int) (h : Nat → Int) (k : Nat) (hk : k < p) : ((l.drop j).foldl rmF (p, d, h)).2.2 k = h k := by
  rw [fold_drop rmF _ ho]
  simp only [rmF, if_pos e]
  rw [rm_keep _ _ _ _ k (by omega)]
  unfold upd
  rw [if_neg (by omega)]
end Go.Proofs.YtdnckbcknahakaaGreat
