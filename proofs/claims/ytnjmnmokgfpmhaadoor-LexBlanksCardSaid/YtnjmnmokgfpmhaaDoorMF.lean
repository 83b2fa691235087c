/- A source that goes on behind a line feed: its tokens up to there. Nothing here speaks of a program. -/
import Derived.Test.YtnjmnmokgfpmhaaDoorW
import Derived.Test.YtnjmnmokgfpmhaaDoorN
namespace Go.Proofs.YtnjmnmokgfpmhaaDoor
open Go.RowKit
set_option linter.unusedVariables false

structure Pf (a z : ByteArray) : Prop where
  lt : a.size < z.size
  at_ : ∀ i, i < a.size → bt z i = bt a i
  nl : bt z a.size = 10
theorem Pf.ex {a z : ByteArray} (h : Pf a z) (i j : Nat) (hj : j ≤ a.size) : z.extract i j = a.extract i j := by
  have h0 := h.lt
  refine bt_ext (by rw [ext_size _ _ _ hj, ext_size _ _ _ (by omega)]) (fun k hk => ?_)
  rw [ext_size _ _ _ (by omega)] at hk
  rw [ext_bt _ _ _ _ (by omega) hk, ext_bt _ _ _ _ hj hk]
  exact h.at_ _ (by omega)
theorem Pf.run {a z : ByteArray} (h : Pf a z) (p : Nat → Bool) (hp : p 10 = false) : ∀ n i, n = a.size - i → i ≤ a.size → run p z i = run p a i := by
  intro n
  induction n with
  | zero =>
    intro i hn hi
    obtain rfl : i = a.size := by omega
    rw [run_end (Nat.le_refl _), run_out (by rw [h.nl]; exact hp)]
  | succ n ih =>
    intro i hn hi
    have hl : i < a.size := by omega
    have hz := h.lt
    cases hpi : p (bt a i) with
    | true =>
      have e1 : Proofs.YtnjmnmokgfpmhaaDoor.run p a i = _ := run_inside hl hpi
      have e2 : Proofs.YtnjmnmokgfpmhaaDoor.run p z i = _ := run_inside (by omega) (by rw [h.at_ i hl]; exact hpi)
      rw [e1, e2]; exact ih _ (by omega) (by omega)
    | false =>
      have e1 : Proofs.YtnjmnmokgfpmhaaDoor.run p a i = _ := run_out hpi
      have e2 : Proofs.YtnjmnmokgfpmhaaDoor.run p z i = _ := run_out (by rw [h.at_ i hl]; exact hpi)
      rw [e1, e2]
theorem Pf.blank {a z : ByteArray} (h : Pf a z) : ∀ n i, n = a.size - i → i ≤ a.size → (Proofs.YtnjmnmokgfpmhaaDoor.run blank a i < a.size ∧ Proofs.YtnjmnmokgfpmhaaDoor.run blank z i = Proofs.YtnjmnmokgfpmhaaDoor.run blank a i) ∨ (Proofs.YtnjmnmokgfpmhaaDoor.run blank a i = a.size ∧ a.size ≤ Proofs.YtnjmnmokgfpmhaaDoor.run blank z i) := by
  intro n
  induction n with
  | zero =>
    intro i hn hi
    obtain rfl : i = a.size := by omega
    exact Or.inr ⟨run_end (Nat.le_refl _), run_ge _ _ _⟩
  | succ n ih =>
    intro i hn hi
    have hl : i < a.size := by omega
    have hz := h.lt
    cases hpi : Proofs.YtnjmnmokgfpmhaaDoor.blank (bt a i) with
    | true =>
      have e1 : Proofs.YtnjmnmokgfpmhaaDoor.run Proofs.YtnjmnmokgfpmhaaDoor.blank a i = _ := run_inside hl hpi
      have e2 : Proofs.YtnjmnmokgfpmhaaDoor.run Proofs.YtnjmnmokgfpmhaaDoor.blank z i = _ := run_inside (by omega) (by rw [h.at_ i hl]; exact hpi)
      rw [e1, e2]; exact ih _ (by omega) (by omega)
    | false =>
      have e1 : Proofs.YtnjmnmokgfpmhaaDoor.run Proofs.YtnjmnmokgfpmhaaDoor.blank a i = _ := run_out hpi
      have e2 : Proofs.YtnjmnmokgfpmhaaDoor.run Proofs.YtnjmnmokgfpmhaaDoor.blank z i = _ := run_out (by rw [h.at_ i hl]; exact hpi)
      rw [e1, e2]; exact Or.inl ⟨hl, rfl⟩
theorem Pf.slash {a z : ByteArray} (h : Pf a z) {i : Nat} (hi : i < a.size) : Proofs.YtnjmnmokgfpmhaaDoor.slash z i = Proofs.YtnjmnmokgfpmhaaDoor.slash a i := by
  have hz := h.lt
  unfold Proofs.YtnjmnmokgfpmhaaDoor.slash
  rw [decide_eq_decide, h.at_ i hi]
  by_cases h1 : i + 1 < a.size
  · rw [h.at_ _ h1]; constructor <;> (intro ⟨x, y⟩; exact ⟨by omega, y⟩)
  · obtain h2 : i + 1 = a.size := by omega
    rw [h2, h.nl]
    constructor <;> (intro ⟨x, y, t⟩; omega)
theorem skp_run (s : ByteArray) (i : Nat) (hi : i ≤ s.size) : run blank s i ≤ skp s i := by
  have h1 := run_bd blank s _ i rfl hi
  cases hs : slash s (run blank s i) with
  | true =>
    rw [skp_go hs]
    have h2 := slash_line hs
    have h3 := run_bd inl s _ (run blank s i) rfl h1.2
    have := skp_bd s _ _ rfl h3.2
    omega
  | false => rw [skp_stop hs]; exact Nat.le_refl _
theorem Pf.skp {a z : ByteArray} (h : Pf a z) : ∀ n i, n = a.size - i → i ≤ a.size → (Proofs.YtnjmnmokgfpmhaaDoor.skp a i < a.size ∧ Proofs.YtnjmnmokgfpmhaaDoor.skp z i = Proofs.YtnjmnmokgfpmhaaDoor.skp a i) ∨ (Proofs.YtnjmnmokgfpmhaaDoor.skp a i = a.size ∧ a.size ≤ Proofs.YtnjmnmokgfpmhaaDoor.skp z i) := by
  intro n
  induction n using Nat.strongRecOn with
  | ind n ih =>
    intro i hn hi
    have hz := h.lt
    have hg := run_ge Proofs.YtnjmnmokgfpmhaaDoor.blank a i
    rcases h.blank _ i rfl hi with ⟨h1, h2⟩ | ⟨h1, h2⟩
    · have hs := h.slash h1
      cases hsa : Proofs.YtnjmnmokgfpmhaaDoor.slash a (Proofs.YtnjmnmokgfpmhaaDoor.run Proofs.YtnjmnmokgfpmhaaDoor.blank a i) with
      | true =>
        have hl := slash_line hsa
        have hb := run_bd inl a _ _ rfl (Nat.le_of_lt h1)
        have e1 : Proofs.YtnjmnmokgfpmhaaDoor.skp a i = _ := skp_go hsa
        have e2 : Proofs.YtnjmnmokgfpmhaaDoor.skp z i = _ := skp_go (by rw [h2, hs]; exact hsa)
        rw [e1, e2, h2, h.run inl (by decide) _ _ rfl (Nat.le_of_lt h1)]
        exact ih _ (by omega) _ rfl hb.2
      | false =>
        have e1 : Proofs.YtnjmnmokgfpmhaaDoor.skp a i = _ := skp_stop hsa
        have e2 : Proofs.YtnjmnmokgfpmhaaDoor.skp z i = _ := skp_stop (by rw [h2, hs]; exact hsa)
        rw [e1, e2]
        exact Or.inl ⟨h1, h2⟩
    · refine Or.inr ⟨?_, Nat.le_trans h2 (skp_run z i (by omega))⟩
      rw [skp_stop, h1]
      rw [h1]; exact decide_eq_false (by omega)
theorem Pf.val {a z : ByteArray} (h : Pf a z) (b i : Nat) : ∀ k, i + k ≤ a.size → Proofs.YtnjmnmokgfpmhaaDoor.val b z i k = Proofs.YtnjmnmokgfpmhaaDoor.val b a i k := by
  intro k
  induction k with
  | zero => intro _; rfl
  | succ k ih => intro hk; show Proofs.YtnjmnmokgfpmhaaDoor.val b z i k * b + dig (bt z (i + k)) = Proofs.YtnjmnmokgfpmhaaDoor.val b a i k * b + dig (bt a (i + k)); rw [ih (by omega), h.at_ _ (by omega)]
theorem Pf.has {a z : ByteArray} (h : Pf a z) {i q : Nat} (hi : i ≤ a.size) (hq : q ≠ 10) : hasC z i q = hasC a i q := by
  have hz := h.lt
  unfold hasC
  rw [decide_eq_decide]
  by_cases h1 : i < a.size
  · rw [h.at_ i h1]; constructor <;> (intro ⟨x, y⟩; exact ⟨by omega, y⟩)
  · obtain rfl : i = a.size := by omega
    rw [h.nl]; constructor <;> (intro ⟨x, y⟩; omega)
theorem Pf.ins {a z : ByteArray} (h : Pf a z) {i q : Nat} (hi : i ≤ a.size) : (Proofs.YtnjmnmokgfpmhaaDoor.ins z i q).ok = (Proofs.YtnjmnmokgfpmhaaDoor.ins a i q).ok ∧ ((Proofs.YtnjmnmokgfpmhaaDoor.ins a i q).ok = true → Proofs.YtnjmnmokgfpmhaaDoor.ins z i q = Proofs.YtnjmnmokgfpmhaaDoor.ins a i q) := by
  have hz := h.lt
  unfold Proofs.YtnjmnmokgfpmhaaDoor.ins
  rw [if_neg (show ¬ z.size ≤ i by omega)]
  by_cases h1 : i < a.size
  · rw [if_neg (show ¬ a.size ≤ i by omega), h.at_ i h1]
    by_cases h2 : bt a i = 42
    · rw [if_pos h2, if_pos h2, if_neg (show ¬ z.size ≤ i + 1 by omega)]
      by_cases h3 : i + 1 < a.size
      · rw [if_neg (show ¬ a.size ≤ i + 1 by omega), h.at_ _ h3]; exact ⟨rfl, fun _ => rfl⟩
      · rw [if_pos (show a.size ≤ i + 1 by omega), show i + 1 = a.size by omega, h.nl]
        exact ⟨(show escOk 10 = false by decide), fun hh => Bool.noConfusion hh⟩
    · rw [if_neg h2, if_neg h2]; exact ⟨rfl, fun _ => rfl⟩
  · obtain rfl : i = a.size := by omega
    rw [if_pos (Nat.le_refl _), h.nl, if_neg (by decide)]
    exact ⟨by simp [plain], fun hh => Bool.noConfusion hh⟩
theorem Pf.str {a z : ByteArray} (h : Pf a z) : ∀ n i, n = a.size - i → i ≤ a.size → strO z i = strO a i := by
  intro n
  induction n using Nat.strongRecOn with
  | ind n ih =>
    intro i hn hi
    have hh := h.has (q := 34) hi (by decide)
    obtain ⟨hk, he⟩ := h.ins (q := 34) hi
    cases hc : hasC a i 34 with
    | true => rw [strO_end hc, strO_end (by rw [hh]; exact hc)]
    | false =>
      cases ho : (Proofs.YtnjmnmokgfpmhaaDoor.ins a i 34).ok with
      | true =>
        have hi2 := ins_ok ho
        rw [strO_step hc ho, strO_step (by rw [hh]; exact hc) (by rw [hk]; exact ho), he ho, ih _ (by omega) _ rfl hi2.2.2]
      | false => rw [strO_no hc ho, strO_no (by rw [hh]; exact hc) (by rw [hk]; exact ho)]
def sgnNo : Bool := (List.range 28).all fun i => bt (sgnB i) 1 != 10
theorem sgn_no (i : Nat) (h : i < 28) : bt (sgnB i) 1 ≠ 10 := by
  have h1 : sgnNo = true := by decide
  have h2 := List.all_eq_true.1 h1 i (List.mem_range.2 h)
  simpa using h2
theorem Pf.tok {a z : ByteArray} (h : Pf a z) {i : Nat} (hi : i < a.size) : tokAt z i = tokAt a i := by
  have hz := h.lt
  unfold tokAt
  rw [h.at_ i hi]
  congr 1
  · have hb := run_bd part a _ i rfl (by omega)
    unfold wordT
    rw [h.run part (by decide) _ i rfl (by omega), h.ex _ _ hb.2]
  · congr 1
    · have hb := run_bd digit a _ i rfl (by omega)
      unfold numT
      rw [h.run digit (by decide) _ i rfl (by omega), h.val _ _ _ (by omega)]
    · congr 1
      · have hb := run_bd hexc a _ (i + 1) rfl (by omega)
        unfold hexT
        rw [h.run hexc (by decide) _ (i + 1) rfl (by omega), h.val _ _ _ (by omega)]
      · congr 1
        · unfold chrT
          obtain ⟨hk, he⟩ := h.ins (i := i + 1) (q := 39) (by omega)
          cases ho : (Proofs.YtnjmnmokgfpmhaaDoor.ins a (i + 1) 39).ok with
          | true =>
            have hi2 := ins_ok ho
            rw [he ho, ho, h.has hi2.2.2 (by decide)]
          | false =>
            rw [if_neg (by rw [hk, ho]; simp), if_neg (by simp)]
        · congr 1
          · unfold strT
            rw [h.str _ (i + 1) rfl (by omega)]
          · unfold sgnT
            have e1 := h.ex i (i + 1) (by omega)
            have c1 : (i + 1 ≤ z.size) = True := eq_true (by omega)
            have c2 : (i + 1 ≤ a.size) = True := eq_true (by omega)
            simp only [e1, c1, c2, true_and]
            by_cases h2 : i + 2 ≤ a.size
            · have e2 := h.ex i (i + 2) h2
              have c3 : (i + 2 ≤ z.size) = True := eq_true (by omega)
              have c4 : (i + 2 ≤ a.size) = True := eq_true (by omega)
              simp only [e2, c3, c4, true_and]
            · have n1 : ¬ (i + 2 ≤ a.size ∧ hasB 28 sgnB (a.extract i (i + 2)) = true) := fun hh => h2 hh.1
              have n2 : ¬ (i + 2 ≤ z.size ∧ hasB 28 sgnB (z.extract i (i + 2)) = true) := by
                intro hh
                obtain ⟨k, hk, e⟩ := has_up hh.2
                have h5 := sgn_no k hk
                rw [e, ext_bt z i (i + 2) 1 hh.1 (by omega), show i + 1 = a.size by omega, h.nl] at h5
                exact h5 rfl
              rw [if_neg n1, if_neg n2]
theorem scG_le (s : ByteArray) : True := trivial
theorem Pf.scG {a z : ByteArray} (h : Pf a z) : ∀ n acc i, n = a.size - i → i ≤ a.size → (Proofs.YtnjmnmokgfpmhaaDoor.scG a acc i).er ≠ 0 → ¬ ((Proofs.YtnjmnmokgfpmhaaDoor.scG a acc i).er = 2 ∧ (Proofs.YtnjmnmokgfpmhaaDoor.scG a acc i).a = a.size) → Proofs.YtnjmnmokgfpmhaaDoor.scG z acc i = Proofs.YtnjmnmokgfpmhaaDoor.scG a acc i := by
  intro n
  induction n using Nat.strongRecOn with
  | ind n ih =>
    intro acc i hn hi he hne
    have hz := h.lt
    have hend : ∀ acc, (Proofs.YtnjmnmokgfpmhaaDoor.scG a acc a.size).er ≠ 0 → ¬ ((Proofs.YtnjmnmokgfpmhaaDoor.scG a acc a.size).er = 2 ∧ (Proofs.YtnjmnmokgfpmhaaDoor.scG a acc a.size).a = a.size) → False := by
      intro acc he hne
      by_cases hf : acc.length = 20000
      · rw [scG_over (by omega) hf] at hne; exact hne ⟨rfl, rfl⟩
      · rw [scG_end (by omega) hf] at he; exact he rfl
    by_cases hl : i < a.size
    · have ht := h.tok hl
      by_cases h0 : (tokAt a i).er = 0
      · by_cases hf : acc.length = 20000
        · rw [scG_full hl h0 hf, scG_full (by omega) (by rw [ht]; exact h0) hf]
        · rw [scG_step hl h0 hf] at he hne ⊢
          rw [scG_step (by omega) (by rw [ht]; exact h0) hf, ht]
          have hte := tokAt_e hl h0
          have hsk := skp_bd a _ _ rfl hte.2
          rcases h.skp _ _ rfl hte.2 with ⟨h1, h2⟩ | ⟨h1, h2⟩
          · rw [h2]; exact ih _ (by omega) _ _ rfl (by omega) he hne
          · rw [h1] at he hne; exact (hend _ he hne).elim
      · rw [scG_err hl h0, scG_err (by omega) (by rw [ht]; exact h0), ht]
    · obtain rfl : i = a.size := by omega
      exact (hend _ he hne).elim
theorem Pf.scan {a z : ByteArray} (h : Pf a z) (h4 : z.size ≤ 40000) (he : (Proofs.YtnjmnmokgfpmhaaDoor.scan a).er ≠ 0) (hne : ¬ ((Proofs.YtnjmnmokgfpmhaaDoor.scan a).er = 2 ∧ (Proofs.YtnjmnmokgfpmhaaDoor.scan a).a = a.size)) : Proofs.YtnjmnmokgfpmhaaDoor.scan z = Proofs.YtnjmnmokgfpmhaaDoor.scan a := by
  have hz := h.lt
  unfold Proofs.YtnjmnmokgfpmhaaDoor.scan at he hne ⊢
  rw [if_neg (show ¬ 40000 < a.size by omega)] at he hne ⊢
  rw [if_neg (show ¬ 40000 < z.size by omega)]
  rcases h.skp _ 0 rfl (Nat.zero_le _) with ⟨h1, h2⟩ | ⟨h1, h2⟩
  · rw [h2]; exact h.scG _ _ _ rfl (by omega) he hne
  · rw [h1] at he hne
    by_cases hf : ([] : List Tp).length = 20000
    · cases hf
    · rw [scG_end (by omega) hf] at he; exact (he rfl).elim
theorem cat_pf (a b : ByteArray) : Pf a (a ++ ⟨#[10]⟩ ++ b) := by
  have hs : (a ++ (⟨#[10]⟩ : ByteArray) ++ b).size = a.size + 1 + b.size := by rw [ByteArray.size_append, ByteArray.size_append]; rfl
  refine ⟨by omega, fun i hi => ?_, ?_⟩
  · unfold bt
    congr 1
    simp only [ByteArray.data_append, Array.getD_eq_getD_getElem?]
    rw [Array.getElem?_append_left (by simp; omega), Array.getElem?_append_left (by simpa using hi)]
  · unfold bt
    simp only [ByteArray.data_append, Array.getD_eq_getD_getElem?]
    rw [Array.getElem?_append_left (by simp), Array.getElem?_append_right (by simp)]
    simp
end Go.Proofs.YtnjmnmokgfpmhaaDoor
