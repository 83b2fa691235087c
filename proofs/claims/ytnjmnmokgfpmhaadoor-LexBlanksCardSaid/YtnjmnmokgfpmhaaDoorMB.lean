/- Blanks and a remark put in where a token begins. Nothing here speaks of a program. -/
import Derived.Test.YtnjmnmokgfpmhaaDoorMS
namespace Go.Proofs.YtnjmnmokgfpmhaaDoor
open Go.RowKit
set_option linter.unusedVariables false

structure Pt (a z : ByteArray) : Prop where
  lt : a.size < z.size
  at_ : ∀ i, i < a.size → bt z i = bt a i
  nl : bt z a.size = 9
theorem Pt.ex {a z : ByteArray} (h : Pt a z) (i j : Nat) (hj : j ≤ a.size) : z.extract i j = a.extract i j := by
  have h0 := h.lt
  refine bt_ext (by rw [ext_size _ _ _ hj, ext_size _ _ _ (by omega)]) (fun k hk => ?_)
  rw [ext_size _ _ _ (by omega)] at hk
  rw [ext_bt _ _ _ _ (by omega) hk, ext_bt _ _ _ _ hj hk]
  exact h.at_ _ (by omega)
theorem Pt.run {a z : ByteArray} (h : Pt a z) (p : Nat → Bool) (hp : p 9 = false) : ∀ n i, n = a.size - i → i ≤ a.size → run p z i = run p a i := by
  intro n
  induction n with
  | zero =>
    intro i hn hi
    obtain rfl : i = a.size := by omega
    rw [run_end (Nat.le_refl _), run_out (by rw [h.nl]; exact hp)]
  | succ n ih =>
    intro i hn hi
    have hl : i < a.size := by omega
    have hz := h.lt
    cases hpi : p (bt a i) with
    | true =>
      have e1 : Proofs.YtnjmnmokgfpmhaaDoor.run p a i = _ := run_inside hl hpi
      have e2 : Proofs.YtnjmnmokgfpmhaaDoor.run p z i = _ := run_inside (by omega) (by rw [h.at_ i hl]; exact hpi)
      rw [e1, e2]; exact ih _ (by omega) (by omega)
    | false =>
      have e1 : Proofs.YtnjmnmokgfpmhaaDoor.run p a i = _ := run_out hpi
      have e2 : Proofs.YtnjmnmokgfpmhaaDoor.run p z i = _ := run_out (by rw [h.at_ i hl]; exact hpi)
      rw [e1, e2]
theorem Pt.val {a z : ByteArray} (h : Pt a z) (b i : Nat) : ∀ k, i + k ≤ a.size → Proofs.YtnjmnmokgfpmhaaDoor.val b z i k = Proofs.YtnjmnmokgfpmhaaDoor.val b a i k := by
  intro k
  induction k with
  | zero => intro _; rfl
  | succ k ih => intro hk; show Proofs.YtnjmnmokgfpmhaaDoor.val b z i k * b + dig (bt z (i + k)) = Proofs.YtnjmnmokgfpmhaaDoor.val b a i k * b + dig (bt a (i + k)); rw [ih (by omega), h.at_ _ (by omega)]
theorem Pt.has {a z : ByteArray} (h : Pt a z) {i q : Nat} (hi : i ≤ a.size) (hq : q ≠ 9) : hasC z i q = hasC a i q := by
  have hz := h.lt
  unfold hasC
  rw [decide_eq_decide]
  by_cases h1 : i < a.size
  · rw [h.at_ i h1]; constructor <;> (intro ⟨x, y⟩; exact ⟨by omega, y⟩)
  · obtain rfl : i = a.size := by omega
    rw [h.nl]; constructor <;> (intro ⟨x, y⟩; omega)
theorem Pt.ins {a z : ByteArray} (h : Pt a z) {i q : Nat} (hi : i ≤ a.size) : (Proofs.YtnjmnmokgfpmhaaDoor.ins z i q).ok = (Proofs.YtnjmnmokgfpmhaaDoor.ins a i q).ok ∧ ((Proofs.YtnjmnmokgfpmhaaDoor.ins a i q).ok = true → Proofs.YtnjmnmokgfpmhaaDoor.ins z i q = Proofs.YtnjmnmokgfpmhaaDoor.ins a i q) := by
  have hz := h.lt
  unfold Proofs.YtnjmnmokgfpmhaaDoor.ins
  rw [if_neg (show ¬ z.size ≤ i by omega)]
  by_cases h1 : i < a.size
  · rw [if_neg (show ¬ a.size ≤ i by omega), h.at_ i h1]
    by_cases h2 : bt a i = 42
    · rw [if_pos h2, if_pos h2, if_neg (show ¬ z.size ≤ i + 1 by omega)]
      by_cases h3 : i + 1 < a.size
      · rw [if_neg (show ¬ a.size ≤ i + 1 by omega), h.at_ _ h3]; exact ⟨rfl, fun _ => rfl⟩
      · rw [if_pos (show a.size ≤ i + 1 by omega), show i + 1 = a.size by omega, h.nl]
        exact ⟨(show escOk 9 = false by decide), fun hh => Bool.noConfusion hh⟩
    · rw [if_neg h2, if_neg h2]; exact ⟨rfl, fun _ => rfl⟩
  · obtain rfl : i = a.size := by omega
    rw [if_pos (Nat.le_refl _), h.nl, if_neg (by decide)]
    exact ⟨by simp [plain], fun hh => Bool.noConfusion hh⟩
theorem Pt.str {a z : ByteArray} (h : Pt a z) : ∀ n i, n = a.size - i → i ≤ a.size → strO z i = strO a i := by
  intro n
  induction n using Nat.strongRecOn with
  | ind n ih =>
    intro i hn hi
    have hh := h.has (q := 34) hi (by decide)
    obtain ⟨hk, he⟩ := h.ins (q := 34) hi
    cases hc : hasC a i 34 with
    | true => rw [strO_end hc, strO_end (by rw [hh]; exact hc)]
    | false =>
      cases ho : (Proofs.YtnjmnmokgfpmhaaDoor.ins a i 34).ok with
      | true =>
        have hi2 := ins_ok ho
        rw [strO_step hc ho, strO_step (by rw [hh]; exact hc) (by rw [hk]; exact ho), he ho, ih _ (by omega) _ rfl hi2.2.2]
      | false => rw [strO_no hc ho, strO_no (by rw [hh]; exact hc) (by rw [hk]; exact ho)]
def sgnNo9 : Bool := (List.range 28).all fun i => bt (sgnB i) 1 != 9
theorem sgn_no9 (i : Nat) (h : i < 28) : bt (sgnB i) 1 ≠ 9 := by
  have h1 : sgnNo9 = true := by decide
  have h2 := List.all_eq_true.1 h1 i (List.mem_range.2 h)
  simpa using h2
theorem Pt.tok {a z : ByteArray} (h : Pt a z) {i : Nat} (hi : i < a.size) : tokAt z i = tokAt a i := by
  have hz := h.lt
  unfold tokAt
  rw [h.at_ i hi]
  congr 1
  · have hb := run_bd part a _ i rfl (by omega)
    unfold wordT
    rw [h.run part (by decide) _ i rfl (by omega), h.ex _ _ hb.2]
  · congr 1
    · have hb := run_bd digit a _ i rfl (by omega)
      unfold numT
      rw [h.run digit (by decide) _ i rfl (by omega), h.val _ _ _ (by omega)]
    · congr 1
      · have hb := run_bd hexc a _ (i + 1) rfl (by omega)
        unfold hexT
        rw [h.run hexc (by decide) _ (i + 1) rfl (by omega), h.val _ _ _ (by omega)]
      · congr 1
        · unfold chrT
          obtain ⟨hk, he⟩ := h.ins (i := i + 1) (q := 39) (by omega)
          cases ho : (Proofs.YtnjmnmokgfpmhaaDoor.ins a (i + 1) 39).ok with
          | true =>
            have hi2 := ins_ok ho
            rw [he ho, ho, h.has hi2.2.2 (by decide)]
          | false =>
            rw [if_neg (by rw [hk, ho]; simp), if_neg (by simp)]
        · congr 1
          · unfold strT
            rw [h.str _ (i + 1) rfl (by omega)]
          · unfold sgnT
            have e1 := h.ex i (i + 1) (by omega)
            have c1 : (i + 1 ≤ z.size) = True := eq_true (by omega)
            have c2 : (i + 1 ≤ a.size) = True := eq_true (by omega)
            simp only [e1, c1, c2, true_and]
            by_cases h2 : i + 2 ≤ a.size
            · have e2 := h.ex i (i + 2) h2
              have c3 : (i + 2 ≤ z.size) = True := eq_true (by omega)
              have c4 : (i + 2 ≤ a.size) = True := eq_true (by omega)
              simp only [e2, c3, c4, true_and]
            · have n1 : ¬ (i + 2 ≤ a.size ∧ hasB 28 sgnB (a.extract i (i + 2)) = true) := fun hh => h2 hh.1
              have n2 : ¬ (i + 2 ≤ z.size ∧ hasB 28 sgnB (z.extract i (i + 2)) = true) := by
                intro hh
                obtain ⟨k, hk, e⟩ := has_up hh.2
                have h5 := sgn_no9 k hk
                rw [e, ext_bt z i (i + 2) 1 hh.1 (by omega), show i + 1 = a.size by omega, h.nl] at h5
                exact h5 rfl
              rw [if_neg n1, if_neg n2]

theorem Ps.scG2 {b z : ByteArray} {o : Nat} (h : Ps b z o) : ∀ n acc acc2 i, n = b.size - i → i ≤ b.size → acc.length = acc2.length →
    (Proofs.YtnjmnmokgfpmhaaDoor.scG z acc2 (o + i)).er = (Proofs.YtnjmnmokgfpmhaaDoor.scG b acc i).er ∧
    ((Proofs.YtnjmnmokgfpmhaaDoor.scG b acc i).er = 0 → ∃ M, (Proofs.YtnjmnmokgfpmhaaDoor.scG b acc i).l = acc ++ M ∧ (Proofs.YtnjmnmokgfpmhaaDoor.scG z acc2 (o + i)).l = acc2 ++ M.map (shT o)) := by
  intro n
  induction n using Nat.strongRecOn with
  | ind n ih =>
    intro acc acc2 i hn hi hl1
    have hz := h.sz
    by_cases f1 : acc.length = 20000
    · have f2 : acc2.length = 20000 := by omega
      by_cases hl : i < b.size
      · have ht := h.tok hl
        by_cases h0 : (tokAt b i).er = 0
        · rw [scG_full hl h0 f1, scG_full (by omega) (by rw [ht]; exact h0) f2]; exact ⟨rfl, fun hh => by cases hh⟩
        · rw [scG_err hl h0, scG_err (by omega) (by rw [ht]; exact h0), ht]; exact ⟨rfl, fun hh => absurd hh h0⟩
      · rw [scG_over hl f1, scG_over (by omega) f2]; exact ⟨rfl, fun hh => by cases hh⟩
    have f2 : acc2.length ≠ 20000 := by omega
    by_cases hl : i < b.size
    · have ht := h.tok hl
      have hoi : o + i < z.size := by omega
      by_cases h0 : (tokAt b i).er = 0
      · have hte := tokAt_e hl h0
        have hsk := skp_bd b _ _ rfl hte.2
        have h0' : (tokAt z (o + i)).er = 0 := by rw [ht]; exact h0
        have e1 := scG_step hl h0 f1
        have e2 := scG_step hoi h0' f2
        rw [e1, e2, ht]
        have he : (shK o (tokAt b i)).e = o + (tokAt b i).e := by show (if (tokAt b i).er = 0 then o + (tokAt b i).e else (tokAt b i).e) = _; rw [if_pos h0]
        rw [he, h.skp _ _ rfl hte.2]
        obtain ⟨r1, r3⟩ := ih _ (by omega) (acc ++ [⟨(tokAt b i).k, (tokAt b i).t, (tokAt b i).n, i⟩]) (acc2 ++ [⟨(tokAt b i).k, (tokAt b i).t, (tokAt b i).n, o + i⟩]) _ rfl hsk.2 (by rw [List.length_append, List.length_singleton, List.length_append, List.length_singleton]; omega)
        refine ⟨r1, fun hh => ?_⟩
        obtain ⟨M, m1, m2⟩ := r3 hh
        refine ⟨⟨(tokAt b i).k, (tokAt b i).t, (tokAt b i).n, i⟩ :: M, by rw [m1, List.append_assoc]; rfl, ?_⟩
        have m2' := m2
        rw [List.append_assoc] at m2'
        exact m2'
      · have h0' : (tokAt z (o + i)).er ≠ 0 := by rw [ht]; exact h0
        rw [scG_err hl h0, scG_err hoi h0', ht]
        exact ⟨rfl, fun hh => absurd hh h0⟩
    · obtain rfl : i = b.size := by omega
      rw [scG_end hl f1, scG_end (by omega) f2]
      refine ⟨rfl, fun _ => ⟨[⟨0, nul, 0, b.size⟩], rfl, ?_⟩⟩
      rw [h.sz]; rfl
theorem skp_same {z : ByteArray} {i j : Nat} (e : run blank z i = run blank z j) : skp z i = skp z j := by
  cases hs : slash z (run blank z i) with
  | true =>
    have e1 : skp z i = _ := skp_go hs
    have e2 : skp z j = _ := skp_go (by rw [← e]; exact hs)
    rw [e1, e2, e]
  | false =>
    have e1 : skp z i = _ := skp_stop hs
    have e2 : skp z j = _ := skp_stop (by rw [← e]; exact hs)
    rw [e1, e2, e]
/-- z is s with seven bytes put in at p. -/
structure Pi (s z : ByteArray) (p : Nat) : Prop where
  le : p ≤ s.size
  sz : z.size = s.size + 7
  at_ : ∀ i, i < p → bt z i = bt s i
  up : ∀ i, i < s.size - p → bt z (p + 7 + i) = bt s (p + i)
  i0 : bt z p = 9
  i1 : bt z (p + 1) = 32
  i2 : bt z (p + 2) = 47
  i3 : bt z (p + 3) = 47
  i4 : bt z (p + 4) = 42
  i5 : bt z (p + 5) = 32
  i6 : bt z (p + 6) = 10
theorem Pi.run {s z : ByteArray} {p : Nat} (h : Pi s z p) (q : Nat → Bool) : ∀ n i, n = p - i → i ≤ p → (Proofs.YtnjmnmokgfpmhaaDoor.run q s i < p ∧ Proofs.YtnjmnmokgfpmhaaDoor.run q z i = Proofs.YtnjmnmokgfpmhaaDoor.run q s i) ∨ (p ≤ Proofs.YtnjmnmokgfpmhaaDoor.run q s i ∧ Proofs.YtnjmnmokgfpmhaaDoor.run q z i = Proofs.YtnjmnmokgfpmhaaDoor.run q z p) := by
  have hle := h.le
  have hsz := h.sz
  intro n
  induction n with
  | zero =>
    intro i hn hi
    obtain rfl : i = p := by omega
    exact Or.inr ⟨run_ge _ _ _, rfl⟩
  | succ n ih =>
    intro i hn hi
    have hl : i < p := by omega
    cases hpi : q (bt s i) with
    | true =>
      have e1 : Proofs.YtnjmnmokgfpmhaaDoor.run q s i = _ := run_inside (by omega) hpi
      have e2 : Proofs.YtnjmnmokgfpmhaaDoor.run q z i = _ := run_inside (by omega) (by rw [h.at_ i hl]; exact hpi)
      rw [e1, e2]; exact ih _ (by omega) (by omega)
    | false =>
      have e1 : Proofs.YtnjmnmokgfpmhaaDoor.run q s i = _ := run_out hpi
      have e2 : Proofs.YtnjmnmokgfpmhaaDoor.run q z i = _ := run_out (by rw [h.at_ i hl]; exact hpi)
      rw [e1, e2]; exact Or.inl ⟨hl, rfl⟩
theorem Pi.inl {s z : ByteArray} {p : Nat} (h : Pi s z p) : Proofs.YtnjmnmokgfpmhaaDoor.run Proofs.YtnjmnmokgfpmhaaDoor.inl z p = p + 6 ∧ Proofs.YtnjmnmokgfpmhaaDoor.run Proofs.YtnjmnmokgfpmhaaDoor.inl z (p + 2) = p + 6 ∧ Proofs.YtnjmnmokgfpmhaaDoor.run Proofs.YtnjmnmokgfpmhaaDoor.blank z p = p + 2 ∧ Proofs.YtnjmnmokgfpmhaaDoor.run Proofs.YtnjmnmokgfpmhaaDoor.blank z (p + 6) = Proofs.YtnjmnmokgfpmhaaDoor.run Proofs.YtnjmnmokgfpmhaaDoor.blank z (p + 7) := by
  have hsz := h.sz
  have hle := h.le
  have a2 : Proofs.YtnjmnmokgfpmhaaDoor.run Proofs.YtnjmnmokgfpmhaaDoor.inl z (p + 2) = p + 6 := by
    rw [run_inside (by omega) (by rw [h.i2]; rfl), run_inside (by omega) (by rw [h.i3]; rfl), run_inside (by omega) (by rw [h.i4]; rfl), run_inside (by omega) (by rw [h.i5]; rfl), run_out (by rw [h.i6]; rfl)]
  refine ⟨?_, a2, ?_, run_inside (by omega) (by rw [h.i6]; rfl)⟩
  · rw [run_inside (by omega) (by rw [h.i0]; rfl), run_inside (by omega) (by rw [h.i1]; rfl)]; exact a2
  · rw [run_inside (by omega) (by rw [h.i0]; rfl), run_inside (by omega) (by rw [h.i1]; rfl), run_out (by rw [h.i2]; rfl)]
theorem Pi.skp6 {s z : ByteArray} {p : Nat} (h : Pi s z p) (hp : Proofs.YtnjmnmokgfpmhaaDoor.skp s p = p) : Proofs.YtnjmnmokgfpmhaaDoor.skp z (p + 6) = p + 7 := by
  have hsz := h.sz
  have hle := h.le
  obtain ⟨hpc, hcs⟩ : ∃ b : ByteArray, b = s.extract p s.size := ⟨_, rfl⟩
  have hb : hpc.size = s.size - p := by rw [hcs, ext_size _ _ _ (Nat.le_refl _)]
  have p1 : Ps hpc s p := ⟨by omega, fun i hi => by rw [hcs, ext_bt _ _ _ _ (Nat.le_refl _) (by omega)]⟩
  have p2 : Ps hpc z (p + 7) := ⟨by omega, fun i hi => by rw [h.up i (by omega), hcs, ext_bt _ _ _ _ (Nat.le_refl _) (by omega)]⟩
  have e1 := p1.skp _ 0 rfl (Nat.zero_le _)
  have e2 := p2.skp _ 0 rfl (Nat.zero_le _)
  rw [Nat.add_zero] at e1 e2
  rw [skp_same h.inl.2.2.2, e2]; omega
theorem Pi.skp7 {s z : ByteArray} {p : Nat} (h : Pi s z p) (hp : Proofs.YtnjmnmokgfpmhaaDoor.skp s p = p) : ∀ n i, n = p - i → i ≤ p → Proofs.YtnjmnmokgfpmhaaDoor.skp s i = p → Proofs.YtnjmnmokgfpmhaaDoor.skp z i = p + 7 := by
  have hsz := h.sz
  have hle := h.le
  intro n
  induction n using Nat.strongRecOn with
  | ind n ih =>
    intro i hn hi hk
    have hr := skp_run s i (by omega)
    have hb := run_bd Proofs.YtnjmnmokgfpmhaaDoor.blank s _ i rfl (by omega)
    rcases h.run Proofs.YtnjmnmokgfpmhaaDoor.blank _ i rfl hi with ⟨h1, h2⟩ | ⟨h1, h2⟩
    · cases hs : Proofs.YtnjmnmokgfpmhaaDoor.slash s (Proofs.YtnjmnmokgfpmhaaDoor.run Proofs.YtnjmnmokgfpmhaaDoor.blank s i) with
      | false =>
        have e1 : Proofs.YtnjmnmokgfpmhaaDoor.skp s i = _ := skp_stop hs
        omega
      | true =>
        have e1 : Proofs.YtnjmnmokgfpmhaaDoor.skp s i = _ := skp_go hs
        have hl := slash_line hs
        have hb2 := run_bd Proofs.YtnjmnmokgfpmhaaDoor.inl s _ _ rfl hb.2
        have hb3 := skp_bd s _ _ rfl hb2.2
        have h3 := of_decide_eq_true hs
        have hu : Proofs.YtnjmnmokgfpmhaaDoor.run Proofs.YtnjmnmokgfpmhaaDoor.blank s i + 2 ≤ Proofs.YtnjmnmokgfpmhaaDoor.run Proofs.YtnjmnmokgfpmhaaDoor.inl s (Proofs.YtnjmnmokgfpmhaaDoor.run Proofs.YtnjmnmokgfpmhaaDoor.blank s i) := by
          have e3 := run_inside (p := Proofs.YtnjmnmokgfpmhaaDoor.inl) (s := s) (i := Proofs.YtnjmnmokgfpmhaaDoor.run Proofs.YtnjmnmokgfpmhaaDoor.blank s i) (by omega) (by rw [h3.2.1]; rfl)
          have e4 := run_inside (p := Proofs.YtnjmnmokgfpmhaaDoor.inl) (s := s) (i := Proofs.YtnjmnmokgfpmhaaDoor.run Proofs.YtnjmnmokgfpmhaaDoor.blank s i + 1) (by omega) (by rw [h3.2.2]; rfl)
          rw [e3, e4]
          exact run_ge _ _ _
        have hsz2 : Proofs.YtnjmnmokgfpmhaaDoor.slash z (Proofs.YtnjmnmokgfpmhaaDoor.run Proofs.YtnjmnmokgfpmhaaDoor.blank z i) = true := by
          rw [h2]
          refine decide_eq_true ⟨by omega, ?_, ?_⟩
          · rw [h.at_ _ (by omega)]; exact h3.2.1
          · rw [h.at_ _ (by omega)]; exact h3.2.2
        have e2 : Proofs.YtnjmnmokgfpmhaaDoor.skp z i = _ := skp_go hsz2
        rw [e2, h2]
        rcases h.run Proofs.YtnjmnmokgfpmhaaDoor.inl _ (Proofs.YtnjmnmokgfpmhaaDoor.run Proofs.YtnjmnmokgfpmhaaDoor.blank s i) rfl (by omega) with ⟨g1, g2⟩ | ⟨g1, g2⟩
        · rw [g2]; exact ih _ (by omega) _ rfl (by omega) (by rw [← e1]; exact hk)
        · rw [g2, h.inl.1]; exact h.skp6 hp
    · have hsz2 : Proofs.YtnjmnmokgfpmhaaDoor.slash z (Proofs.YtnjmnmokgfpmhaaDoor.run Proofs.YtnjmnmokgfpmhaaDoor.blank z i) = true := by
        rw [h2, h.inl.2.2.1]
        exact decide_eq_true ⟨by omega, h.i2, h.i3⟩
      have e2 : Proofs.YtnjmnmokgfpmhaaDoor.skp z i = _ := skp_go hsz2
      rw [e2, h2, h.inl.2.2.1, h.inl.2.1]; exact h.skp6 hp
theorem Pi.skpl {s z : ByteArray} {p : Nat} (h : Pi s z p) : ∀ n i, n = p - i → i ≤ p → Proofs.YtnjmnmokgfpmhaaDoor.skp s i < p → Proofs.YtnjmnmokgfpmhaaDoor.skp z i = Proofs.YtnjmnmokgfpmhaaDoor.skp s i := by
  have hsz := h.sz
  have hle := h.le
  intro n
  induction n using Nat.strongRecOn with
  | ind n ih =>
    intro i hn hi hk
    have hr := skp_run s i (by omega)
    have hb := run_bd Proofs.YtnjmnmokgfpmhaaDoor.blank s _ i rfl (by omega)
    rcases h.run Proofs.YtnjmnmokgfpmhaaDoor.blank _ i rfl hi with ⟨h1, h2⟩ | ⟨h1, h2⟩
    · cases hs : Proofs.YtnjmnmokgfpmhaaDoor.slash s (Proofs.YtnjmnmokgfpmhaaDoor.run Proofs.YtnjmnmokgfpmhaaDoor.blank s i) with
      | false =>
        have e1 : Proofs.YtnjmnmokgfpmhaaDoor.skp s i = _ := skp_stop hs
        have hsz2 : Proofs.YtnjmnmokgfpmhaaDoor.slash z (Proofs.YtnjmnmokgfpmhaaDoor.run Proofs.YtnjmnmokgfpmhaaDoor.blank z i) = false := by
          rw [h2]
          cases hh : Proofs.YtnjmnmokgfpmhaaDoor.slash z (Proofs.YtnjmnmokgfpmhaaDoor.run Proofs.YtnjmnmokgfpmhaaDoor.blank s i) with
          | false => rfl
          | true =>
            have h3 := of_decide_eq_true hh
            rw [h.at_ _ h1] at h3
            by_cases h5 : Proofs.YtnjmnmokgfpmhaaDoor.run Proofs.YtnjmnmokgfpmhaaDoor.blank s i + 1 < p
            · rw [h.at_ _ h5] at h3
              have : Proofs.YtnjmnmokgfpmhaaDoor.slash s (Proofs.YtnjmnmokgfpmhaaDoor.run Proofs.YtnjmnmokgfpmhaaDoor.blank s i) = true := decide_eq_true ⟨by omega, h3.2⟩
              rw [hs] at this; cases this
            · have e5 : Proofs.YtnjmnmokgfpmhaaDoor.run Proofs.YtnjmnmokgfpmhaaDoor.blank s i + 1 = p := by omega
              rw [e5, h.i0] at h3
              have := h3.2.2; omega
        have e2 : Proofs.YtnjmnmokgfpmhaaDoor.skp z i = _ := skp_stop hsz2
        rw [e1, e2, h2]
      | true =>
        have e1 : Proofs.YtnjmnmokgfpmhaaDoor.skp s i = _ := skp_go hs
        have hl := slash_line hs
        have hb2 := run_bd Proofs.YtnjmnmokgfpmhaaDoor.inl s _ _ rfl hb.2
        have hb3 := skp_bd s _ _ rfl hb2.2
        have h3 := of_decide_eq_true hs
        have hu : Proofs.YtnjmnmokgfpmhaaDoor.run Proofs.YtnjmnmokgfpmhaaDoor.blank s i + 2 ≤ Proofs.YtnjmnmokgfpmhaaDoor.run Proofs.YtnjmnmokgfpmhaaDoor.inl s (Proofs.YtnjmnmokgfpmhaaDoor.run Proofs.YtnjmnmokgfpmhaaDoor.blank s i) := by
          have e3 := run_inside (p := Proofs.YtnjmnmokgfpmhaaDoor.inl) (s := s) (i := Proofs.YtnjmnmokgfpmhaaDoor.run Proofs.YtnjmnmokgfpmhaaDoor.blank s i) (by omega) (by rw [h3.2.1]; rfl)
          have e4 := run_inside (p := Proofs.YtnjmnmokgfpmhaaDoor.inl) (s := s) (i := Proofs.YtnjmnmokgfpmhaaDoor.run Proofs.YtnjmnmokgfpmhaaDoor.blank s i + 1) (by omega) (by rw [h3.2.2]; rfl)
          rw [e3, e4]
          exact run_ge _ _ _
        have hsz2 : Proofs.YtnjmnmokgfpmhaaDoor.slash z (Proofs.YtnjmnmokgfpmhaaDoor.run Proofs.YtnjmnmokgfpmhaaDoor.blank z i) = true := by
          rw [h2]
          refine decide_eq_true ⟨by omega, ?_, ?_⟩
          · rw [h.at_ _ (by omega)]; exact h3.2.1
          · rw [h.at_ _ (by omega)]; exact h3.2.2
        have e2 : Proofs.YtnjmnmokgfpmhaaDoor.skp z i = _ := skp_go hsz2
        rw [e2, h2]
        rcases h.run Proofs.YtnjmnmokgfpmhaaDoor.inl _ (Proofs.YtnjmnmokgfpmhaaDoor.run Proofs.YtnjmnmokgfpmhaaDoor.blank s i) rfl (by omega) with ⟨g1, g2⟩ | ⟨g1, g2⟩
        · rw [g2, e1]; exact ih _ (by omega) _ rfl (by omega) (by rw [← e1]; exact hk)
        · omega
    · omega
theorem skp_skp (s : ByteArray) : ∀ n i, n = s.size - i → i ≤ s.size → skp s (skp s i) = skp s i := by
  intro n
  induction n using Nat.strongRecOn with
  | ind n ih =>
    intro i hn hi
    have hb := run_bd blank s _ i rfl hi
    cases hs : slash s (run blank s i) with
    | true =>
      have e1 : skp s i = _ := skp_go hs
      have hl := slash_line hs
      have hb2 := run_bd inl s _ _ rfl hb.2
      rw [e1]; exact ih _ (by omega) _ rfl hb2.2
    | false =>
      have e1 : skp s i = _ := skp_stop hs
      have hrr : run blank s (run blank s i) = run blank s i := by
        have : ∀ n j, n = s.size - j → j ≤ s.size → run blank s (run blank s j) = run blank s j := by
          intro n
          induction n with
          | zero => intro j hn hj; rw [run_end (show s.size ≤ j by omega), run_end (show s.size ≤ j by omega)]
          | succ n ih2 =>
            intro j hn hj
            cases hp : blank (bt s j) with
            | true =>
              have e : run blank s j = _ := run_inside (by omega) hp
              rw [e]; exact ih2 _ (by omega) (by omega)
            | false =>
              have e : run blank s j = _ := run_out hp
              rw [e, e]
        exact this _ i rfl hi
      rw [e1, skp_same hrr, e1]
theorem Pi.tok {s z : ByteArray} {p : Nat} (h : Pi s z p) {i : Nat} (hi : i < p) (h0 : (tokAt s i).er = 0) (he : (tokAt s i).e ≤ p) : tokAt z i = tokAt s i := by
  have hsz := h.sz
  have hle := h.le
  obtain ⟨hpc, hcs⟩ := cut_pc s p h.le
  have e1 := hpc.tok (i := i) (by omega) h0 (by omega)
  have hpt : Pt (s.extract 0 p) z := ⟨by omega, fun j hj => by rw [h.at_ j (by omega), hpc.at_ j hj], by rw [hcs]; exact h.i0⟩
  rw [hpt.tok (by omega), e1]
theorem Pi.scG {s z : ByteArray} {p : Nat} (h : Pi s z p) : ∀ n acc i k t, n = s.size - i → i ≤ p → t.a = p → acc.length ≤ 20000 → (Proofs.YtnjmnmokgfpmhaaDoor.scG s acc (Proofs.YtnjmnmokgfpmhaaDoor.skp s i)).er = 0 → acc.length ≤ k → (Proofs.YtnjmnmokgfpmhaaDoor.scG s acc (Proofs.YtnjmnmokgfpmhaaDoor.skp s i)).l[k]? = some t →
    Proofs.YtnjmnmokgfpmhaaDoor.skp s p = p ∧ Proofs.YtnjmnmokgfpmhaaDoor.scG z acc (Proofs.YtnjmnmokgfpmhaaDoor.skp z i) = Proofs.YtnjmnmokgfpmhaaDoor.scG z ((Proofs.YtnjmnmokgfpmhaaDoor.scG s acc (Proofs.YtnjmnmokgfpmhaaDoor.skp s i)).l.take k) (p + 7) ∧ Proofs.YtnjmnmokgfpmhaaDoor.scG s acc (Proofs.YtnjmnmokgfpmhaaDoor.skp s i) = Proofs.YtnjmnmokgfpmhaaDoor.scG s ((Proofs.YtnjmnmokgfpmhaaDoor.scG s acc (Proofs.YtnjmnmokgfpmhaaDoor.skp s i)).l.take k) p := by
  have hsz := h.sz
  have hle := h.le
  intro n
  induction n using Nat.strongRecOn with
  | ind n ih =>
    intro acc i k t hn hi hta hlen he hk ht
    have hsb := skp_bd s _ i rfl (by omega)
    obtain ⟨M, h1, h2, h3, h4, h5, h6⟩ := scG_shape s _ acc _ rfl hsb.2 hlen he
    have htM : t ∈ M := by
      rw [h1, List.getElem?_append_right hk] at ht
      exact List.mem_of_getElem? ht
    have hta2 := h3 t htM
    rw [hta] at hta2
    have fin : Proofs.YtnjmnmokgfpmhaaDoor.skp s i = p → k = acc.length → Proofs.YtnjmnmokgfpmhaaDoor.skp s p = p ∧ Proofs.YtnjmnmokgfpmhaaDoor.scG z acc (Proofs.YtnjmnmokgfpmhaaDoor.skp z i) = Proofs.YtnjmnmokgfpmhaaDoor.scG z ((Proofs.YtnjmnmokgfpmhaaDoor.scG s acc (Proofs.YtnjmnmokgfpmhaaDoor.skp s i)).l.take k) (p + 7) ∧ Proofs.YtnjmnmokgfpmhaaDoor.scG s acc (Proofs.YtnjmnmokgfpmhaaDoor.skp s i) = Proofs.YtnjmnmokgfpmhaaDoor.scG s ((Proofs.YtnjmnmokgfpmhaaDoor.scG s acc (Proofs.YtnjmnmokgfpmhaaDoor.skp s i)).l.take k) p := by
      intro e1 e2
      have e3 : Proofs.YtnjmnmokgfpmhaaDoor.skp s p = p := by
        have := skp_skp s _ i rfl (by omega)
        rw [e1] at this; exact this
      rw [h.skp7 e3 _ i rfl hi e1, h1, e2, List.take_left, e1]
      exact ⟨e3, rfl, rfl⟩
    by_cases hl : Proofs.YtnjmnmokgfpmhaaDoor.skp s i < s.size
    · by_cases h0 : (tokAt s (Proofs.YtnjmnmokgfpmhaaDoor.skp s i)).er = 0
      · by_cases hf : acc.length = 20000
        · rw [scG_full hl h0 hf] at he; cases he
        · have hte := tokAt_e hl h0
          have hsk := skp_bd s _ _ rfl hte.2
          have hstep := scG_step hl h0 hf
          have hlen2 : (acc ++ [(⟨(tokAt s (Proofs.YtnjmnmokgfpmhaaDoor.skp s i)).k, (tokAt s (Proofs.YtnjmnmokgfpmhaaDoor.skp s i)).t, (tokAt s (Proofs.YtnjmnmokgfpmhaaDoor.skp s i)).n, Proofs.YtnjmnmokgfpmhaaDoor.skp s i⟩ : Tp)]).length = acc.length + 1 := by rw [List.length_append, List.length_singleton]
          by_cases hkk : k = acc.length
          · refine fin ?_ hkk
            have he' := he
            have ht' := ht
            rw [hstep] at he' ht'
            obtain ⟨M2, g1, _⟩ := scG_shape s _ _ _ rfl hsk.2 (by rw [hlen2]; omega) he'
            rw [g1, hkk, List.append_assoc, List.getElem?_append_right (Nat.le_refl _), Nat.sub_self] at ht'
            have e : t = ⟨(tokAt s (Proofs.YtnjmnmokgfpmhaaDoor.skp s i)).k, (tokAt s (Proofs.YtnjmnmokgfpmhaaDoor.skp s i)).t, (tokAt s (Proofs.YtnjmnmokgfpmhaaDoor.skp s i)).n, Proofs.YtnjmnmokgfpmhaaDoor.skp s i⟩ := (Option.some.inj ht').symm
            rw [← hta, e]
          · have he' := he
            have ht' := ht
            rw [hstep] at he' ht'
            obtain ⟨M2, g1, g2, g3, _⟩ := scG_shape s _ _ _ rfl hsk.2 (by rw [hlen2]; omega) he'
            have htM2 : t ∈ M2 := by
              rw [g1, List.getElem?_append_right (by rw [hlen2]; omega)] at ht'
              exact List.mem_of_getElem? ht'
            have hta3 := g3 t htM2
            rw [hta] at hta3
            obtain ⟨r1, r2, r3⟩ := ih _ (by omega) _ (tokAt s (Proofs.YtnjmnmokgfpmhaaDoor.skp s i)).e k t rfl (by omega) hta (by rw [hlen2]; omega) he' (by rw [hlen2]; omega) ht'
            have htz := h.tok (i := Proofs.YtnjmnmokgfpmhaaDoor.skp s i) (by omega) h0 (by omega)
            have hz := scG_step (s := z) (a := Proofs.YtnjmnmokgfpmhaaDoor.skp s i) (acc := acc) (by omega) (by rw [htz]; exact h0) hf
            rw [htz] at hz
            rw [h.skpl _ i rfl hi (by omega), hz, hstep]
            exact ⟨r1, r2, r3⟩
      · rw [scG_err hl h0] at he; exact absurd he h0
    · have e1 : Proofs.YtnjmnmokgfpmhaaDoor.skp s i = s.size := by omega
      by_cases hf : acc.length = 20000
      · rw [e1, scG_over (by omega) hf] at he; cases he
      · refine fin (by omega) ?_
        have ht' := ht
        rw [e1, scG_end (by omega) hf] at ht'
        have := (List.getElem?_eq_some_iff.1 ht').1
        rw [List.length_append, List.length_singleton] at this
        omega
theorem Pi.scan {s z : ByteArray} {p : Nat} (h : Pi s z p) (h4 : z.size ≤ 40000) (he : (Proofs.YtnjmnmokgfpmhaaDoor.scan s).er = 0) {k : Nat} {t : Tp} (ht : (Proofs.YtnjmnmokgfpmhaaDoor.scan s).l[k]? = some t) (hta : t.a = p) :
    (Proofs.YtnjmnmokgfpmhaaDoor.scan z).er = 0 ∧ ∃ A M : List Tp, (Proofs.YtnjmnmokgfpmhaaDoor.scan s).l = A ++ M.map (shT p) ∧ (Proofs.YtnjmnmokgfpmhaaDoor.scan z).l = A ++ M.map (shT (p + 7)) := by
  have hsz := h.sz
  have hle := h.le
  unfold Proofs.YtnjmnmokgfpmhaaDoor.scan at he ht ⊢
  rw [if_neg (show ¬ 40000 < s.size by omega)] at he ht ⊢
  rw [if_neg (show ¬ 40000 < z.size by omega)]
  obtain ⟨r1, r2, r3⟩ := h.scG _ [] 0 k t rfl (Nat.zero_le _) hta (by simp) he (Nat.zero_le _) ht
  obtain ⟨A, hA⟩ : ∃ A, A = (Proofs.YtnjmnmokgfpmhaaDoor.scG s [] (Proofs.YtnjmnmokgfpmhaaDoor.skp s 0)).l.take k := ⟨_, rfl⟩
  rw [← hA] at r2 r3
  obtain ⟨b, hb⟩ : ∃ b : ByteArray, b = s.extract p s.size := ⟨_, rfl⟩
  have hbs : b.size = s.size - p := by rw [hb, ext_size _ _ _ (Nat.le_refl _)]
  have p1 : Ps b s p := ⟨by omega, fun i hi => by rw [hb, ext_bt _ _ _ _ (Nat.le_refl _) (by omega)]⟩
  have p2 : Ps b z (p + 7) := ⟨by omega, fun i hi => by rw [h.up i (by omega), hb, ext_bt _ _ _ _ (Nat.le_refl _) (by omega)]⟩
  obtain ⟨q1, q2⟩ := p1.scG2 _ A A 0 rfl (Nat.zero_le _) rfl
  obtain ⟨w1, w2⟩ := p2.scG2 _ A A 0 rfl (Nat.zero_le _) rfl
  rw [Nat.add_zero] at q1 q2 w1 w2
  rw [r3] at he
  have h0 : (Proofs.YtnjmnmokgfpmhaaDoor.scG b A 0).er = 0 := by rw [← q1]; exact he
  obtain ⟨M, m1, m2⟩ := q2 h0
  obtain ⟨M', m1', m2'⟩ := w2 h0
  have hM : M = M' := List.append_cancel_left (m1.symm.trans m1')
  subst hM
  rw [r2]
  refine ⟨by rw [w1]; exact h0, A, M, ?_, m2'⟩
  rw [r3]; exact m2
end Go.Proofs.YtnjmnmokgfpmhaaDoor
