/- A source that is cut where one of its tokens begins; where tokens stand. Nothing here speaks of a program. -/
import Derived.Test.YtkkapgidddfdoaaDoorMF
namespace Go.Proofs.YtkkapgidddfdoaaDoor
open Go.RowKit
set_option linter.unusedVariables false

structure Pc (a s : ByteArray) : Prop where
  le : a.size ≤ s.size
  at_ : ∀ i, i < a.size → bt a i = bt s i
theorem Pc.ex {a s : ByteArray} (h : Pc a s) (i j : Nat) (hj : j ≤ a.size) : a.extract i j = s.extract i j := by
  have h0 := h.le
  refine bt_ext (by rw [ext_size _ _ _ hj, ext_size _ _ _ (by omega)]) (fun k hk => ?_)
  rw [ext_size _ _ _ hj] at hk
  rw [ext_bt _ _ _ _ hj hk, ext_bt _ _ _ _ (by omega) hk]
  exact h.at_ _ (by omega)
theorem cut_pc (s : ByteArray) (c : Nat) (hc : c ≤ s.size) : Pc (s.extract 0 c) s ∧ (s.extract 0 c).size = c := by
  have e := ext_size s 0 c hc
  rw [Nat.sub_zero] at e
  refine ⟨⟨by omega, fun i hi => ?_⟩, e⟩
  rw [ext_bt s 0 c i hc (by omega), Nat.zero_add]
theorem Pc.run {a s : ByteArray} (h : Pc a s) (p : Nat → Bool) : ∀ n i, n = a.size - i → i ≤ a.size → Proofs.YtkkapgidddfdoaaDoor.run p a i = min (Proofs.YtkkapgidddfdoaaDoor.run p s i) a.size := by
  intro n
  induction n with
  | zero =>
    intro i hn hi
    obtain rfl : i = a.size := by omega
    have := run_ge p s a.size
    rw [run_end (Nat.le_refl _)]; omega
  | succ n ih =>
    intro i hn hi
    have hl : i < a.size := by omega
    have hz := h.le
    cases hpi : p (bt a i) with
    | true =>
      have e1 : Proofs.YtkkapgidddfdoaaDoor.run p a i = _ := run_inside hl hpi
      have e2 : Proofs.YtkkapgidddfdoaaDoor.run p s i = _ := run_inside (by omega) (by rw [← h.at_ i hl]; exact hpi)
      rw [e1, e2]; exact ih _ (by omega) (by omega)
    | false =>
      have e1 : Proofs.YtkkapgidddfdoaaDoor.run p a i = _ := run_out hpi
      have e2 : Proofs.YtkkapgidddfdoaaDoor.run p s i = _ := run_out (by rw [← h.at_ i hl]; exact hpi)
      rw [e1, e2]; omega
theorem Pc.run' {a s : ByteArray} (h : Pc a s) (p : Nat → Bool) (i : Nat) (hi : i ≤ a.size) (hr : Proofs.YtkkapgidddfdoaaDoor.run p s i ≤ a.size) : Proofs.YtkkapgidddfdoaaDoor.run p a i = Proofs.YtkkapgidddfdoaaDoor.run p s i := by
  rw [h.run p _ i rfl hi]; omega
theorem Pc.skp {a s : ByteArray} (h : Pc a s) : ∀ n i, n = a.size - i → i ≤ a.size → Proofs.YtkkapgidddfdoaaDoor.skp s i ≤ a.size → Proofs.YtkkapgidddfdoaaDoor.skp a i = Proofs.YtkkapgidddfdoaaDoor.skp s i := by
  intro n
  induction n using Nat.strongRecOn with
  | ind n ih =>
    intro i hn hi hk
    have hz := h.le
    have hr := skp_run s i (by omega)
    have hg := run_ge Proofs.YtkkapgidddfdoaaDoor.blank s i
    have er := h.run' blank i hi (by omega)
    cases hs : slash s (Proofs.YtkkapgidddfdoaaDoor.run blank s i) with
    | true =>
      have hb := run_bd blank s _ i rfl (by omega)
      have hl := slash_line hs
      have hb2 := run_bd inl s _ _ rfl hb.2
      have e1 : Proofs.YtkkapgidddfdoaaDoor.skp s i = _ := skp_go hs
      have hb3 := skp_bd s _ _ rfl hb2.2
      rw [e1] at hk ⊢
      have h3 := of_decide_eq_true hs
      have hu : Proofs.YtkkapgidddfdoaaDoor.run blank s i + 2 ≤ Proofs.YtkkapgidddfdoaaDoor.run inl s (Proofs.YtkkapgidddfdoaaDoor.run blank s i) := by
        have e3 := run_inside (p := inl) (s := s) (i := Proofs.YtkkapgidddfdoaaDoor.run blank s i) (by omega) (by rw [h3.2.1]; rfl)
        have e4 := run_inside (p := inl) (s := s) (i := Proofs.YtkkapgidddfdoaaDoor.run blank s i + 1) (by omega) (by rw [h3.2.2]; rfl)
        rw [e3, e4]
        exact run_ge _ _ _
      have hsa : slash a (Proofs.YtkkapgidddfdoaaDoor.run blank a i) = true := by
        rw [er]
        refine decide_eq_true ⟨by omega, ?_, ?_⟩
        · rw [h.at_ _ (by omega)]; exact h3.2.1
        · rw [h.at_ _ (by omega)]; exact h3.2.2
      have e2 : Proofs.YtkkapgidddfdoaaDoor.skp a i = _ := skp_go hsa
      rw [e2, er, h.run' inl _ (by omega) (by omega)]
      exact ih _ (by omega) _ rfl (by omega) hk
    | false =>
      have e1 : Proofs.YtkkapgidddfdoaaDoor.skp s i = _ := skp_stop hs
      rw [e1] at hk ⊢
      have hsa : slash a (Proofs.YtkkapgidddfdoaaDoor.run blank a i) = false := by
        rw [er]
        cases hh : slash a (Proofs.YtkkapgidddfdoaaDoor.run blank s i) with
        | false => rfl
        | true =>
          have h3 := of_decide_eq_true hh
          have : slash s (Proofs.YtkkapgidddfdoaaDoor.run blank s i) = true := decide_eq_true ⟨by omega, by rw [← h.at_ _ (by omega)]; exact h3.2.1, by rw [← h.at_ _ (by omega)]; exact h3.2.2⟩
          rw [hs] at this; cases this
      have e2 : Proofs.YtkkapgidddfdoaaDoor.skp a i = _ := skp_stop hsa
      rw [e2, er]
theorem Pc.val {a s : ByteArray} (h : Pc a s) (b i : Nat) : ∀ k, i + k ≤ a.size → Proofs.YtkkapgidddfdoaaDoor.val b a i k = Proofs.YtkkapgidddfdoaaDoor.val b s i k := by
  intro k
  induction k with
  | zero => intro _; rfl
  | succ k ih => intro hk; show Proofs.YtkkapgidddfdoaaDoor.val b a i k * b + dig (bt a (i + k)) = Proofs.YtkkapgidddfdoaaDoor.val b s i k * b + dig (bt s (i + k)); rw [ih (by omega), h.at_ _ (by omega)]
theorem Pc.has {a s : ByteArray} (h : Pc a s) {i q : Nat} (hi : i < a.size) : hasC a i q = hasC s i q := by
  have hz := h.le
  unfold hasC
  rw [decide_eq_decide, h.at_ i hi]
  constructor <;> (intro ⟨x, y⟩; exact ⟨by omega, y⟩)
theorem Pc.ins {a s : ByteArray} (h : Pc a s) {i q : Nat} (hn : (Proofs.YtkkapgidddfdoaaDoor.ins s i q).nx ≤ a.size) (ho : (Proofs.YtkkapgidddfdoaaDoor.ins s i q).ok = true) : Proofs.YtkkapgidddfdoaaDoor.ins a i q = Proofs.YtkkapgidddfdoaaDoor.ins s i q := by
  have hz := h.le
  have hk := ins_ok ho
  have hia : i < a.size := by omega
  unfold Proofs.YtkkapgidddfdoaaDoor.ins at hn ⊢
  rw [if_neg (show ¬ s.size ≤ i by omega)] at hn ⊢
  rw [if_neg (show ¬ a.size ≤ i by omega), h.at_ i hia]
  by_cases h2 : bt s i = 42
  · rw [if_pos h2] at hn ⊢
    rw [if_pos h2]
    by_cases h3 : s.size ≤ i + 1
    · unfold Proofs.YtkkapgidddfdoaaDoor.ins at ho
      rw [if_neg (show ¬ s.size ≤ i by omega), if_pos h2, if_pos h3] at ho; cases ho
    · rw [if_neg h3] at hn ⊢
      have : i + 2 ≤ a.size := hn
      rw [if_neg (show ¬ a.size ≤ i + 1 by omega), h.at_ _ (by omega)]
  · rw [if_neg h2, if_neg h2]
theorem Pc.str {a s : ByteArray} (h : Pc a s) (p : List Nat × Nat) : ∀ n i q, n = a.size - i → strO s i = some (q, p.2) → p.2 < a.size → i ≤ p.2 ∧ strO a i = some (q, p.2) := by
  intro n
  induction n using Nat.strongRecOn with
  | ind n ih =>
    intro i q hn hs hp
    have hz := h.le
    cases hc : hasC s i 34 with
    | true =>
      rw [strO_end hc] at hs
      simp only [Option.some.injEq, Prod.mk.injEq] at hs
      obtain ⟨rfl, rfl⟩ := hs
      exact ⟨Nat.le_refl _, strO_end (by rw [h.has hp]; exact hc)⟩
    | false =>
      cases ho : (Proofs.YtkkapgidddfdoaaDoor.ins s i 34).ok with
      | false => rw [strO_no hc ho] at hs; cases hs
      | true =>
        have hk := ins_ok ho
        rw [strO_step hc ho, Option.map_eq_some_iff] at hs
        obtain ⟨⟨q', e'⟩, h1, h2⟩ := hs
        simp only [Prod.mk.injEq] at h2
        obtain ⟨rfl, rfl⟩ := h2
        by_cases hia : i < a.size
        · obtain ⟨h3, h4⟩ := ih _ (by omega) _ q' rfl h1 hp
          have e := h.ins (q := 34) (i := i) (by omega) ho
          refine ⟨by omega, ?_⟩
          rw [strO_step (by rw [h.has (by omega)]; exact hc) (by rw [e]; exact ho), e, h4]; rfl
        · exfalso
          have hge : ∀ n j q e, n = s.size - j → strO s j = some (q, e) → j ≤ e := by
            intro n
            induction n using Nat.strongRecOn with
            | ind n ih2 =>
              intro j q e hn hs
              cases hc : hasC s j 34 with
              | true => rw [strO_end hc] at hs; simp only [Option.some.injEq, Prod.mk.injEq] at hs; omega
              | false =>
                cases ho : (Proofs.YtkkapgidddfdoaaDoor.ins s j 34).ok with
                | false => rw [strO_no hc ho] at hs; cases hs
                | true =>
                  have hk := ins_ok ho
                  rw [strO_step hc ho, Option.map_eq_some_iff] at hs
                  obtain ⟨⟨q', e'⟩, h1, h2⟩ := hs
                  simp only [Prod.mk.injEq] at h2
                  have := ih2 _ (by omega) _ _ _ rfl h1
                  omega
          have := hge _ _ _ _ rfl h1
          omega
theorem Pc.tok {a s : ByteArray} (h : Pc a s) {i : Nat} (hi : i < a.size) (h0 : (tokAt s i).er = 0) (he : (tokAt s i).e ≤ a.size) : tokAt a i = tokAt s i := by
  have hz := h.le
  unfold tokAt at h0 he ⊢
  rw [h.at_ i hi]
  split
  · rename_i hk
    rw [if_pos hk] at h0 he
    have hr : Proofs.YtkkapgidddfdoaaDoor.run part s i ≤ a.size := by
      unfold wordT at h0 he
      split at he
      · exact he
      · rename_i hx
        rw [if_neg hx] at h0
        split at he
        · rename_i hy; rw [if_pos hy] at h0; cases h0
        · exact he
    unfold wordT
    rw [h.run' part i (by omega) hr, h.ex _ _ hr]
  · rename_i hk
    rw [if_neg hk] at h0 he
    split
    · rename_i hk2
      rw [if_pos hk2] at h0 he
      have hr : Proofs.YtkkapgidddfdoaaDoor.run digit s i ≤ a.size := by
        unfold numT at h0 he
        split at he
        · rename_i hy; rw [if_pos hy] at h0; cases h0
        · exact he
      have hg := run_ge digit s i
      unfold numT
      rw [h.run' digit i (by omega) hr, h.val _ _ _ (by omega)]
    · rename_i hk2
      rw [if_neg hk2] at h0 he
      split
      · rename_i hk3
        rw [if_pos hk3] at h0 he
        have hr : Proofs.YtkkapgidddfdoaaDoor.run hexc s (i + 1) ≤ a.size := by
          unfold hexT at h0 he
          split at he
          · rename_i hy; rw [if_pos hy] at h0; cases h0
          · rename_i hx
            rw [if_neg hx] at h0
            split at he
            · rename_i hy; rw [if_pos hy] at h0; cases h0
            · exact he
        have hg := run_ge hexc s (i + 1)
        unfold hexT
        rw [h.run' hexc (i + 1) (by omega) hr, h.val _ _ _ (by omega)]
      · rename_i hk3
        rw [if_neg hk3] at h0 he
        split
        · rename_i hk4
          rw [if_pos hk4] at h0 he
          unfold chrT at h0 he ⊢
          split at he
          · rename_i hy
            have hnx : (Proofs.YtkkapgidddfdoaaDoor.ins s (i + 1) 39).nx + 1 ≤ a.size := he
            have e := h.ins (q := 39) (i := i + 1) (by omega) hy.1
            rw [if_pos hy, e, if_pos ⟨hy.1, by rw [h.has (by omega)]; exact hy.2⟩]
          · rename_i hy; rw [if_neg hy] at h0; cases h0
        · rename_i hk4
          rw [if_neg hk4] at h0 he
          split
          · rename_i hk5
            rw [if_pos hk5] at h0 he
            unfold strT at h0 he ⊢
            cases hs : strO s (i + 1) with
            | none => rw [hs] at h0; cases h0
            | some p =>
              rw [hs] at h0 he
              have hp : p.2 < a.size := by
                simp only at h0 he
                split at he
                · rename_i hy; rw [if_pos hy] at h0; cases h0
                · exact he
              obtain ⟨_, e⟩ := h.str p _ (i + 1) p.1 rfl hs hp
              rw [e]
          · rename_i hk5
            rw [if_neg hk5] at h0 he
            unfold sgnT at h0 he ⊢
            have e1 := h.ex i (i + 1) (by omega)
            have c1 : (i + 1 ≤ s.size) = True := eq_true (by omega)
            have c2 : (i + 1 ≤ a.size) = True := eq_true (by omega)
            by_cases h2 : i + 2 ≤ a.size
            · have e2 := h.ex i (i + 2) h2
              have c3 : (i + 2 ≤ s.size) = True := eq_true (by omega)
              have c4 : (i + 2 ≤ a.size) = True := eq_true (by omega)
              simp only [e1, e2, c1, c2, c3, c4, true_and]
            · have n1 : ¬ (i + 2 ≤ a.size ∧ hasB 28 sgnB (a.extract i (i + 2)) = true) := fun hh => h2 hh.1
              have n2 : ¬ (i + 2 ≤ s.size ∧ hasB 28 sgnB (s.extract i (i + 2)) = true) := by
                intro hh
                rw [if_pos hh] at he
                exact h2 he
              rw [if_neg n1, if_neg n2]
              simp only [e1, c1, c2, true_and]
theorem scG_shape (s : ByteArray) : ∀ n acc i, n = s.size - i → i ≤ s.size → acc.length ≤ 20000 → (Proofs.YtkkapgidddfdoaaDoor.scG s acc i).er = 0 → ∃ M, (Proofs.YtkkapgidddfdoaaDoor.scG s acc i).l = acc ++ M ∧ (Proofs.YtkkapgidddfdoaaDoor.scG s acc i).a = 0 ∧ (∀ t ∈ M, i ≤ t.a ∧ t.a ≤ s.size) ∧ M.Pairwise (fun x y => x.a < y.a) ∧ M.getLast? = some ⟨0, nul, 0, s.size⟩ ∧ (acc ++ M).length ≤ 20000 := by
  intro n
  induction n using Nat.strongRecOn with
  | ind n ih =>
    intro acc i hn hi hlen he
    by_cases hl : i < s.size
    · by_cases h0 : (tokAt s i).er = 0
      · by_cases hf : acc.length = 20000
        · rw [scG_full hl h0 hf] at he; cases he
        · rw [scG_step hl h0 hf] at he ⊢
          have hte := tokAt_e hl h0
          have hsk := skp_bd s _ _ rfl hte.2
          obtain ⟨M, h1, h2, h3, h4, h5, h6⟩ := ih _ (by omega) _ _ rfl hsk.2 (by rw [List.length_append, List.length_singleton]; omega) he
          refine ⟨⟨(tokAt s i).k, (tokAt s i).t, (tokAt s i).n, i⟩ :: M, by rw [h1, List.append_assoc]; rfl, h2, ?_, ?_, ?_, ?_⟩
          · intro t ht
            rcases List.mem_cons.1 ht with rfl | ht
            · exact ⟨Nat.le_refl _, hi⟩
            · have := h3 t ht; omega
          · refine List.pairwise_cons.2 ⟨fun t ht => ?_, h4⟩
            have := h3 t ht
            show i < t.a
            omega
          · rw [List.getLast?_cons, h5]; rfl
          · rw [List.append_assoc] at h6; exact h6
      · rw [scG_err hl h0] at he; exact absurd he h0
    · obtain rfl : i = s.size := by omega
      by_cases hf : acc.length = 20000
      · rw [scG_over hl hf] at he; cases he
      · rw [scG_end hl hf]
        refine ⟨[⟨0, nul, 0, s.size⟩], rfl, rfl, fun t ht => ?_, List.pairwise_singleton _ _, rfl, by rw [List.length_append, List.length_singleton]; omega⟩
        rw [List.mem_singleton.1 ht]
        exact ⟨Nat.le_refl _, Nat.le_refl _⟩
theorem scG_bad (s : ByteArray) : ∀ n acc i, n = s.size - i → i ≤ s.size → (Proofs.YtkkapgidddfdoaaDoor.scG s acc i).er ≠ 0 → (Proofs.YtkkapgidddfdoaaDoor.scG s acc i).l = [] ∧ (Proofs.YtkkapgidddfdoaaDoor.scG s acc i).a ≤ s.size := by
  intro n
  induction n using Nat.strongRecOn with
  | ind n ih =>
    intro acc i hn hi he
    by_cases hl : i < s.size
    · by_cases h0 : (tokAt s i).er = 0
      · by_cases hf : acc.length = 20000
        · rw [scG_full hl h0 hf]; exact ⟨rfl, hi⟩
        · rw [scG_step hl h0 hf] at he ⊢
          have hte := tokAt_e hl h0
          have hsk := skp_bd s _ _ rfl hte.2
          exact ih _ (by omega) _ _ rfl hsk.2 he
      · rw [scG_err hl h0]; exact ⟨rfl, hi⟩
    · obtain rfl : i = s.size := by omega
      by_cases hf : acc.length = 20000
      · rw [scG_over hl hf]; exact ⟨rfl, Nat.le_refl _⟩
      · rw [scG_end hl hf] at he; exact absurd rfl he
theorem scG_cut (s : ByteArray) : ∀ n acc i k t, n = s.size - i → i ≤ s.size → acc.length ≤ 20000 → (Proofs.YtkkapgidddfdoaaDoor.scG s acc i).er = 0 → acc.length ≤ k → (Proofs.YtkkapgidddfdoaaDoor.scG s acc i).l[k]? = some t → i ≤ t.a ∧ Proofs.YtkkapgidddfdoaaDoor.scG (s.extract 0 t.a) acc i = ⟨(Proofs.YtkkapgidddfdoaaDoor.scG s acc i).l.take k ++ [⟨0, nul, 0, t.a⟩], 0, 0⟩ := by
  intro n
  induction n using Nat.strongRecOn with
  | ind n ih =>
    intro acc i k t hn hi hlen he hk ht
    obtain ⟨M, h1, h2, h3, h4, h5, h6⟩ := scG_shape s _ acc i rfl hi hlen he
    have htM : t ∈ M := by
      rw [h1, List.getElem?_append_right hk] at ht
      exact List.mem_of_getElem? ht
    have hta := h3 t htM
    refine ⟨hta.1, ?_⟩
    obtain ⟨hpc, hcs⟩ := cut_pc s t.a hta.2
    by_cases hl : i < s.size
    · by_cases h0 : (tokAt s i).er = 0
      · by_cases hf : acc.length = 20000
        · rw [scG_full hl h0 hf] at he; cases he
        · have hte := tokAt_e hl h0
          have hsk := skp_bd s _ _ rfl hte.2
          have hstep := scG_step hl h0 hf
          have hlen2 : (acc ++ [(⟨(tokAt s i).k, (tokAt s i).t, (tokAt s i).n, i⟩ : Tp)]).length = acc.length + 1 := by rw [List.length_append, List.length_singleton]
          rw [hstep] at he ht ⊢
          obtain ⟨M2, g1, g2, g3, g4, g5, g6⟩ := scG_shape s _ _ _ rfl hsk.2 (by rw [hlen2]; omega) he
          by_cases hkk : k = acc.length
          · subst hkk
            have e : t = ⟨(tokAt s i).k, (tokAt s i).t, (tokAt s i).n, i⟩ := by
              rw [g1, List.append_assoc, List.getElem?_append_right (Nat.le_refl _), Nat.sub_self] at ht
              exact (Option.some.inj ht).symm
            have ea : t.a = i := by rw [e]
            rw [ea] at hcs ⊢
            rw [scG_end (by omega) hf, hcs, g1, List.append_assoc, List.take_left]
          · obtain ⟨i1, i2⟩ := ih _ (by omega) _ _ k t rfl hsk.2 (by rw [hlen2]; omega) he (by rw [hlen2]; omega) ht
            have ht2 := hpc.tok (i := i) (by omega) h0 (by omega)
            rw [scG_step (by omega) (by rw [ht2]; exact h0) hf, ht2, hpc.skp _ _ rfl (by omega) (by omega)]
            exact i2
      · rw [scG_err hl h0] at he; exact absurd he h0
    · obtain rfl : i = s.size := by omega
      by_cases hf : acc.length = 20000
      · rw [scG_over hl hf] at he; cases he
      · rw [scG_end hl hf] at ht ⊢
        obtain rfl : k = acc.length := by
          have := (List.getElem?_eq_some_iff.1 ht).1
          rw [List.length_append, List.length_singleton] at this
          omega
        have e : t = ⟨0, nul, 0, s.size⟩ := by
          simp only at ht
          rw [List.getElem?_append_right (Nat.le_refl _), Nat.sub_self] at ht
          exact (Option.some.inj ht).symm
        have ea : t.a = s.size := by rw [e]
        rw [ea] at hcs ⊢
        rw [scG_end (by omega) hf, hcs, List.take_left]
theorem scan_shape {s : ByteArray} (he : (scan s).er = 0) : s.size ≤ 40000 ∧ (scan s).a = 0 ∧ (scan s).l.Pairwise (fun x y => x.a < y.a) ∧ (scan s).l.getLast? = some ⟨0, nul, 0, s.size⟩ ∧ (scan s).l.length ≤ 20000 ∧ ∀ t ∈ (scan s).l, t.a ≤ s.size := by
  unfold scan at he ⊢
  by_cases h4 : 40000 < s.size
  · rw [if_pos h4] at he; cases he
  · rw [if_neg h4] at he ⊢
    have hsk := skp_bd s _ 0 rfl (Nat.zero_le _)
    obtain ⟨M, h1, h2, h3, h4, h5, h6⟩ := scG_shape s _ [] _ rfl hsk.2 (by simp) he
    rw [List.nil_append] at h1 h6
    rw [h1]
    exact ⟨by omega, h2, h4, h5, h6, fun t ht => (h3 t ht).2⟩
theorem scan_bad {s : ByteArray} (he : (scan s).er ≠ 0) : (scan s).l = [] ∧ (scan s).a ≤ s.size := by
  unfold scan at he ⊢
  by_cases h4 : 40000 < s.size
  · rw [if_pos h4]; exact ⟨rfl, Nat.zero_le _⟩
  · rw [if_neg h4] at he ⊢
    exact scG_bad s _ [] _ rfl (skp_bd s _ 0 rfl (Nat.zero_le _)).2 he
theorem scan_cut {s : ByteArray} (he : (scan s).er = 0) {k : Nat} {t : Tp} (ht : (scan s).l[k]? = some t) : scan (s.extract 0 t.a) = ⟨(scan s).l.take k ++ [⟨0, nul, 0, t.a⟩], 0, 0⟩ := by
  have hsh := scan_shape he
  have hta := hsh.2.2.2.2.2 t (List.mem_of_getElem? ht)
  obtain ⟨hpc, hcs⟩ := cut_pc s t.a hta
  unfold scan at he ht ⊢
  rw [if_neg (by omega)] at he ht ⊢
  rw [if_neg (by omega)]
  have hsk := skp_bd s _ 0 rfl (Nat.zero_le _)
  obtain ⟨h1, h2⟩ := scG_cut s _ [] _ k t rfl hsk.2 (by simp) he (Nat.zero_le _) ht
  rw [hpc.skp _ 0 rfl (Nat.zero_le _) (by omega)]
  exact h2
end Go.Proofs.YtkkapgidddfdoaaDoor
