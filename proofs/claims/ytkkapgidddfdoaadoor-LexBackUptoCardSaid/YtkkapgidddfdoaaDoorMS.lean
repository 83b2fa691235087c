/- A source behind another one: its tokens are the same, further on. Nothing here speaks of a program. -/
import Derived.Test.YtkkapgidddfdoaaDoorMP
namespace Go.Proofs.YtkkapgidddfdoaaDoor
open Go.RowKit
set_option linter.unusedVariables false

structure Ps (b z : ByteArray) (o : Nat) : Prop where
  sz : z.size = o + b.size
  at_ : ∀ i, i < b.size → bt z (o + i) = bt b i
theorem Ps.ex {b z : ByteArray} {o : Nat} (h : Ps b z o) (i j : Nat) (hj : j ≤ b.size) : z.extract (o + i) (o + j) = b.extract i j := by
  have h0 := h.sz
  refine bt_ext (by rw [ext_size _ _ _ hj, ext_size _ _ _ (by omega)]; omega) (fun k hk => ?_)
  rw [ext_size _ _ _ (by omega)] at hk
  rw [ext_bt _ _ _ _ (by omega) (by omega), ext_bt _ _ _ _ hj (by omega), Nat.add_assoc]
  exact h.at_ _ (by omega)
theorem Ps.run {b z : ByteArray} {o : Nat} (h : Ps b z o) (p : Nat → Bool) : ∀ n i, n = b.size - i → i ≤ b.size → Proofs.YtkkapgidddfdoaaDoor.run p z (o + i) = o + Proofs.YtkkapgidddfdoaaDoor.run p b i := by
  intro n
  induction n with
  | zero =>
    intro i hn hi
    have hz := h.sz
    rw [run_end (show z.size ≤ o + i by omega), run_end (show b.size ≤ i by omega)]
  | succ n ih =>
    intro i hn hi
    have hl : i < b.size := by omega
    have hz := h.sz
    cases hpi : p (bt b i) with
    | true =>
      have e1 : Proofs.YtkkapgidddfdoaaDoor.run p b i = _ := run_inside hl hpi
      have e2 : Proofs.YtkkapgidddfdoaaDoor.run p z (o + i) = _ := run_inside (by omega) (by rw [h.at_ i hl]; exact hpi)
      rw [e1, e2]; exact ih (i + 1) (by omega) (by omega)
    | false =>
      have e1 : Proofs.YtkkapgidddfdoaaDoor.run p b i = _ := run_out hpi
      have e2 : Proofs.YtkkapgidddfdoaaDoor.run p z (o + i) = _ := run_out (by rw [h.at_ i hl]; exact hpi)
      rw [e1, e2]
theorem Ps.slash {b z : ByteArray} {o : Nat} (h : Ps b z o) (i : Nat) : Proofs.YtkkapgidddfdoaaDoor.slash z (o + i) = Proofs.YtkkapgidddfdoaaDoor.slash b i := by
  have hz := h.sz
  unfold Proofs.YtkkapgidddfdoaaDoor.slash
  rw [decide_eq_decide]
  by_cases h1 : i + 2 ≤ b.size
  · rw [h.at_ i (by omega), Nat.add_assoc o i 1, h.at_ (i + 1) (by omega)]
    constructor <;> (intro ⟨x, y⟩; exact ⟨by omega, y⟩)
  · constructor <;> (intro ⟨x, y⟩; omega)
theorem Ps.skp {b z : ByteArray} {o : Nat} (h : Ps b z o) : ∀ n i, n = b.size - i → i ≤ b.size → Proofs.YtkkapgidddfdoaaDoor.skp z (o + i) = o + Proofs.YtkkapgidddfdoaaDoor.skp b i := by
  intro n
  induction n using Nat.strongRecOn with
  | ind n ih =>
    intro i hn hi
    have hg := run_ge Proofs.YtkkapgidddfdoaaDoor.blank b i
    have hb := run_bd Proofs.YtkkapgidddfdoaaDoor.blank b _ i rfl hi
    have er := h.run blank _ i rfl hi
    cases hs : Proofs.YtkkapgidddfdoaaDoor.slash b (Proofs.YtkkapgidddfdoaaDoor.run blank b i) with
    | true =>
      have hl := slash_line hs
      have hb2 := run_bd inl b _ _ rfl hb.2
      have e1 : Proofs.YtkkapgidddfdoaaDoor.skp b i = _ := skp_go hs
      have e2 : Proofs.YtkkapgidddfdoaaDoor.skp z (o + i) = _ := skp_go (by rw [er, h.slash]; exact hs)
      rw [e1, e2, er, h.run inl _ _ rfl hb.2]
      exact ih _ (by omega) _ rfl hb2.2
    | false =>
      have e1 : Proofs.YtkkapgidddfdoaaDoor.skp b i = _ := skp_stop hs
      have e2 : Proofs.YtkkapgidddfdoaaDoor.skp z (o + i) = _ := skp_stop (by rw [er, h.slash]; exact hs)
      rw [e1, e2, er]
theorem Ps.val {b z : ByteArray} {o : Nat} (h : Ps b z o) (c i : Nat) : ∀ k, i + k ≤ b.size → Proofs.YtkkapgidddfdoaaDoor.val c z (o + i) k = Proofs.YtkkapgidddfdoaaDoor.val c b i k := by
  intro k
  induction k with
  | zero => intro _; rfl
  | succ k ih => intro hk; show Proofs.YtkkapgidddfdoaaDoor.val c z (o + i) k * c + dig (bt z (o + i + k)) = Proofs.YtkkapgidddfdoaaDoor.val c b i k * c + dig (bt b (i + k)); rw [ih (by omega), Nat.add_assoc, h.at_ _ (by omega)]
theorem Ps.has {b z : ByteArray} {o : Nat} (h : Ps b z o) (i q : Nat) : hasC z (o + i) q = hasC b i q := by
  have hz := h.sz
  unfold hasC
  rw [decide_eq_decide]
  by_cases h1 : i < b.size
  · rw [h.at_ i h1]; constructor <;> (intro ⟨x, y⟩; exact ⟨by omega, y⟩)
  · constructor <;> (intro ⟨x, y⟩; omega)
theorem Ps.ins {b z : ByteArray} {o : Nat} (h : Ps b z o) (i q : Nat) : (Proofs.YtkkapgidddfdoaaDoor.ins z (o + i) q).ok = (Proofs.YtkkapgidddfdoaaDoor.ins b i q).ok ∧ (Proofs.YtkkapgidddfdoaaDoor.ins z (o + i) q).c = (Proofs.YtkkapgidddfdoaaDoor.ins b i q).c ∧ ((Proofs.YtkkapgidddfdoaaDoor.ins b i q).ok = true → (Proofs.YtkkapgidddfdoaaDoor.ins z (o + i) q).nx = o + (Proofs.YtkkapgidddfdoaaDoor.ins b i q).nx) := by
  have hz := h.sz
  unfold Proofs.YtkkapgidddfdoaaDoor.ins
  by_cases h1 : b.size ≤ i
  · rw [if_pos (show z.size ≤ o + i by omega), if_pos h1]; exact ⟨rfl, rfl, fun hh => Bool.noConfusion hh⟩
  · rw [if_neg (show ¬ z.size ≤ o + i by omega), if_neg h1, h.at_ i (by omega)]
    by_cases h2 : bt b i = 42
    · rw [if_pos h2, if_pos h2]
      by_cases h3 : b.size ≤ i + 1
      · rw [if_pos (show z.size ≤ o + i + 1 by omega), if_pos h3]; exact ⟨rfl, rfl, fun hh => Bool.noConfusion hh⟩
      · rw [if_neg (show ¬ z.size ≤ o + i + 1 by omega), if_neg h3, Nat.add_assoc o i 1, h.at_ _ (by omega)]
        exact ⟨rfl, rfl, fun _ => Nat.add_assoc _ _ _⟩
    · rw [if_neg h2, if_neg h2]; exact ⟨rfl, rfl, fun _ => Nat.add_assoc _ _ _⟩
theorem Ps.str {b z : ByteArray} {o : Nat} (h : Ps b z o) : ∀ n i, n = b.size - i → strO z (o + i) = (strO b i).map (fun p => (p.1, o + p.2)) := by
  intro n
  induction n using Nat.strongRecOn with
  | ind n ih =>
    intro i hn
    have hh := h.has i 34
    obtain ⟨hk, hc2, he⟩ := h.ins i 34
    cases hc : hasC b i 34 with
    | true => rw [strO_end hc, strO_end (by rw [hh]; exact hc)]; rfl
    | false =>
      cases ho : (Proofs.YtkkapgidddfdoaaDoor.ins b i 34).ok with
      | true =>
        have hi2 := ins_ok ho
        rw [strO_step hc ho, strO_step (by rw [hh]; exact hc) (by rw [hk]; exact ho), he ho, ih _ (by omega) _ rfl, hc2, Option.map_map, Option.map_map]
        rfl
      | false => rw [strO_no hc ho, strO_no (by rw [hh]; exact hc) (by rw [hk]; exact ho)]; rfl
/-- A token that stands further on. -/
def shK (o : Nat) (T : Tk) : Tk := ⟨T.k, T.t, T.n, if T.er = 0 then o + T.e else T.e, T.er⟩
theorem Ps.tok {b z : ByteArray} {o : Nat} (h : Ps b z o) {i : Nat} (hi : i < b.size) : tokAt z (o + i) = shK o (tokAt b i) := by
  have hz := h.sz
  unfold tokAt
  rw [h.at_ i hi]
  by_cases k1 : small (bt b i) = true
  · rw [if_pos k1, if_pos k1]
    have hb := run_bd part b _ i rfl (by omega)
    unfold wordT
    rw [h.run part _ i rfl (by omega), h.ex _ _ hb.2]
    by_cases c1 : hasB 43 keyB (b.extract i (Proofs.YtkkapgidddfdoaaDoor.run part b i)) = true
    · rw [if_pos c1, if_pos c1]; rfl
    · rw [if_neg c1, if_neg c1]
      by_cases c2 : 24 < (b.extract i (Proofs.YtkkapgidddfdoaaDoor.run part b i)).size
      · rw [if_pos c2, if_pos c2]; rfl
      · rw [if_neg c2, if_neg c2]; rfl
  · rw [if_neg k1, if_neg k1]
    by_cases k2 : digit (bt b i) = true
    · rw [if_pos k2, if_pos k2]
      have hb := run_bd digit b _ i rfl (by omega)
      unfold numT
      rw [h.run digit _ i rfl (by omega), show o + Proofs.YtkkapgidddfdoaaDoor.run digit b i - (o + i) = Proofs.YtkkapgidddfdoaaDoor.run digit b i - i by omega, h.val _ _ _ (by omega)]
      by_cases c1 : 2147483647 < Proofs.YtkkapgidddfdoaaDoor.val 10 b i (Proofs.YtkkapgidddfdoaaDoor.run digit b i - i)
      · rw [if_pos c1, if_pos c1]; rfl
      · rw [if_neg c1, if_neg c1]; rfl
    · rw [if_neg k2, if_neg k2]
      by_cases k3 : bt b i = 35
      · rw [if_pos k3, if_pos k3]
        have hb := run_bd hexc b _ (i + 1) rfl (by omega)
        unfold hexT
        rw [Nat.add_assoc o i 1, h.run hexc _ (i + 1) rfl (by omega), show o + Proofs.YtkkapgidddfdoaaDoor.run hexc b (i + 1) - (o + (i + 1)) = Proofs.YtkkapgidddfdoaaDoor.run hexc b (i + 1) - (i + 1) by omega, h.val _ _ _ (by omega)]
        by_cases c0 : Proofs.YtkkapgidddfdoaaDoor.run hexc b (i + 1) = i + 1
        · rw [if_pos c0, if_pos (by omega)]; rfl
        · rw [if_neg c0, if_neg (by omega)]
          by_cases c1 : 4294967295 < Proofs.YtkkapgidddfdoaaDoor.val 16 b (i + 1) (Proofs.YtkkapgidddfdoaaDoor.run hexc b (i + 1) - (i + 1))
          · rw [if_pos c1, if_pos c1]; rfl
          · rw [if_neg c1, if_neg c1]; rfl
      · rw [if_neg k3, if_neg k3]
        by_cases k4 : bt b i = 39
        · rw [if_pos k4, if_pos k4]
          unfold chrT
          rw [Nat.add_assoc o i 1]
          obtain ⟨hk, hc2, he⟩ := h.ins (i + 1) 39
          rw [hk, hc2]
          cases ho : (Proofs.YtkkapgidddfdoaaDoor.ins b (i + 1) 39).ok with
          | true =>
            rw [he ho, h.has]
            by_cases c1 : hasC b (Proofs.YtkkapgidddfdoaaDoor.ins b (i + 1) 39).nx 39 = true
            · rw [if_pos ⟨rfl, c1⟩, if_pos ⟨rfl, c1⟩]; rfl
            · rw [if_neg (fun x => c1 x.2), if_neg (fun x => c1 x.2)]; rfl
          | false => rw [if_neg (by simp), if_neg (by simp)]; rfl
        · rw [if_neg k4, if_neg k4]
          by_cases k5 : bt b i = 34
          · rw [if_pos k5, if_pos k5]
            unfold strT
            rw [Nat.add_assoc o i 1, h.str _ _ rfl]
            cases hs : strO b (i + 1) with
            | none => rfl
            | some p =>
              simp only [Option.map_some]
              by_cases c1 : 100 < p.1.length
              · rw [if_pos c1, if_pos c1]; rfl
              · rw [if_neg c1, if_neg c1]; rfl
          · rw [if_neg k5, if_neg k5]
            unfold sgnT
            rw [Nat.add_assoc o i 2, Nat.add_assoc o i 1, h.ex i (i + 1) (by omega)]
            have c1 : (o + (i + 1) ≤ z.size) = True := eq_true (by omega)
            have c2 : (i + 1 ≤ b.size) = True := eq_true (by omega)
            by_cases h2 : i + 2 ≤ b.size
            · have c3 : (o + (i + 2) ≤ z.size) = True := eq_true (by omega)
              have c4 : (i + 2 ≤ b.size) = True := eq_true h2
              rw [h.ex i (i + 2) h2]
              simp only [c1, c2, c3, c4, true_and]
              by_cases c5 : hasB 28 sgnB (b.extract i (i + 2)) = true
              · rw [if_pos c5, if_pos c5]; rfl
              · rw [if_neg c5, if_neg c5]
                by_cases c6 : hasB 28 sgnB (b.extract i (i + 1)) = true
                · rw [if_pos c6, if_pos c6]; rfl
                · rw [if_neg c6, if_neg c6]; rfl
            · have n1 : ¬ (i + 2 ≤ b.size ∧ hasB 28 sgnB (b.extract i (i + 2)) = true) := fun x => h2 x.1
              have n2 : ¬ (o + (i + 2) ≤ z.size ∧ hasB 28 sgnB (z.extract (o + i) (o + (i + 2))) = true) := fun x => h2 (by have := x.1; omega)
              rw [if_neg n1, if_neg n2]
              simp only [c1, c2, true_and]
              by_cases c6 : hasB 28 sgnB (b.extract i (i + 1)) = true
              · rw [if_pos c6, if_pos c6]; rfl
              · rw [if_neg c6, if_neg c6]; rfl
def shT (o : Nat) (t : Tp) : Tp := ⟨t.k, t.t, t.n, o + t.a⟩
theorem Ps.scG {b z : ByteArray} {o : Nat} (h : Ps b z o) : ∀ n acc acc2 i, n = b.size - i → i ≤ b.size → acc.length + (b.size - i) + 1 ≤ 20000 → acc2.length + (b.size - i) + 1 ≤ 20000 →
    (Proofs.YtkkapgidddfdoaaDoor.scG z acc2 (o + i)).er = (Proofs.YtkkapgidddfdoaaDoor.scG b acc i).er ∧ ((Proofs.YtkkapgidddfdoaaDoor.scG b acc i).er ≠ 0 → (Proofs.YtkkapgidddfdoaaDoor.scG z acc2 (o + i)).a = o + (Proofs.YtkkapgidddfdoaaDoor.scG b acc i).a) ∧
    ((Proofs.YtkkapgidddfdoaaDoor.scG b acc i).er = 0 → ∃ M, (Proofs.YtkkapgidddfdoaaDoor.scG b acc i).l = acc ++ M ∧ (Proofs.YtkkapgidddfdoaaDoor.scG z acc2 (o + i)).l = acc2 ++ M.map (shT o)) := by
  intro n
  induction n using Nat.strongRecOn with
  | ind n ih =>
    intro acc acc2 i hn hi hl1 hl2
    have hz := h.sz
    have f1 : acc.length ≠ 20000 := by omega
    have f2 : acc2.length ≠ 20000 := by omega
    by_cases hl : i < b.size
    · have ht := h.tok hl
      have hoi : o + i < z.size := by omega
      by_cases h0 : (tokAt b i).er = 0
      · have hte := tokAt_e hl h0
        have hsk := skp_bd b _ _ rfl hte.2
        have h0' : (tokAt z (o + i)).er = 0 := by rw [ht]; exact h0
        have e1 := scG_step hl h0 f1
        have e2 := scG_step hoi h0' f2
        rw [e1, e2, ht]
        have he : (shK o (tokAt b i)).e = o + (tokAt b i).e := by show (if (tokAt b i).er = 0 then o + (tokAt b i).e else (tokAt b i).e) = _; rw [if_pos h0]
        rw [he, h.skp _ _ rfl hte.2]
        obtain ⟨r1, r2, r3⟩ := ih _ (by omega) (acc ++ [⟨(tokAt b i).k, (tokAt b i).t, (tokAt b i).n, i⟩]) (acc2 ++ [⟨(tokAt b i).k, (tokAt b i).t, (tokAt b i).n, o + i⟩]) _ rfl hsk.2 (by rw [List.length_append, List.length_singleton]; omega) (by rw [List.length_append, List.length_singleton]; omega)
        refine ⟨r1, r2, fun hh => ?_⟩
        obtain ⟨M, m1, m2⟩ := r3 hh
        refine ⟨⟨(tokAt b i).k, (tokAt b i).t, (tokAt b i).n, i⟩ :: M, by rw [m1, List.append_assoc]; rfl, ?_⟩
        have m2' := m2
        rw [List.append_assoc] at m2'
        exact m2'
      · have h0' : (tokAt z (o + i)).er ≠ 0 := by rw [ht]; exact h0
        rw [scG_err hl h0, scG_err hoi h0', ht]
        exact ⟨rfl, fun _ => rfl, fun hh => absurd hh h0⟩
    · obtain rfl : i = b.size := by omega
      rw [scG_end hl f1, scG_end (by omega) f2]
      refine ⟨rfl, fun hh => absurd rfl hh, fun _ => ⟨[⟨0, nul, 0, b.size⟩], rfl, ?_⟩⟩
      rw [h.sz]; rfl
theorem Pf.skp2 {a z : ByteArray} (h : Pf a z) : ∀ n i, n = a.size - i → i ≤ a.size → Proofs.YtkkapgidddfdoaaDoor.skp a i = a.size → Proofs.YtkkapgidddfdoaaDoor.skp z i = Proofs.YtkkapgidddfdoaaDoor.skp z (a.size + 1) := by
  have hz := h.lt
  have same : ∀ i j, Proofs.YtkkapgidddfdoaaDoor.run Proofs.YtkkapgidddfdoaaDoor.blank z i = Proofs.YtkkapgidddfdoaaDoor.run Proofs.YtkkapgidddfdoaaDoor.blank z j → Proofs.YtkkapgidddfdoaaDoor.skp z i = Proofs.YtkkapgidddfdoaaDoor.skp z j := by
    intro i j e
    cases hs : Proofs.YtkkapgidddfdoaaDoor.slash z (Proofs.YtkkapgidddfdoaaDoor.run Proofs.YtkkapgidddfdoaaDoor.blank z i) with
    | true =>
      have e1 : Proofs.YtkkapgidddfdoaaDoor.skp z i = _ := skp_go hs
      have e2 : Proofs.YtkkapgidddfdoaaDoor.skp z j = _ := skp_go (by rw [← e]; exact hs)
      rw [e1, e2, e]
    | false =>
      have e1 : Proofs.YtkkapgidddfdoaaDoor.skp z i = _ := skp_stop hs
      have e2 : Proofs.YtkkapgidddfdoaaDoor.skp z j = _ := skp_stop (by rw [← e]; exact hs)
      rw [e1, e2, e]
  have rend : ∀ n i, n = a.size - i → i ≤ a.size → Proofs.YtkkapgidddfdoaaDoor.run Proofs.YtkkapgidddfdoaaDoor.blank a i = a.size → Proofs.YtkkapgidddfdoaaDoor.run Proofs.YtkkapgidddfdoaaDoor.blank z i = Proofs.YtkkapgidddfdoaaDoor.run Proofs.YtkkapgidddfdoaaDoor.blank z (a.size + 1) := by
    intro n
    induction n with
    | zero =>
      intro i hn hi _
      obtain rfl : i = a.size := by omega
      exact run_inside hz (by rw [h.nl]; rfl)
    | succ n ih =>
      intro i hn hi hr
      have hl : i < a.size := by omega
      cases hp : Proofs.YtkkapgidddfdoaaDoor.blank (bt a i) with
      | true =>
        have e1 : Proofs.YtkkapgidddfdoaaDoor.run Proofs.YtkkapgidddfdoaaDoor.blank a i = _ := run_inside hl hp
        have e2 : Proofs.YtkkapgidddfdoaaDoor.run Proofs.YtkkapgidddfdoaaDoor.blank z i = _ := run_inside (by omega) (by rw [h.at_ i hl]; exact hp)
        rw [e2]; exact ih _ (by omega) (by omega) (by rw [← e1]; exact hr)
      | false =>
        have e1 : Proofs.YtkkapgidddfdoaaDoor.run Proofs.YtkkapgidddfdoaaDoor.blank a i = _ := run_out hp
        omega
  intro n
  induction n using Nat.strongRecOn with
  | ind n ih =>
    intro i hn hi hk
    have hb := run_bd Proofs.YtkkapgidddfdoaaDoor.blank a _ i rfl hi
    rcases h.blank _ i rfl hi with ⟨h1, h2⟩ | ⟨h1, h2⟩
    · cases hsa : Proofs.YtkkapgidddfdoaaDoor.slash a (Proofs.YtkkapgidddfdoaaDoor.run Proofs.YtkkapgidddfdoaaDoor.blank a i) with
      | true =>
        have hl := slash_line hsa
        have hb2 := run_bd inl a _ _ rfl (Nat.le_of_lt h1)
        have e1 : Proofs.YtkkapgidddfdoaaDoor.skp a i = _ := skp_go hsa
        have e2 : Proofs.YtkkapgidddfdoaaDoor.skp z i = _ := skp_go (by rw [h2, h.slash h1]; exact hsa)
        rw [e2, h2, h.run inl (by decide) _ _ rfl (Nat.le_of_lt h1)]
        exact ih _ (by omega) _ rfl hb2.2 (by rw [← e1]; exact hk)
      | false =>
        have e1 : Proofs.YtkkapgidddfdoaaDoor.skp a i = _ := skp_stop hsa
        omega
    · exact same _ _ (rend _ i rfl hi h1)
theorem Pf.join {a z : ByteArray} (h : Pf a z) : ∀ n acc i, n = a.size - i → i ≤ a.size → (Proofs.YtkkapgidddfdoaaDoor.scG a acc (Proofs.YtkkapgidddfdoaaDoor.skp a i)).er = 0 →
    ∃ M, (Proofs.YtkkapgidddfdoaaDoor.scG a acc (Proofs.YtkkapgidddfdoaaDoor.skp a i)).l = acc ++ M ++ [⟨0, nul, 0, a.size⟩] ∧ Proofs.YtkkapgidddfdoaaDoor.scG z acc (Proofs.YtkkapgidddfdoaaDoor.skp z i) = Proofs.YtkkapgidddfdoaaDoor.scG z (acc ++ M) (Proofs.YtkkapgidddfdoaaDoor.skp z (a.size + 1)) := by
  have hz := h.lt
  intro n
  induction n using Nat.strongRecOn with
  | ind n ih =>
    intro acc i hn hi he
    have hsb := skp_bd a _ i rfl hi
    rcases h.skp _ i rfl hi with ⟨h1, h2⟩ | ⟨h1, h2⟩
    · have ht := h.tok h1
      by_cases h0 : (tokAt a (Proofs.YtkkapgidddfdoaaDoor.skp a i)).er = 0
      · by_cases hf : acc.length = 20000
        · rw [scG_full h1 h0 hf] at he; cases he
        · have hte := tokAt_e h1 h0
          have e1 := scG_step h1 h0 hf
          have e2 := scG_step (s := z) (a := Proofs.YtkkapgidddfdoaaDoor.skp a i) (acc := acc) (by omega) (by rw [ht]; exact h0) hf
          rw [ht] at e2
          rw [e1] at he ⊢
          rw [h2, e2]
          obtain ⟨M, m1, m2⟩ := ih _ (by omega) _ _ rfl hte.2 he
          refine ⟨⟨(tokAt a (Proofs.YtkkapgidddfdoaaDoor.skp a i)).k, (tokAt a (Proofs.YtkkapgidddfdoaaDoor.skp a i)).t, (tokAt a (Proofs.YtkkapgidddfdoaaDoor.skp a i)).n, Proofs.YtkkapgidddfdoaaDoor.skp a i⟩ :: M, ?_, ?_⟩
          · rw [m1]; simp
          · rw [m2]; simp
      · rw [scG_err h1 h0] at he; exact absurd he h0
    · rw [h1] at he ⊢
      by_cases hf : acc.length = 20000
      · rw [scG_over (by omega) hf] at he; cases he
      · refine ⟨[], ?_, ?_⟩
        · rw [scG_end (by omega) hf]; simp
        · rw [h.skp2 _ i rfl hi h1]; simp
theorem scG_many (s : ByteArray) (acc : List Tp) (i : Nat) (hf : acc.length = 20000) : (Proofs.YtkkapgidddfdoaaDoor.scG s acc i).er ≠ 0 := by
  by_cases hl : i < s.size
  · by_cases h0 : (tokAt s i).er = 0
    · rw [scG_full hl h0 hf]; simp
    · rw [scG_err hl h0]; exact h0
  · rw [scG_over hl hf]; simp
theorem Pf.scGbad {a z : ByteArray} (h : Pf a z) : ∀ n acc i, n = a.size - i → i ≤ a.size → (Proofs.YtkkapgidddfdoaaDoor.scG a acc (Proofs.YtkkapgidddfdoaaDoor.skp a i)).er ≠ 0 → (Proofs.YtkkapgidddfdoaaDoor.scG z acc (Proofs.YtkkapgidddfdoaaDoor.skp z i)).er ≠ 0 := by
  have hz := h.lt
  intro n
  induction n using Nat.strongRecOn with
  | ind n ih =>
    intro acc i hn hi he
    have hsb := skp_bd a _ i rfl hi
    by_cases hf : acc.length = 20000
    · exact scG_many _ _ _ hf
    rcases h.skp _ i rfl hi with ⟨h1, h2⟩ | ⟨h1, h2⟩
    · have ht := h.tok h1
      by_cases h0 : (tokAt a (Proofs.YtkkapgidddfdoaaDoor.skp a i)).er = 0
      · have hte := tokAt_e h1 h0
        have e1 := scG_step h1 h0 hf
        have e2 := scG_step (s := z) (a := Proofs.YtkkapgidddfdoaaDoor.skp a i) (acc := acc) (by omega) (by rw [ht]; exact h0) hf
        rw [ht] at e2
        rw [e1] at he
        rw [h2, e2]
        exact ih _ (by omega) _ _ rfl hte.2 he
      · rw [h2, scG_err (by omega) (by rw [ht]; exact h0), ht]; exact h0
    · rw [h1, scG_end (by omega) hf] at he; exact absurd rfl he
theorem Pf.scan_bad {a z : ByteArray} (h : Pf a z) (h4 : z.size ≤ 40000) (he : (Proofs.YtkkapgidddfdoaaDoor.scan a).er ≠ 0) : (Proofs.YtkkapgidddfdoaaDoor.scan z).er ≠ 0 := by
  have hz := h.lt
  unfold Proofs.YtkkapgidddfdoaaDoor.scan at he ⊢
  rw [if_neg (by omega)] at he ⊢
  exact h.scGbad _ _ 0 rfl (Nat.zero_le _) he
theorem two_scan {a b z : ByteArray} (h : Pf a z) (hs : Ps b z (a.size + 1)) (h4 : z.size ≤ 40000) (he : (scan a).er = 0) (hn : (scan a).l.length + b.size + 1 ≤ 20000) :
    (scan z).er = (scan b).er ∧ ((scan b).er ≠ 0 → (scan z).a = a.size + 1 + (scan b).a) ∧ ((scan b).er = 0 → ∃ X, (scan a).l = X ++ [⟨0, nul, 0, a.size⟩] ∧ (scan z).l = X ++ (scan b).l.map (shT (a.size + 1))) := by
  have hz := hs.sz
  unfold scan at he hn ⊢
  rw [if_neg (show ¬ 40000 < a.size by omega)] at he hn ⊢
  rw [if_neg (show ¬ 40000 < z.size by omega), if_neg (show ¬ 40000 < b.size by omega)]
  obtain ⟨X, x1, x2⟩ := h.join _ [] 0 rfl (Nat.zero_le _) he
  rw [List.nil_append] at x1 x2
  have hk := skp_bd b _ 0 rfl (Nat.zero_le _)
  have hsk := hs.skp _ 0 rfl (Nat.zero_le _)
  rw [Nat.add_zero] at hsk
  rw [x1] at hn ⊢
  rw [List.length_append, List.length_singleton] at hn
  rw [x2, hsk]
  obtain ⟨r1, r2, r3⟩ := hs.scG _ [] X (skp b 0) rfl hk.2 (by rw [List.length_nil]; omega) (by omega)
  refine ⟨r1, r2, fun hh => ?_⟩
  obtain ⟨M, m1, m2⟩ := r3 hh
  rw [List.nil_append] at m1
  exact ⟨X, rfl, by rw [m2, m1]⟩
theorem cat_ps (a b : ByteArray) : Ps b (a ++ ⟨#[10]⟩ ++ b) (a.size + 1) := by
  have hs : (a ++ (⟨#[10]⟩ : ByteArray) ++ b).size = a.size + 1 + b.size := by rw [ByteArray.size_append, ByteArray.size_append]; rfl
  refine ⟨hs, fun i hi => ?_⟩
  unfold bt
  congr 1
  simp only [ByteArray.data_append, Array.getD_eq_getD_getElem?]
  have e : (a.data ++ #[10]).size = a.size + 1 := by rw [Array.size_append]; rfl
  rw [Array.getElem?_append_right (by rw [e]; omega), e, show a.size + 1 + i - (a.size + 1) = i by omega]
end Go.Proofs.YtkkapgidddfdoaaDoor
