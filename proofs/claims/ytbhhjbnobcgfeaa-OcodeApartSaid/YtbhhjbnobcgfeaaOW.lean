/- An own row is a list in memory; a code is the same as itself. -/
import Derived.Test.YtbhhjbnobcgfeaaCL
import Derived.Test.YtbhhjbnobcgfeaaSM
namespace Go.Proofs.Ytbhhjbnobcgfeaa
open Go.RowKit
set_option linter.unusedVariables false
set_option linter.unusedSimpArgs false

theorem eqG_refl {α : Type} {f : α → α → Bool} (hf : ∀ x, f x x = true) : ∀ l : List α, eqG f l l = true
  | [] => rfl
  | x :: r => by rw [eqG, hf x, eqG_refl hf r]; rfl
theorem eqN_refl (x : Int) : eqN x x = true := by unfold eqN; exact beq_self_eq_true x
theorem eqO_refl (x : Op3) : eqO x x = true := by unfold eqO; simp
theorem eqE_refl (x : En2) : eqE x x = true := by unfold eqE; simp
theorem eqS_refl (x : ByteArray) : eqS x x = true := by unfold eqS; simp
theorem eqD_refl (x : Dt) : eqD x x = true := by unfold eqD; rw [eqS_refl, eqG_refl eqN_refl]; simp
theorem eqC_refl (c : Cod) : eqC c c = true := by unfold eqC; rw [eqS_refl, eqG_refl eqO_refl, eqG_refl eqE_refl, eqG_refl eqD_refl]; simp
theorem row_cell {w : World} {base : Nat} {T : TypeId} {z n : Nat} {v : Value} {cs : Nat → List Value} (hl : ∀ i, (cs i).length = z) (h : w.ownsRow base T z v n (rowN cs n)) :
    (v = .slice none 0 0 ∧ n = 0) ∨ ∃ g cap, v = .slice (some ⟨g, 0, none⟩) n cap ∧ base ≤ g ∧ n ≤ cap ∧ cap ≤ maxLen ∧ ∀ i r u, i < n → r < z → (cs i)[r]? = some u → w.cell? ⟨g, i * z + r, none⟩ = some u := by
  have h0 := h
  rcases h.2 with h1 | ⟨g, cap, cur, rfl, hb, hg, hn, hm, hs, ht⟩
  · exact Or.inl h1
  · refine Or.inr ⟨g, cap, rfl, hb, hn, hm, fun i r u hi hr hu => ?_⟩
    have := h0.cells (g := g) rfl (i * z + r) u (by rw [rowN_at hl n i r hi hr]; exact hu)
    rw [ap_add, Nat.zero_add] at this
    exact this
theorem clO_sl {w : World} {base : Nat} {v : Value} {l : List Op3} (h : w.ownsRow base 48 3 v l.length (rowN (clO_cs l) l.length)) : OpsV w v l := by
  rcases row_cell (clO_len l) h with ⟨rfl, hn⟩ | ⟨g, cap, rfl, _, hn, hm, hc⟩
  · obtain rfl : l = [] := List.eq_nil_of_length_eq_zero hn
    exact SlE.nil w
  · refine ⟨some ⟨g, 0, none⟩, cap, rfl, hn, hm, fun e => (by cases e), fun _ => ⟨g, 0, rfl, fun i x hx => ?_⟩⟩
    have hi := (List.getElem?_eq_some_iff.1 hx).1
    have hd : l.getD i default = x := by rw [List.getD_eq_getElem?_getD, hx]; rfl
    have hk := fun r u hr hu => hc i r u hi hr hu
    unfold clO_cs at hk
    rw [hd] at hk
    rw [Nat.zero_add]
    exact ⟨hk 0 _ (by omega) rfl, hk 1 _ (by omega) rfl, hk 2 _ (by omega) rfl⟩
theorem clE_sl {w : World} {base : Nat} {v : Value} {l : List En2} (h : w.ownsRow base 61 2 v l.length (rowN (clE_cs l) l.length)) : EnsV w v l := by
  rcases row_cell (clE_len l) h with ⟨rfl, hn⟩ | ⟨g, cap, rfl, _, hn, hm, hc⟩
  · obtain rfl : l = [] := List.eq_nil_of_length_eq_zero hn
    exact SlE.nil w
  · refine ⟨some ⟨g, 0, none⟩, cap, rfl, hn, hm, fun e => (by cases e), fun _ => ⟨g, 0, rfl, fun i x hx => ?_⟩⟩
    have hi := (List.getElem?_eq_some_iff.1 hx).1
    have hd : l.getD i default = x := by rw [List.getD_eq_getElem?_getD, hx]; rfl
    have hk := fun r u hr hu => hc i r u hi hr hu
    unfold clE_cs at hk
    rw [hd] at hk
    rw [Nat.zero_add]
    exact ⟨hk 0 _ (by omega) rfl, hk 1 _ (by omega) rfl⟩
theorem clI_sl {w : World} {base : Nat} {v : Value} {l : List Int} (h : w.ownsRow base 3 1 v l.length (rowN (clI_cs l) l.length)) : IntsV w v l := by
  rcases row_cell (clI_len l) h with ⟨rfl, hn⟩ | ⟨g, cap, rfl, _, hn, hm, hc⟩
  · obtain rfl : l = [] := List.eq_nil_of_length_eq_zero hn
    exact SlE.nil w
  · refine ⟨some ⟨g, 0, none⟩, cap, rfl, hn, hm, fun e => (by cases e), fun _ => ⟨g, 0, rfl, fun i x hx => ?_⟩⟩
    have hi := (List.getElem?_eq_some_iff.1 hx).1
    have hd : l.getD i default = x := by rw [List.getD_eq_getElem?_getD, hx]; rfl
    have hk := fun r u hr hu => hc i r u hi hr hu
    unfold clI_cs at hk
    rw [hd] at hk
    rw [Nat.zero_add]
    exact hk 0 _ (by omega) rfl
theorem rowN_set {cs : Nat → List Value} {z : Nat} (hz : 0 < z) (h : ∀ i, (cs i).length = z) {n i r : Nat} (hi : i < n) (hr : r < z) (u : Value) : (rowN cs n).set (i * z + r) u = rowN (fun k => if k = i then (cs k).set r u else cs k) n := by
  have h2 : ∀ k, ((fun k => if k = i then (cs k).set r u else cs k) k).length = z := fun k => by
    simp only
    by_cases e : k = i
    · rw [if_pos e, List.length_set]; exact h k
    · rw [if_neg e]; exact h k
  apply List.ext_getElem?
  intro q
  by_cases hq : q < n * z
  · obtain ⟨a, b, rfl, hb, ha⟩ : ∃ a b, q = a * z + b ∧ b < z ∧ a < n := ⟨q / z, q % z, by rw [Nat.mul_comm]; exact (Nat.div_add_mod q z).symm, Nat.mod_lt _ hz, (Nat.div_lt_iff_lt_mul hz).2 hq⟩
    rw [rowN_at h2 n a b ha hb, List.getElem?_set]
    by_cases e : a = i
    · subst e
      by_cases e2 : b = r
      · subst e2
        rw [if_pos rfl, if_pos (by rw [rowN_len h]; exact hq)]
        simp only [if_true]
        rw [List.getElem?_set_self (by rw [h]; exact hb)]
      · rw [if_neg (by omega), rowN_at h n a b ha hb]
        simp only [if_true]
        rw [List.getElem?_set_ne (fun e => e2 e.symm)]
    · have hne : i * z + r ≠ a * z + b := fun hh => by
        have h3 : i = a := by
          have e1 : (i * z + r) / z = i := by rw [Nat.mul_comm, Nat.mul_add_div hz, Nat.div_eq_of_lt hr, Nat.add_zero]
          have e2 : (a * z + b) / z = a := by rw [Nat.mul_comm, Nat.mul_add_div hz, Nat.div_eq_of_lt hb, Nat.add_zero]
          rw [← e1, ← e2, hh]
        exact e h3.symm
      rw [if_neg hne, rowN_at h n a b ha hb]
      simp only [if_neg e]
  · rw [List.getElem?_eq_none (by rw [List.length_set, rowN_len h]; omega), List.getElem?_eq_none (by rw [rowN_len h2]; omega)]
/-- A cell of an own row is written. -/
theorem row_stored {w : World} {base : Nat} {T : TypeId} {z g n cap : Nat} {cs : Nat → List Value} (hz : 0 < z) (hl : ∀ i, (cs i).length = z) (h : w.ownsRow base T z (.slice (some ⟨g, 0, none⟩) n cap) n (rowN cs n)) {i r : Nat} (hi : i < n) (hr : r < z) (u : Value) :
    (w.setCell ⟨g, i * z + r, none⟩ u).ownsRow base T z (.slice (some ⟨g, 0, none⟩) n cap) n (rowN (fun k => if k = i then (cs k).set r u else cs k) n) := by
  have h1 := (h.stored (i * z + r) u).1
  rw [rowN_set hz hl hi hr u] at h1
  exact h1
theorem clO_set {l : List Op3} {i : Nat} {o : Op3} (ho : l[i]? = some o) (r : Nat) (u : Value) (o' : Op3) (h : ([.int .i64 o.op, .int .i64 o.n, .int .i64 o.m] : List Value).set r u = [.int .i64 o'.op, .int .i64 o'.n, .int .i64 o'.m]) :
    (fun k => if k = i then (clO_cs l k).set r u else clO_cs l k) = clO_cs (l.set i o') := by
  funext k
  have hi := (List.getElem?_eq_some_iff.1 ho).1
  unfold clO_cs
  rw [List.getD_eq_getElem?_getD, List.getD_eq_getElem?_getD, List.getElem?_set]
  by_cases e : k = i
  · subst e
    rw [if_pos rfl, if_pos rfl, if_pos hi, ho]
    exact h
  · rw [if_neg e, if_neg (fun hh => e hh.symm)]
end Go.Proofs.Ytbhhjbnobcgfeaa
