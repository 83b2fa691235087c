/- A text of words with blanks between them is scanned to its words. Nothing here speaks of a program. -/
import Derived.Test.YtkkapgidddfdoaaDoorTX
import Derived.Test.YtkkapgidddfdoaaDoorMB
import Derived.Test.YtkkapgidddfdoaaDoorRB
namespace Go.Proofs.YtkkapgidddfdoaaDoor
open Go.RowKit
set_option linter.unusedVariables false

def keyPartB : Bool := (List.range 43).all fun i => decide (1 ≤ (keyB i).size) && (List.range (keyB i).size).all fun j => small (bt (keyB i) j)
theorem key_part (i : Nat) (h : i < 43) : 1 ≤ (keyB i).size ∧ ∀ j, j < (keyB i).size → small (bt (keyB i) j) = true := by
  have h1 : keyPartB = true := by decide
  have h2 := List.all_eq_true.1 h1 i (List.mem_range.2 h)
  rw [Bool.and_eq_true] at h2
  exact ⟨of_decide_eq_true h2.1, fun j hj => List.all_eq_true.1 h2.2 j (List.mem_range.2 hj)⟩
def sgnFirstB : Bool := (List.range 28).all fun i => !small (bt (sgnB i) 0) && !digit (bt (sgnB i) 0) && !blank (bt (sgnB i) 0) && (bt (sgnB i) 0 != 35) && (bt (sgnB i) 0 != 39) && (bt (sgnB i) 0 != 34) && (bt (sgnB i) 1 != 32) && ((bt (sgnB i) 0 != 47) || (sgnB i).size == 1)
theorem sgn_first (i : Nat) (h : i < 28) : small (bt (sgnB i) 0) = false ∧ digit (bt (sgnB i) 0) = false ∧ blank (bt (sgnB i) 0) = false ∧ bt (sgnB i) 0 ≠ 35 ∧ bt (sgnB i) 0 ≠ 39 ∧ bt (sgnB i) 0 ≠ 34 ∧ bt (sgnB i) 1 ≠ 32 ∧ (bt (sgnB i) 0 ≠ 47 ∨ (sgnB i).size = 1) := by
  have h1 : sgnFirstB = true := by decide
  have h2 := List.all_eq_true.1 h1 i (List.mem_range.2 h)
  simpa [and_assoc] using h2
theorem word_first {s : ByteArray} {a : Nat} (h : small (bt s a) = true) : First s a := by
  have := of_decide_eq_true h
  exact First.of (by omega) (by omega) (by omega) (by omega)
theorem word_run {s w : ByteArray} {a : Nat} (h : At s a w) (hp : ∀ i, i < w.size → part (bt w i) = true) : run part s a = a + w.size :=
  run_span w.size a h.lt (fun i hi => by rw [h.at_ i hi]; exact hp i hi) (h.out rfl)
theorem name_tok {s w : ByteArray} {a : Nat} (h : At s a w) (hn : isNm w = true) : tokAt s a = ⟨1, w, 0, a + w.size, 0⟩ ∧ First s a ∧ 1 ≤ w.size := by
  obtain ⟨h1, h2, h3, h4, h5⟩ := of_decide_eq_true hn
  have hb : bt s a = bt w 0 := by have := h.at_ 0 h1; rwa [Nat.add_zero] at this
  have hr := word_run h h4
  refine ⟨?_, word_first (by rw [hb]; exact h3), h1⟩
  unfold tokAt
  rw [if_pos (by rw [hb]; exact h3)]
  unfold wordT
  rw [hr, h.ex, if_neg (by rw [h5]; decide), if_neg (by omega)]
theorem key_tok {s w : ByteArray} {a : Nat} (h : At s a w) (hk : hasB 43 keyB w = true) : tokAt s a = ⟨4, w, 0, a + w.size, 0⟩ ∧ First s a ∧ 1 ≤ w.size := by
  obtain ⟨i, hi, rfl⟩ := has_up hk
  obtain ⟨h1, h2⟩ := key_part i hi
  have hb : bt s a = bt (keyB i) 0 := by have := h.at_ 0 h1; rwa [Nat.add_zero] at this
  have hr := word_run h (fun j hj => by unfold part; rw [h2 j hj]; rfl)
  have hs := h2 0 h1
  refine ⟨?_, word_first (by rw [hb]; exact hs), h1⟩
  unfold tokAt
  rw [if_pos (by rw [hb]; exact hs)]
  unfold wordT
  rw [hr, h.ex, if_pos hk]
theorem sign_tok {s w : ByteArray} {a : Nat} (h : At s a w) (hk : hasB 28 sgnB w = true) : tokAt s a = ⟨5, w, 0, a + w.size, 0⟩ ∧ First s a ∧ 1 ≤ w.size := by
  obtain ⟨i, hi, rfl⟩ := has_up hk
  have hz := sgn_size i hi
  obtain ⟨f1, f2, f3, f4, f5, f6, f7, f8⟩ := sgn_first i hi
  have hb : bt s a = bt (sgnB i) 0 := by have := h.at_ 0 (by omega); rwa [Nat.add_zero] at this
  have hlt := h.lt
  rw [← hb] at f1 f2 f3 f4 f5 f6 f8
  have hfirst : First s a := by
    refine ⟨f3, decide_eq_false (fun hh => ?_)⟩
    rcases f8 with f8 | f8
    · exact f8 hh.2.1
    · rw [f8] at hlt
      rcases h.en with e | e
      · rw [f8] at e; omega
      · rw [f8] at e; omega
  refine ⟨?_, hfirst, by omega⟩
  unfold tokAt
  rw [if_neg (by rw [f1]; decide), if_neg (by rw [f2]; decide), if_neg f4, if_neg f5, if_neg f6]
  unfold sgnT
  rcases hz with hz | hz
  · have hno : ¬ (a + 2 ≤ s.size ∧ hasB 28 sgnB (s.extract a (a + 2)) = true) := by
      rintro ⟨g1, g2⟩
      have he : bt s (a + 1) = 32 := by
        rcases h.en with e | e
        · rw [hz] at e; omega
        · rw [hz] at e; exact e
      obtain ⟨j, hj, ej⟩ := has_up g2
      have := (sgn_first j hj).2.2.2.2.2.2.1
      rw [ej, ext_bt _ _ _ _ g1 (by omega)] at this
      exact this he
    have hx := h.ex
    rw [hz] at hx ⊢
    rw [if_neg hno, hx, if_pos ⟨by omega, hk⟩]
  · have hx := h.ex
    rw [hz] at hx ⊢
    rw [hx, if_pos ⟨by omega, hk⟩]
/-- A token as it is written, ahead of a blank or the end. -/
theorem wr_tok {s : ByteArray} {a : Nat} {t : Tg} (ho : (wr t).ok = true) (h : At s a (wr t).t) :
    ∃ k : Nat, t.k = (k : Int) ∧ tokAt s a = ⟨k, t.t, t.n, a + (wr t).t.size, 0⟩ ∧ First s a ∧ 1 ≤ (wr t).t.size := by
  unfold wr at ho h ⊢
  by_cases k2 : t.k = 2
  · rw [if_pos k2] at ho h ⊢
    simp only [Bool.and_eq_true, decide_eq_true_eq] at ho h ⊢
    obtain ⟨h1, h2, h3, _⟩ := num_tok ho.1 h
    exact ⟨2, k2, by rw [h1, emp_nul ho.2], h2, h3⟩
  rw [if_neg k2] at ho h ⊢
  by_cases k3 : t.k = 3
  · rw [if_pos k3] at ho h ⊢
    simp only [Bool.and_eq_true, decide_eq_true_eq] at ho h ⊢
    obtain ⟨h1, h2, h3, _⟩ := quo_tok ho.1 h
    exact ⟨3, k3, by rw [h1, ho.2], h2, h3⟩
  rw [if_neg k3] at ho h ⊢
  by_cases k1 : t.k = 1
  · rw [if_pos k1] at ho h ⊢
    simp only [Bool.and_eq_true, decide_eq_true_eq] at ho h ⊢
    obtain ⟨h1, h2, h3⟩ := name_tok h ho.1
    exact ⟨1, k1, by rw [h1, ho.2], h2, h3⟩
  rw [if_neg k1] at ho h ⊢
  by_cases k4 : t.k = 4
  · rw [if_pos k4] at ho h ⊢
    simp only [Bool.and_eq_true, decide_eq_true_eq] at ho h ⊢
    obtain ⟨h1, h2, h3⟩ := key_tok h ho.1
    exact ⟨4, k4, by rw [h1, ho.2], h2, h3⟩
  rw [if_neg k4] at ho h ⊢
  by_cases k5 : t.k = 5
  · rw [if_pos k5] at ho h ⊢
    simp only [Bool.and_eq_true, decide_eq_true_eq] at ho h ⊢
    obtain ⟨h1, h2, h3⟩ := sign_tok h ho.1
    exact ⟨5, k5, by rw [h1, ho.2], h2, h3⟩
  rw [if_neg k5] at ho
  simp at ho
/-- The words lie in the text from a place on, with blanks between them, and the text ends with them. -/
def Lay (s : ByteArray) : Nat → List ByteArray → Prop
  | a, [] => a = s.size
  | a, [w] => At s a w ∧ a + w.size = s.size
  | a, w :: x :: r => At s a w ∧ bt s (a + w.size) = 32 ∧ a + w.size < s.size ∧ Lay s (a + w.size + 1) (x :: r)
theorem bt_data (s : ByteArray) (i : Nat) : bt s i = ((s.data.toList[i]?).getD 0).toNat := by
  unfold bt
  rw [Array.getD_eq_getD_getElem?, Array.getElem?_toList]
theorem lay_of (s : ByteArray) : ∀ (l : List ByteArray) (p : List UInt8), s.data.toList = p ++ Lib.join (l.map (·.data.toList)) [32] → Lay s p.length l
  | [], p, h => by
    have : s.data.toList.length = s.size := by rw [Array.length_toList]; rfl
    rw [h] at this
    simp [Lib.join_nil] at this
    exact this
  | [w], p, h => by
    rw [List.map_singleton, Lib.join_one] at h
    have hl : s.data.toList.length = s.size := by rw [Array.length_toList]; rfl
    have hw : w.data.toList.length = w.size := by rw [Array.length_toList]; rfl
    rw [h, List.length_append, hw] at hl
    refine ⟨⟨by omega, fun i hi => ?_, .inl hl⟩, hl⟩
    rw [bt_data, bt_data, h, List.getElem?_append_right (by omega), Nat.add_sub_cancel_left]
  | w :: x :: r, p, h => by
    have hj : Lib.join ((w :: x :: r).map (·.data.toList)) [32] = w.data.toList ++ ([32] ++ Lib.join ((x :: r).map (·.data.toList)) [32]) := by
      rw [List.map_cons, Lib.join_cons, List.map_cons, Lib.join_cons]
      simp [Lib.joinTail]
    rw [hj] at h
    have hl : s.data.toList.length = s.size := by rw [Array.length_toList]; rfl
    have hw : w.data.toList.length = w.size := by rw [Array.length_toList]; rfl
    have ih := lay_of s (x :: r) (p ++ w.data.toList ++ [32]) (by rw [h]; simp [List.append_assoc])
    rw [List.length_append, List.length_append, hw] at ih
    have hlen : p.length + w.size + 1 ≤ s.size := by
      rw [← hl, h]; simp only [List.length_append, List.length_cons, List.length_nil, hw]; omega
    have h32 : bt s (p.length + w.size) = 32 := by
      rw [bt_data, h, List.getElem?_append_right (by omega), Nat.add_sub_cancel_left, List.getElem?_append_right (by omega), hw, Nat.sub_self]
      rfl
    refine ⟨⟨by omega, fun i hi => ?_, .inr h32⟩, h32, by omega, ih⟩
    rw [bt_data, bt_data, h, List.getElem?_append_right (by omega), Nat.add_sub_cancel_left, List.getElem?_append_left (by omega)]
theorem lay_join (l : List ByteArray) : Lay (joinB l) 0 l := lay_of (joinB l) l [] (by unfold joinB; simp)
theorem skp_blank1 {s : ByteArray} {a : Nat} (h : bt s a = 32) (hlt : a < s.size) (hf : First s (a + 1)) : skp s a = a + 1 := by
  rw [skp_same (run_inside hlt (by rw [h]; rfl)), skp_self hf.1 hf.2]
theorem Lay.first {s : ByteArray} {a : Nat} {w : ByteArray} {r : List ByteArray} (h : Lay s a (w :: r)) : At s a w := by
  cases r with
  | nil => exact h.1
  | cons x r => exact h.1
/-- The tokens, with some places. -/
def Same (t : Tg) (x : Tp) : Prop := t.k = (x.k : Int) ∧ t.t = x.t ∧ t.n = x.n
theorem scG_words (s : ByteArray) : ∀ (L : List Tg) (acc : List Tp) (a : Nat), (∀ t ∈ L, (wr t).ok = true) → Lay s a (L.map fun t => (wr t).t) → a ≤ s.size → acc.length + L.length < 20000 →
    ∃ M : List Tp, scG s acc a = ⟨acc ++ M ++ [⟨0, nul, 0, s.size⟩], 0, 0⟩ ∧ M.length = L.length ∧ ∀ (i : Nat) (t : Tg) (x : Tp), L[i]? = some t → M[i]? = some x → Same t x
  | [], acc, a, _, h, _, hl => by
    have h : a = s.size := h
    subst h
    refine ⟨[], ?_, rfl, fun i t x h => by simp at h⟩
    rw [scG_end (by omega) (by simp at hl; omega), List.append_nil]
  | t :: r, acc, a, ho, h, ha, hl => by
    rw [List.map_cons] at h
    have hat := h.first
    obtain ⟨k, hk, htok, hf, hsz⟩ := wr_tok (ho t (by simp)) hat
    have hlt := hat.lt
    have hstep := scG_step (s := s) (acc := acc) (a := a) (by omega) (by rw [htok]) (by simp at hl; omega)
    rw [htok] at hstep
    cases r with
    | nil =>
      have hend : a + (wr t).t.size = s.size := h.2
      refine ⟨[⟨k, t.t, t.n, a⟩], ?_, rfl, fun i t' x h1 h2 => ?_⟩
      · rw [hstep]
        simp only [hend, skp_end (Nat.le_refl s.size)]
        rw [scG_end (by omega) (by simp at hl ⊢; omega)]
      · cases i with
        | zero =>
          obtain rfl : t = t' := by simpa using h1
          obtain rfl : _ = x := by simpa using h2
          exact ⟨hk, rfl, rfl⟩
        | succ i => simp at h1
    | cons u r =>
      obtain ⟨_, h32, hlt2, hrest⟩ := h
      have hat2 := hrest.first
      obtain ⟨_, _, _, hf2, hsz2⟩ := wr_tok (ho u (by simp)) hat2
      have hlt3 := hat2.lt
      obtain ⟨M, hM, hMl, hMs⟩ := scG_words s (u :: r) (acc ++ [⟨k, t.t, t.n, a⟩]) (a + (wr t).t.size + 1) (fun z hz => ho z (by simp at hz ⊢; exact .inr hz)) hrest (by omega) (by simp at hl ⊢; omega)
      refine ⟨⟨k, t.t, t.n, a⟩ :: M, ?_, by rw [List.length_cons, hMl]; rfl, fun i t' x h1 h2 => ?_⟩
      · rw [hstep]
        simp only [skp_blank1 h32 hlt2 hf2]
        rw [hM]
        simp
      · cases i with
        | zero =>
          obtain rfl : t = t' := by simpa using h1
          obtain rfl : _ = x := by simpa using h2
          exact ⟨hk, rfl, rfl⟩
        | succ i => exact hMs i t' x (by simpa using h1) (by simpa using h2)
/-- The text of tokens is scanned to these tokens. -/
theorem scan_words (L : List Tg) (ho : ∀ t ∈ L, (wr t).ok = true) (h4 : (joinB (L.map fun t => (wr t).t)).size ≤ 40000) (hl : L.length < 20000) :
    ∃ M : List Tp, scan (joinB (L.map fun t => (wr t).t)) = ⟨M ++ [⟨0, nul, 0, (joinB (L.map fun t => (wr t).t)).size⟩], 0, 0⟩ ∧ M.length = L.length ∧ ∀ (i : Nat) (t : Tg) (x : Tp), L[i]? = some t → M[i]? = some x → Same t x := by
  have hlay := lay_join (L.map fun t => (wr t).t)
  obtain ⟨s, hs⟩ : ∃ s, s = joinB (L.map fun t => (wr t).t) := ⟨_, rfl⟩
  rw [← hs] at h4 hlay ⊢
  have h0 : skp s 0 = 0 := by
    cases L with
    | nil =>
      have : (0 : Nat) = s.size := hlay
      exact skp_end (by omega)
    | cons t r =>
      rw [List.map_cons] at hlay
      obtain ⟨_, _, _, hf, _⟩ := wr_tok (ho t (by simp)) hlay.first
      exact skp_self hf.1 hf.2
  obtain ⟨M, h1, h2, h3⟩ := scG_words s L [] 0 ho hlay (Nat.zero_le _) (by simpa using hl)
  refine ⟨M, ?_, h2, h3⟩
  unfold scan
  rw [if_neg (by omega), h0, h1, List.nil_append]
/-- What the words of tokens are. -/
theorem wds_some : ∀ (L : List Tg) (l : List ByteArray), wds L = some l → ∃ n, n ≤ L.length ∧ l = (L.take n).map (fun t => (wr t).t) ∧ (∀ t ∈ L.take n, (wr t).ok = true ∧ t.k ≠ 0) ∧ (n < L.length → ∃ t, L[n]? = some t ∧ t.k = 0)
  | [], l, h => by
    obtain rfl : [] = l := by simpa [wds] using h
    exact ⟨0, Nat.le_refl _, rfl, fun t ht => by simp at ht, fun h => absurd h (by decide)⟩
  | t :: r, l, h => by
    cases hok : (wrE t).ok with
    | false => rw [wds_bad hok] at h; cases h
    | true =>
      by_cases h0 : t.k = 0
      · rw [wds_end hok h0] at h
        obtain rfl := Option.some.inj h
        exact ⟨0, Nat.zero_le _, rfl, fun t ht => by simp at ht, fun _ => ⟨t, rfl, h0⟩⟩
      · rw [wds_go hok h0] at h
        obtain ⟨l', hl', rfl⟩ := Option.map_eq_some_iff.1 h
        obtain ⟨n, h1, h2, h3, h4⟩ := wds_some r l' hl'
        have hE : wrE t = wr t := by unfold wrE; rw [if_neg h0]
        refine ⟨n + 1, by simpa using h1, by rw [h2, List.take_succ_cons, List.map_cons, hE], fun z hz => ?_, fun hlt => ?_⟩
        · rw [List.take_succ_cons] at hz
          rcases List.mem_cons.1 hz with rfl | hz
          · exact ⟨by rw [← hE]; exact hok, h0⟩
          · exact h3 z hz
        · obtain ⟨z, hz1, hz2⟩ := h4 (by simpa using hlt)
          exact ⟨z, by simpa using hz1, hz2⟩
end Go.Proofs.YtkkapgidddfdoaaDoor
