/- Contracts of the methods that tell words and signs, and of the map of keywords. -/
import Derived.Test.YtkkapgidddfdoaaDoorX
import Derived.Maps.Own
import Derived.Maps.Views
import Derived.Maps.StringElems
namespace Go.Proofs.YtkkapgidddfdoaaDoor
open Go.RowKit
set_option linter.unusedVariables false

/-- The lists that a scanner has. -/
def Ks (w : World) (mp g : Nat) : Prop := (∀ W, Fr w W → ∀ s : ByteArray, s.size ≤ 1000000 → (Instr.lookup 40 (.map (some mp)) (.string s) false).run Tryd.prog W = .ok (.bool (hasB 43 keyB s)) W) ∧ w.rowIs g 9 28 (fun i => .string (sgnB i))
theorem Ks.fr {w w' : World} {mp g : Nat} (h : Ks w mp g) (k : Fr w w') : Ks w' mp g := ⟨fun W hW => h.1 W (k.trans hW), k.row h.2⟩
open Classical in
theorem has_up {L : Nat} {f : Nat → ByteArray} {s : ByteArray} (h : hasB L f s = true) : HasP L f s := by unfold hasB at h; exact of_decide_eq_true h
def key24 : Bool := (List.range 43).all fun i => (keyB i).size ≤ 24
theorem key_le (i : Nat) (h : i < 43) : (keyB i).size ≤ 24 := by
  have h1 : key24 = true := by decide
  have := List.all_eq_true.1 h1 i (by simpa using h)
  simpa using this
theorem has_le {s : ByteArray} (h : hasB 43 keyB s = true) : s.size ≤ 24 := by
  obtain ⟨i, hi, e⟩ := has_up h
  rw [← e]; exact key_le i hi
set_option maxRecDepth 100000 in
set_option maxHeartbeats 1000000 in
theorem word_any (s : ByteArray) (hs : s.size ≤ 1000000) (mp g a : Nat) (ha : a < s.size) (w : World) (hk : Ks w mp g) :
    Calls Tryd.prog 48 #[.agg #[.string s, .map (some mp), .slice (some ⟨g, 0, none⟩) 28 28], .int .i64 a] w fun e w' =>
      e = .returned (.tuple #[.agg #[.int .i64 (wordT s a).k, .string (wordT s a).t, .int .i64 (wordT s a).n, .int .i64 0], .int .i64 (wordT s a).e, .int .i64 (wordT s a).er]) ∧ Fr w w' := by
  have hbd := run_bd part s _ a rfl (by omega)
  obtain ⟨b, hb⟩ : ∃ b, b = run part s a := ⟨_, rfl⟩
  rw [← hb] at hbd
  obtain ⟨b1, b2⟩ := hbd
  have HB := Lib.hid hb
  have hxs := ext_size s a b b2
  obtain ⟨w0, hw0⟩ : ∃ w0, w0 = ((w.alloc (.cells #[.string s, .map (some mp), .slice (some ⟨g, 0, none⟩) 28 28] 45)).alloc (.cells #[.int .i64 0, .string ⟨#[]⟩, .int .i64 0, .int .i64 0] 38)) := ⟨_, rfl⟩
  have hf0 : Fr w w0 := by rw [hw0]; exact ((Fr.refl w).alloc _).alloc _
  obtain ⟨c0, c1, c2⟩ : Sb w0 w.heap.size s mp g := by rw [hw0]; exact (Sb.new w s mp g 45).fr ((Fr.refl _).alloc _)
  have HT0 := Lib.hid (show Tb w0 (w.heap.size + 1) (.int .i64 0) (.string ⟨#[]⟩) (.int .i64 0) (.int .i64 0) by rw [hw0]; exact Tb.new1 w (.cells #[.string s, .map (some mp), .slice (some ⟨g, 0, none⟩) 28 28] 45) (.int .i64 0) (.string ⟨#[]⟩) (.int .i64 0) (.int .i64 0))
  have HW0 := Lib.hid hw0
  obtain ⟨t0, t1, t2, t3⟩ := HT0.out.cells
  have z0 := HT0.out.free 0
  have z1 := HT0.out.free 1
  have z2 := HT0.out.free 2
  have z3 := HT0.out.free 3
  cases hh : hasB 43 keyB (s.extract a b) with
  | true =>
    have hlk := (hk.fr hf0).1 w0 (Fr.refl _) (s.extract a b) (by omega)
    rw [hh] at hlk
    have HC : Hid (wordT s a = ⟨4, s.extract a b, 0, b, 0⟩) := Lib.hid (by unfold wordT; rw [← hb, if_pos hh])
    clear hb hw0 hh hxs
    go_enter Tryd.func48, Tryd.ntmps48
    go_wp2_with fail
    rw [← HW0.out]
    refine (behindName_any s a (by omega) (by omega) _).mono ?_; rintro e w' ⟨rfl, rfl⟩
    rw [← HB.out]
    go_wp2_with fail
    exact bodyPost_ret (v := .tuple #[.agg #[.int .i64 4, .string (s.extract a b), .int .i64 0, .int .i64 0], .int .i64 b, .int .i64 0]) (by simp [results, Tryd.results48, go_sem, t0, t1, t2, t3]) rfl ⟨by rw [HC.out]; rfl, tok_fr hf0 _ _ _ _⟩
  | false =>
    have hlk := (hk.fr hf0).1 w0 (Fr.refl _) (s.extract a b) (by omega)
    rw [hh] at hlk
    by_cases h24 : 24 < b - a
    · have HC : Hid (wordT s a = bad 2) := Lib.hid (by unfold wordT; rw [← hb, if_neg (by rw [hh]; decide), if_pos (by rw [hxs]; exact h24)])
      have hd : decide ((24 : Int) < ((b - a : Nat) : Int)) = true := decide_eq_true (by omega)
      clear hb hw0 hh h24
      go_enter Tryd.func48, Tryd.ntmps48
      go_wp2_with fail
      rw [← HW0.out]
      refine (behindName_any s a (by omega) (by omega) _).mono ?_; rintro e w' ⟨rfl, rfl⟩
      rw [← HB.out]
      go_wp2_with fail
      exact bodyPost_ret (v := .tuple #[.agg #[.int .i64 0, .string ⟨#[]⟩, .int .i64 0, .int .i64 0], .int .i64 0, .int .i64 2]) (by simp [results, Tryd.results48, go_sem, t0, t1, t2, t3]) rfl ⟨by rw [HC.out]; rfl, tok_fr hf0 _ _ _ _⟩
    · have HC : Hid (wordT s a = ⟨1, s.extract a b, 0, b, 0⟩) := Lib.hid (by unfold wordT; rw [← hb, if_neg (by rw [hh]; decide), if_neg (by rw [hxs]; exact h24)])
      have hd : decide ((24 : Int) < ((b - a : Nat) : Int)) = false := decide_eq_false (by omega)
      clear hb hw0 hh h24
      go_enter Tryd.func48, Tryd.ntmps48
      go_wp2_with fail
      rw [← HW0.out]
      refine (behindName_any s a (by omega) (by omega) _).mono ?_; rintro e w' ⟨rfl, rfl⟩
      rw [← HB.out]
      go_wp2_with fail
      exact bodyPost_ret (v := .tuple #[.agg #[.int .i64 1, .string (s.extract a b), .int .i64 0, .int .i64 0], .int .i64 b, .int .i64 0]) (by simp [results, Tryd.results48, go_sem, t0, t1, t2, t3]) rfl ⟨by rw [HC.out]; rfl, tok_fr hf0 _ _ _ _⟩
/-- What was told so far of the longest sign. -/
def Lng (s : ByteArray) (a k : Nat) (t : ByteArray) : Prop :=
  (t.size = 0 ∧ (∀ i, i < k → pre (s.extract a s.size) (sgnB i) = false)) ∨
  (t.size = 1 ∧ (∃ i, i < k ∧ sgnB i = t ∧ pre (s.extract a s.size) t = true) ∧ (∀ i, i < k → (sgnB i).size = 2 → pre (s.extract a s.size) (sgnB i) = false)) ∨
  (t.size = 2 ∧ (∃ i, i < k ∧ sgnB i = t ∧ pre (s.extract a s.size) t = true))
def sgn12 : Bool := (List.range 28).all fun i => (sgnB i).size == 1 || (sgnB i).size == 2
theorem sgn_size (i : Nat) (h : i < 28) : (sgnB i).size = 1 ∨ (sgnB i).size = 2 := by
  have h1 : sgn12 = true := by decide
  have := List.all_eq_true.1 h1 i (by simpa using h)
  simpa using this
theorem pre_ext (s t : ByteArray) (a : Nat) (ha : a ≤ s.size) : pre (s.extract a s.size) t = true ↔ a + t.size ≤ s.size ∧ s.extract a (a + t.size) = t := by
  have hz := ext_size s a s.size (Nat.le_refl _)
  unfold pre
  rw [decide_eq_true_iff, hz]
  have he : t.size ≤ s.size - a → (s.extract a s.size).extract 0 t.size = s.extract a (a + t.size) := fun h => by
    refine bt_ext ?_ (fun i hi => ?_)
    · rw [ext_size _ _ _ (by omega), ext_size _ _ _ (by omega)]; omega
    · rw [ext_size _ _ _ (by omega)] at hi
      rw [ext_bt _ 0 t.size i (by omega) (by omega), Nat.zero_add, ext_bt s a s.size i (Nat.le_refl _) (by omega), ext_bt s a (a + t.size) i (by omega) (by omega)]
  exact ⟨fun h => ⟨by omega, by rw [← he h.1]; exact h.2⟩, fun h => ⟨by omega, by rw [he (by omega)]; exact h.2⟩⟩
theorem Lng.sgnT {s t : ByteArray} {a : Nat} (ha : a < s.size) (h : Lng s a 28 t) : sgnT s a = if t.size = 0 then bad 20 else ⟨5, t, 0, a + t.size, 0⟩ := by
  have up : ∀ x, hasB 28 sgnB x = true → ∃ i, i < 28 ∧ sgnB i = x := fun x hx => has_up hx
  have key : ∀ n, a + n ≤ s.size → hasB 28 sgnB (s.extract a (a + n)) = true → ∃ i, i < 28 ∧ (sgnB i).size = n ∧ pre (s.extract a s.size) (sgnB i) = true := fun n hn hx => by
    obtain ⟨i, hi, e⟩ := up _ hx
    have hz : (sgnB i).size = n := by rw [e, ext_size _ _ _ hn]; omega
    exact ⟨i, hi, hz, (pre_ext s _ a (by omega)).2 (by rw [hz]; exact ⟨hn, e.symm⟩)⟩
  unfold Go.Proofs.YtkkapgidddfdoaaDoor.sgnT
  rcases h with ⟨h0, hno⟩ | ⟨h1, ⟨i, hi, e, hp⟩, hno⟩ | ⟨h2, ⟨i, hi, e, hp⟩⟩
  · rw [if_pos h0, if_neg, if_neg]
    · rintro ⟨hn, hx⟩; obtain ⟨i, hi, _, hp⟩ := key 1 hn hx; rw [hno i hi] at hp; cases hp
    · rintro ⟨hn, hx⟩; obtain ⟨i, hi, _, hp⟩ := key 2 hn hx; rw [hno i hi] at hp; cases hp
  · have hp' := (pre_ext s t a (by omega)).1 hp
    rw [h1] at hp'
    rw [show (if t.size = 0 then bad 20 else (⟨5, t, 0, a + t.size, 0⟩ : Tk)) = ⟨5, t, 0, a + 1, 0⟩ from by rw [if_neg (by omega), h1], if_neg, if_pos ⟨hp'.1, by rw [hp'.2]; exact hasB_yes hi e⟩, hp'.2]
    rintro ⟨hn, hx⟩; obtain ⟨j, hj, hz, hq⟩ := key 2 hn hx; rw [hno j hj hz] at hq; cases hq
  · have hp' := (pre_ext s t a (by omega)).1 hp
    rw [h2] at hp'
    rw [show (if t.size = 0 then bad 20 else (⟨5, t, 0, a + t.size, 0⟩ : Tk)) = ⟨5, t, 0, a + 2, 0⟩ from by rw [if_neg (by omega), h2], if_pos ⟨hp'.1, by rw [hp'.2]; exact hasB_yes hi e⟩, hp'.2]
theorem Lng.step {s t : ByteArray} {a k : Nat} (hk : k < 28) (h : Lng s a k t) :
    (t.size < (sgnB k).size → pre (s.extract a s.size) (sgnB k) = true → Lng s a (k + 1) (sgnB k)) ∧
    (t.size < (sgnB k).size → pre (s.extract a s.size) (sgnB k) = false → Lng s a (k + 1) t) ∧ (¬ t.size < (sgnB k).size → Lng s a (k + 1) t) := by
  have hz := sgn_size k hk
  refine ⟨fun hl hp => ?_, fun hl hp => ?_, fun hl => ?_⟩
  · rcases hz with hz | hz
    · rcases h with ⟨h0, hno⟩ | ⟨h1, _⟩ | ⟨h2, _⟩
      · refine .inr (.inl ⟨hz, ⟨k, by omega, rfl, hp⟩, fun i hi h2 => ?_⟩)
        by_cases e : i = k
        · subst e; omega
        · exact hno i (by omega)
      · omega
      · omega
    · exact .inr (.inr ⟨hz, ⟨k, by omega, rfl, hp⟩⟩)
  · rcases h with ⟨h0, hno⟩ | ⟨h1, ⟨i, hi, e, hp2⟩, hno⟩ | ⟨h2, ⟨i, hi, e, hp2⟩⟩
    · refine .inl ⟨h0, fun i hi => ?_⟩
      by_cases e : i = k
      · subst e; exact hp
      · exact hno i (by omega)
    · refine .inr (.inl ⟨h1, ⟨i, by omega, e, hp2⟩, fun i hi h2 => ?_⟩)
      by_cases e : i = k
      · subst e; exact hp
      · exact hno i (by omega) h2
    · exact .inr (.inr ⟨h2, ⟨i, by omega, e, hp2⟩⟩)
  · rcases h with ⟨h0, hno⟩ | ⟨h1, ⟨i, hi, e, hp2⟩, hno⟩ | ⟨h2, ⟨i, hi, e, hp2⟩⟩
    · omega
    · refine .inr (.inl ⟨h1, ⟨i, by omega, e, hp2⟩, fun i hi h2 => ?_⟩)
      by_cases e : i = k
      · subst e; omega
      · exact hno i (by omega) h2
    · exact .inr (.inr ⟨h2, ⟨i, by omega, e, hp2⟩⟩)
end Go.Proofs.YtkkapgidddfdoaaDoor
