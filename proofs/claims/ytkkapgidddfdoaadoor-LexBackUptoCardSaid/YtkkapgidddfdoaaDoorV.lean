/- The contract of the method that tells a character. -/
import Derived.Test.YtkkapgidddfdoaaDoorU
namespace Go.Proofs.YtkkapgidddfdoaaDoor
open Go.RowKit
set_option linter.unusedVariables false

/-- A token that lies in memory, and may be written. -/
def Tb (w : World) (b : Nat) (x0 x1 x2 x3 : Value) : Prop := w.heap[b]? = some (.cells #[x0, x1, x2, x3] 38 (0, 0))
theorem Tb.lt {w : World} {b : Nat} {x0 x1 x2 x3 : Value} (h : Tb w b x0 x1 x2 x3) : b < w.heap.size := (Array.getElem?_eq_some_iff.1 h).1
theorem Tb.fr {w w' : World} {b : Nat} {x0 x1 x2 x3 : Value} (h : Tb w b x0 x1 x2 x3) (k : Fr w w') : Tb w' b x0 x1 x2 x3 := (k.block b h.lt).trans h
theorem Tb.cells {w : World} {b : Nat} {x0 x1 x2 x3 : Value} (h : Tb w b x0 x1 x2 x3) : w.cell? ⟨b, 0, none⟩ = some x0 ∧ w.cell? ⟨b, 1, none⟩ = some x1 ∧ w.cell? ⟨b, 2, none⟩ = some x2 ∧ w.cell? ⟨b, 3, none⟩ = some x3 := by
  unfold Tb at h
  simp [World.cell?, h]
theorem Tb.free {w : World} {b : Nat} {x0 x1 x2 x3 : Value} (h : Tb w b x0 x1 x2 x3) (i : Nat) : w.frozen? ⟨b, i, none⟩ = false := by
  unfold Tb at h
  simp [World.frozen?, h]
theorem Tb.new (w : World) (x0 x1 x2 x3 : Value) : Tb (w.alloc (.cells #[x0, x1, x2, x3] 38)) w.heap.size x0 x1 x2 x3 := by
  unfold Tb; simp only [World.alloc, Array.getElem?_push_size]
theorem Tb.new1 (w : World) (o : Obj) (x0 x1 x2 x3 : Value) : Tb ((w.alloc o).alloc (.cells #[x0, x1, x2, x3] 38)) (w.heap.size + 1) x0 x1 x2 x3 := by
  have h := Tb.new (w.alloc o) x0 x1 x2 x3
  simpa using h
theorem esc_le (c : Nat) : esc c ≤ 255 := by
  unfold esc
  repeat' split
  all_goals omega
theorem ins_c (s : ByteArray) (a q : Nat) : (ins s a q).c ≤ 255 := by
  have h1 := bt_lt s a
  have h2 := esc_le (bt s (a + 1))
  unfold ins
  split
  · simp
  · split
    · split
      · simp
      · exact h2
    · simp only; omega
theorem tok_fr {w w1 : World} (h : Fr w w1) (a b c d : Value) : Fr w ((((w1.setCell ⟨w.heap.size + 1, 0, none⟩ a).setCell ⟨w.heap.size + 1, 1, none⟩ b).setCell ⟨w.heap.size + 1, 2, none⟩ c).setCell ⟨w.heap.size + 1, 3, none⟩ d) :=
  (((h.setCell (Nat.le_succ _) a).setCell (Nat.le_succ _) b).setCell (Nat.le_succ _) c).setCell (Nat.le_succ _) d
set_option maxHeartbeats 1000000 in
theorem char_any (s : ByteArray) (hs : s.size ≤ 1000000) (mp g a : Nat) (ha : a ≤ s.size) (w : World) :
    Calls Tryd.prog 52 #[.agg #[.string s, .map (some mp), .slice (some ⟨g, 0, none⟩) 28 28], .int .i64 a] w fun e w' =>
      e = .returned (.tuple #[.agg #[.int .i64 (chrT s a).k, .string (chrT s a).t, .int .i64 (chrT s a).n, .int .i64 0], .int .i64 (chrT s a).e, .int .i64 (chrT s a).er]) ∧ Fr w w' := by
  obtain ⟨r, hr⟩ : ∃ r, r = ins s (a + 1) 39 := ⟨_, rfl⟩
  obtain ⟨rc, rn, rk⟩ := r
  have hn : rn ≤ 1000001 := by
    cases h : (ins s (a + 1) 39).ok with
    | true => have := (ins_ok h).2.2; rw [← hr] at this; simp only at this; omega
    | false =>
      have : rn = (ins s (a + 1) 39).nx := by rw [← hr]
      unfold ins at this
      rw [this]
      split
      · simp
      · split
        · split <;> simp only <;> omega
        · simp only; omega
  have hc : rc ≤ 255 := by have := ins_c s (a + 1) 39; rw [← hr] at this; exact this
  have HRR := Lib.hid hr
  have hf0 : Fr w ((w.alloc (.cells #[.string s, .map (some mp), .slice (some ⟨g, 0, none⟩) 28 28] 45)).alloc (.cells #[.int .i64 0, .string ⟨#[]⟩, .int .i64 0, .int .i64 0] 38)) := ((Fr.refl w).alloc _).alloc _
  have HS0 := Lib.hid ((Sb.new w s mp g 45).fr ((Fr.refl _).alloc (.cells #[.int .i64 0, .string ⟨#[]⟩, .int .i64 0, .int .i64 0] 38)))
  have HT0 := Lib.hid (Tb.new1 w (.cells #[.string s, .map (some mp), .slice (some ⟨g, 0, none⟩) 28 28] 45) (.int .i64 0) (.string ⟨#[]⟩) (.int .i64 0) (.int .i64 0))
  have ha1 : (a : Int) + 1 = ((a + 1 : Nat) : Int) := by omega
  have HA1 := Lib.hid ha1
  clear hr ha1
  go_enter Tryd.func52, Tryd.ntmps52
  go_wp2_with fail
  rw [HA1.out]
  refine (inside_any s hs mp g (a + 1) 39 (by omega) _).mono ?_
  rintro e w1 ⟨rfl, hf1⟩
  rw [← HRR.out]
  dsimp only
  have HS1 := Lib.hid (HS0.out.fr hf1)
  have HT1 := Lib.hid (HT0.out.fr hf1)
  have hfw := hf0.trans hf1
  obtain ⟨c0, c1, c2⟩ := HS1.out
  cases rk with
  | true =>
    cases hq : hasC s rn 39 with
    | true =>
      have HC : Hid (chrT s a = ⟨2, nul, (rc : Nat), rn + 1, 0⟩) := Lib.hid (by unfold chrT; rw [← HRR.out, if_pos ⟨rfl, hq⟩])
      have HQ := Lib.hid hq
      clear hq
      go_wp2_with fail
      refine (has_any2 s hs mp g rn 39 _).mono ?_
      rintro e w2 ⟨rfl, hf2⟩
      rw [HQ.out]
      have HT2 := Lib.hid (HT1.out.fr hf2)
      obtain ⟨t0, t1, t2, t3⟩ := HT2.out.cells
      have z0 := HT2.out.free 0
      have z1 := HT2.out.free 1
      have z2 := HT2.out.free 2
      have z3 := HT2.out.free 3
      clear c0 c1 c2
      go_wp2_with fail
      exact bodyPost_ret (v := .tuple #[.agg #[.int .i64 2, .string ⟨#[]⟩, .int .i64 ((rc : Nat) : Int), .int .i64 0], .int .i64 ((rn : Int) + 1), .int .i64 0]) (by simp [results, Tryd.results52, go_sem, t0, t1, t2, t3]) rfl ⟨by rw [HC.out]; rfl, tok_fr (hfw.trans hf2) _ _ _ _⟩
    | false =>
      have HC : Hid (chrT s a = bad 21) := Lib.hid (by unfold chrT; rw [← HRR.out, if_neg (by rw [hq]; simp)])
      have HQ := Lib.hid hq
      clear hq
      go_wp2_with fail
      refine (has_any2 s hs mp g rn 39 _).mono ?_
      rintro e w2 ⟨rfl, hf2⟩
      rw [HQ.out]
      have HT2 := Lib.hid (HT1.out.fr hf2)
      obtain ⟨t0, t1, t2, t3⟩ := HT2.out.cells
      have z0 := HT2.out.free 0
      have z1 := HT2.out.free 1
      have z2 := HT2.out.free 2
      have z3 := HT2.out.free 3
      clear c0 c1 c2
      go_wp2_with fail
      exact bodyPost_ret (v := .tuple #[.agg #[.int .i64 0, .string ⟨#[]⟩, .int .i64 0, .int .i64 0], .int .i64 0, .int .i64 21]) (by simp [results, Tryd.results52, go_sem, t0, t1, t2, t3]) rfl ⟨by rw [HC.out]; rfl, tok_fr (hfw.trans hf2) _ _ _ _⟩
  | false =>
    have HC : Hid (chrT s a = bad 21) := Lib.hid (by unfold chrT; rw [← HRR.out, if_neg (by simp)])
    obtain ⟨t0, t1, t2, t3⟩ := HT1.out.cells
    have z0 := HT1.out.free 0
    have z1 := HT1.out.free 1
    have z2 := HT1.out.free 2
    have z3 := HT1.out.free 3
    clear c0 c1 c2
    go_wp2_with fail
    exact bodyPost_ret (v := .tuple #[.agg #[.int .i64 0, .string ⟨#[]⟩, .int .i64 0, .int .i64 0], .int .i64 0, .int .i64 21]) (by simp [results, Tryd.results52, go_sem, t0, t1, t2, t3]) rfl ⟨by rw [HC.out]; rfl, tok_fr hfw _ _ _ _⟩
end Go.Proofs.YtkkapgidddfdoaaDoor
