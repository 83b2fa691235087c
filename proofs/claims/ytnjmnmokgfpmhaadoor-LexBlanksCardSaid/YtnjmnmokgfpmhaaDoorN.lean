/- Contracts of the methods that tell numbers. -/
import Derived.Test.YtnjmnmokgfpmhaaDoorPU
import Derived.Test.YtnjmnmokgfpmhaaDoorW
namespace Go.Proofs.YtnjmnmokgfpmhaaDoor
open Go.RowKit
set_option linter.unusedVariables false

theorem val_ext (b : Nat) (s : ByteArray) (x y : Nat) (hy : y ≤ s.size) : ∀ k, k ≤ y - x → val b (s.extract x y) 0 k = val b s x k := by
  intro k
  induction k with
  | zero => intro _; rfl
  | succ k ih => intro hk; rw [val, val, ih (by omega), Nat.zero_add, ext_bt s x y k hy (by omega)]
theorem run_fit (p : Nat → Bool) (s : ByteArray) : ∀ n a, n = s.size - a → ∀ i, a ≤ i → i < run p s a → p (bt s i) = true := by
  intro n
  induction n with
  | zero => intro a h i h1 h2; rw [run_end (by omega)] at h2; omega
  | succ n ih =>
    intro a h i h1 h2
    cases hp : p (bt s a) with
    | true =>
      by_cases e : i = a
      · rw [e]; exact hp
      · rw [run_inside (by omega) hp] at h2; exact ih (a + 1) (by omega) i (by omega) h2
    | false => rw [run_out hp] at h2; omega
set_option maxRecDepth 100000 in
set_option maxHeartbeats 2000000 in
theorem number_any (s : ByteArray) (hs : s.size ≤ 1000000) (mp g a : Nat) (ha : a < s.size) (hd : digit (bt s a) = true) (w : World) (hev : Ev w) :
    Calls Tryd.prog 50 #[.agg #[.string s, .map (some mp), .slice (some ⟨g, 0, none⟩) 28 28], .int .i64 a] w fun e w' =>
      e = .returned (.tuple #[.agg #[.int .i64 (numT s a).k, .string (numT s a).t, .int .i64 (numT s a).n, .int .i64 0], .int .i64 (numT s a).e, .int .i64 (numT s a).er]) ∧ Fr w w' := by
  have hbd := run_bd digit s _ (a + 1) rfl (by omega)
  rw [← run_inside ha hd] at hbd
  obtain ⟨b, hb⟩ : ∃ b, b = run digit s a := ⟨_, rfl⟩
  rw [← hb] at hbd
  obtain ⟨b1, b2⟩ := hbd
  have HB := Lib.hid hb
  have hxs := ext_size s a b b2
  have hfit : ∀ i, i < (s.extract a b).size → digit (bt (s.extract a b) i) = true := fun i hi => by
    rw [hxs] at hi
    rw [ext_bt s a b i b2 hi]
    exact run_fit digit s _ a rfl (a + i) (by omega) (by rw [← hb]; omega)
  have hval : val 10 (s.extract a b) 0 (s.extract a b).size = val 10 s a (b - a) := by rw [hxs]; exact val_ext 10 s a b b2 _ (Nat.le_refl _)
  have hab : a ≤ b := by omega
  have HF := Lib.hid hfit
  obtain ⟨x, hx⟩ : ∃ x, x = val 10 s a (b - a) := ⟨_, rfl⟩
  rw [← hx] at hval
  have HX := Lib.hid hx
  have HV := Lib.hid hval
  obtain ⟨w0, hw0⟩ : ∃ w0, w0 = ((w.alloc (.cells #[.string s, .map (some mp), .slice (some ⟨g, 0, none⟩) 28 28] 45)).alloc (.cells #[.int .i64 0, .string ⟨#[]⟩, .int .i64 0, .int .i64 0] 38)) := ⟨_, rfl⟩
  have hf0 : Fr w w0 := by rw [hw0]; exact ((Fr.refl w).alloc _).alloc _
  have HS0 := Lib.hid (show Sb w0 w.heap.size s mp g by rw [hw0]; exact (Sb.new w s mp g 45).fr ((Fr.refl _).alloc _))
  obtain ⟨c0, c1, c2⟩ := HS0.out
  have HT0 := Lib.hid (show Tb w0 (w.heap.size + 1) (.int .i64 0) (.string ⟨#[]⟩) (.int .i64 0) (.int .i64 0) by rw [hw0]; exact Tb.new1 w (.cells #[.string s, .map (some mp), .slice (some ⟨g, 0, none⟩) 28 28] 45) (.int .i64 0) (.string ⟨#[]⟩) (.int .i64 0) (.int .i64 0))
  have HW0 := Lib.hid hw0
  have HE0 := Lib.hid (hev.fr hf0)
  clear hw0
  by_cases hbig : x < top
  · by_cases h31 : 2147483647 < x
    · have HC : Hid (numT s a = bad 22) := Lib.hid (by unfold numT; rw [← hb, ← hx, if_pos h31])
      have hd1 : decide ((2147483647 : Int) < (x : Int)) = true := decide_eq_true (by omega)
      have HBG := Lib.hid hbig
      clear hb hx hval hfit hd hbig h31 hxs
      go_enter Tryd.func50, Tryd.ntmps50
      go_wp2_with fail
      rw [← HW0.out]
      refine (behindDigit_any s a (by omega) (by omega) _).mono ?_; rintro e w' ⟨rfl, rfl⟩
      rw [← HB.out]
      go_wp2_with fail
      refine (PU10_ok _ (by rw [ext_size s a b b2]; omega) (by rw [ext_size s a b b2]; omega) HF.out (by rw [HV.out]; exact HBG.out) _).mono ?_
      rintro e w2 ⟨rfl, hf2⟩
      rw [HV.out]
      have HT2 := Lib.hid (HT0.out.fr hf2)
      obtain ⟨t0, t1, t2, t3⟩ := HT2.out.cells
      have z0 := HT2.out.free 0
      have z1 := HT2.out.free 1
      have z2 := HT2.out.free 2
      have z3 := HT2.out.free 3
      clear c0 c1 c2
      go_wp2_with fail
      exact bodyPost_ret (v := .tuple #[.agg #[.int .i64 0, .string ⟨#[]⟩, .int .i64 0, .int .i64 0], .int .i64 0, .int .i64 22]) (by simp [results, Tryd.results50, go_sem, t0, t1, t2, t3]) rfl ⟨by rw [HC.out]; rfl, tok_fr (hf0.trans hf2) _ _ _ _⟩
    · have HC : Hid (numT s a = ⟨2, nul, (x : Nat), b, 0⟩) := Lib.hid (by unfold numT; rw [← hb, ← hx, if_neg h31])
      have hd1 : decide ((2147483647 : Int) < (x : Int)) = false := decide_eq_false (by omega)
      have hx31 : (x : Int) ≤ 2147483647 := by omega
      have HBG := Lib.hid hbig
      clear hb hx hval hfit hd hbig h31 hxs
      go_enter Tryd.func50, Tryd.ntmps50
      go_wp2_with fail
      rw [← HW0.out]
      refine (behindDigit_any s a (by omega) (by omega) _).mono ?_; rintro e w' ⟨rfl, rfl⟩
      rw [← HB.out]
      go_wp2_with fail
      refine (PU10_ok _ (by rw [ext_size s a b b2]; omega) (by rw [ext_size s a b b2]; omega) HF.out (by rw [HV.out]; exact HBG.out) _).mono ?_
      rintro e w2 ⟨rfl, hf2⟩
      rw [HV.out]
      have HT2 := Lib.hid (HT0.out.fr hf2)
      obtain ⟨t0, t1, t2, t3⟩ := HT2.out.cells
      have z0 := HT2.out.free 0
      have z1 := HT2.out.free 1
      have z2 := HT2.out.free 2
      have z3 := HT2.out.free 3
      clear c0 c1 c2
      go_wp2_with fail
      exact bodyPost_ret (v := .tuple #[.agg #[.int .i64 2, .string ⟨#[]⟩, .int .i64 (x : Nat), .int .i64 0], .int .i64 b, .int .i64 0]) (by simp [results, Tryd.results50, go_sem, t0, t1, t2, t3]) rfl ⟨by rw [HC.out]; rfl, tok_fr (hf0.trans hf2) _ _ _ _⟩
  · have HC : Hid (numT s a = bad 22) := Lib.hid (by unfold numT; rw [← hb, ← hx, if_pos (by unfold top at hbig; omega)])
    have HBG := Lib.hid hbig
    clear hb hx hval hfit hd hbig hxs
    go_enter Tryd.func50, Tryd.ntmps50
    go_wp2_with fail
    rw [← HW0.out]
    refine (behindDigit_any s a (by omega) (by omega) _).mono ?_; rintro e w' ⟨rfl, rfl⟩
    rw [← HB.out]
    go_wp2_with fail
    refine (PU10_big _ (by rw [ext_size s a b b2]; omega) (by rw [ext_size s a b b2]; omega) HF.out (by rw [HV.out]; exact HBG.out) _ HE0.out).mono ?_
    rintro e w2 ⟨N, rfl, hf2⟩
    have HT2 := Lib.hid (HT0.out.fr hf2)
    obtain ⟨t0, t1, t2, t3⟩ := HT2.out.cells
    have z0 := HT2.out.free 0
    have z1 := HT2.out.free 1
    have z2 := HT2.out.free 2
    have z3 := HT2.out.free 3
    clear c0 c1 c2
    go_wp2_with fail
    exact bodyPost_ret (v := .tuple #[.agg #[.int .i64 0, .string ⟨#[]⟩, .int .i64 0, .int .i64 0], .int .i64 0, .int .i64 22]) (by simp [results, Tryd.results50, go_sem, t0, t1, t2, t3]) rfl ⟨by rw [HC.out]; rfl, tok_fr (hf0.trans hf2) _ _ _ _⟩
set_option maxRecDepth 100000 in
set_option maxHeartbeats 2000000 in
theorem base16_any (s : ByteArray) (hs : s.size ≤ 1000000) (mp g a : Nat) (ha : a < s.size) (w : World) (hev : Ev w) :
    Calls Tryd.prog 51 #[.agg #[.string s, .map (some mp), .slice (some ⟨g, 0, none⟩) 28 28], .int .i64 a] w fun e w' =>
      e = .returned (.tuple #[.agg #[.int .i64 (hexT s a).k, .string (hexT s a).t, .int .i64 (hexT s a).n, .int .i64 0], .int .i64 (hexT s a).e, .int .i64 (hexT s a).er]) ∧ Fr w w' := by
  have hbd := run_bd hexc s _ (a + 1) rfl (by omega)
  obtain ⟨b, hb⟩ : ∃ b, b = run hexc s (a + 1) := ⟨_, rfl⟩
  rw [← hb] at hbd
  obtain ⟨b1, b2⟩ := hbd
  have HB := Lib.hid hb
  have ha1 : (a : Int) + 1 = ((a + 1 : Nat) : Int) := by omega
  have HA1 := Lib.hid ha1
  have hxs := ext_size s (a + 1) b b2
  have hfit : ∀ i, i < (s.extract (a + 1) b).size → hexc (bt (s.extract (a + 1) b) i) = true := fun i hi => by
    rw [hxs] at hi
    rw [ext_bt s (a + 1) b i b2 hi]
    exact run_fit hexc s _ (a + 1) rfl (a + 1 + i) (by omega) (by rw [← hb]; omega)
  have hval : val 16 (s.extract (a + 1) b) 0 (s.extract (a + 1) b).size = val 16 s (a + 1) (b - (a + 1)) := by rw [hxs]; exact val_ext 16 s (a + 1) b b2 _ (Nat.le_refl _)
  have HF := Lib.hid hfit
  obtain ⟨x, hx⟩ : ∃ x, x = val 16 s (a + 1) (b - (a + 1)) := ⟨_, rfl⟩
  rw [← hx] at hval
  have HX := Lib.hid hx
  have HV := Lib.hid hval
  obtain ⟨w0, hw0⟩ : ∃ w0, w0 = ((w.alloc (.cells #[.string s, .map (some mp), .slice (some ⟨g, 0, none⟩) 28 28] 45)).alloc (.cells #[.int .i64 0, .string ⟨#[]⟩, .int .i64 0, .int .i64 0] 38)) := ⟨_, rfl⟩
  have hf0 : Fr w w0 := by rw [hw0]; exact ((Fr.refl w).alloc _).alloc _
  have HS0 := Lib.hid (show Sb w0 w.heap.size s mp g by rw [hw0]; exact (Sb.new w s mp g 45).fr ((Fr.refl _).alloc _))
  obtain ⟨c0, c1, c2⟩ := HS0.out
  have HT0 := Lib.hid (show Tb w0 (w.heap.size + 1) (.int .i64 0) (.string ⟨#[]⟩) (.int .i64 0) (.int .i64 0) by rw [hw0]; exact Tb.new1 w (.cells #[.string s, .map (some mp), .slice (some ⟨g, 0, none⟩) 28 28] 45) (.int .i64 0) (.string ⟨#[]⟩) (.int .i64 0) (.int .i64 0))
  have HW0 := Lib.hid hw0
  have HE0 := Lib.hid (hev.fr hf0)
  clear hw0
  by_cases hemp : b = a + 1
  · have HC : Hid (hexT s a = bad 20) := Lib.hid (by unfold hexT; rw [← hb, if_pos hemp])
    have hd1 : ((b : Int) == (a : Int) + 1) = true := by rw [beq_iff_eq]; omega
    have HT2 := Lib.hid (HT0.out.fr (Fr.refl _))
    obtain ⟨t0, t1, t2, t3⟩ := HT2.out.cells
    have z0 := HT2.out.free 0
    have z1 := HT2.out.free 1
    have z2 := HT2.out.free 2
    have z3 := HT2.out.free 3
    clear hb hx hval hfit hxs ha1 hemp
    go_enter Tryd.func51, Tryd.ntmps51
    go_wp2_with fail
    rw [← HW0.out, HA1.out]
    refine (behindHex_any s (a + 1) (by omega) (by omega) _).mono ?_; rintro e w' ⟨rfl, rfl⟩
    rw [← HB.out]
    go_wp2_with fail
    exact bodyPost_ret (v := .tuple #[.agg #[.int .i64 0, .string ⟨#[]⟩, .int .i64 0, .int .i64 0], .int .i64 0, .int .i64 20]) (by simp [results, Tryd.results51, go_sem, t0, t1, t2, t3]) rfl ⟨by rw [HC.out]; rfl, tok_fr hf0 _ _ _ _⟩
  · have hd1 : ((b : Int) == (a : Int) + 1) = false := by rw [beq_eq_false_iff_ne]; omega
    have hlt1 : a + 1 < b := by omega
    have hsl : ∀ W : World, (Instr.slice 9 (.string s) (some (.int .i64 ((a : Int) + 1))) (some (.int .i64 (b : Int))) none).run Tryd.prog W = .ok (.string (s.extract (a + 1) b)) W := fun W => by
      have h := run_slice_string (P := Tryd.prog) W 9 s .i64 .i64 ((a : Int) + 1) (b : Int) Tryd.underlying9 (by omega) (by omega) (by omega)
      rw [h, show ((a : Int) + 1).toNat = a + 1 from by omega, show ((b : Int)).toNat = b from by omega]
    by_cases hbig : x < top
    · by_cases h32 : 4294967295 < x
      · have HC : Hid (hexT s a = bad 22) := Lib.hid (by unfold hexT; rw [← hb, ← hx, if_neg hemp, if_pos h32])
        have hd2 : decide ((4294967295 : Int) < (x : Int)) = true := decide_eq_true (by omega)
        have HBG := Lib.hid hbig
        clear hb hx hval hfit hbig h32 hxs ha1 hemp
        go_enter Tryd.func51, Tryd.ntmps51
        go_wp2_with fail
        rw [← HW0.out, HA1.out]
        refine (behindHex_any s (a + 1) (by omega) (by omega) _).mono ?_; rintro e w' ⟨rfl, rfl⟩
        rw [← HB.out]
        go_wp2_with fail
        refine (PU16_ok _ (by rw [ext_size s (a + 1) b b2]; omega) (by rw [ext_size s (a + 1) b b2]; omega) HF.out (by rw [HV.out]; exact HBG.out) _).mono ?_
        rintro e w2 ⟨rfl, hf2⟩
        rw [HV.out]
        have HT2 := Lib.hid (HT0.out.fr hf2)
        obtain ⟨t0, t1, t2, t3⟩ := HT2.out.cells
        have z0 := HT2.out.free 0
        have z1 := HT2.out.free 1
        have z2 := HT2.out.free 2
        have z3 := HT2.out.free 3
        clear c0 c1 c2
        go_wp2_with fail
        exact bodyPost_ret (v := .tuple #[.agg #[.int .i64 0, .string ⟨#[]⟩, .int .i64 0, .int .i64 0], .int .i64 0, .int .i64 22]) (by simp [results, Tryd.results51, go_sem, t0, t1, t2, t3]) rfl ⟨by rw [HC.out]; rfl, tok_fr (hf0.trans hf2) _ _ _ _⟩
      · have HC : Hid (hexT s a = ⟨2, nul, sg x, b, 0⟩) := Lib.hid (by unfold hexT; rw [← hb, ← hx, if_neg hemp, if_neg h32])
        have hd2 : decide ((4294967295 : Int) < (x : Int)) = false := decide_eq_false (by omega)
        have hw32 : IntKind.i32.wrap (x : Int) = sg x := by
          rw [IntKind.wrap_i32]; unfold sg; split <;> omega
        have hsg : -2147483648 ≤ sg x ∧ sg x ≤ 2147483647 := by unfold sg; split <;> omega
        obtain ⟨sg1, sg2⟩ := hsg
        have HBG := Lib.hid hbig
        clear hb hx hval hfit hbig h32 hxs ha1 hemp
        go_enter Tryd.func51, Tryd.ntmps51
        go_wp2_with fail
        rw [← HW0.out, HA1.out]
        refine (behindHex_any s (a + 1) (by omega) (by omega) _).mono ?_; rintro e w' ⟨rfl, rfl⟩
        rw [← HB.out]
        go_wp2_with fail
        refine (PU16_ok _ (by rw [ext_size s (a + 1) b b2]; omega) (by rw [ext_size s (a + 1) b b2]; omega) HF.out (by rw [HV.out]; exact HBG.out) _).mono ?_
        rintro e w2 ⟨rfl, hf2⟩
        rw [HV.out]
        have HT2 := Lib.hid (HT0.out.fr hf2)
        obtain ⟨t0, t1, t2, t3⟩ := HT2.out.cells
        have z0 := HT2.out.free 0
        have z1 := HT2.out.free 1
        have z2 := HT2.out.free 2
        have z3 := HT2.out.free 3
        clear c0 c1 c2
        go_wp2_with fail
        exact bodyPost_ret (v := .tuple #[.agg #[.int .i64 2, .string ⟨#[]⟩, .int .i64 (sg x), .int .i64 0], .int .i64 b, .int .i64 0]) (by simp [results, Tryd.results51, go_sem, t0, t1, t2, t3]) rfl ⟨by rw [HC.out]; rfl, tok_fr (hf0.trans hf2) _ _ _ _⟩
    · have HC : Hid (hexT s a = bad 22) := Lib.hid (by unfold hexT; rw [← hb, ← hx, if_neg hemp, if_pos (by unfold top at hbig; omega)])
      have HBG := Lib.hid hbig
      clear hb hx hval hfit hbig hxs ha1 hemp
      go_enter Tryd.func51, Tryd.ntmps51
      go_wp2_with fail
      rw [← HW0.out, HA1.out]
      refine (behindHex_any s (a + 1) (by omega) (by omega) _).mono ?_; rintro e w' ⟨rfl, rfl⟩
      rw [← HB.out]
      go_wp2_with fail
      refine (PU16_big _ (by rw [ext_size s (a + 1) b b2]; omega) (by rw [ext_size s (a + 1) b b2]; omega) HF.out (by rw [HV.out]; exact HBG.out) _ HE0.out).mono ?_
      rintro e w2 ⟨N, rfl, hf2⟩
      have HT2 := Lib.hid (HT0.out.fr hf2)
      obtain ⟨t0, t1, t2, t3⟩ := HT2.out.cells
      have z0 := HT2.out.free 0
      have z1 := HT2.out.free 1
      have z2 := HT2.out.free 2
      have z3 := HT2.out.free 3
      clear c0 c1 c2
      go_wp2_with fail
      exact bodyPost_ret (v := .tuple #[.agg #[.int .i64 0, .string ⟨#[]⟩, .int .i64 0, .int .i64 0], .int .i64 0, .int .i64 22]) (by simp [results, Tryd.results51, go_sem, t0, t1, t2, t3]) rfl ⟨by rw [HC.out]; rfl, tok_fr (hf0.trans hf2) _ _ _ _⟩
end Go.Proofs.YtnjmnmokgfpmhaaDoor
