/- The document's own scanner: words. -/
import Derived.Test.YtkkapgidddfdoaaDoorRL
namespace Go.Proofs.YtkkapgidddfdoaaDoor
open Go.RowKit
set_option linter.unusedVariables false

/-- What the document's own functions give of a token. -/
def rtok (T : Tk) (a : Nat) : Value := .tuple #[.agg #[.int .i64 T.k, .string T.t, .int .i64 T.n, .int .i64 (if T.er = 0 then a else 0 : Nat)], .int .i64 (if T.er = 0 then T.e else a : Nat), .int .i64 T.er]
theorem tok_fr5 {w w1 : World} (h : Fr w w1) (a b c d : Value) : Fr w ((((w1.setCell ⟨w.heap.size, 0, none⟩ a).setCell ⟨w.heap.size, 1, none⟩ b).setCell ⟨w.heap.size, 2, none⟩ c).setCell ⟨w.heap.size, 3, none⟩ d) :=
  (((h.setCell (Nat.le_refl _) a).setCell (Nat.le_refl _) b).setCell (Nat.le_refl _) c).setCell (Nat.le_refl _) d
theorem slice_ab (s : ByteArray) (a b : Nat) (h1 : a ≤ b) (h2 : b ≤ s.size) (hs : s.size ≤ 2000000) (W : World) :
    (Instr.slice 9 (.string s) (some (.int .i64 a)) (some (.int .i64 b)) none).run Tryd.prog W = .ok (.string (s.extract a b)) W := by
  have h := run_slice_string (P := Tryd.prog) W 9 s .i64 .i64 (a : Int) (b : Int) Tryd.underlying9 (by omega) (by omega) (by omega)
  rw [Int.toNat_natCast, Int.toNat_natCast] at h
  exact h
set_option maxRecDepth 100000 in
set_option maxHeartbeats 2000000 in
theorem Rword_any (s : ByteArray) (hs : s.size ≤ 1000000) (a : Nat) (ha : a < s.size) (w : World) :
    Calls Tryd.prog 56 #[.string s, .int .i64 a] w fun e w' => e = .returned (rtok (wordT s a) a) ∧ Fr w w' := by
  obtain ⟨w0, hw0⟩ : ∃ w0, w0 = w.alloc (.cells #[.int .i64 0, .string ⟨#[]⟩, .int .i64 0, .int .i64 0] 38) := ⟨_, rfl⟩
  have hf0 : Fr w w0 := by rw [hw0]; exact (Fr.refl w).alloc _
  have HT0 := Lib.hid (show Tb w0 w.heap.size (.int .i64 0) (.string ⟨#[]⟩) (.int .i64 0) (.int .i64 0) by rw [hw0]; exact Tb.new w (.int .i64 0) (.string ⟨#[]⟩) (.int .i64 0) (.int .i64 0))
  have HW0 := Lib.hid hw0
  have hbd := run_bd part s _ a rfl (by omega)
  obtain ⟨b, hb⟩ : ∃ b, b = run part s a := ⟨_, rfl⟩
  rw [← hb] at hbd
  obtain ⟨b1, b2⟩ := hbd
  have HB := Lib.hid hb
  have hxs := ext_size s a b b2
  have hsl := slice_ab s a b b1 b2 (by omega)
  have HW : Hid (wordT s a = if hasB 43 keyB (s.extract a b) = true then ⟨4, s.extract a b, 0, b, 0⟩ else if 24 < (s.extract a b).size then bad 2 else ⟨1, s.extract a b, 0, b, 0⟩) := Lib.hid (by unfold wordT; rw [← hb])
  clear hw0 hb
  go_enter Tryd.func56, Tryd.ntmps56
  go_wp2_with fail
  rw [← HW0.out]
  go_loop [7] (fun i => ∃ q : Nat, a ≤ q ∧ q ≤ s.size ∧ i = .int .i64 q ∧ Hid (run part s a = run part s q)) (fun i => s.size - (intOf i).toNat)
  case atStart => exact ⟨a, Nat.le_refl _, by omega, rfl, Lib.hid rfl⟩
  case round =>
    obtain ⟨q, haq, hq, rfl, HR⟩ := hrel
    have hbq : q < s.size → part (bt s q) = true → Hid (run part s a = run part s (q + 1)) := fun h1 h2 => Lib.hid (by rw [HR.out]; exact run_inside h1 h2)
    have hbx : (q < s.size → part (bt s q) = false) → q = b := fun h => by
      rw [HB.out, HR.out]
      by_cases h1 : q < s.size
      · exact (run_out (h h1)).symm
      · exact (run_end (by omega)).symm
    by_cases hgo : q < s.size ∧ part (bt s q) = true
    · obtain ⟨hlt, hp⟩ := hgo
      have hbt := bt_at s q hlt
      have HP := Lib.hid hp
      have HX := hbq hlt hp
      clear hp hbq hbx
      go_wp2_with (go_at_call 85; refine (isPart_any _ _).mono ?_; rintro e w' ⟨rfl, rfl⟩; rw [HP.out])
      go_round
      case rel => exact ⟨q + 1, by omega, by omega, by go_num, HX⟩
      case measure => simp [intOf]; omega
    · obtain rfl := hbx (fun h1 => by cases h : part (bt s q) with | false => rfl | true => exact absurd ⟨h1, h⟩ hgo)
      clear hbq hbx
      by_cases hlt : q < s.size
      · have hbt := bt_at s q hlt
        have HP : Hid (part (bt s q) = false) := Lib.hid (by cases h : part (bt s q) with | false => rfl | true => exact absurd ⟨hlt, h⟩ hgo)
        clear hgo
        cases hk : hasB 43 keyB (s.extract a q) with
        | true =>
          have h24 := has_le hk
          have HK := Lib.hid hk
          have HC : Hid (wordT s a = ⟨4, s.extract a q, 0, q, 0⟩) := Lib.hid (by rw [HW.out, if_pos hk])
          have d24 : decide ((24 : Int) < ((s.extract a q).size : Int)) = false := decide_eq_false (by omega)
          rw [hxs] at h24
          clear hk
          go_wp2_with (go_at_call 85; refine (isPart_any _ _).mono ?_; rintro e w' ⟨rfl, rfl⟩; rw [HP.out])
          refine (RKeys_any _).mono ?_
          rintro e w1 ⟨g, rfl, hr, hf1⟩
          have HRW := Lib.hid hr
          clear hr
          go_wp2_with fail
          refine (has_any _ _ 0 43 43 (by omega) _ keyB (fun i hi => by rw [Nat.zero_add]; exact HRW.out.cell hi)).mono ?_
          rintro e w2 ⟨rfl, rfl⟩
          rw [HK.out]
          have HT1 := Lib.hid (HT0.out.fr hf1)
          obtain ⟨t0, t1, t2, t3⟩ := HT1.out.cells
          have z0 := HT1.out.free 0
          have z1 := HT1.out.free 1
          have z2 := HT1.out.free 2
          have z3 := HT1.out.free 3
          have hfin := hf0.trans hf1
          go_wp2_with fail
          exact bodyPost_ret (v := .tuple #[.agg #[.int .i64 4, .string (s.extract a q), .int .i64 0, .int .i64 a], .int .i64 q, .int .i64 0]) (by simp [results, Tryd.results56, go_sem, t0, t1, t2, t3]) rfl ⟨by rw [HC.out]; rfl, tok_fr5 hfin _ _ _ _⟩
        | false =>
          have HK := Lib.hid hk
          by_cases h24 : 24 < q - a
          · have HC : Hid (wordT s a = bad 2) := Lib.hid (by rw [HW.out, if_neg (by rw [hk]; decide), if_pos (by omega)])
            have d24 : decide ((24 : Int) < ((s.extract a q).size : Int)) = true := decide_eq_true (by omega)
            clear hk
            obtain ⟨t0, t1, t2, t3⟩ := HT0.out.cells
            have z0 := HT0.out.free 0
            have z1 := HT0.out.free 1
            have z2 := HT0.out.free 2
            have z3 := HT0.out.free 3
            go_wp2_with (go_at_call 85; refine (isPart_any _ _).mono ?_; rintro e w' ⟨rfl, rfl⟩; rw [HP.out])
            exact bodyPost_ret (v := .tuple #[.agg #[.int .i64 0, .string ⟨#[]⟩, .int .i64 0, .int .i64 0], .int .i64 a, .int .i64 2]) (by simp [results, Tryd.results56, go_sem, t0, t1, t2, t3]) rfl ⟨by rw [HC.out]; rfl, tok_fr5 hf0 _ _ _ _⟩
          · have HC : Hid (wordT s a = ⟨1, s.extract a q, 0, q, 0⟩) := Lib.hid (by rw [HW.out, if_neg (by rw [hk]; decide), if_neg (by omega)])
            have d24 : decide ((24 : Int) < ((s.extract a q).size : Int)) = false := decide_eq_false (by omega)
            clear hk
            go_wp2_with (go_at_call 85; refine (isPart_any _ _).mono ?_; rintro e w' ⟨rfl, rfl⟩; rw [HP.out])
            refine (RKeys_any _).mono ?_
            rintro e w1 ⟨g, rfl, hr, hf1⟩
            have HRW := Lib.hid hr
            clear hr
            go_wp2_with fail
            refine (has_any _ _ 0 43 43 (by omega) _ keyB (fun i hi => by rw [Nat.zero_add]; exact HRW.out.cell hi)).mono ?_
            rintro e w2 ⟨rfl, rfl⟩
            rw [HK.out]
            have HT1 := Lib.hid (HT0.out.fr hf1)
            obtain ⟨t0, t1, t2, t3⟩ := HT1.out.cells
            have z0 := HT1.out.free 0
            have z1 := HT1.out.free 1
            have z2 := HT1.out.free 2
            have z3 := HT1.out.free 3
            have hfin := hf0.trans hf1
            go_wp2_with fail
            exact bodyPost_ret (v := .tuple #[.agg #[.int .i64 1, .string (s.extract a q), .int .i64 0, .int .i64 a], .int .i64 q, .int .i64 0]) (by simp [results, Tryd.results56, go_sem, t0, t1, t2, t3]) rfl ⟨by rw [HC.out]; rfl, tok_fr5 hfin _ _ _ _⟩
      · obtain rfl : q = s.size := by omega
        clear hgo
        cases hk : hasB 43 keyB (s.extract a s.size) with
        | true =>
          have h24 := has_le hk
          have HK := Lib.hid hk
          have HC : Hid (wordT s a = ⟨4, s.extract a s.size, 0, s.size, 0⟩) := Lib.hid (by rw [HW.out, if_pos hk])
          have d24 : decide ((24 : Int) < ((s.extract a s.size).size : Int)) = false := decide_eq_false (by omega)
          rw [hxs] at h24
          clear hk
          go_wp2_with fail
          refine (RKeys_any _).mono ?_
          rintro e w1 ⟨g, rfl, hr, hf1⟩
          have HRW := Lib.hid hr
          clear hr
          go_wp2_with fail
          refine (has_any _ _ 0 43 43 (by omega) _ keyB (fun i hi => by rw [Nat.zero_add]; exact HRW.out.cell hi)).mono ?_
          rintro e w2 ⟨rfl, rfl⟩
          rw [HK.out]
          have HT1 := Lib.hid (HT0.out.fr hf1)
          obtain ⟨t0, t1, t2, t3⟩ := HT1.out.cells
          have z0 := HT1.out.free 0
          have z1 := HT1.out.free 1
          have z2 := HT1.out.free 2
          have z3 := HT1.out.free 3
          have hfin := hf0.trans hf1
          go_wp2_with fail
          exact bodyPost_ret (v := .tuple #[.agg #[.int .i64 4, .string (s.extract a s.size), .int .i64 0, .int .i64 a], .int .i64 s.size, .int .i64 0]) (by simp [results, Tryd.results56, go_sem, t0, t1, t2, t3]) rfl ⟨by rw [HC.out]; rfl, tok_fr5 hfin _ _ _ _⟩
        | false =>
          have HK := Lib.hid hk
          by_cases h24 : 24 < s.size - a
          · have HC : Hid (wordT s a = bad 2) := Lib.hid (by rw [HW.out, if_neg (by rw [hk]; decide), if_pos (by omega)])
            have d24 : decide ((24 : Int) < ((s.extract a s.size).size : Int)) = true := decide_eq_true (by omega)
            clear hk
            obtain ⟨t0, t1, t2, t3⟩ := HT0.out.cells
            have z0 := HT0.out.free 0
            have z1 := HT0.out.free 1
            have z2 := HT0.out.free 2
            have z3 := HT0.out.free 3
            go_wp2_with fail
            exact bodyPost_ret (v := .tuple #[.agg #[.int .i64 0, .string ⟨#[]⟩, .int .i64 0, .int .i64 0], .int .i64 a, .int .i64 2]) (by simp [results, Tryd.results56, go_sem, t0, t1, t2, t3]) rfl ⟨by rw [HC.out]; rfl, tok_fr5 hf0 _ _ _ _⟩
          · have HC : Hid (wordT s a = ⟨1, s.extract a s.size, 0, s.size, 0⟩) := Lib.hid (by rw [HW.out, if_neg (by rw [hk]; decide), if_neg (by omega)])
            have d24 : decide ((24 : Int) < ((s.extract a s.size).size : Int)) = false := decide_eq_false (by omega)
            clear hk
            go_wp2_with fail
            refine (RKeys_any _).mono ?_
            rintro e w1 ⟨g, rfl, hr, hf1⟩
            have HRW := Lib.hid hr
            clear hr
            go_wp2_with fail
            refine (has_any _ _ 0 43 43 (by omega) _ keyB (fun i hi => by rw [Nat.zero_add]; exact HRW.out.cell hi)).mono ?_
            rintro e w2 ⟨rfl, rfl⟩
            rw [HK.out]
            have HT1 := Lib.hid (HT0.out.fr hf1)
            obtain ⟨t0, t1, t2, t3⟩ := HT1.out.cells
            have z0 := HT1.out.free 0
            have z1 := HT1.out.free 1
            have z2 := HT1.out.free 2
            have z3 := HT1.out.free 3
            have hfin := hf0.trans hf1
            go_wp2_with fail
            exact bodyPost_ret (v := .tuple #[.agg #[.int .i64 1, .string (s.extract a s.size), .int .i64 0, .int .i64 a], .int .i64 s.size, .int .i64 0]) (by simp [results, Tryd.results56, go_sem, t0, t1, t2, t3]) rfl ⟨by rw [HC.out]; rfl, tok_fr5 hfin _ _ _ _⟩
end Go.Proofs.YtkkapgidddfdoaaDoor
