/- The document's own scanner: signs. -/
import Derived.Test.YtkkapgidddfdoaaDoorRO
namespace Go.Proofs.YtkkapgidddfdoaaDoor
open Go.RowKit
set_option linter.unusedVariables false

def Sg (s : ByteArray) (a n : Nat) : Prop := a + n ≤ s.size ∧ hasB 28 sgnB (s.extract a (a + n)) = true
theorem slice_add (s : ByteArray) (a n : Nat) (h2 : a + n ≤ s.size) (hs : s.size ≤ 2000000) (W : World) :
    (Instr.slice 9 (.string s) (some (.int .i64 a)) (some (.int .i64 ((a : Int) + (n : Int)))) none).run Tryd.prog W = .ok (.string (s.extract a (a + n))) W := by
  have h := slice_ab s a (a + n) (by omega) h2 hs W
  rw [show ((a + n : Nat) : Int) = (a : Int) + (n : Int) by omega] at h
  exact h
theorem sgn_got {s : ByteArray} {a n : Nat} (hn : n = 2 ∨ n = 1) (h : Sg s a n) (hb : n < 2 → ¬ Sg s a 2) : sgnT s a = ⟨5, s.extract a (a + n), 0, a + n, 0⟩ := by
  unfold sgnT
  rcases hn with rfl | rfl
  · rw [if_pos (show a + 2 ≤ s.size ∧ _ from h)]
  · rw [if_neg (show ¬ (a + 2 ≤ s.size ∧ _) from hb (by decide)), if_pos (show a + 1 ≤ s.size ∧ _ from h)]
theorem sgn_none {s : ByteArray} {a : Nat} (h1 : ¬ Sg s a 2) (h2 : ¬ Sg s a 1) : sgnT s a = bad 20 := by
  unfold sgnT
  rw [if_neg (show ¬ (a + 2 ≤ s.size ∧ _) from h1), if_neg (show ¬ (a + 1 ≤ s.size ∧ _) from h2)]
set_option maxRecDepth 100000 in
set_option maxHeartbeats 4000000 in
theorem Rsign_any (s : ByteArray) (hs : s.size ≤ 1000000) (a : Nat) (ha : a < s.size) (w : World) :
    Calls Tryd.prog 62 #[.string s, .int .i64 a] w fun e w' => e = .returned (rtok (sgnT s a) a) ∧ Fr w w' := by
  obtain ⟨w0, hw0⟩ : ∃ w0, w0 = w.alloc (.cells #[.int .i64 0, .string ⟨#[]⟩, .int .i64 0, .int .i64 0] 38) := ⟨_, rfl⟩
  have hf0 : Fr w w0 := by rw [hw0]; exact (Fr.refl w).alloc _
  have HT0 := Lib.hid (show Tb w0 w.heap.size (.int .i64 0) (.string ⟨#[]⟩) (.int .i64 0) (.int .i64 0) by rw [hw0]; exact Tb.new w (.int .i64 0) (.string ⟨#[]⟩) (.int .i64 0) (.int .i64 0))
  have HW0 := Lib.hid hw0
  clear hw0
  go_enter Tryd.func62, Tryd.ntmps62
  go_wp2_with fail
  rw [← HW0.out]
  go_loopw [7] (fun i wr => (i = .int .i64 2 ∨ (i = .int .i64 1 ∧ Hid (¬ Sg s a 2)) ∨ (i = .int .i64 0 ∧ Hid (¬ Sg s a 2) ∧ Hid (¬ Sg s a 1))) ∧ Fr w0 wr) (fun i _ => (intOf i).toNat)
  case atStart => exact ⟨.inl rfl, Fr.refl _⟩
  case round =>
    obtain ⟨hcase, hfr⟩ := hrel
    have HTr := Lib.hid (HT0.out.fr hfr)
    rcases hcase with rfl | ⟨rfl, H2⟩ | ⟨rfl, H2, H1⟩
    · by_cases hroom : a + 2 ≤ s.size
      · have d1 : decide ((a : Int) + 2 ≤ (s.size : Int)) = true := decide_eq_true (by omega)
        have hsl : ∀ W : World, (Instr.slice 9 (.string s) (some (.int .i64 a)) (some (.int .i64 ((a : Int) + 2))) none).run Tryd.prog W = .ok (.string (s.extract a (a + 2))) W := slice_add s a 2 hroom (by omega)
        have hwr : IntKind.i64.wrap ((a : Int) + 2) = (a : Int) + 2 := IntWalk.i64_in _ (by omega)
        have d1n : decide (a + 2 ≤ s.size) = true := decide_eq_true hroom
        have hq0 : Fr wr wr.drew := (Fr.refl wr).drew
        cases hk : hasB 28 sgnB (s.extract a (a + 2)) with
        | true =>
          have HK := Lib.hid hk
          have HC := Lib.hid (sgn_got (s := s) (a := a) (n := 2) (by decide) ⟨hroom, hk⟩ (fun h => absurd h (by decide)))
          clear hk
          go_wp2_with fail
          go_region_held3 (fun W' => Fr wr W')
            (first | assumption | exact Fr.trans (by assumption) (by assumption))
            ((first
              | (go_at_call 78; refine (RSigns_any _).mono ?_; rintro e w1 ⟨g, rfl, hr, hf1⟩; have hq1 := Fr.trans (by assumption : Fr wr _) hf1; have HRW := Lib.hid hr; clear hr)
              | (go_at_call 76; refine (has_any _ _ 0 28 28 (by omega) _ sgnB (fun i hi => by rw [Nat.zero_add]; exact HRW.out.cell hi)).mono ?_; rintro e w2 ⟨rfl, rfl⟩; rw [HK.out])))
          have HT1 := Lib.hid (HTr.out.fr hq1)
          have hfin := (hf0.trans hfr).trans hq1
          obtain ⟨t0, t1, t2, t3⟩ := HT1.out.cells
          have z0 := HT1.out.free 0
          have z1 := HT1.out.free 1
          have z2 := HT1.out.free 2
          have z3 := HT1.out.free 3
          go_wp2_with fail
          exact bodyPost_ret (v := .tuple #[.agg #[.int .i64 5, .string (s.extract a (a + 2)), .int .i64 0, .int .i64 a], .int .i64 ((a : Int) + 2), .int .i64 0]) (by simp [results, Tryd.results62, go_sem, t0, t1, t2, t3]) rfl ⟨by rw [HC.out]; rfl, tok_fr5 hfin _ _ _ _⟩
        | false =>
          have HK := Lib.hid hk
          have HN : Hid (¬ Sg s a 2) := Lib.hid (fun h => by have h2 := h.2; rw [hk] at h2; cases h2)
          clear hk
          go_wp2_with fail
          go_region_held3 (fun W' => Fr wr W')
            (first | assumption | exact Fr.trans (by assumption) (by assumption))
            ((first
              | (go_at_call 78; refine (RSigns_any _).mono ?_; rintro e w1 ⟨g, rfl, hr, hf1⟩; have hq1 := Fr.trans (by assumption : Fr wr _) hf1; have HRW := Lib.hid hr; clear hr)
              | (go_at_call 76; refine (has_any _ _ 0 28 28 (by omega) _ sgnB (fun i hi => by rw [Nat.zero_add]; exact HRW.out.cell hi)).mono ?_; rintro e w2 ⟨rfl, rfl⟩; rw [HK.out])))
          have HT1 := Lib.hid (HTr.out.fr hq1)
          have hfin := (hf0.trans hfr).trans hq1
          go_wp2_with fail
          go_roundw
          case rel => exact ⟨.inr (.inl ⟨rfl, HN⟩), hfr.trans hq1⟩
          case measure => simp [intOf]
      · have d1 : decide ((a : Int) + 2 ≤ (s.size : Int)) = false := decide_eq_false (by omega)
        have hwr : IntKind.i64.wrap ((a : Int) + 2) = (a : Int) + 2 := IntWalk.i64_in _ (by omega)
        have d1n : decide (a + 2 ≤ s.size) = false := decide_eq_false hroom
        have HN : Hid (¬ Sg s a 2) := Lib.hid (fun h => hroom h.1)
        go_wp2_with fail
        go_quiet (fail)
        go_wp2_with fail
        go_roundw
        case rel => exact ⟨.inr (.inl ⟨rfl, HN⟩), hfr.drewN _⟩
        case measure => simp [intOf]
    · have hroom : a + 1 ≤ s.size := by omega
      have d1 : decide ((a : Int) + 1 ≤ (s.size : Int)) = true := decide_eq_true (by omega)
      have hsl : ∀ W : World, (Instr.slice 9 (.string s) (some (.int .i64 a)) (some (.int .i64 ((a : Int) + 1))) none).run Tryd.prog W = .ok (.string (s.extract a (a + 1))) W := slice_add s a 1 hroom (by omega)
      have hwr : IntKind.i64.wrap ((a : Int) + 1) = (a : Int) + 1 := IntWalk.i64_in _ (by omega)
      have d1n : decide (a + 1 ≤ s.size) = true := decide_eq_true hroom
      have hq0 : Fr wr wr.drew := (Fr.refl wr).drew
      cases hk : hasB 28 sgnB (s.extract a (a + 1)) with
      | true =>
        have HK := Lib.hid hk
        have HC := Lib.hid (sgn_got (s := s) (a := a) (n := 1) (by decide) ⟨hroom, hk⟩ (fun _ => H2.out))
        clear hk
        go_wp2_with fail
        go_region_held3 (fun W' => Fr wr W')
          (first | assumption | exact Fr.trans (by assumption) (by assumption))
          ((first
            | (go_at_call 78; refine (RSigns_any _).mono ?_; rintro e w1 ⟨g, rfl, hr, hf1⟩; have hq1 := Fr.trans (by assumption : Fr wr _) hf1; have HRW := Lib.hid hr; clear hr)
            | (go_at_call 76; refine (has_any _ _ 0 28 28 (by omega) _ sgnB (fun i hi => by rw [Nat.zero_add]; exact HRW.out.cell hi)).mono ?_; rintro e w2 ⟨rfl, rfl⟩; rw [HK.out])))
        have HT1 := Lib.hid (HTr.out.fr hq1)
        have hfin := (hf0.trans hfr).trans hq1
        obtain ⟨t0, t1, t2, t3⟩ := HT1.out.cells
        have z0 := HT1.out.free 0
        have z1 := HT1.out.free 1
        have z2 := HT1.out.free 2
        have z3 := HT1.out.free 3
        go_wp2_with fail
        exact bodyPost_ret (v := .tuple #[.agg #[.int .i64 5, .string (s.extract a (a + 1)), .int .i64 0, .int .i64 a], .int .i64 ((a : Int) + 1), .int .i64 0]) (by simp [results, Tryd.results62, go_sem, t0, t1, t2, t3]) rfl ⟨by rw [HC.out]; rfl, tok_fr5 hfin _ _ _ _⟩
      | false =>
        have HK := Lib.hid hk
        have HN : Hid (¬ Sg s a 1) := Lib.hid (fun h => by have h2 := h.2; rw [hk] at h2; cases h2)
        clear hk
        go_wp2_with fail
        go_region_held3 (fun W' => Fr wr W')
          (first | assumption | exact Fr.trans (by assumption) (by assumption))
          ((first
            | (go_at_call 78; refine (RSigns_any _).mono ?_; rintro e w1 ⟨g, rfl, hr, hf1⟩; have hq1 := Fr.trans (by assumption : Fr wr _) hf1; have HRW := Lib.hid hr; clear hr)
            | (go_at_call 76; refine (has_any _ _ 0 28 28 (by omega) _ sgnB (fun i hi => by rw [Nat.zero_add]; exact HRW.out.cell hi)).mono ?_; rintro e w2 ⟨rfl, rfl⟩; rw [HK.out])))
        have HT1 := Lib.hid (HTr.out.fr hq1)
        have hfin := (hf0.trans hfr).trans hq1
        go_wp2_with fail
        go_roundw
        case rel => exact ⟨.inr (.inr ⟨rfl, H2, HN⟩), hfr.trans hq1⟩
        case measure => simp [intOf]
    · have HC := Lib.hid (sgn_none H2.out H1.out)
      have hfin := hf0.trans hfr
      obtain ⟨t0, t1, t2, t3⟩ := HTr.out.cells
      have z0 := HTr.out.free 0
      have z1 := HTr.out.free 1
      have z2 := HTr.out.free 2
      have z3 := HTr.out.free 3
      go_wp2_with fail
      exact bodyPost_ret (v := .tuple #[.agg #[.int .i64 0, .string ⟨#[]⟩, .int .i64 0, .int .i64 0], .int .i64 a, .int .i64 20]) (by simp [results, Tryd.results62, go_sem, t0, t1, t2, t3]) rfl ⟨by rw [HC.out]; rfl, tok_fr5 hfin _ _ _ _⟩
end Go.Proofs.YtkkapgidddfdoaaDoor
