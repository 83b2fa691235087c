/- Contracts of the document's own answers: applying any operator. -/
import Derived.Test.YtgnhighlkpgjiaaS
namespace Go.Proofs.Ytgnhighlkpgjiaa
open Go.RowKit
set_option linter.unusedVariables false
theorem RApply_1 {n : Int} (hb : OkB n) (a b : Int) (w : World) : Calls Try.prog 21 #[.int .i64 1, .int .i64 a, .int .i64 b, .int .i64 n] w fun e w' => e = .returned (.tuple #[.int .i64 (nrm (opv 1 (nrm a n) (nrm b n) n) n), .int .i64 0]) ∧ Fr w w' := by
  have H := Lib.hid hb
  have h : okB n = true := by simpa [okB] using hb
  obtain ⟨a1, a2⟩ := nrm_bd (v := a) hb
  obtain ⟨b1, b2⟩ := nrm_bd (v := b) hb
  clear hb
  go_enter Try.func21, Try.ntmps21
  go_wp2_with first
    | (go_at_call 18; refine (Bits_any _ _).mono ?_; rintro e w' ⟨rfl, rfl⟩)
    | (go_at_call 46; refine (norm_any H.out _ _).mono ?_; rintro e w' ⟨rfl, rfl⟩)
    | (go_at_call 51; refine (whole_1 _ _ n a1 a2 b1 b2 _).mono ?_; rintro e w' ⟨rfl, rfl⟩)
  go_ret2
  exact ⟨rfl, Fr.refl _⟩
theorem RApply_2 {n : Int} (hb : OkB n) (a b : Int) (hz : nrm b n ≠ 0) (w : World) : Calls Try.prog 21 #[.int .i64 2, .int .i64 a, .int .i64 b, .int .i64 n] w fun e w' => e = .returned (.tuple #[.int .i64 (nrm (opv 2 (nrm a n) (nrm b n) n) n), .int .i64 0]) ∧ Fr w w' := by
  have H := Lib.hid hb
  have h : okB n = true := by simpa [okB] using hb
  obtain ⟨a1, a2⟩ := nrm_bd (v := a) hb
  obtain ⟨b1, b2⟩ := nrm_bd (v := b) hb
  have hz0 := beq_no hz
  clear hb
  go_enter Try.func21, Try.ntmps21
  go_wp2_with first
    | (go_at_call 18; refine (Bits_any _ _).mono ?_; rintro e w' ⟨rfl, rfl⟩)
    | (go_at_call 46; refine (norm_any H.out _ _).mono ?_; rintro e w' ⟨rfl, rfl⟩)
    | (go_at_call 51; refine (whole_2 _ _ n a1 a2 b1 b2 hz _).mono ?_; rintro e w' ⟨rfl, rfl⟩)
  go_ret2
  exact ⟨rfl, Fr.refl _⟩
theorem RApply_3 {n : Int} (hb : OkB n) (a b : Int) (hz : nrm b n ≠ 0) (w : World) : Calls Try.prog 21 #[.int .i64 3, .int .i64 a, .int .i64 b, .int .i64 n] w fun e w' => e = .returned (.tuple #[.int .i64 (nrm (opv 3 (nrm a n) (nrm b n) n) n), .int .i64 0]) ∧ Fr w w' := by
  have H := Lib.hid hb
  have h : okB n = true := by simpa [okB] using hb
  obtain ⟨a1, a2⟩ := nrm_bd (v := a) hb
  obtain ⟨b1, b2⟩ := nrm_bd (v := b) hb
  have hz0 := beq_no hz
  clear hb
  go_enter Try.func21, Try.ntmps21
  go_wp2_with first
    | (go_at_call 18; refine (Bits_any _ _).mono ?_; rintro e w' ⟨rfl, rfl⟩)
    | (go_at_call 46; refine (norm_any H.out _ _).mono ?_; rintro e w' ⟨rfl, rfl⟩)
    | (go_at_call 51; refine (whole_3 _ _ n a1 a2 b1 b2 hz _).mono ?_; rintro e w' ⟨rfl, rfl⟩)
  go_ret2
  exact ⟨rfl, Fr.refl _⟩
theorem RApply_4 {n : Int} (hb : OkB n) (a b : Int) (w : World) : Calls Try.prog 21 #[.int .i64 4, .int .i64 a, .int .i64 b, .int .i64 n] w fun e w' => e = .returned (.tuple #[.int .i64 (nrm (opv 4 (nrm a n) (nrm b n) n) n), .int .i64 0]) ∧ Fr w w' := by
  have H := Lib.hid hb
  have h : okB n = true := by simpa [okB] using hb
  obtain ⟨a1, a2⟩ := nrm_bd (v := a) hb
  obtain ⟨b1, b2⟩ := nrm_bd (v := b) hb
  clear hb
  go_enter Try.func21, Try.ntmps21
  go_wp2_with first
    | (go_at_call 18; refine (Bits_any _ _).mono ?_; rintro e w' ⟨rfl, rfl⟩)
    | (go_at_call 46; refine (norm_any H.out _ _).mono ?_; rintro e w' ⟨rfl, rfl⟩)
    | (go_at_call 51; refine (whole_4 _ _ n a1 a2 b1 b2 _).mono ?_; rintro e w' ⟨rfl, rfl⟩)
  go_ret2
  exact ⟨rfl, Fr.refl _⟩
theorem RApply_5 {n : Int} (hb : OkB n) (a b : Int) (w : World) : Calls Try.prog 21 #[.int .i64 5, .int .i64 a, .int .i64 b, .int .i64 n] w fun e w' => e = .returned (.tuple #[.int .i64 (nrm (opv 5 (nrm a n) (nrm b n) n) n), .int .i64 0]) ∧ Fr w w' := by
  have H := Lib.hid hb
  have h : okB n = true := by simpa [okB] using hb
  obtain ⟨a1, a2⟩ := nrm_bd (v := a) hb
  obtain ⟨b1, b2⟩ := nrm_bd (v := b) hb
  clear hb
  go_enter Try.func21, Try.ntmps21
  go_wp2_with first
    | (go_at_call 18; refine (Bits_any _ _).mono ?_; rintro e w' ⟨rfl, rfl⟩)
    | (go_at_call 46; refine (norm_any H.out _ _).mono ?_; rintro e w' ⟨rfl, rfl⟩)
    | (go_at_call 51; refine (whole_5 _ _ n a1 a2 b1 b2 _).mono ?_; rintro e w' ⟨rfl, rfl⟩)
  go_ret2
  exact ⟨rfl, Fr.refl _⟩
theorem RApply_6 {n : Int} (hb : OkB n) (a b : Int) (w : World) : Calls Try.prog 21 #[.int .i64 6, .int .i64 a, .int .i64 b, .int .i64 n] w fun e w' => e = .returned (.tuple #[.int .i64 (nrm (opv 6 (nrm a n) (nrm b n) n) n), .int .i64 0]) ∧ Fr w w' := by
  have H := Lib.hid hb
  have h : okB n = true := by simpa [okB] using hb
  obtain ⟨a1, a2⟩ := nrm_bd (v := a) hb
  obtain ⟨b1, b2⟩ := nrm_bd (v := b) hb
  clear hb
  go_enter Try.func21, Try.ntmps21
  go_wp2_with first
    | (go_at_call 18; refine (Bits_any _ _).mono ?_; rintro e w' ⟨rfl, rfl⟩)
    | (go_at_call 46; refine (norm_any H.out _ _).mono ?_; rintro e w' ⟨rfl, rfl⟩)
    | (go_at_call 51; refine (whole_6 _ _ _).mono ?_; rintro e w' ⟨rfl, rfl⟩)
    | (go_at_call 52; refine (shifted_6 H.out _ _ _).mono ?_; rintro e w' ⟨rfl, rfl⟩)
  go_ret2
  exact ⟨rfl, Fr.refl _⟩
theorem RApply_7 {n : Int} (hb : OkB n) (a b : Int) (w : World) : Calls Try.prog 21 #[.int .i64 7, .int .i64 a, .int .i64 b, .int .i64 n] w fun e w' => e = .returned (.tuple #[.int .i64 (nrm (opv 7 (nrm a n) (nrm b n) n) n), .int .i64 0]) ∧ Fr w w' := by
  have H := Lib.hid hb
  have h : okB n = true := by simpa [okB] using hb
  obtain ⟨a1, a2⟩ := nrm_bd (v := a) hb
  obtain ⟨b1, b2⟩ := nrm_bd (v := b) hb
  clear hb
  go_enter Try.func21, Try.ntmps21
  go_wp2_with first
    | (go_at_call 18; refine (Bits_any _ _).mono ?_; rintro e w' ⟨rfl, rfl⟩)
    | (go_at_call 46; refine (norm_any H.out _ _).mono ?_; rintro e w' ⟨rfl, rfl⟩)
    | (go_at_call 51; refine (whole_7 _ _ _).mono ?_; rintro e w' ⟨rfl, rfl⟩)
    | (go_at_call 52; refine (shifted_7 H.out _ _ _).mono ?_; rintro e w' ⟨rfl, rfl⟩)
  go_ret2
  exact ⟨rfl, Fr.refl _⟩
theorem RApply_8 {n : Int} (hb : OkB n) (a b : Int) (w : World) : Calls Try.prog 21 #[.int .i64 8, .int .i64 a, .int .i64 b, .int .i64 n] w fun e w' => e = .returned (.tuple #[.int .i64 (nrm (opv 8 (nrm a n) (nrm b n) n) n), .int .i64 0]) ∧ Fr w w' := by
  have H := Lib.hid hb
  have h : okB n = true := by simpa [okB] using hb
  obtain ⟨a1, a2⟩ := nrm_bd (v := a) hb
  obtain ⟨b1, b2⟩ := nrm_bd (v := b) hb
  clear hb
  go_enter Try.func21, Try.ntmps21
  go_wp2_with first
    | (go_at_call 18; refine (Bits_any _ _).mono ?_; rintro e w' ⟨rfl, rfl⟩)
    | (go_at_call 46; refine (norm_any H.out _ _).mono ?_; rintro e w' ⟨rfl, rfl⟩)
    | (go_at_call 51; refine (whole_8 _ _ _).mono ?_; rintro e w' ⟨rfl, rfl⟩)
    | (go_at_call 53; refine (bitwise_8 H.out _ _ _).mono ?_; rintro e w' ⟨rfl, hf⟩)
  go_ret2
  exact ⟨rfl, by assumption⟩
theorem RApply_9 {n : Int} (hb : OkB n) (a b : Int) (w : World) : Calls Try.prog 21 #[.int .i64 9, .int .i64 a, .int .i64 b, .int .i64 n] w fun e w' => e = .returned (.tuple #[.int .i64 (nrm (opv 9 (nrm a n) (nrm b n) n) n), .int .i64 0]) ∧ Fr w w' := by
  have H := Lib.hid hb
  have h : okB n = true := by simpa [okB] using hb
  obtain ⟨a1, a2⟩ := nrm_bd (v := a) hb
  obtain ⟨b1, b2⟩ := nrm_bd (v := b) hb
  clear hb
  go_enter Try.func21, Try.ntmps21
  go_wp2_with first
    | (go_at_call 18; refine (Bits_any _ _).mono ?_; rintro e w' ⟨rfl, rfl⟩)
    | (go_at_call 46; refine (norm_any H.out _ _).mono ?_; rintro e w' ⟨rfl, rfl⟩)
    | (go_at_call 51; refine (whole_9 _ _ _).mono ?_; rintro e w' ⟨rfl, rfl⟩)
    | (go_at_call 53; refine (bitwise_9 H.out _ _ _).mono ?_; rintro e w' ⟨rfl, hf⟩)
  go_ret2
  exact ⟨rfl, by assumption⟩
theorem RApply_10 {n : Int} (hb : OkB n) (a b : Int) (w : World) : Calls Try.prog 21 #[.int .i64 10, .int .i64 a, .int .i64 b, .int .i64 n] w fun e w' => e = .returned (.tuple #[.int .i64 (nrm (opv 10 (nrm a n) (nrm b n) n) n), .int .i64 0]) ∧ Fr w w' := by
  have H := Lib.hid hb
  have h : okB n = true := by simpa [okB] using hb
  obtain ⟨a1, a2⟩ := nrm_bd (v := a) hb
  obtain ⟨b1, b2⟩ := nrm_bd (v := b) hb
  clear hb
  go_enter Try.func21, Try.ntmps21
  go_wp2_with first
    | (go_at_call 18; refine (Bits_any _ _).mono ?_; rintro e w' ⟨rfl, rfl⟩)
    | (go_at_call 46; refine (norm_any H.out _ _).mono ?_; rintro e w' ⟨rfl, rfl⟩)
    | (go_at_call 51; refine (whole_10 _ _ _).mono ?_; rintro e w' ⟨rfl, rfl⟩)
    | (go_at_call 53; refine (bitwise_10 H.out _ _ _).mono ?_; rintro e w' ⟨rfl, hf⟩)
  go_ret2
  exact ⟨rfl, by assumption⟩
theorem RApply_11 {n : Int} (hb : OkB n) (a b : Int) (w : World) : Calls Try.prog 21 #[.int .i64 11, .int .i64 a, .int .i64 b, .int .i64 n] w fun e w' => e = .returned (.tuple #[.int .i64 (nrm (opv 11 (nrm a n) (nrm b n) n) n), .int .i64 0]) ∧ Fr w w' := by
  have H := Lib.hid hb
  have h : okB n = true := by simpa [okB] using hb
  obtain ⟨a1, a2⟩ := nrm_bd (v := a) hb
  obtain ⟨b1, b2⟩ := nrm_bd (v := b) hb
  clear hb
  go_enter Try.func21, Try.ntmps21
  go_wp2_with first
    | (go_at_call 18; refine (Bits_any _ _).mono ?_; rintro e w' ⟨rfl, rfl⟩)
    | (go_at_call 46; refine (norm_any H.out _ _).mono ?_; rintro e w' ⟨rfl, rfl⟩)
    | (go_at_call 51; refine (whole_11 _ _ _).mono ?_; rintro e w' ⟨rfl, rfl⟩)
    | (go_at_call 53; refine (bitwise_11 H.out _ _ _).mono ?_; rintro e w' ⟨rfl, hf⟩)
  go_ret2
  exact ⟨rfl, by assumption⟩
theorem RApply_12 {n : Int} (hb : OkB n) (a b : Int) (w : World) : Calls Try.prog 21 #[.int .i64 12, .int .i64 a, .int .i64 b, .int .i64 n] w fun e w' => e = .returned (.tuple #[.int .i64 (nrm (opv 12 (nrm a n) (nrm b n) n) n), .int .i64 0]) ∧ Fr w w' := by
  have H := Lib.hid hb
  have h : okB n = true := by simpa [okB] using hb
  obtain ⟨a1, a2⟩ := nrm_bd (v := a) hb
  obtain ⟨b1, b2⟩ := nrm_bd (v := b) hb
  clear hb
  go_enter Try.func21, Try.ntmps21
  go_wp2_with first
    | (go_at_call 18; refine (Bits_any _ _).mono ?_; rintro e w' ⟨rfl, rfl⟩)
    | (go_at_call 46; refine (norm_any H.out _ _).mono ?_; rintro e w' ⟨rfl, rfl⟩)
    | (go_at_call 51; refine (whole_12 _ _ n a1 a2 b1 b2 _).mono ?_; rintro e w' ⟨rfl, rfl⟩)
  go_ret2
  exact ⟨rfl, Fr.refl _⟩
theorem RApply_13 {n : Int} (hb : OkB n) (a b : Int) (w : World) : Calls Try.prog 21 #[.int .i64 13, .int .i64 a, .int .i64 b, .int .i64 n] w fun e w' => e = .returned (.tuple #[.int .i64 (nrm (opv 13 (nrm a n) (nrm b n) n) n), .int .i64 0]) ∧ Fr w w' := by
  have H := Lib.hid hb
  have h : okB n = true := by simpa [okB] using hb
  obtain ⟨a1, a2⟩ := nrm_bd (v := a) hb
  obtain ⟨b1, b2⟩ := nrm_bd (v := b) hb
  clear hb
  go_enter Try.func21, Try.ntmps21
  go_wp2_with first
    | (go_at_call 18; refine (Bits_any _ _).mono ?_; rintro e w' ⟨rfl, rfl⟩)
    | (go_at_call 46; refine (norm_any H.out _ _).mono ?_; rintro e w' ⟨rfl, rfl⟩)
    | (go_at_call 51; refine (whole_13 _ _ n a1 a2 b1 b2 _).mono ?_; rintro e w' ⟨rfl, rfl⟩)
  go_ret2
  exact ⟨rfl, Fr.refl _⟩
theorem RApply_14 {n : Int} (hb : OkB n) (a b : Int) (w : World) : Calls Try.prog 21 #[.int .i64 14, .int .i64 a, .int .i64 b, .int .i64 n] w fun e w' => e = .returned (.tuple #[.int .i64 (nrm (opv 14 (nrm a n) (nrm b n) n) n), .int .i64 0]) ∧ Fr w w' := by
  have H := Lib.hid hb
  have h : okB n = true := by simpa [okB] using hb
  obtain ⟨a1, a2⟩ := nrm_bd (v := a) hb
  obtain ⟨b1, b2⟩ := nrm_bd (v := b) hb
  clear hb
  go_enter Try.func21, Try.ntmps21
  go_wp2_with first
    | (go_at_call 18; refine (Bits_any _ _).mono ?_; rintro e w' ⟨rfl, rfl⟩)
    | (go_at_call 46; refine (norm_any H.out _ _).mono ?_; rintro e w' ⟨rfl, rfl⟩)
    | (go_at_call 51; refine (whole_14 _ _ n a1 a2 b1 b2 _).mono ?_; rintro e w' ⟨rfl, rfl⟩)
  go_ret2
  exact ⟨rfl, Fr.refl _⟩
theorem RApply_15 {n : Int} (hb : OkB n) (a b : Int) (w : World) : Calls Try.prog 21 #[.int .i64 15, .int .i64 a, .int .i64 b, .int .i64 n] w fun e w' => e = .returned (.tuple #[.int .i64 (nrm (opv 15 (nrm a n) (nrm b n) n) n), .int .i64 0]) ∧ Fr w w' := by
  have H := Lib.hid hb
  have h : okB n = true := by simpa [okB] using hb
  obtain ⟨a1, a2⟩ := nrm_bd (v := a) hb
  obtain ⟨b1, b2⟩ := nrm_bd (v := b) hb
  clear hb
  go_enter Try.func21, Try.ntmps21
  go_wp2_with first
    | (go_at_call 18; refine (Bits_any _ _).mono ?_; rintro e w' ⟨rfl, rfl⟩)
    | (go_at_call 46; refine (norm_any H.out _ _).mono ?_; rintro e w' ⟨rfl, rfl⟩)
    | (go_at_call 51; refine (whole_15 _ _ n a1 a2 b1 b2 _).mono ?_; rintro e w' ⟨rfl, rfl⟩)
  go_ret2
  exact ⟨rfl, Fr.refl _⟩
theorem RApply_16 {n : Int} (hb : OkB n) (a b : Int) (w : World) : Calls Try.prog 21 #[.int .i64 16, .int .i64 a, .int .i64 b, .int .i64 n] w fun e w' => e = .returned (.tuple #[.int .i64 (nrm (opv 16 (nrm a n) (nrm b n) n) n), .int .i64 0]) ∧ Fr w w' := by
  have H := Lib.hid hb
  have h : okB n = true := by simpa [okB] using hb
  obtain ⟨a1, a2⟩ := nrm_bd (v := a) hb
  obtain ⟨b1, b2⟩ := nrm_bd (v := b) hb
  clear hb
  go_enter Try.func21, Try.ntmps21
  go_wp2_with first
    | (go_at_call 18; refine (Bits_any _ _).mono ?_; rintro e w' ⟨rfl, rfl⟩)
    | (go_at_call 46; refine (norm_any H.out _ _).mono ?_; rintro e w' ⟨rfl, rfl⟩)
    | (go_at_call 51; refine (whole_16 _ _ n a1 a2 b1 b2 _).mono ?_; rintro e w' ⟨rfl, rfl⟩)
  go_ret2
  exact ⟨rfl, Fr.refl _⟩
theorem RApply_17 {n : Int} (hb : OkB n) (a b : Int) (w : World) : Calls Try.prog 21 #[.int .i64 17, .int .i64 a, .int .i64 b, .int .i64 n] w fun e w' => e = .returned (.tuple #[.int .i64 (nrm (opv 17 (nrm a n) (nrm b n) n) n), .int .i64 0]) ∧ Fr w w' := by
  have H := Lib.hid hb
  have h : okB n = true := by simpa [okB] using hb
  obtain ⟨a1, a2⟩ := nrm_bd (v := a) hb
  obtain ⟨b1, b2⟩ := nrm_bd (v := b) hb
  clear hb
  go_enter Try.func21, Try.ntmps21
  go_wp2_with first
    | (go_at_call 18; refine (Bits_any _ _).mono ?_; rintro e w' ⟨rfl, rfl⟩)
    | (go_at_call 46; refine (norm_any H.out _ _).mono ?_; rintro e w' ⟨rfl, rfl⟩)
    | (go_at_call 51; refine (whole_17 _ _ n a1 a2 b1 b2 _).mono ?_; rintro e w' ⟨rfl, rfl⟩)
  go_ret2
  exact ⟨rfl, Fr.refl _⟩
theorem RApply_18 {n : Int} (hb : OkB n) (a b : Int) (w : World) : Calls Try.prog 21 #[.int .i64 18, .int .i64 a, .int .i64 b, .int .i64 n] w fun e w' => e = .returned (.tuple #[.int .i64 (nrm (opv 18 (nrm a n) (nrm b n) n) n), .int .i64 0]) ∧ Fr w w' := by
  have H := Lib.hid hb
  have h : okB n = true := by simpa [okB] using hb
  obtain ⟨a1, a2⟩ := nrm_bd (v := a) hb
  obtain ⟨b1, b2⟩ := nrm_bd (v := b) hb
  clear hb
  go_enter Try.func21, Try.ntmps21
  go_wp2_with first
    | (go_at_call 18; refine (Bits_any _ _).mono ?_; rintro e w' ⟨rfl, rfl⟩)
    | (go_at_call 46; refine (norm_any H.out _ _).mono ?_; rintro e w' ⟨rfl, rfl⟩)
    | (go_at_call 51; refine (whole_18 _ _ n a1 a2 b1 b2 _).mono ?_; rintro e w' ⟨rfl, rfl⟩)
  go_ret2
  exact ⟨rfl, Fr.refl _⟩
theorem RApply_19 {n : Int} (hb : OkB n) (a b : Int) (w : World) : Calls Try.prog 21 #[.int .i64 19, .int .i64 a, .int .i64 b, .int .i64 n] w fun e w' => e = .returned (.tuple #[.int .i64 (nrm (opv 19 (nrm a n) (nrm b n) n) n), .int .i64 0]) ∧ Fr w w' := by
  have H := Lib.hid hb
  have h : okB n = true := by simpa [okB] using hb
  obtain ⟨a1, a2⟩ := nrm_bd (v := a) hb
  obtain ⟨b1, b2⟩ := nrm_bd (v := b) hb
  clear hb
  go_enter Try.func21, Try.ntmps21
  go_wp2_with first
    | (go_at_call 18; refine (Bits_any _ _).mono ?_; rintro e w' ⟨rfl, rfl⟩)
    | (go_at_call 46; refine (norm_any H.out _ _).mono ?_; rintro e w' ⟨rfl, rfl⟩)
    | (go_at_call 51; refine (whole_19 _ _ n a1 a2 b1 b2 _).mono ?_; rintro e w' ⟨rfl, rfl⟩)
  go_ret2
  exact ⟨rfl, Fr.refl _⟩

theorem RApply_no (op a b n : Int) (h : okB n = false) (w : World) : Calls Try.prog 21 #[.int .i64 op, .int .i64 a, .int .i64 b, .int .i64 n] w fun e w' => e = .returned (.tuple #[.int .i64 0, .int .i64 3]) ∧ Fr w w' := by
  go_enter Try.func21, Try.ntmps21
  go_wp2_with (go_at_call 18; refine (Bits_any _ _).mono ?_; rintro e w' ⟨rfl, rfl⟩)
  go_ret2
  exact ⟨rfl, Fr.refl _⟩
theorem RApply_out (op a b n : Int) (h : okB n = true) (ho : op < 1 ∨ 19 < op) (w : World) : Calls Try.prog 21 #[.int .i64 op, .int .i64 a, .int .i64 b, .int .i64 n] w fun e w' => e = .returned (.tuple #[.int .i64 0, .int .i64 1]) ∧ Fr w w' := by
  rcases ho with ho | ho
  · go_enter Try.func21, Try.ntmps21
    go_wp2_with (go_at_call 18; refine (Bits_any _ _).mono ?_; rintro e w' ⟨rfl, rfl⟩)
    go_ret2
    exact ⟨rfl, Fr.refl _⟩
  · have h1 : ¬ op < 1 := by omega
    go_enter Try.func21, Try.ntmps21
    go_wp2_with (go_at_call 18; refine (Bits_any _ _).mono ?_; rintro e w' ⟨rfl, rfl⟩)
    go_ret2
    exact ⟨rfl, Fr.refl _⟩
theorem RApply_zero (op a b n : Int) (h : okB n = true) (ho : op = 2 ∨ op = 3) (hz : nrm b n = 0) (w : World) : Calls Try.prog 21 #[.int .i64 op, .int .i64 a, .int .i64 b, .int .i64 n] w fun e w' => e = .returned (.tuple #[.int .i64 0, .int .i64 10]) ∧ Fr w w' := by
  have H := Lib.hid (okB_yes h)
  have HZ := (beq_iff_eq (a := nrm b n) (b := 0)).2 hz
  clear hz
  rcases ho with rfl | rfl
  all_goals
    go_enter Try.func21, Try.ntmps21
    go_wp2_with first
     | (go_at_call 18; refine (Bits_any _ _).mono ?_; rintro e w' ⟨rfl, rfl⟩)
     | (go_at_call 46; refine (norm_any H.out _ _).mono ?_; rintro e w' ⟨rfl, rfl⟩)
    go_ret2
    exact ⟨rfl, Fr.refl _⟩
theorem RApply_any (op a b n : Int) (w : World) : Calls Try.prog 21 #[.int .i64 op, .int .i64 a, .int .i64 b, .int .i64 n] w fun e w' => e = .returned (appR op a b n) ∧ Fr w w' := by
  unfold appR appV
  by_cases h : appE op b n = 0
  · rw [if_pos h, h]
    obtain ⟨hb, h1, h2, h3⟩ := appE_ok h
    clear h
    obtain ⟨k, rfl⟩ := Int.eq_ofNat_of_zero_le (show 0 ≤ op by omega)
    rw [Int.toNat_natCast]
    have hk : k = 1 ∨ k = 2 ∨ k = 3 ∨ k = 4 ∨ k = 5 ∨ k = 6 ∨ k = 7 ∨ k = 8 ∨ k = 9 ∨ k = 10 ∨ k = 11 ∨ k = 12 ∨ k = 13 ∨ k = 14 ∨ k = 15 ∨ k = 16 ∨ k = 17 ∨ k = 18 ∨ k = 19 := by omega
    rcases hk with rfl | rfl | rfl | rfl | rfl | rfl | rfl | rfl | rfl | rfl | rfl | rfl | rfl | rfl | rfl | rfl | rfl | rfl | rfl
    · exact RApply_1 hb a b w
    · exact RApply_2 hb a b (h3 (by decide)) w
    · exact RApply_3 hb a b (h3 (by decide)) w
    · exact RApply_4 hb a b w
    · exact RApply_5 hb a b w
    · exact RApply_6 hb a b w
    · exact RApply_7 hb a b w
    · exact RApply_8 hb a b w
    · exact RApply_9 hb a b w
    · exact RApply_10 hb a b w
    · exact RApply_11 hb a b w
    · exact RApply_12 hb a b w
    · exact RApply_13 hb a b w
    · exact RApply_14 hb a b w
    · exact RApply_15 hb a b w
    · exact RApply_16 hb a b w
    · exact RApply_17 hb a b w
    · exact RApply_18 hb a b w
    · exact RApply_19 hb a b w
  · rw [if_neg h]
    unfold appE at h ⊢
    by_cases h1 : okB n = true
    · rw [if_pos h1] at h ⊢
      by_cases ho : op < 1 ∨ 19 < op
      · rw [if_pos ho]; exact RApply_out op a b n h1 ho w
      · rw [if_neg ho] at h ⊢
        by_cases hd : (op = 2 ∨ op = 3) ∧ nrm b n = 0
        · rw [if_pos hd]; exact RApply_zero op a b n h1 hd.1 hd.2 w
        · rw [if_neg hd] at h; exact absurd rfl h
    · rw [if_neg h1]; exact RApply_no op a b n (by simpa using h1) w
end Go.Proofs.Ytgnhighlkpgjiaa
