/- Contracts of the document's own answer to whether a word is what whole numbers give. -/
import Derived.Test.YtgnhighlkpgjiaaT
import Derived.Test.YtgnhighlkpgjiaaX
namespace Go.Proofs.Ytgnhighlkpgjiaa
open Go.RowKit
set_option linter.unusedVariables false

theorem rnarrow_any (v : Int) (w : World) : Calls Try.prog 55 #[.int .i64 v] w fun e w' => e = .returned (.bool (nar v)) ∧ w = w' := by
  by_cases h1 : -32768 ≤ v
  · by_cases h2 : v ≤ 32767
    · rw [show nar v = true from decide_eq_true ⟨h1, h2⟩]
      go_enter Try.func55, Try.ntmps55
      go_wp2; go_ret; exact ⟨rfl, rfl⟩
    · rw [show nar v = false from decide_eq_false fun h => h2 h.2]
      go_enter Try.func55, Try.ntmps55
      go_wp2; go_ret; exact ⟨rfl, rfl⟩
  · rw [show nar v = false from decide_eq_false fun h => h1 h.1]
    go_enter Try.func55, Try.ntmps55
    go_wp2; go_ret; exact ⟨rfl, rfl⟩
set_option maxHeartbeats 800000 in
theorem RExact_1 {n : Int} (hb : OkB n) (a b : Int) (w : World) : Calls Try.prog 23 #[.int .i64 1, .int .i64 a, .int .i64 b, .int .i64 n] w fun e w' => e = .returned (.tuple #[.bool (exR 1 (nrm a n) (nrm b n) n), .int .i64 0]) ∧ Fr w w' := by
  have H := Lib.hid hb
  have he : appE 1 b n = 0 := by simp [appE, show okB n = true from by simpa [okB] using hb]
  have HE := Lib.hid he
  have HV : Hid (appV 1 a b n = nrm (opv 1 (nrm a n) (nrm b n) n) n) := by unfold Hid appV; rw [if_pos he]; rfl
  obtain ⟨a1, a2⟩ := nrm_bd (v := a) hb
  obtain ⟨b1, b2⟩ := nrm_bd (v := b) hb
  clear hb he
  rcases Bool.eq_false_or_eq_true (nar (nrm a n)) with hA | hA
  · rcases Bool.eq_false_or_eq_true (nar (nrm b n)) with hB | hB
    · rcases Bool.eq_false_or_eq_true (nar (nrm (opv 1 (nrm a n) (nrm b n) n) n)) with hW | hW
      · have HX : Hid (exR 1 (nrm a n) (nrm b n) n = (opv 1 (nrm a n) (nrm b n) n == nrm (opv 1 (nrm a n) (nrm b n) n) n)) := by unfold Hid; simp [exR, hA, hB, hW]
        go_enter Try.func23, Try.ntmps23
        go_wp2_with first
          | (go_at_call 21; refine (RApply_any _ _ _ _ _).mono ?_; rintro e w1 ⟨rfl, hf⟩; unfold appR; rw [HV.out, HE.out])
          | (go_at_call 46; refine (norm_any H.out _ _).mono ?_; rintro e w' ⟨rfl, rfl⟩)
          | (go_at_call 55; refine (rnarrow_any _ _).mono ?_; rintro e w' ⟨rfl, rfl⟩)
          | (go_at_call 51; refine (whole_1 _ _ n a1 a2 b1 b2 _).mono ?_; rintro e w' ⟨rfl, rfl⟩)
        go_ret2
        exact ⟨by rw [HX.out]; rfl, hf⟩
      · have HX : Hid (exR 1 (nrm a n) (nrm b n) n = false) := by unfold Hid; simp [exR, hW]
        go_enter Try.func23, Try.ntmps23
        go_wp2_with first
          | (go_at_call 21; refine (RApply_any _ _ _ _ _).mono ?_; rintro e w1 ⟨rfl, hf⟩; unfold appR; rw [HV.out, HE.out])
          | (go_at_call 46; refine (norm_any H.out _ _).mono ?_; rintro e w' ⟨rfl, rfl⟩)
          | (go_at_call 55; refine (rnarrow_any _ _).mono ?_; rintro e w' ⟨rfl, rfl⟩)
          | (go_at_call 51; refine (whole_1 _ _ n a1 a2 b1 b2 _).mono ?_; rintro e w' ⟨rfl, rfl⟩)
        go_ret2
        exact ⟨by rw [HX.out]; rfl, hf⟩
    · have HX : Hid (exR 1 (nrm a n) (nrm b n) n = false) := by unfold Hid; simp [exR, hB]
      go_enter Try.func23, Try.ntmps23
      go_wp2_with first
        | (go_at_call 21; refine (RApply_any _ _ _ _ _).mono ?_; rintro e w1 ⟨rfl, hf⟩; unfold appR; rw [HV.out, HE.out])
        | (go_at_call 46; refine (norm_any H.out _ _).mono ?_; rintro e w' ⟨rfl, rfl⟩)
        | (go_at_call 55; refine (rnarrow_any _ _).mono ?_; rintro e w' ⟨rfl, rfl⟩)
        | (go_at_call 51; refine (whole_1 _ _ n a1 a2 b1 b2 _).mono ?_; rintro e w' ⟨rfl, rfl⟩)
      go_ret2
      exact ⟨by rw [HX.out]; rfl, hf⟩
  · have HX : Hid (exR 1 (nrm a n) (nrm b n) n = false) := by unfold Hid; simp [exR, hA]
    go_enter Try.func23, Try.ntmps23
    go_wp2_with first
      | (go_at_call 21; refine (RApply_any _ _ _ _ _).mono ?_; rintro e w1 ⟨rfl, hf⟩; unfold appR; rw [HV.out, HE.out])
      | (go_at_call 46; refine (norm_any H.out _ _).mono ?_; rintro e w' ⟨rfl, rfl⟩)
      | (go_at_call 55; refine (rnarrow_any _ _).mono ?_; rintro e w' ⟨rfl, rfl⟩)
      | (go_at_call 51; refine (whole_1 _ _ n a1 a2 b1 b2 _).mono ?_; rintro e w' ⟨rfl, rfl⟩)
    go_ret2
    exact ⟨by rw [HX.out]; rfl, hf⟩
set_option maxHeartbeats 800000 in
theorem RExact_2 {n : Int} (hb : OkB n) (a b : Int) (hz : nrm b n ≠ 0) (w : World) : Calls Try.prog 23 #[.int .i64 2, .int .i64 a, .int .i64 b, .int .i64 n] w fun e w' => e = .returned (.tuple #[.bool (exR 2 (nrm a n) (nrm b n) n), .int .i64 0]) ∧ Fr w w' := by
  have H := Lib.hid hb
  have he : appE 2 b n = 0 := by simp [appE, show okB n = true from by simpa [okB] using hb, hz]
  have HE := Lib.hid he
  have HV : Hid (appV 2 a b n = nrm (opv 2 (nrm a n) (nrm b n) n) n) := by unfold Hid appV; rw [if_pos he]; rfl
  obtain ⟨a1, a2⟩ := nrm_bd (v := a) hb
  obtain ⟨b1, b2⟩ := nrm_bd (v := b) hb
  clear hb he
  rcases Bool.eq_false_or_eq_true (nar (nrm a n)) with hA | hA
  · rcases Bool.eq_false_or_eq_true (nar (nrm b n)) with hB | hB
    · rcases Bool.eq_false_or_eq_true (nar (nrm (opv 2 (nrm a n) (nrm b n) n) n)) with hW | hW
      · have HX : Hid (exR 2 (nrm a n) (nrm b n) n = (opv 2 (nrm a n) (nrm b n) n == nrm (opv 2 (nrm a n) (nrm b n) n) n)) := by unfold Hid; simp [exR, hA, hB, hW]
        go_enter Try.func23, Try.ntmps23
        go_wp2_with first
          | (go_at_call 21; refine (RApply_any _ _ _ _ _).mono ?_; rintro e w1 ⟨rfl, hf⟩; unfold appR; rw [HV.out, HE.out])
          | (go_at_call 46; refine (norm_any H.out _ _).mono ?_; rintro e w' ⟨rfl, rfl⟩)
          | (go_at_call 55; refine (rnarrow_any _ _).mono ?_; rintro e w' ⟨rfl, rfl⟩)
          | (go_at_call 51; refine (whole_2 _ _ n a1 a2 b1 b2 hz _).mono ?_; rintro e w' ⟨rfl, rfl⟩)
        go_ret2
        exact ⟨by rw [HX.out]; rfl, hf⟩
      · have HX : Hid (exR 2 (nrm a n) (nrm b n) n = false) := by unfold Hid; simp [exR, hW]
        go_enter Try.func23, Try.ntmps23
        go_wp2_with first
          | (go_at_call 21; refine (RApply_any _ _ _ _ _).mono ?_; rintro e w1 ⟨rfl, hf⟩; unfold appR; rw [HV.out, HE.out])
          | (go_at_call 46; refine (norm_any H.out _ _).mono ?_; rintro e w' ⟨rfl, rfl⟩)
          | (go_at_call 55; refine (rnarrow_any _ _).mono ?_; rintro e w' ⟨rfl, rfl⟩)
          | (go_at_call 51; refine (whole_2 _ _ n a1 a2 b1 b2 hz _).mono ?_; rintro e w' ⟨rfl, rfl⟩)
        go_ret2
        exact ⟨by rw [HX.out]; rfl, hf⟩
    · have HX : Hid (exR 2 (nrm a n) (nrm b n) n = false) := by unfold Hid; simp [exR, hB]
      go_enter Try.func23, Try.ntmps23
      go_wp2_with first
        | (go_at_call 21; refine (RApply_any _ _ _ _ _).mono ?_; rintro e w1 ⟨rfl, hf⟩; unfold appR; rw [HV.out, HE.out])
        | (go_at_call 46; refine (norm_any H.out _ _).mono ?_; rintro e w' ⟨rfl, rfl⟩)
        | (go_at_call 55; refine (rnarrow_any _ _).mono ?_; rintro e w' ⟨rfl, rfl⟩)
        | (go_at_call 51; refine (whole_2 _ _ n a1 a2 b1 b2 hz _).mono ?_; rintro e w' ⟨rfl, rfl⟩)
      go_ret2
      exact ⟨by rw [HX.out]; rfl, hf⟩
  · have HX : Hid (exR 2 (nrm a n) (nrm b n) n = false) := by unfold Hid; simp [exR, hA]
    go_enter Try.func23, Try.ntmps23
    go_wp2_with first
      | (go_at_call 21; refine (RApply_any _ _ _ _ _).mono ?_; rintro e w1 ⟨rfl, hf⟩; unfold appR; rw [HV.out, HE.out])
      | (go_at_call 46; refine (norm_any H.out _ _).mono ?_; rintro e w' ⟨rfl, rfl⟩)
      | (go_at_call 55; refine (rnarrow_any _ _).mono ?_; rintro e w' ⟨rfl, rfl⟩)
      | (go_at_call 51; refine (whole_2 _ _ n a1 a2 b1 b2 hz _).mono ?_; rintro e w' ⟨rfl, rfl⟩)
    go_ret2
    exact ⟨by rw [HX.out]; rfl, hf⟩
set_option maxHeartbeats 800000 in
theorem RExact_3 {n : Int} (hb : OkB n) (a b : Int) (hz : nrm b n ≠ 0) (w : World) : Calls Try.prog 23 #[.int .i64 3, .int .i64 a, .int .i64 b, .int .i64 n] w fun e w' => e = .returned (.tuple #[.bool (exR 3 (nrm a n) (nrm b n) n), .int .i64 0]) ∧ Fr w w' := by
  have H := Lib.hid hb
  have he : appE 3 b n = 0 := by simp [appE, show okB n = true from by simpa [okB] using hb, hz]
  have HE := Lib.hid he
  have HV : Hid (appV 3 a b n = nrm (opv 3 (nrm a n) (nrm b n) n) n) := by unfold Hid appV; rw [if_pos he]; rfl
  obtain ⟨a1, a2⟩ := nrm_bd (v := a) hb
  obtain ⟨b1, b2⟩ := nrm_bd (v := b) hb
  clear hb he
  rcases Bool.eq_false_or_eq_true (nar (nrm a n)) with hA | hA
  · rcases Bool.eq_false_or_eq_true (nar (nrm b n)) with hB | hB
    · rcases Bool.eq_false_or_eq_true (nar (nrm (opv 3 (nrm a n) (nrm b n) n) n)) with hW | hW
      · have HX : Hid (exR 3 (nrm a n) (nrm b n) n = (opv 3 (nrm a n) (nrm b n) n == nrm (opv 3 (nrm a n) (nrm b n) n) n)) := by unfold Hid; simp [exR, hA, hB, hW]
        go_enter Try.func23, Try.ntmps23
        go_wp2_with first
          | (go_at_call 21; refine (RApply_any _ _ _ _ _).mono ?_; rintro e w1 ⟨rfl, hf⟩; unfold appR; rw [HV.out, HE.out])
          | (go_at_call 46; refine (norm_any H.out _ _).mono ?_; rintro e w' ⟨rfl, rfl⟩)
          | (go_at_call 55; refine (rnarrow_any _ _).mono ?_; rintro e w' ⟨rfl, rfl⟩)
          | (go_at_call 51; refine (whole_3 _ _ n a1 a2 b1 b2 hz _).mono ?_; rintro e w' ⟨rfl, rfl⟩)
        go_ret2
        exact ⟨by rw [HX.out]; rfl, hf⟩
      · have HX : Hid (exR 3 (nrm a n) (nrm b n) n = false) := by unfold Hid; simp [exR, hW]
        go_enter Try.func23, Try.ntmps23
        go_wp2_with first
          | (go_at_call 21; refine (RApply_any _ _ _ _ _).mono ?_; rintro e w1 ⟨rfl, hf⟩; unfold appR; rw [HV.out, HE.out])
          | (go_at_call 46; refine (norm_any H.out _ _).mono ?_; rintro e w' ⟨rfl, rfl⟩)
          | (go_at_call 55; refine (rnarrow_any _ _).mono ?_; rintro e w' ⟨rfl, rfl⟩)
          | (go_at_call 51; refine (whole_3 _ _ n a1 a2 b1 b2 hz _).mono ?_; rintro e w' ⟨rfl, rfl⟩)
        go_ret2
        exact ⟨by rw [HX.out]; rfl, hf⟩
    · have HX : Hid (exR 3 (nrm a n) (nrm b n) n = false) := by unfold Hid; simp [exR, hB]
      go_enter Try.func23, Try.ntmps23
      go_wp2_with first
        | (go_at_call 21; refine (RApply_any _ _ _ _ _).mono ?_; rintro e w1 ⟨rfl, hf⟩; unfold appR; rw [HV.out, HE.out])
        | (go_at_call 46; refine (norm_any H.out _ _).mono ?_; rintro e w' ⟨rfl, rfl⟩)
        | (go_at_call 55; refine (rnarrow_any _ _).mono ?_; rintro e w' ⟨rfl, rfl⟩)
        | (go_at_call 51; refine (whole_3 _ _ n a1 a2 b1 b2 hz _).mono ?_; rintro e w' ⟨rfl, rfl⟩)
      go_ret2
      exact ⟨by rw [HX.out]; rfl, hf⟩
  · have HX : Hid (exR 3 (nrm a n) (nrm b n) n = false) := by unfold Hid; simp [exR, hA]
    go_enter Try.func23, Try.ntmps23
    go_wp2_with first
      | (go_at_call 21; refine (RApply_any _ _ _ _ _).mono ?_; rintro e w1 ⟨rfl, hf⟩; unfold appR; rw [HV.out, HE.out])
      | (go_at_call 46; refine (norm_any H.out _ _).mono ?_; rintro e w' ⟨rfl, rfl⟩)
      | (go_at_call 55; refine (rnarrow_any _ _).mono ?_; rintro e w' ⟨rfl, rfl⟩)
      | (go_at_call 51; refine (whole_3 _ _ n a1 a2 b1 b2 hz _).mono ?_; rintro e w' ⟨rfl, rfl⟩)
    go_ret2
    exact ⟨by rw [HX.out]; rfl, hf⟩
set_option maxHeartbeats 800000 in
theorem RExact_4 {n : Int} (hb : OkB n) (a b : Int) (w : World) : Calls Try.prog 23 #[.int .i64 4, .int .i64 a, .int .i64 b, .int .i64 n] w fun e w' => e = .returned (.tuple #[.bool (exR 4 (nrm a n) (nrm b n) n), .int .i64 0]) ∧ Fr w w' := by
  have H := Lib.hid hb
  have he : appE 4 b n = 0 := by simp [appE, show okB n = true from by simpa [okB] using hb]
  have HE := Lib.hid he
  have HV : Hid (appV 4 a b n = nrm (opv 4 (nrm a n) (nrm b n) n) n) := by unfold Hid appV; rw [if_pos he]; rfl
  obtain ⟨a1, a2⟩ := nrm_bd (v := a) hb
  obtain ⟨b1, b2⟩ := nrm_bd (v := b) hb
  clear hb he
  rcases Bool.eq_false_or_eq_true (nar (nrm a n)) with hA | hA
  · rcases Bool.eq_false_or_eq_true (nar (nrm b n)) with hB | hB
    · rcases Bool.eq_false_or_eq_true (nar (nrm (opv 4 (nrm a n) (nrm b n) n) n)) with hW | hW
      · have HX : Hid (exR 4 (nrm a n) (nrm b n) n = (opv 4 (nrm a n) (nrm b n) n == nrm (opv 4 (nrm a n) (nrm b n) n) n)) := by unfold Hid; simp [exR, hA, hB, hW]
        go_enter Try.func23, Try.ntmps23
        go_wp2_with first
          | (go_at_call 21; refine (RApply_any _ _ _ _ _).mono ?_; rintro e w1 ⟨rfl, hf⟩; unfold appR; rw [HV.out, HE.out])
          | (go_at_call 46; refine (norm_any H.out _ _).mono ?_; rintro e w' ⟨rfl, rfl⟩)
          | (go_at_call 55; refine (rnarrow_any _ _).mono ?_; rintro e w' ⟨rfl, rfl⟩)
          | (go_at_call 51; refine (whole_4 _ _ n a1 a2 b1 b2 _).mono ?_; rintro e w' ⟨rfl, rfl⟩)
        go_ret2
        exact ⟨by rw [HX.out]; rfl, hf⟩
      · have HX : Hid (exR 4 (nrm a n) (nrm b n) n = false) := by unfold Hid; simp [exR, hW]
        go_enter Try.func23, Try.ntmps23
        go_wp2_with first
          | (go_at_call 21; refine (RApply_any _ _ _ _ _).mono ?_; rintro e w1 ⟨rfl, hf⟩; unfold appR; rw [HV.out, HE.out])
          | (go_at_call 46; refine (norm_any H.out _ _).mono ?_; rintro e w' ⟨rfl, rfl⟩)
          | (go_at_call 55; refine (rnarrow_any _ _).mono ?_; rintro e w' ⟨rfl, rfl⟩)
          | (go_at_call 51; refine (whole_4 _ _ n a1 a2 b1 b2 _).mono ?_; rintro e w' ⟨rfl, rfl⟩)
        go_ret2
        exact ⟨by rw [HX.out]; rfl, hf⟩
    · have HX : Hid (exR 4 (nrm a n) (nrm b n) n = false) := by unfold Hid; simp [exR, hB]
      go_enter Try.func23, Try.ntmps23
      go_wp2_with first
        | (go_at_call 21; refine (RApply_any _ _ _ _ _).mono ?_; rintro e w1 ⟨rfl, hf⟩; unfold appR; rw [HV.out, HE.out])
        | (go_at_call 46; refine (norm_any H.out _ _).mono ?_; rintro e w' ⟨rfl, rfl⟩)
        | (go_at_call 55; refine (rnarrow_any _ _).mono ?_; rintro e w' ⟨rfl, rfl⟩)
        | (go_at_call 51; refine (whole_4 _ _ n a1 a2 b1 b2 _).mono ?_; rintro e w' ⟨rfl, rfl⟩)
      go_ret2
      exact ⟨by rw [HX.out]; rfl, hf⟩
  · have HX : Hid (exR 4 (nrm a n) (nrm b n) n = false) := by unfold Hid; simp [exR, hA]
    go_enter Try.func23, Try.ntmps23
    go_wp2_with first
      | (go_at_call 21; refine (RApply_any _ _ _ _ _).mono ?_; rintro e w1 ⟨rfl, hf⟩; unfold appR; rw [HV.out, HE.out])
      | (go_at_call 46; refine (norm_any H.out _ _).mono ?_; rintro e w' ⟨rfl, rfl⟩)
      | (go_at_call 55; refine (rnarrow_any _ _).mono ?_; rintro e w' ⟨rfl, rfl⟩)
      | (go_at_call 51; refine (whole_4 _ _ n a1 a2 b1 b2 _).mono ?_; rintro e w' ⟨rfl, rfl⟩)
    go_ret2
    exact ⟨by rw [HX.out]; rfl, hf⟩
set_option maxHeartbeats 800000 in
theorem RExact_5 {n : Int} (hb : OkB n) (a b : Int) (w : World) : Calls Try.prog 23 #[.int .i64 5, .int .i64 a, .int .i64 b, .int .i64 n] w fun e w' => e = .returned (.tuple #[.bool (exR 5 (nrm a n) (nrm b n) n), .int .i64 0]) ∧ Fr w w' := by
  have H := Lib.hid hb
  have he : appE 5 b n = 0 := by simp [appE, show okB n = true from by simpa [okB] using hb]
  have HE := Lib.hid he
  have HV : Hid (appV 5 a b n = nrm (opv 5 (nrm a n) (nrm b n) n) n) := by unfold Hid appV; rw [if_pos he]; rfl
  obtain ⟨a1, a2⟩ := nrm_bd (v := a) hb
  obtain ⟨b1, b2⟩ := nrm_bd (v := b) hb
  clear hb he
  rcases Bool.eq_false_or_eq_true (nar (nrm a n)) with hA | hA
  · rcases Bool.eq_false_or_eq_true (nar (nrm b n)) with hB | hB
    · rcases Bool.eq_false_or_eq_true (nar (nrm (opv 5 (nrm a n) (nrm b n) n) n)) with hW | hW
      · have HX : Hid (exR 5 (nrm a n) (nrm b n) n = (opv 5 (nrm a n) (nrm b n) n == nrm (opv 5 (nrm a n) (nrm b n) n) n)) := by unfold Hid; simp [exR, hA, hB, hW]
        go_enter Try.func23, Try.ntmps23
        go_wp2_with first
          | (go_at_call 21; refine (RApply_any _ _ _ _ _).mono ?_; rintro e w1 ⟨rfl, hf⟩; unfold appR; rw [HV.out, HE.out])
          | (go_at_call 46; refine (norm_any H.out _ _).mono ?_; rintro e w' ⟨rfl, rfl⟩)
          | (go_at_call 55; refine (rnarrow_any _ _).mono ?_; rintro e w' ⟨rfl, rfl⟩)
          | (go_at_call 51; refine (whole_5 _ _ n a1 a2 b1 b2 _).mono ?_; rintro e w' ⟨rfl, rfl⟩)
        go_ret2
        exact ⟨by rw [HX.out]; rfl, hf⟩
      · have HX : Hid (exR 5 (nrm a n) (nrm b n) n = false) := by unfold Hid; simp [exR, hW]
        go_enter Try.func23, Try.ntmps23
        go_wp2_with first
          | (go_at_call 21; refine (RApply_any _ _ _ _ _).mono ?_; rintro e w1 ⟨rfl, hf⟩; unfold appR; rw [HV.out, HE.out])
          | (go_at_call 46; refine (norm_any H.out _ _).mono ?_; rintro e w' ⟨rfl, rfl⟩)
          | (go_at_call 55; refine (rnarrow_any _ _).mono ?_; rintro e w' ⟨rfl, rfl⟩)
          | (go_at_call 51; refine (whole_5 _ _ n a1 a2 b1 b2 _).mono ?_; rintro e w' ⟨rfl, rfl⟩)
        go_ret2
        exact ⟨by rw [HX.out]; rfl, hf⟩
    · have HX : Hid (exR 5 (nrm a n) (nrm b n) n = false) := by unfold Hid; simp [exR, hB]
      go_enter Try.func23, Try.ntmps23
      go_wp2_with first
        | (go_at_call 21; refine (RApply_any _ _ _ _ _).mono ?_; rintro e w1 ⟨rfl, hf⟩; unfold appR; rw [HV.out, HE.out])
        | (go_at_call 46; refine (norm_any H.out _ _).mono ?_; rintro e w' ⟨rfl, rfl⟩)
        | (go_at_call 55; refine (rnarrow_any _ _).mono ?_; rintro e w' ⟨rfl, rfl⟩)
        | (go_at_call 51; refine (whole_5 _ _ n a1 a2 b1 b2 _).mono ?_; rintro e w' ⟨rfl, rfl⟩)
      go_ret2
      exact ⟨by rw [HX.out]; rfl, hf⟩
  · have HX : Hid (exR 5 (nrm a n) (nrm b n) n = false) := by unfold Hid; simp [exR, hA]
    go_enter Try.func23, Try.ntmps23
    go_wp2_with first
      | (go_at_call 21; refine (RApply_any _ _ _ _ _).mono ?_; rintro e w1 ⟨rfl, hf⟩; unfold appR; rw [HV.out, HE.out])
      | (go_at_call 46; refine (norm_any H.out _ _).mono ?_; rintro e w' ⟨rfl, rfl⟩)
      | (go_at_call 55; refine (rnarrow_any _ _).mono ?_; rintro e w' ⟨rfl, rfl⟩)
      | (go_at_call 51; refine (whole_5 _ _ n a1 a2 b1 b2 _).mono ?_; rintro e w' ⟨rfl, rfl⟩)
    go_ret2
    exact ⟨by rw [HX.out]; rfl, hf⟩
set_option maxHeartbeats 800000 in
theorem RExact_6 {n : Int} (hb : OkB n) (a b : Int) (w : World) : Calls Try.prog 23 #[.int .i64 6, .int .i64 a, .int .i64 b, .int .i64 n] w fun e w' => e = .returned (.tuple #[.bool (exR 6 (nrm a n) (nrm b n) n), .int .i64 0]) ∧ Fr w w' := by
  have H := Lib.hid hb
  have he : appE 6 b n = 0 := by simp [appE, show okB n = true from by simpa [okB] using hb]
  have HE := Lib.hid he
  have HV : Hid (appV 6 a b n = nrm (opv 6 (nrm a n) (nrm b n) n) n) := by unfold Hid appV; rw [if_pos he]; rfl
  obtain ⟨a1, a2⟩ := nrm_bd (v := a) hb
  obtain ⟨b1, b2⟩ := nrm_bd (v := b) hb
  clear hb he
  rcases Bool.eq_false_or_eq_true (nar (nrm a n)) with hA | hA
  · rcases Bool.eq_false_or_eq_true (nar (nrm b n)) with hB | hB
    · rcases Bool.eq_false_or_eq_true (nar (nrm (opv 6 (nrm a n) (nrm b n) n) n)) with hW | hW
      · by_cases g1 : nrm a n < 0
        · have HX : Hid (exR 6 (nrm a n) (nrm b n) n = false) := by unfold Hid; simp [exR, hA, hB, hW, g1]
          go_enter Try.func23, Try.ntmps23
          go_wp2_with first
            | (go_at_call 21; refine (RApply_any _ _ _ _ _).mono ?_; rintro e w1 ⟨rfl, hf⟩; unfold appR; rw [HV.out, HE.out])
            | (go_at_call 46; refine (norm_any H.out _ _).mono ?_; rintro e w' ⟨rfl, rfl⟩)
            | (go_at_call 55; refine (rnarrow_any _ _).mono ?_; rintro e w' ⟨rfl, rfl⟩)
            | (go_at_call 51; refine (whole_6 _ _ _).mono ?_; rintro e w' ⟨rfl, rfl⟩)
            | (go_at_call 56; refine (power_any _ (by omega) (by omega) _).mono ?_; rintro e w' ⟨rfl, rfl⟩)
          go_ret2
          exact ⟨by rw [HX.out]; rfl, hf⟩
        by_cases g2 : nrm b n < 0
        · have HX : Hid (exR 6 (nrm a n) (nrm b n) n = false) := by unfold Hid; simp [exR, hA, hB, hW, g2]
          go_enter Try.func23, Try.ntmps23
          go_wp2_with first
            | (go_at_call 21; refine (RApply_any _ _ _ _ _).mono ?_; rintro e w1 ⟨rfl, hf⟩; unfold appR; rw [HV.out, HE.out])
            | (go_at_call 46; refine (norm_any H.out _ _).mono ?_; rintro e w' ⟨rfl, rfl⟩)
            | (go_at_call 55; refine (rnarrow_any _ _).mono ?_; rintro e w' ⟨rfl, rfl⟩)
            | (go_at_call 51; refine (whole_6 _ _ _).mono ?_; rintro e w' ⟨rfl, rfl⟩)
            | (go_at_call 56; refine (power_any _ (by omega) (by omega) _).mono ?_; rintro e w' ⟨rfl, rfl⟩)
          go_ret2
          exact ⟨by rw [HX.out]; rfl, hf⟩
        by_cases g3 : 15 < nrm b n
        · have HX : Hid (exR 6 (nrm a n) (nrm b n) n = false) := by unfold Hid; simp [exR, hA, hB, hW, g3]
          go_enter Try.func23, Try.ntmps23
          go_wp2_with first
            | (go_at_call 21; refine (RApply_any _ _ _ _ _).mono ?_; rintro e w1 ⟨rfl, hf⟩; unfold appR; rw [HV.out, HE.out])
            | (go_at_call 46; refine (norm_any H.out _ _).mono ?_; rintro e w' ⟨rfl, rfl⟩)
            | (go_at_call 55; refine (rnarrow_any _ _).mono ?_; rintro e w' ⟨rfl, rfl⟩)
            | (go_at_call 51; refine (whole_6 _ _ _).mono ?_; rintro e w' ⟨rfl, rfl⟩)
            | (go_at_call 56; refine (power_any _ (by omega) (by omega) _).mono ?_; rintro e w' ⟨rfl, rfl⟩)
          go_ret2
          exact ⟨by rw [HX.out]; rfl, hf⟩
        obtain ⟨m1, m2⟩ := shl_bd (nrm a n) (nrm b n) a1 a2 (by omega) (by omega)
        have m3 : 0 ≤ nrm b n := by omega
        have m4 : nrm b n ≤ 15 := by omega
        have HX : Hid (exR 6 (nrm a n) (nrm b n) n = decide (nrm a n * 2 ^ (nrm b n).toNat ≤ 32767)) := by unfold Hid; simp [exR, hA, hB, hW, g1, g2, g3]
        go_enter Try.func23, Try.ntmps23
        go_wp2_with first
          | (go_at_call 21; refine (RApply_any _ _ _ _ _).mono ?_; rintro e w1 ⟨rfl, hf⟩; unfold appR; rw [HV.out, HE.out])
          | (go_at_call 46; refine (norm_any H.out _ _).mono ?_; rintro e w' ⟨rfl, rfl⟩)
          | (go_at_call 55; refine (rnarrow_any _ _).mono ?_; rintro e w' ⟨rfl, rfl⟩)
          | (go_at_call 51; refine (whole_6 _ _ _).mono ?_; rintro e w' ⟨rfl, rfl⟩)
          | (go_at_call 56; refine (power_any _ (by omega) (by omega) _).mono ?_; rintro e w' ⟨rfl, rfl⟩)
        go_ret2
        exact ⟨by rw [HX.out]; rfl, hf⟩
      · have HX : Hid (exR 6 (nrm a n) (nrm b n) n = false) := by unfold Hid; simp [exR, hW]
        go_enter Try.func23, Try.ntmps23
        go_wp2_with first
          | (go_at_call 21; refine (RApply_any _ _ _ _ _).mono ?_; rintro e w1 ⟨rfl, hf⟩; unfold appR; rw [HV.out, HE.out])
          | (go_at_call 46; refine (norm_any H.out _ _).mono ?_; rintro e w' ⟨rfl, rfl⟩)
          | (go_at_call 55; refine (rnarrow_any _ _).mono ?_; rintro e w' ⟨rfl, rfl⟩)
          | (go_at_call 51; refine (whole_6 _ _ _).mono ?_; rintro e w' ⟨rfl, rfl⟩)
          | (go_at_call 56; refine (power_any _ (by omega) (by omega) _).mono ?_; rintro e w' ⟨rfl, rfl⟩)
        go_ret2
        exact ⟨by rw [HX.out]; rfl, hf⟩
    · have HX : Hid (exR 6 (nrm a n) (nrm b n) n = false) := by unfold Hid; simp [exR, hB]
      go_enter Try.func23, Try.ntmps23
      go_wp2_with first
        | (go_at_call 21; refine (RApply_any _ _ _ _ _).mono ?_; rintro e w1 ⟨rfl, hf⟩; unfold appR; rw [HV.out, HE.out])
        | (go_at_call 46; refine (norm_any H.out _ _).mono ?_; rintro e w' ⟨rfl, rfl⟩)
        | (go_at_call 55; refine (rnarrow_any _ _).mono ?_; rintro e w' ⟨rfl, rfl⟩)
        | (go_at_call 51; refine (whole_6 _ _ _).mono ?_; rintro e w' ⟨rfl, rfl⟩)
        | (go_at_call 56; refine (power_any _ (by omega) (by omega) _).mono ?_; rintro e w' ⟨rfl, rfl⟩)
      go_ret2
      exact ⟨by rw [HX.out]; rfl, hf⟩
  · have HX : Hid (exR 6 (nrm a n) (nrm b n) n = false) := by unfold Hid; simp [exR, hA]
    go_enter Try.func23, Try.ntmps23
    go_wp2_with first
      | (go_at_call 21; refine (RApply_any _ _ _ _ _).mono ?_; rintro e w1 ⟨rfl, hf⟩; unfold appR; rw [HV.out, HE.out])
      | (go_at_call 46; refine (norm_any H.out _ _).mono ?_; rintro e w' ⟨rfl, rfl⟩)
      | (go_at_call 55; refine (rnarrow_any _ _).mono ?_; rintro e w' ⟨rfl, rfl⟩)
      | (go_at_call 51; refine (whole_6 _ _ _).mono ?_; rintro e w' ⟨rfl, rfl⟩)
      | (go_at_call 56; refine (power_any _ (by omega) (by omega) _).mono ?_; rintro e w' ⟨rfl, rfl⟩)
    go_ret2
    exact ⟨by rw [HX.out]; rfl, hf⟩
set_option maxHeartbeats 800000 in
theorem RExact_7 {n : Int} (hb : OkB n) (a b : Int) (w : World) : Calls Try.prog 23 #[.int .i64 7, .int .i64 a, .int .i64 b, .int .i64 n] w fun e w' => e = .returned (.tuple #[.bool (exR 7 (nrm a n) (nrm b n) n), .int .i64 0]) ∧ Fr w w' := by
  have H := Lib.hid hb
  have he : appE 7 b n = 0 := by simp [appE, show okB n = true from by simpa [okB] using hb]
  have HE := Lib.hid he
  have HV : Hid (appV 7 a b n = nrm (opv 7 (nrm a n) (nrm b n) n) n) := by unfold Hid appV; rw [if_pos he]; rfl
  obtain ⟨a1, a2⟩ := nrm_bd (v := a) hb
  obtain ⟨b1, b2⟩ := nrm_bd (v := b) hb
  clear hb he
  rcases Bool.eq_false_or_eq_true (nar (nrm a n)) with hA | hA
  · rcases Bool.eq_false_or_eq_true (nar (nrm b n)) with hB | hB
    · rcases Bool.eq_false_or_eq_true (nar (nrm (opv 7 (nrm a n) (nrm b n) n) n)) with hW | hW
      · by_cases g1 : nrm a n < 0
        · have HX : Hid (exR 7 (nrm a n) (nrm b n) n = false) := by unfold Hid; simp [exR, hA, hB, hW, g1]
          go_enter Try.func23, Try.ntmps23
          go_wp2_with first
            | (go_at_call 21; refine (RApply_any _ _ _ _ _).mono ?_; rintro e w1 ⟨rfl, hf⟩; unfold appR; rw [HV.out, HE.out])
            | (go_at_call 46; refine (norm_any H.out _ _).mono ?_; rintro e w' ⟨rfl, rfl⟩)
            | (go_at_call 55; refine (rnarrow_any _ _).mono ?_; rintro e w' ⟨rfl, rfl⟩)
            | (go_at_call 51; refine (whole_7 _ _ _).mono ?_; rintro e w' ⟨rfl, rfl⟩)
          go_ret2
          exact ⟨by rw [HX.out]; rfl, hf⟩
        by_cases g2 : nrm b n < 0
        · have HX : Hid (exR 7 (nrm a n) (nrm b n) n = false) := by unfold Hid; simp [exR, hA, hB, hW, g2]
          go_enter Try.func23, Try.ntmps23
          go_wp2_with first
            | (go_at_call 21; refine (RApply_any _ _ _ _ _).mono ?_; rintro e w1 ⟨rfl, hf⟩; unfold appR; rw [HV.out, HE.out])
            | (go_at_call 46; refine (norm_any H.out _ _).mono ?_; rintro e w' ⟨rfl, rfl⟩)
            | (go_at_call 55; refine (rnarrow_any _ _).mono ?_; rintro e w' ⟨rfl, rfl⟩)
            | (go_at_call 51; refine (whole_7 _ _ _).mono ?_; rintro e w' ⟨rfl, rfl⟩)
          go_ret2
          exact ⟨by rw [HX.out]; rfl, hf⟩
        by_cases g3 : 15 < nrm b n
        · have HX : Hid (exR 7 (nrm a n) (nrm b n) n = false) := by unfold Hid; simp [exR, hA, hB, hW, g3]
          go_enter Try.func23, Try.ntmps23
          go_wp2_with first
            | (go_at_call 21; refine (RApply_any _ _ _ _ _).mono ?_; rintro e w1 ⟨rfl, hf⟩; unfold appR; rw [HV.out, HE.out])
            | (go_at_call 46; refine (norm_any H.out _ _).mono ?_; rintro e w' ⟨rfl, rfl⟩)
            | (go_at_call 55; refine (rnarrow_any _ _).mono ?_; rintro e w' ⟨rfl, rfl⟩)
            | (go_at_call 51; refine (whole_7 _ _ _).mono ?_; rintro e w' ⟨rfl, rfl⟩)
          go_ret2
          exact ⟨by rw [HX.out]; rfl, hf⟩
        have HX : Hid (exR 7 (nrm a n) (nrm b n) n = true) := by unfold Hid; simp [exR, hA, hB, hW, g1, g2, g3]
        go_enter Try.func23, Try.ntmps23
        go_wp2_with first
          | (go_at_call 21; refine (RApply_any _ _ _ _ _).mono ?_; rintro e w1 ⟨rfl, hf⟩; unfold appR; rw [HV.out, HE.out])
          | (go_at_call 46; refine (norm_any H.out _ _).mono ?_; rintro e w' ⟨rfl, rfl⟩)
          | (go_at_call 55; refine (rnarrow_any _ _).mono ?_; rintro e w' ⟨rfl, rfl⟩)
          | (go_at_call 51; refine (whole_7 _ _ _).mono ?_; rintro e w' ⟨rfl, rfl⟩)
        go_ret2
        exact ⟨by rw [HX.out]; rfl, hf⟩
      · have HX : Hid (exR 7 (nrm a n) (nrm b n) n = false) := by unfold Hid; simp [exR, hW]
        go_enter Try.func23, Try.ntmps23
        go_wp2_with first
          | (go_at_call 21; refine (RApply_any _ _ _ _ _).mono ?_; rintro e w1 ⟨rfl, hf⟩; unfold appR; rw [HV.out, HE.out])
          | (go_at_call 46; refine (norm_any H.out _ _).mono ?_; rintro e w' ⟨rfl, rfl⟩)
          | (go_at_call 55; refine (rnarrow_any _ _).mono ?_; rintro e w' ⟨rfl, rfl⟩)
          | (go_at_call 51; refine (whole_7 _ _ _).mono ?_; rintro e w' ⟨rfl, rfl⟩)
        go_ret2
        exact ⟨by rw [HX.out]; rfl, hf⟩
    · have HX : Hid (exR 7 (nrm a n) (nrm b n) n = false) := by unfold Hid; simp [exR, hB]
      go_enter Try.func23, Try.ntmps23
      go_wp2_with first
        | (go_at_call 21; refine (RApply_any _ _ _ _ _).mono ?_; rintro e w1 ⟨rfl, hf⟩; unfold appR; rw [HV.out, HE.out])
        | (go_at_call 46; refine (norm_any H.out _ _).mono ?_; rintro e w' ⟨rfl, rfl⟩)
        | (go_at_call 55; refine (rnarrow_any _ _).mono ?_; rintro e w' ⟨rfl, rfl⟩)
        | (go_at_call 51; refine (whole_7 _ _ _).mono ?_; rintro e w' ⟨rfl, rfl⟩)
      go_ret2
      exact ⟨by rw [HX.out]; rfl, hf⟩
  · have HX : Hid (exR 7 (nrm a n) (nrm b n) n = false) := by unfold Hid; simp [exR, hA]
    go_enter Try.func23, Try.ntmps23
    go_wp2_with first
      | (go_at_call 21; refine (RApply_any _ _ _ _ _).mono ?_; rintro e w1 ⟨rfl, hf⟩; unfold appR; rw [HV.out, HE.out])
      | (go_at_call 46; refine (norm_any H.out _ _).mono ?_; rintro e w' ⟨rfl, rfl⟩)
      | (go_at_call 55; refine (rnarrow_any _ _).mono ?_; rintro e w' ⟨rfl, rfl⟩)
      | (go_at_call 51; refine (whole_7 _ _ _).mono ?_; rintro e w' ⟨rfl, rfl⟩)
    go_ret2
    exact ⟨by rw [HX.out]; rfl, hf⟩
set_option maxHeartbeats 800000 in
theorem RExact_8 {n : Int} (hb : OkB n) (a b : Int) (w : World) : Calls Try.prog 23 #[.int .i64 8, .int .i64 a, .int .i64 b, .int .i64 n] w fun e w' => e = .returned (.tuple #[.bool (exR 8 (nrm a n) (nrm b n) n), .int .i64 0]) ∧ Fr w w' := by
  have H := Lib.hid hb
  have he : appE 8 b n = 0 := by simp [appE, show okB n = true from by simpa [okB] using hb]
  have HE := Lib.hid he
  have HV : Hid (appV 8 a b n = nrm (opv 8 (nrm a n) (nrm b n) n) n) := by unfold Hid appV; rw [if_pos he]; rfl
  obtain ⟨a1, a2⟩ := nrm_bd (v := a) hb
  obtain ⟨b1, b2⟩ := nrm_bd (v := b) hb
  clear hb he
  rcases Bool.eq_false_or_eq_true (nar (nrm a n)) with hA | hA
  · rcases Bool.eq_false_or_eq_true (nar (nrm b n)) with hB | hB
    · rcases Bool.eq_false_or_eq_true (nar (nrm (opv 8 (nrm a n) (nrm b n) n) n)) with hW | hW
      · have HX : Hid (exR 8 (nrm a n) (nrm b n) n = true) := by unfold Hid; simp [exR, hA, hB, hW]
        go_enter Try.func23, Try.ntmps23
        go_wp2_with first
          | (go_at_call 21; refine (RApply_any _ _ _ _ _).mono ?_; rintro e w1 ⟨rfl, hf⟩; unfold appR; rw [HV.out, HE.out])
          | (go_at_call 46; refine (norm_any H.out _ _).mono ?_; rintro e w' ⟨rfl, rfl⟩)
          | (go_at_call 55; refine (rnarrow_any _ _).mono ?_; rintro e w' ⟨rfl, rfl⟩)
          | (go_at_call 51; refine (whole_8 _ _ _).mono ?_; rintro e w' ⟨rfl, rfl⟩)
        go_ret2
        exact ⟨by rw [HX.out]; rfl, hf⟩
      · have HX : Hid (exR 8 (nrm a n) (nrm b n) n = false) := by unfold Hid; simp [exR, hW]
        go_enter Try.func23, Try.ntmps23
        go_wp2_with first
          | (go_at_call 21; refine (RApply_any _ _ _ _ _).mono ?_; rintro e w1 ⟨rfl, hf⟩; unfold appR; rw [HV.out, HE.out])
          | (go_at_call 46; refine (norm_any H.out _ _).mono ?_; rintro e w' ⟨rfl, rfl⟩)
          | (go_at_call 55; refine (rnarrow_any _ _).mono ?_; rintro e w' ⟨rfl, rfl⟩)
          | (go_at_call 51; refine (whole_8 _ _ _).mono ?_; rintro e w' ⟨rfl, rfl⟩)
        go_ret2
        exact ⟨by rw [HX.out]; rfl, hf⟩
    · have HX : Hid (exR 8 (nrm a n) (nrm b n) n = false) := by unfold Hid; simp [exR, hB]
      go_enter Try.func23, Try.ntmps23
      go_wp2_with first
        | (go_at_call 21; refine (RApply_any _ _ _ _ _).mono ?_; rintro e w1 ⟨rfl, hf⟩; unfold appR; rw [HV.out, HE.out])
        | (go_at_call 46; refine (norm_any H.out _ _).mono ?_; rintro e w' ⟨rfl, rfl⟩)
        | (go_at_call 55; refine (rnarrow_any _ _).mono ?_; rintro e w' ⟨rfl, rfl⟩)
        | (go_at_call 51; refine (whole_8 _ _ _).mono ?_; rintro e w' ⟨rfl, rfl⟩)
      go_ret2
      exact ⟨by rw [HX.out]; rfl, hf⟩
  · have HX : Hid (exR 8 (nrm a n) (nrm b n) n = false) := by unfold Hid; simp [exR, hA]
    go_enter Try.func23, Try.ntmps23
    go_wp2_with first
      | (go_at_call 21; refine (RApply_any _ _ _ _ _).mono ?_; rintro e w1 ⟨rfl, hf⟩; unfold appR; rw [HV.out, HE.out])
      | (go_at_call 46; refine (norm_any H.out _ _).mono ?_; rintro e w' ⟨rfl, rfl⟩)
      | (go_at_call 55; refine (rnarrow_any _ _).mono ?_; rintro e w' ⟨rfl, rfl⟩)
      | (go_at_call 51; refine (whole_8 _ _ _).mono ?_; rintro e w' ⟨rfl, rfl⟩)
    go_ret2
    exact ⟨by rw [HX.out]; rfl, hf⟩
set_option maxHeartbeats 800000 in
theorem RExact_9 {n : Int} (hb : OkB n) (a b : Int) (w : World) : Calls Try.prog 23 #[.int .i64 9, .int .i64 a, .int .i64 b, .int .i64 n] w fun e w' => e = .returned (.tuple #[.bool (exR 9 (nrm a n) (nrm b n) n), .int .i64 0]) ∧ Fr w w' := by
  have H := Lib.hid hb
  have he : appE 9 b n = 0 := by simp [appE, show okB n = true from by simpa [okB] using hb]
  have HE := Lib.hid he
  have HV : Hid (appV 9 a b n = nrm (opv 9 (nrm a n) (nrm b n) n) n) := by unfold Hid appV; rw [if_pos he]; rfl
  obtain ⟨a1, a2⟩ := nrm_bd (v := a) hb
  obtain ⟨b1, b2⟩ := nrm_bd (v := b) hb
  clear hb he
  rcases Bool.eq_false_or_eq_true (nar (nrm a n)) with hA | hA
  · rcases Bool.eq_false_or_eq_true (nar (nrm b n)) with hB | hB
    · rcases Bool.eq_false_or_eq_true (nar (nrm (opv 9 (nrm a n) (nrm b n) n) n)) with hW | hW
      · have HX : Hid (exR 9 (nrm a n) (nrm b n) n = true) := by unfold Hid; simp [exR, hA, hB, hW]
        go_enter Try.func23, Try.ntmps23
        go_wp2_with first
          | (go_at_call 21; refine (RApply_any _ _ _ _ _).mono ?_; rintro e w1 ⟨rfl, hf⟩; unfold appR; rw [HV.out, HE.out])
          | (go_at_call 46; refine (norm_any H.out _ _).mono ?_; rintro e w' ⟨rfl, rfl⟩)
          | (go_at_call 55; refine (rnarrow_any _ _).mono ?_; rintro e w' ⟨rfl, rfl⟩)
          | (go_at_call 51; refine (whole_9 _ _ _).mono ?_; rintro e w' ⟨rfl, rfl⟩)
        go_ret2
        exact ⟨by rw [HX.out]; rfl, hf⟩
      · have HX : Hid (exR 9 (nrm a n) (nrm b n) n = false) := by unfold Hid; simp [exR, hW]
        go_enter Try.func23, Try.ntmps23
        go_wp2_with first
          | (go_at_call 21; refine (RApply_any _ _ _ _ _).mono ?_; rintro e w1 ⟨rfl, hf⟩; unfold appR; rw [HV.out, HE.out])
          | (go_at_call 46; refine (norm_any H.out _ _).mono ?_; rintro e w' ⟨rfl, rfl⟩)
          | (go_at_call 55; refine (rnarrow_any _ _).mono ?_; rintro e w' ⟨rfl, rfl⟩)
          | (go_at_call 51; refine (whole_9 _ _ _).mono ?_; rintro e w' ⟨rfl, rfl⟩)
        go_ret2
        exact ⟨by rw [HX.out]; rfl, hf⟩
    · have HX : Hid (exR 9 (nrm a n) (nrm b n) n = false) := by unfold Hid; simp [exR, hB]
      go_enter Try.func23, Try.ntmps23
      go_wp2_with first
        | (go_at_call 21; refine (RApply_any _ _ _ _ _).mono ?_; rintro e w1 ⟨rfl, hf⟩; unfold appR; rw [HV.out, HE.out])
        | (go_at_call 46; refine (norm_any H.out _ _).mono ?_; rintro e w' ⟨rfl, rfl⟩)
        | (go_at_call 55; refine (rnarrow_any _ _).mono ?_; rintro e w' ⟨rfl, rfl⟩)
        | (go_at_call 51; refine (whole_9 _ _ _).mono ?_; rintro e w' ⟨rfl, rfl⟩)
      go_ret2
      exact ⟨by rw [HX.out]; rfl, hf⟩
  · have HX : Hid (exR 9 (nrm a n) (nrm b n) n = false) := by unfold Hid; simp [exR, hA]
    go_enter Try.func23, Try.ntmps23
    go_wp2_with first
      | (go_at_call 21; refine (RApply_any _ _ _ _ _).mono ?_; rintro e w1 ⟨rfl, hf⟩; unfold appR; rw [HV.out, HE.out])
      | (go_at_call 46; refine (norm_any H.out _ _).mono ?_; rintro e w' ⟨rfl, rfl⟩)
      | (go_at_call 55; refine (rnarrow_any _ _).mono ?_; rintro e w' ⟨rfl, rfl⟩)
      | (go_at_call 51; refine (whole_9 _ _ _).mono ?_; rintro e w' ⟨rfl, rfl⟩)
    go_ret2
    exact ⟨by rw [HX.out]; rfl, hf⟩
set_option maxHeartbeats 800000 in
theorem RExact_10 {n : Int} (hb : OkB n) (a b : Int) (w : World) : Calls Try.prog 23 #[.int .i64 10, .int .i64 a, .int .i64 b, .int .i64 n] w fun e w' => e = .returned (.tuple #[.bool (exR 10 (nrm a n) (nrm b n) n), .int .i64 0]) ∧ Fr w w' := by
  have H := Lib.hid hb
  have he : appE 10 b n = 0 := by simp [appE, show okB n = true from by simpa [okB] using hb]
  have HE := Lib.hid he
  have HV : Hid (appV 10 a b n = nrm (opv 10 (nrm a n) (nrm b n) n) n) := by unfold Hid appV; rw [if_pos he]; rfl
  obtain ⟨a1, a2⟩ := nrm_bd (v := a) hb
  obtain ⟨b1, b2⟩ := nrm_bd (v := b) hb
  clear hb he
  rcases Bool.eq_false_or_eq_true (nar (nrm a n)) with hA | hA
  · rcases Bool.eq_false_or_eq_true (nar (nrm b n)) with hB | hB
    · rcases Bool.eq_false_or_eq_true (nar (nrm (opv 10 (nrm a n) (nrm b n) n) n)) with hW | hW
      · have HX : Hid (exR 10 (nrm a n) (nrm b n) n = true) := by unfold Hid; simp [exR, hA, hB, hW]
        go_enter Try.func23, Try.ntmps23
        go_wp2_with first
          | (go_at_call 21; refine (RApply_any _ _ _ _ _).mono ?_; rintro e w1 ⟨rfl, hf⟩; unfold appR; rw [HV.out, HE.out])
          | (go_at_call 46; refine (norm_any H.out _ _).mono ?_; rintro e w' ⟨rfl, rfl⟩)
          | (go_at_call 55; refine (rnarrow_any _ _).mono ?_; rintro e w' ⟨rfl, rfl⟩)
          | (go_at_call 51; refine (whole_10 _ _ _).mono ?_; rintro e w' ⟨rfl, rfl⟩)
        go_ret2
        exact ⟨by rw [HX.out]; rfl, hf⟩
      · have HX : Hid (exR 10 (nrm a n) (nrm b n) n = false) := by unfold Hid; simp [exR, hW]
        go_enter Try.func23, Try.ntmps23
        go_wp2_with first
          | (go_at_call 21; refine (RApply_any _ _ _ _ _).mono ?_; rintro e w1 ⟨rfl, hf⟩; unfold appR; rw [HV.out, HE.out])
          | (go_at_call 46; refine (norm_any H.out _ _).mono ?_; rintro e w' ⟨rfl, rfl⟩)
          | (go_at_call 55; refine (rnarrow_any _ _).mono ?_; rintro e w' ⟨rfl, rfl⟩)
          | (go_at_call 51; refine (whole_10 _ _ _).mono ?_; rintro e w' ⟨rfl, rfl⟩)
        go_ret2
        exact ⟨by rw [HX.out]; rfl, hf⟩
    · have HX : Hid (exR 10 (nrm a n) (nrm b n) n = false) := by unfold Hid; simp [exR, hB]
      go_enter Try.func23, Try.ntmps23
      go_wp2_with first
        | (go_at_call 21; refine (RApply_any _ _ _ _ _).mono ?_; rintro e w1 ⟨rfl, hf⟩; unfold appR; rw [HV.out, HE.out])
        | (go_at_call 46; refine (norm_any H.out _ _).mono ?_; rintro e w' ⟨rfl, rfl⟩)
        | (go_at_call 55; refine (rnarrow_any _ _).mono ?_; rintro e w' ⟨rfl, rfl⟩)
        | (go_at_call 51; refine (whole_10 _ _ _).mono ?_; rintro e w' ⟨rfl, rfl⟩)
      go_ret2
      exact ⟨by rw [HX.out]; rfl, hf⟩
  · have HX : Hid (exR 10 (nrm a n) (nrm b n) n = false) := by unfold Hid; simp [exR, hA]
    go_enter Try.func23, Try.ntmps23
    go_wp2_with first
      | (go_at_call 21; refine (RApply_any _ _ _ _ _).mono ?_; rintro e w1 ⟨rfl, hf⟩; unfold appR; rw [HV.out, HE.out])
      | (go_at_call 46; refine (norm_any H.out _ _).mono ?_; rintro e w' ⟨rfl, rfl⟩)
      | (go_at_call 55; refine (rnarrow_any _ _).mono ?_; rintro e w' ⟨rfl, rfl⟩)
      | (go_at_call 51; refine (whole_10 _ _ _).mono ?_; rintro e w' ⟨rfl, rfl⟩)
    go_ret2
    exact ⟨by rw [HX.out]; rfl, hf⟩
set_option maxHeartbeats 800000 in
theorem RExact_11 {n : Int} (hb : OkB n) (a b : Int) (w : World) : Calls Try.prog 23 #[.int .i64 11, .int .i64 a, .int .i64 b, .int .i64 n] w fun e w' => e = .returned (.tuple #[.bool (exR 11 (nrm a n) (nrm b n) n), .int .i64 0]) ∧ Fr w w' := by
  have H := Lib.hid hb
  have he : appE 11 b n = 0 := by simp [appE, show okB n = true from by simpa [okB] using hb]
  have HE := Lib.hid he
  have HV : Hid (appV 11 a b n = nrm (opv 11 (nrm a n) (nrm b n) n) n) := by unfold Hid appV; rw [if_pos he]; rfl
  obtain ⟨a1, a2⟩ := nrm_bd (v := a) hb
  obtain ⟨b1, b2⟩ := nrm_bd (v := b) hb
  clear hb he
  rcases Bool.eq_false_or_eq_true (nar (nrm a n)) with hA | hA
  · rcases Bool.eq_false_or_eq_true (nar (nrm b n)) with hB | hB
    · rcases Bool.eq_false_or_eq_true (nar (nrm (opv 11 (nrm a n) (nrm b n) n) n)) with hW | hW
      · have HX : Hid (exR 11 (nrm a n) (nrm b n) n = true) := by unfold Hid; simp [exR, hA, hB, hW]
        go_enter Try.func23, Try.ntmps23
        go_wp2_with first
          | (go_at_call 21; refine (RApply_any _ _ _ _ _).mono ?_; rintro e w1 ⟨rfl, hf⟩; unfold appR; rw [HV.out, HE.out])
          | (go_at_call 46; refine (norm_any H.out _ _).mono ?_; rintro e w' ⟨rfl, rfl⟩)
          | (go_at_call 55; refine (rnarrow_any _ _).mono ?_; rintro e w' ⟨rfl, rfl⟩)
          | (go_at_call 51; refine (whole_11 _ _ _).mono ?_; rintro e w' ⟨rfl, rfl⟩)
        go_ret2
        exact ⟨by rw [HX.out]; rfl, hf⟩
      · have HX : Hid (exR 11 (nrm a n) (nrm b n) n = false) := by unfold Hid; simp [exR, hW]
        go_enter Try.func23, Try.ntmps23
        go_wp2_with first
          | (go_at_call 21; refine (RApply_any _ _ _ _ _).mono ?_; rintro e w1 ⟨rfl, hf⟩; unfold appR; rw [HV.out, HE.out])
          | (go_at_call 46; refine (norm_any H.out _ _).mono ?_; rintro e w' ⟨rfl, rfl⟩)
          | (go_at_call 55; refine (rnarrow_any _ _).mono ?_; rintro e w' ⟨rfl, rfl⟩)
          | (go_at_call 51; refine (whole_11 _ _ _).mono ?_; rintro e w' ⟨rfl, rfl⟩)
        go_ret2
        exact ⟨by rw [HX.out]; rfl, hf⟩
    · have HX : Hid (exR 11 (nrm a n) (nrm b n) n = false) := by unfold Hid; simp [exR, hB]
      go_enter Try.func23, Try.ntmps23
      go_wp2_with first
        | (go_at_call 21; refine (RApply_any _ _ _ _ _).mono ?_; rintro e w1 ⟨rfl, hf⟩; unfold appR; rw [HV.out, HE.out])
        | (go_at_call 46; refine (norm_any H.out _ _).mono ?_; rintro e w' ⟨rfl, rfl⟩)
        | (go_at_call 55; refine (rnarrow_any _ _).mono ?_; rintro e w' ⟨rfl, rfl⟩)
        | (go_at_call 51; refine (whole_11 _ _ _).mono ?_; rintro e w' ⟨rfl, rfl⟩)
      go_ret2
      exact ⟨by rw [HX.out]; rfl, hf⟩
  · have HX : Hid (exR 11 (nrm a n) (nrm b n) n = false) := by unfold Hid; simp [exR, hA]
    go_enter Try.func23, Try.ntmps23
    go_wp2_with first
      | (go_at_call 21; refine (RApply_any _ _ _ _ _).mono ?_; rintro e w1 ⟨rfl, hf⟩; unfold appR; rw [HV.out, HE.out])
      | (go_at_call 46; refine (norm_any H.out _ _).mono ?_; rintro e w' ⟨rfl, rfl⟩)
      | (go_at_call 55; refine (rnarrow_any _ _).mono ?_; rintro e w' ⟨rfl, rfl⟩)
      | (go_at_call 51; refine (whole_11 _ _ _).mono ?_; rintro e w' ⟨rfl, rfl⟩)
    go_ret2
    exact ⟨by rw [HX.out]; rfl, hf⟩
set_option maxHeartbeats 800000 in
theorem RExact_12 {n : Int} (hb : OkB n) (a b : Int) (w : World) : Calls Try.prog 23 #[.int .i64 12, .int .i64 a, .int .i64 b, .int .i64 n] w fun e w' => e = .returned (.tuple #[.bool (exR 12 (nrm a n) (nrm b n) n), .int .i64 0]) ∧ Fr w w' := by
  have H := Lib.hid hb
  have he : appE 12 b n = 0 := by simp [appE, show okB n = true from by simpa [okB] using hb]
  have HE := Lib.hid he
  have HV : Hid (appV 12 a b n = nrm (opv 12 (nrm a n) (nrm b n) n) n) := by unfold Hid appV; rw [if_pos he]; rfl
  obtain ⟨a1, a2⟩ := nrm_bd (v := a) hb
  obtain ⟨b1, b2⟩ := nrm_bd (v := b) hb
  clear hb he
  rcases Bool.eq_false_or_eq_true (nar (nrm a n)) with hA | hA
  · rcases Bool.eq_false_or_eq_true (nar (nrm b n)) with hB | hB
    · rcases Bool.eq_false_or_eq_true (nar (nrm (opv 12 (nrm a n) (nrm b n) n) n)) with hW | hW
      · have HX : Hid (exR 12 (nrm a n) (nrm b n) n = (opv 12 (nrm a n) (nrm b n) n == nrm (opv 12 (nrm a n) (nrm b n) n) n)) := by unfold Hid; simp [exR, hA, hB, hW]
        go_enter Try.func23, Try.ntmps23
        go_wp2_with first
          | (go_at_call 21; refine (RApply_any _ _ _ _ _).mono ?_; rintro e w1 ⟨rfl, hf⟩; unfold appR; rw [HV.out, HE.out])
          | (go_at_call 46; refine (norm_any H.out _ _).mono ?_; rintro e w' ⟨rfl, rfl⟩)
          | (go_at_call 55; refine (rnarrow_any _ _).mono ?_; rintro e w' ⟨rfl, rfl⟩)
          | (go_at_call 51; refine (whole_12 _ _ n a1 a2 b1 b2 _).mono ?_; rintro e w' ⟨rfl, rfl⟩)
        go_ret2
        exact ⟨by rw [HX.out]; rfl, hf⟩
      · have HX : Hid (exR 12 (nrm a n) (nrm b n) n = false) := by unfold Hid; simp [exR, hW]
        go_enter Try.func23, Try.ntmps23
        go_wp2_with first
          | (go_at_call 21; refine (RApply_any _ _ _ _ _).mono ?_; rintro e w1 ⟨rfl, hf⟩; unfold appR; rw [HV.out, HE.out])
          | (go_at_call 46; refine (norm_any H.out _ _).mono ?_; rintro e w' ⟨rfl, rfl⟩)
          | (go_at_call 55; refine (rnarrow_any _ _).mono ?_; rintro e w' ⟨rfl, rfl⟩)
          | (go_at_call 51; refine (whole_12 _ _ n a1 a2 b1 b2 _).mono ?_; rintro e w' ⟨rfl, rfl⟩)
        go_ret2
        exact ⟨by rw [HX.out]; rfl, hf⟩
    · have HX : Hid (exR 12 (nrm a n) (nrm b n) n = false) := by unfold Hid; simp [exR, hB]
      go_enter Try.func23, Try.ntmps23
      go_wp2_with first
        | (go_at_call 21; refine (RApply_any _ _ _ _ _).mono ?_; rintro e w1 ⟨rfl, hf⟩; unfold appR; rw [HV.out, HE.out])
        | (go_at_call 46; refine (norm_any H.out _ _).mono ?_; rintro e w' ⟨rfl, rfl⟩)
        | (go_at_call 55; refine (rnarrow_any _ _).mono ?_; rintro e w' ⟨rfl, rfl⟩)
        | (go_at_call 51; refine (whole_12 _ _ n a1 a2 b1 b2 _).mono ?_; rintro e w' ⟨rfl, rfl⟩)
      go_ret2
      exact ⟨by rw [HX.out]; rfl, hf⟩
  · have HX : Hid (exR 12 (nrm a n) (nrm b n) n = false) := by unfold Hid; simp [exR, hA]
    go_enter Try.func23, Try.ntmps23
    go_wp2_with first
      | (go_at_call 21; refine (RApply_any _ _ _ _ _).mono ?_; rintro e w1 ⟨rfl, hf⟩; unfold appR; rw [HV.out, HE.out])
      | (go_at_call 46; refine (norm_any H.out _ _).mono ?_; rintro e w' ⟨rfl, rfl⟩)
      | (go_at_call 55; refine (rnarrow_any _ _).mono ?_; rintro e w' ⟨rfl, rfl⟩)
      | (go_at_call 51; refine (whole_12 _ _ n a1 a2 b1 b2 _).mono ?_; rintro e w' ⟨rfl, rfl⟩)
    go_ret2
    exact ⟨by rw [HX.out]; rfl, hf⟩
set_option maxHeartbeats 800000 in
theorem RExact_13 {n : Int} (hb : OkB n) (a b : Int) (w : World) : Calls Try.prog 23 #[.int .i64 13, .int .i64 a, .int .i64 b, .int .i64 n] w fun e w' => e = .returned (.tuple #[.bool (exR 13 (nrm a n) (nrm b n) n), .int .i64 0]) ∧ Fr w w' := by
  have H := Lib.hid hb
  have he : appE 13 b n = 0 := by simp [appE, show okB n = true from by simpa [okB] using hb]
  have HE := Lib.hid he
  have HV : Hid (appV 13 a b n = nrm (opv 13 (nrm a n) (nrm b n) n) n) := by unfold Hid appV; rw [if_pos he]; rfl
  obtain ⟨a1, a2⟩ := nrm_bd (v := a) hb
  obtain ⟨b1, b2⟩ := nrm_bd (v := b) hb
  clear hb he
  rcases Bool.eq_false_or_eq_true (nar (nrm a n)) with hA | hA
  · rcases Bool.eq_false_or_eq_true (nar (nrm b n)) with hB | hB
    · rcases Bool.eq_false_or_eq_true (nar (nrm (opv 13 (nrm a n) (nrm b n) n) n)) with hW | hW
      · have HX : Hid (exR 13 (nrm a n) (nrm b n) n = (opv 13 (nrm a n) (nrm b n) n == nrm (opv 13 (nrm a n) (nrm b n) n) n)) := by unfold Hid; simp [exR, hA, hB, hW]
        go_enter Try.func23, Try.ntmps23
        go_wp2_with first
          | (go_at_call 21; refine (RApply_any _ _ _ _ _).mono ?_; rintro e w1 ⟨rfl, hf⟩; unfold appR; rw [HV.out, HE.out])
          | (go_at_call 46; refine (norm_any H.out _ _).mono ?_; rintro e w' ⟨rfl, rfl⟩)
          | (go_at_call 55; refine (rnarrow_any _ _).mono ?_; rintro e w' ⟨rfl, rfl⟩)
          | (go_at_call 51; refine (whole_13 _ _ n a1 a2 b1 b2 _).mono ?_; rintro e w' ⟨rfl, rfl⟩)
        go_ret2
        exact ⟨by rw [HX.out]; rfl, hf⟩
      · have HX : Hid (exR 13 (nrm a n) (nrm b n) n = false) := by unfold Hid; simp [exR, hW]
        go_enter Try.func23, Try.ntmps23
        go_wp2_with first
          | (go_at_call 21; refine (RApply_any _ _ _ _ _).mono ?_; rintro e w1 ⟨rfl, hf⟩; unfold appR; rw [HV.out, HE.out])
          | (go_at_call 46; refine (norm_any H.out _ _).mono ?_; rintro e w' ⟨rfl, rfl⟩)
          | (go_at_call 55; refine (rnarrow_any _ _).mono ?_; rintro e w' ⟨rfl, rfl⟩)
          | (go_at_call 51; refine (whole_13 _ _ n a1 a2 b1 b2 _).mono ?_; rintro e w' ⟨rfl, rfl⟩)
        go_ret2
        exact ⟨by rw [HX.out]; rfl, hf⟩
    · have HX : Hid (exR 13 (nrm a n) (nrm b n) n = false) := by unfold Hid; simp [exR, hB]
      go_enter Try.func23, Try.ntmps23
      go_wp2_with first
        | (go_at_call 21; refine (RApply_any _ _ _ _ _).mono ?_; rintro e w1 ⟨rfl, hf⟩; unfold appR; rw [HV.out, HE.out])
        | (go_at_call 46; refine (norm_any H.out _ _).mono ?_; rintro e w' ⟨rfl, rfl⟩)
        | (go_at_call 55; refine (rnarrow_any _ _).mono ?_; rintro e w' ⟨rfl, rfl⟩)
        | (go_at_call 51; refine (whole_13 _ _ n a1 a2 b1 b2 _).mono ?_; rintro e w' ⟨rfl, rfl⟩)
      go_ret2
      exact ⟨by rw [HX.out]; rfl, hf⟩
  · have HX : Hid (exR 13 (nrm a n) (nrm b n) n = false) := by unfold Hid; simp [exR, hA]
    go_enter Try.func23, Try.ntmps23
    go_wp2_with first
      | (go_at_call 21; refine (RApply_any _ _ _ _ _).mono ?_; rintro e w1 ⟨rfl, hf⟩; unfold appR; rw [HV.out, HE.out])
      | (go_at_call 46; refine (norm_any H.out _ _).mono ?_; rintro e w' ⟨rfl, rfl⟩)
      | (go_at_call 55; refine (rnarrow_any _ _).mono ?_; rintro e w' ⟨rfl, rfl⟩)
      | (go_at_call 51; refine (whole_13 _ _ n a1 a2 b1 b2 _).mono ?_; rintro e w' ⟨rfl, rfl⟩)
    go_ret2
    exact ⟨by rw [HX.out]; rfl, hf⟩
set_option maxHeartbeats 800000 in
theorem RExact_14 {n : Int} (hb : OkB n) (a b : Int) (w : World) : Calls Try.prog 23 #[.int .i64 14, .int .i64 a, .int .i64 b, .int .i64 n] w fun e w' => e = .returned (.tuple #[.bool (exR 14 (nrm a n) (nrm b n) n), .int .i64 0]) ∧ Fr w w' := by
  have H := Lib.hid hb
  have he : appE 14 b n = 0 := by simp [appE, show okB n = true from by simpa [okB] using hb]
  have HE := Lib.hid he
  have HV : Hid (appV 14 a b n = nrm (opv 14 (nrm a n) (nrm b n) n) n) := by unfold Hid appV; rw [if_pos he]; rfl
  obtain ⟨a1, a2⟩ := nrm_bd (v := a) hb
  obtain ⟨b1, b2⟩ := nrm_bd (v := b) hb
  clear hb he
  rcases Bool.eq_false_or_eq_true (nar (nrm a n)) with hA | hA
  · rcases Bool.eq_false_or_eq_true (nar (nrm b n)) with hB | hB
    · rcases Bool.eq_false_or_eq_true (nar (nrm (opv 14 (nrm a n) (nrm b n) n) n)) with hW | hW
      · have HX : Hid (exR 14 (nrm a n) (nrm b n) n = (opv 14 (nrm a n) (nrm b n) n == nrm (opv 14 (nrm a n) (nrm b n) n) n)) := by unfold Hid; simp [exR, hA, hB, hW]
        go_enter Try.func23, Try.ntmps23
        go_wp2_with first
          | (go_at_call 21; refine (RApply_any _ _ _ _ _).mono ?_; rintro e w1 ⟨rfl, hf⟩; unfold appR; rw [HV.out, HE.out])
          | (go_at_call 46; refine (norm_any H.out _ _).mono ?_; rintro e w' ⟨rfl, rfl⟩)
          | (go_at_call 55; refine (rnarrow_any _ _).mono ?_; rintro e w' ⟨rfl, rfl⟩)
          | (go_at_call 51; refine (whole_14 _ _ n a1 a2 b1 b2 _).mono ?_; rintro e w' ⟨rfl, rfl⟩)
        go_ret2
        exact ⟨by rw [HX.out]; rfl, hf⟩
      · have HX : Hid (exR 14 (nrm a n) (nrm b n) n = false) := by unfold Hid; simp [exR, hW]
        go_enter Try.func23, Try.ntmps23
        go_wp2_with first
          | (go_at_call 21; refine (RApply_any _ _ _ _ _).mono ?_; rintro e w1 ⟨rfl, hf⟩; unfold appR; rw [HV.out, HE.out])
          | (go_at_call 46; refine (norm_any H.out _ _).mono ?_; rintro e w' ⟨rfl, rfl⟩)
          | (go_at_call 55; refine (rnarrow_any _ _).mono ?_; rintro e w' ⟨rfl, rfl⟩)
          | (go_at_call 51; refine (whole_14 _ _ n a1 a2 b1 b2 _).mono ?_; rintro e w' ⟨rfl, rfl⟩)
        go_ret2
        exact ⟨by rw [HX.out]; rfl, hf⟩
    · have HX : Hid (exR 14 (nrm a n) (nrm b n) n = false) := by unfold Hid; simp [exR, hB]
      go_enter Try.func23, Try.ntmps23
      go_wp2_with first
        | (go_at_call 21; refine (RApply_any _ _ _ _ _).mono ?_; rintro e w1 ⟨rfl, hf⟩; unfold appR; rw [HV.out, HE.out])
        | (go_at_call 46; refine (norm_any H.out _ _).mono ?_; rintro e w' ⟨rfl, rfl⟩)
        | (go_at_call 55; refine (rnarrow_any _ _).mono ?_; rintro e w' ⟨rfl, rfl⟩)
        | (go_at_call 51; refine (whole_14 _ _ n a1 a2 b1 b2 _).mono ?_; rintro e w' ⟨rfl, rfl⟩)
      go_ret2
      exact ⟨by rw [HX.out]; rfl, hf⟩
  · have HX : Hid (exR 14 (nrm a n) (nrm b n) n = false) := by unfold Hid; simp [exR, hA]
    go_enter Try.func23, Try.ntmps23
    go_wp2_with first
      | (go_at_call 21; refine (RApply_any _ _ _ _ _).mono ?_; rintro e w1 ⟨rfl, hf⟩; unfold appR; rw [HV.out, HE.out])
      | (go_at_call 46; refine (norm_any H.out _ _).mono ?_; rintro e w' ⟨rfl, rfl⟩)
      | (go_at_call 55; refine (rnarrow_any _ _).mono ?_; rintro e w' ⟨rfl, rfl⟩)
      | (go_at_call 51; refine (whole_14 _ _ n a1 a2 b1 b2 _).mono ?_; rintro e w' ⟨rfl, rfl⟩)
    go_ret2
    exact ⟨by rw [HX.out]; rfl, hf⟩
set_option maxHeartbeats 800000 in
theorem RExact_15 {n : Int} (hb : OkB n) (a b : Int) (w : World) : Calls Try.prog 23 #[.int .i64 15, .int .i64 a, .int .i64 b, .int .i64 n] w fun e w' => e = .returned (.tuple #[.bool (exR 15 (nrm a n) (nrm b n) n), .int .i64 0]) ∧ Fr w w' := by
  have H := Lib.hid hb
  have he : appE 15 b n = 0 := by simp [appE, show okB n = true from by simpa [okB] using hb]
  have HE := Lib.hid he
  have HV : Hid (appV 15 a b n = nrm (opv 15 (nrm a n) (nrm b n) n) n) := by unfold Hid appV; rw [if_pos he]; rfl
  obtain ⟨a1, a2⟩ := nrm_bd (v := a) hb
  obtain ⟨b1, b2⟩ := nrm_bd (v := b) hb
  clear hb he
  rcases Bool.eq_false_or_eq_true (nar (nrm a n)) with hA | hA
  · rcases Bool.eq_false_or_eq_true (nar (nrm b n)) with hB | hB
    · rcases Bool.eq_false_or_eq_true (nar (nrm (opv 15 (nrm a n) (nrm b n) n) n)) with hW | hW
      · have HX : Hid (exR 15 (nrm a n) (nrm b n) n = (opv 15 (nrm a n) (nrm b n) n == nrm (opv 15 (nrm a n) (nrm b n) n) n)) := by unfold Hid; simp [exR, hA, hB, hW]
        go_enter Try.func23, Try.ntmps23
        go_wp2_with first
          | (go_at_call 21; refine (RApply_any _ _ _ _ _).mono ?_; rintro e w1 ⟨rfl, hf⟩; unfold appR; rw [HV.out, HE.out])
          | (go_at_call 46; refine (norm_any H.out _ _).mono ?_; rintro e w' ⟨rfl, rfl⟩)
          | (go_at_call 55; refine (rnarrow_any _ _).mono ?_; rintro e w' ⟨rfl, rfl⟩)
          | (go_at_call 51; refine (whole_15 _ _ n a1 a2 b1 b2 _).mono ?_; rintro e w' ⟨rfl, rfl⟩)
        go_ret2
        exact ⟨by rw [HX.out]; rfl, hf⟩
      · have HX : Hid (exR 15 (nrm a n) (nrm b n) n = false) := by unfold Hid; simp [exR, hW]
        go_enter Try.func23, Try.ntmps23
        go_wp2_with first
          | (go_at_call 21; refine (RApply_any _ _ _ _ _).mono ?_; rintro e w1 ⟨rfl, hf⟩; unfold appR; rw [HV.out, HE.out])
          | (go_at_call 46; refine (norm_any H.out _ _).mono ?_; rintro e w' ⟨rfl, rfl⟩)
          | (go_at_call 55; refine (rnarrow_any _ _).mono ?_; rintro e w' ⟨rfl, rfl⟩)
          | (go_at_call 51; refine (whole_15 _ _ n a1 a2 b1 b2 _).mono ?_; rintro e w' ⟨rfl, rfl⟩)
        go_ret2
        exact ⟨by rw [HX.out]; rfl, hf⟩
    · have HX : Hid (exR 15 (nrm a n) (nrm b n) n = false) := by unfold Hid; simp [exR, hB]
      go_enter Try.func23, Try.ntmps23
      go_wp2_with first
        | (go_at_call 21; refine (RApply_any _ _ _ _ _).mono ?_; rintro e w1 ⟨rfl, hf⟩; unfold appR; rw [HV.out, HE.out])
        | (go_at_call 46; refine (norm_any H.out _ _).mono ?_; rintro e w' ⟨rfl, rfl⟩)
        | (go_at_call 55; refine (rnarrow_any _ _).mono ?_; rintro e w' ⟨rfl, rfl⟩)
        | (go_at_call 51; refine (whole_15 _ _ n a1 a2 b1 b2 _).mono ?_; rintro e w' ⟨rfl, rfl⟩)
      go_ret2
      exact ⟨by rw [HX.out]; rfl, hf⟩
  · have HX : Hid (exR 15 (nrm a n) (nrm b n) n = false) := by unfold Hid; simp [exR, hA]
    go_enter Try.func23, Try.ntmps23
    go_wp2_with first
      | (go_at_call 21; refine (RApply_any _ _ _ _ _).mono ?_; rintro e w1 ⟨rfl, hf⟩; unfold appR; rw [HV.out, HE.out])
      | (go_at_call 46; refine (norm_any H.out _ _).mono ?_; rintro e w' ⟨rfl, rfl⟩)
      | (go_at_call 55; refine (rnarrow_any _ _).mono ?_; rintro e w' ⟨rfl, rfl⟩)
      | (go_at_call 51; refine (whole_15 _ _ n a1 a2 b1 b2 _).mono ?_; rintro e w' ⟨rfl, rfl⟩)
    go_ret2
    exact ⟨by rw [HX.out]; rfl, hf⟩
set_option maxHeartbeats 800000 in
theorem RExact_16 {n : Int} (hb : OkB n) (a b : Int) (w : World) : Calls Try.prog 23 #[.int .i64 16, .int .i64 a, .int .i64 b, .int .i64 n] w fun e w' => e = .returned (.tuple #[.bool (exR 16 (nrm a n) (nrm b n) n), .int .i64 0]) ∧ Fr w w' := by
  have H := Lib.hid hb
  have he : appE 16 b n = 0 := by simp [appE, show okB n = true from by simpa [okB] using hb]
  have HE := Lib.hid he
  have HV : Hid (appV 16 a b n = nrm (opv 16 (nrm a n) (nrm b n) n) n) := by unfold Hid appV; rw [if_pos he]; rfl
  obtain ⟨a1, a2⟩ := nrm_bd (v := a) hb
  obtain ⟨b1, b2⟩ := nrm_bd (v := b) hb
  clear hb he
  rcases Bool.eq_false_or_eq_true (nar (nrm a n)) with hA | hA
  · rcases Bool.eq_false_or_eq_true (nar (nrm b n)) with hB | hB
    · rcases Bool.eq_false_or_eq_true (nar (nrm (opv 16 (nrm a n) (nrm b n) n) n)) with hW | hW
      · have HX : Hid (exR 16 (nrm a n) (nrm b n) n = (opv 16 (nrm a n) (nrm b n) n == nrm (opv 16 (nrm a n) (nrm b n) n) n)) := by unfold Hid; simp [exR, hA, hB, hW]
        go_enter Try.func23, Try.ntmps23
        go_wp2_with first
          | (go_at_call 21; refine (RApply_any _ _ _ _ _).mono ?_; rintro e w1 ⟨rfl, hf⟩; unfold appR; rw [HV.out, HE.out])
          | (go_at_call 46; refine (norm_any H.out _ _).mono ?_; rintro e w' ⟨rfl, rfl⟩)
          | (go_at_call 55; refine (rnarrow_any _ _).mono ?_; rintro e w' ⟨rfl, rfl⟩)
          | (go_at_call 51; refine (whole_16 _ _ n a1 a2 b1 b2 _).mono ?_; rintro e w' ⟨rfl, rfl⟩)
        go_ret2
        exact ⟨by rw [HX.out]; rfl, hf⟩
      · have HX : Hid (exR 16 (nrm a n) (nrm b n) n = false) := by unfold Hid; simp [exR, hW]
        go_enter Try.func23, Try.ntmps23
        go_wp2_with first
          | (go_at_call 21; refine (RApply_any _ _ _ _ _).mono ?_; rintro e w1 ⟨rfl, hf⟩; unfold appR; rw [HV.out, HE.out])
          | (go_at_call 46; refine (norm_any H.out _ _).mono ?_; rintro e w' ⟨rfl, rfl⟩)
          | (go_at_call 55; refine (rnarrow_any _ _).mono ?_; rintro e w' ⟨rfl, rfl⟩)
          | (go_at_call 51; refine (whole_16 _ _ n a1 a2 b1 b2 _).mono ?_; rintro e w' ⟨rfl, rfl⟩)
        go_ret2
        exact ⟨by rw [HX.out]; rfl, hf⟩
    · have HX : Hid (exR 16 (nrm a n) (nrm b n) n = false) := by unfold Hid; simp [exR, hB]
      go_enter Try.func23, Try.ntmps23
      go_wp2_with first
        | (go_at_call 21; refine (RApply_any _ _ _ _ _).mono ?_; rintro e w1 ⟨rfl, hf⟩; unfold appR; rw [HV.out, HE.out])
        | (go_at_call 46; refine (norm_any H.out _ _).mono ?_; rintro e w' ⟨rfl, rfl⟩)
        | (go_at_call 55; refine (rnarrow_any _ _).mono ?_; rintro e w' ⟨rfl, rfl⟩)
        | (go_at_call 51; refine (whole_16 _ _ n a1 a2 b1 b2 _).mono ?_; rintro e w' ⟨rfl, rfl⟩)
      go_ret2
      exact ⟨by rw [HX.out]; rfl, hf⟩
  · have HX : Hid (exR 16 (nrm a n) (nrm b n) n = false) := by unfold Hid; simp [exR, hA]
    go_enter Try.func23, Try.ntmps23
    go_wp2_with first
      | (go_at_call 21; refine (RApply_any _ _ _ _ _).mono ?_; rintro e w1 ⟨rfl, hf⟩; unfold appR; rw [HV.out, HE.out])
      | (go_at_call 46; refine (norm_any H.out _ _).mono ?_; rintro e w' ⟨rfl, rfl⟩)
      | (go_at_call 55; refine (rnarrow_any _ _).mono ?_; rintro e w' ⟨rfl, rfl⟩)
      | (go_at_call 51; refine (whole_16 _ _ n a1 a2 b1 b2 _).mono ?_; rintro e w' ⟨rfl, rfl⟩)
    go_ret2
    exact ⟨by rw [HX.out]; rfl, hf⟩
set_option maxHeartbeats 800000 in
theorem RExact_17 {n : Int} (hb : OkB n) (a b : Int) (w : World) : Calls Try.prog 23 #[.int .i64 17, .int .i64 a, .int .i64 b, .int .i64 n] w fun e w' => e = .returned (.tuple #[.bool (exR 17 (nrm a n) (nrm b n) n), .int .i64 0]) ∧ Fr w w' := by
  have H := Lib.hid hb
  have he : appE 17 b n = 0 := by simp [appE, show okB n = true from by simpa [okB] using hb]
  have HE := Lib.hid he
  have HV : Hid (appV 17 a b n = nrm (opv 17 (nrm a n) (nrm b n) n) n) := by unfold Hid appV; rw [if_pos he]; rfl
  obtain ⟨a1, a2⟩ := nrm_bd (v := a) hb
  obtain ⟨b1, b2⟩ := nrm_bd (v := b) hb
  clear hb he
  rcases Bool.eq_false_or_eq_true (nar (nrm a n)) with hA | hA
  · rcases Bool.eq_false_or_eq_true (nar (nrm b n)) with hB | hB
    · rcases Bool.eq_false_or_eq_true (nar (nrm (opv 17 (nrm a n) (nrm b n) n) n)) with hW | hW
      · have HX : Hid (exR 17 (nrm a n) (nrm b n) n = (opv 17 (nrm a n) (nrm b n) n == nrm (opv 17 (nrm a n) (nrm b n) n) n)) := by unfold Hid; simp [exR, hA, hB, hW]
        go_enter Try.func23, Try.ntmps23
        go_wp2_with first
          | (go_at_call 21; refine (RApply_any _ _ _ _ _).mono ?_; rintro e w1 ⟨rfl, hf⟩; unfold appR; rw [HV.out, HE.out])
          | (go_at_call 46; refine (norm_any H.out _ _).mono ?_; rintro e w' ⟨rfl, rfl⟩)
          | (go_at_call 55; refine (rnarrow_any _ _).mono ?_; rintro e w' ⟨rfl, rfl⟩)
          | (go_at_call 51; refine (whole_17 _ _ n a1 a2 b1 b2 _).mono ?_; rintro e w' ⟨rfl, rfl⟩)
        go_ret2
        exact ⟨by rw [HX.out]; rfl, hf⟩
      · have HX : Hid (exR 17 (nrm a n) (nrm b n) n = false) := by unfold Hid; simp [exR, hW]
        go_enter Try.func23, Try.ntmps23
        go_wp2_with first
          | (go_at_call 21; refine (RApply_any _ _ _ _ _).mono ?_; rintro e w1 ⟨rfl, hf⟩; unfold appR; rw [HV.out, HE.out])
          | (go_at_call 46; refine (norm_any H.out _ _).mono ?_; rintro e w' ⟨rfl, rfl⟩)
          | (go_at_call 55; refine (rnarrow_any _ _).mono ?_; rintro e w' ⟨rfl, rfl⟩)
          | (go_at_call 51; refine (whole_17 _ _ n a1 a2 b1 b2 _).mono ?_; rintro e w' ⟨rfl, rfl⟩)
        go_ret2
        exact ⟨by rw [HX.out]; rfl, hf⟩
    · have HX : Hid (exR 17 (nrm a n) (nrm b n) n = false) := by unfold Hid; simp [exR, hB]
      go_enter Try.func23, Try.ntmps23
      go_wp2_with first
        | (go_at_call 21; refine (RApply_any _ _ _ _ _).mono ?_; rintro e w1 ⟨rfl, hf⟩; unfold appR; rw [HV.out, HE.out])
        | (go_at_call 46; refine (norm_any H.out _ _).mono ?_; rintro e w' ⟨rfl, rfl⟩)
        | (go_at_call 55; refine (rnarrow_any _ _).mono ?_; rintro e w' ⟨rfl, rfl⟩)
        | (go_at_call 51; refine (whole_17 _ _ n a1 a2 b1 b2 _).mono ?_; rintro e w' ⟨rfl, rfl⟩)
      go_ret2
      exact ⟨by rw [HX.out]; rfl, hf⟩
  · have HX : Hid (exR 17 (nrm a n) (nrm b n) n = false) := by unfold Hid; simp [exR, hA]
    go_enter Try.func23, Try.ntmps23
    go_wp2_with first
      | (go_at_call 21; refine (RApply_any _ _ _ _ _).mono ?_; rintro e w1 ⟨rfl, hf⟩; unfold appR; rw [HV.out, HE.out])
      | (go_at_call 46; refine (norm_any H.out _ _).mono ?_; rintro e w' ⟨rfl, rfl⟩)
      | (go_at_call 55; refine (rnarrow_any _ _).mono ?_; rintro e w' ⟨rfl, rfl⟩)
      | (go_at_call 51; refine (whole_17 _ _ n a1 a2 b1 b2 _).mono ?_; rintro e w' ⟨rfl, rfl⟩)
    go_ret2
    exact ⟨by rw [HX.out]; rfl, hf⟩
set_option maxHeartbeats 800000 in
theorem RExact_18 {n : Int} (hb : OkB n) (a b : Int) (w : World) : Calls Try.prog 23 #[.int .i64 18, .int .i64 a, .int .i64 b, .int .i64 n] w fun e w' => e = .returned (.tuple #[.bool (exR 18 (nrm a n) (nrm b n) n), .int .i64 0]) ∧ Fr w w' := by
  have H := Lib.hid hb
  have he : appE 18 b n = 0 := by simp [appE, show okB n = true from by simpa [okB] using hb]
  have HE := Lib.hid he
  have HV : Hid (appV 18 a b n = nrm (opv 18 (nrm a n) (nrm b n) n) n) := by unfold Hid appV; rw [if_pos he]; rfl
  obtain ⟨a1, a2⟩ := nrm_bd (v := a) hb
  obtain ⟨b1, b2⟩ := nrm_bd (v := b) hb
  clear hb he
  rcases Bool.eq_false_or_eq_true (nar (nrm a n)) with hA | hA
  · rcases Bool.eq_false_or_eq_true (nar (nrm (opv 18 (nrm a n) (nrm b n) n) n)) with hW | hW
    · have HX : Hid (exR 18 (nrm a n) (nrm b n) n = (opv 18 (nrm a n) (nrm b n) n == nrm (opv 18 (nrm a n) (nrm b n) n) n)) := by unfold Hid; simp [exR, hA, hW]
      go_enter Try.func23, Try.ntmps23
      go_wp2_with first
        | (go_at_call 21; refine (RApply_any _ _ _ _ _).mono ?_; rintro e w1 ⟨rfl, hf⟩; unfold appR; rw [HV.out, HE.out])
        | (go_at_call 46; refine (norm_any H.out _ _).mono ?_; rintro e w' ⟨rfl, rfl⟩)
        | (go_at_call 55; refine (rnarrow_any _ _).mono ?_; rintro e w' ⟨rfl, rfl⟩)
        | (go_at_call 51; refine (whole_18 _ _ n a1 a2 b1 b2 _).mono ?_; rintro e w' ⟨rfl, rfl⟩)
      go_ret2
      exact ⟨by rw [HX.out]; rfl, hf⟩
    · have HX : Hid (exR 18 (nrm a n) (nrm b n) n = false) := by unfold Hid; simp [exR, hW]
      go_enter Try.func23, Try.ntmps23
      go_wp2_with first
        | (go_at_call 21; refine (RApply_any _ _ _ _ _).mono ?_; rintro e w1 ⟨rfl, hf⟩; unfold appR; rw [HV.out, HE.out])
        | (go_at_call 46; refine (norm_any H.out _ _).mono ?_; rintro e w' ⟨rfl, rfl⟩)
        | (go_at_call 55; refine (rnarrow_any _ _).mono ?_; rintro e w' ⟨rfl, rfl⟩)
        | (go_at_call 51; refine (whole_18 _ _ n a1 a2 b1 b2 _).mono ?_; rintro e w' ⟨rfl, rfl⟩)
      go_ret2
      exact ⟨by rw [HX.out]; rfl, hf⟩
  · have HX : Hid (exR 18 (nrm a n) (nrm b n) n = false) := by unfold Hid; simp [exR, hA]
    go_enter Try.func23, Try.ntmps23
    go_wp2_with first
      | (go_at_call 21; refine (RApply_any _ _ _ _ _).mono ?_; rintro e w1 ⟨rfl, hf⟩; unfold appR; rw [HV.out, HE.out])
      | (go_at_call 46; refine (norm_any H.out _ _).mono ?_; rintro e w' ⟨rfl, rfl⟩)
      | (go_at_call 55; refine (rnarrow_any _ _).mono ?_; rintro e w' ⟨rfl, rfl⟩)
      | (go_at_call 51; refine (whole_18 _ _ n a1 a2 b1 b2 _).mono ?_; rintro e w' ⟨rfl, rfl⟩)
    go_ret2
    exact ⟨by rw [HX.out]; rfl, hf⟩
set_option maxHeartbeats 800000 in
theorem RExact_19 {n : Int} (hb : OkB n) (a b : Int) (w : World) : Calls Try.prog 23 #[.int .i64 19, .int .i64 a, .int .i64 b, .int .i64 n] w fun e w' => e = .returned (.tuple #[.bool (exR 19 (nrm a n) (nrm b n) n), .int .i64 0]) ∧ Fr w w' := by
  have H := Lib.hid hb
  have he : appE 19 b n = 0 := by simp [appE, show okB n = true from by simpa [okB] using hb]
  have HE := Lib.hid he
  have HV : Hid (appV 19 a b n = nrm (opv 19 (nrm a n) (nrm b n) n) n) := by unfold Hid appV; rw [if_pos he]; rfl
  obtain ⟨a1, a2⟩ := nrm_bd (v := a) hb
  obtain ⟨b1, b2⟩ := nrm_bd (v := b) hb
  clear hb he
  rcases Bool.eq_false_or_eq_true (nar (nrm a n)) with hA | hA
  · rcases Bool.eq_false_or_eq_true (nar (nrm (opv 19 (nrm a n) (nrm b n) n) n)) with hW | hW
    · have HX : Hid (exR 19 (nrm a n) (nrm b n) n = (opv 19 (nrm a n) (nrm b n) n == nrm (opv 19 (nrm a n) (nrm b n) n) n)) := by unfold Hid; simp [exR, hA, hW]
      go_enter Try.func23, Try.ntmps23
      go_wp2_with first
        | (go_at_call 21; refine (RApply_any _ _ _ _ _).mono ?_; rintro e w1 ⟨rfl, hf⟩; unfold appR; rw [HV.out, HE.out])
        | (go_at_call 46; refine (norm_any H.out _ _).mono ?_; rintro e w' ⟨rfl, rfl⟩)
        | (go_at_call 55; refine (rnarrow_any _ _).mono ?_; rintro e w' ⟨rfl, rfl⟩)
        | (go_at_call 51; refine (whole_19 _ _ n a1 a2 b1 b2 _).mono ?_; rintro e w' ⟨rfl, rfl⟩)
      go_ret2
      exact ⟨by rw [HX.out]; rfl, hf⟩
    · have HX : Hid (exR 19 (nrm a n) (nrm b n) n = false) := by unfold Hid; simp [exR, hW]
      go_enter Try.func23, Try.ntmps23
      go_wp2_with first
        | (go_at_call 21; refine (RApply_any _ _ _ _ _).mono ?_; rintro e w1 ⟨rfl, hf⟩; unfold appR; rw [HV.out, HE.out])
        | (go_at_call 46; refine (norm_any H.out _ _).mono ?_; rintro e w' ⟨rfl, rfl⟩)
        | (go_at_call 55; refine (rnarrow_any _ _).mono ?_; rintro e w' ⟨rfl, rfl⟩)
        | (go_at_call 51; refine (whole_19 _ _ n a1 a2 b1 b2 _).mono ?_; rintro e w' ⟨rfl, rfl⟩)
      go_ret2
      exact ⟨by rw [HX.out]; rfl, hf⟩
  · have HX : Hid (exR 19 (nrm a n) (nrm b n) n = false) := by unfold Hid; simp [exR, hA]
    go_enter Try.func23, Try.ntmps23
    go_wp2_with first
      | (go_at_call 21; refine (RApply_any _ _ _ _ _).mono ?_; rintro e w1 ⟨rfl, hf⟩; unfold appR; rw [HV.out, HE.out])
      | (go_at_call 46; refine (norm_any H.out _ _).mono ?_; rintro e w' ⟨rfl, rfl⟩)
      | (go_at_call 55; refine (rnarrow_any _ _).mono ?_; rintro e w' ⟨rfl, rfl⟩)
      | (go_at_call 51; refine (whole_19 _ _ n a1 a2 b1 b2 _).mono ?_; rintro e w' ⟨rfl, rfl⟩)
    go_ret2
    exact ⟨by rw [HX.out]; rfl, hf⟩

def rxV (op a b n : Int) : Bool := if appE op b n = 0 then exR op.toNat (nrm a n) (nrm b n) n else false
theorem RExact_no (op a b n : Int) (h : appE op b n ≠ 0) (w : World) : Calls Try.prog 23 #[.int .i64 op, .int .i64 a, .int .i64 b, .int .i64 n] w fun e w' => e = .returned (.tuple #[.bool false, .int .i64 (appE op b n)]) ∧ Fr w w' := by
  have h1 : (appE op b n != 0) = true := by simpa using h
  clear h
  go_enter Try.func23, Try.ntmps23
  go_wp2_with (go_at_call 21; refine (RApply_any _ _ _ _ _).mono ?_; rintro e w' ⟨rfl, hf⟩; unfold appR)
  go_ret2
  exact ⟨rfl, by assumption⟩
theorem RExact_any (op a b n : Int) (w : World) : Calls Try.prog 23 #[.int .i64 op, .int .i64 a, .int .i64 b, .int .i64 n] w fun e w' => e = .returned (.tuple #[.bool (rxV op a b n), .int .i64 (appE op b n)]) ∧ Fr w w' := by
  unfold rxV
  by_cases h : appE op b n = 0
  · rw [if_pos h, h]
    obtain ⟨hb, h1, h2, h3⟩ := appE_ok h
    clear h
    obtain ⟨k, rfl⟩ := Int.eq_ofNat_of_zero_le (show 0 ≤ op by omega)
    rw [Int.toNat_natCast]
    have hk : k = 1 ∨ k = 2 ∨ k = 3 ∨ k = 4 ∨ k = 5 ∨ k = 6 ∨ k = 7 ∨ k = 8 ∨ k = 9 ∨ k = 10 ∨ k = 11 ∨ k = 12 ∨ k = 13 ∨ k = 14 ∨ k = 15 ∨ k = 16 ∨ k = 17 ∨ k = 18 ∨ k = 19 := by omega
    rcases hk with rfl | rfl | rfl | rfl | rfl | rfl | rfl | rfl | rfl | rfl | rfl | rfl | rfl | rfl | rfl | rfl | rfl | rfl | rfl
    · exact RExact_1 hb a b w
    · exact RExact_2 hb a b (h3 (by decide)) w
    · exact RExact_3 hb a b (h3 (by decide)) w
    · exact RExact_4 hb a b w
    · exact RExact_5 hb a b w
    · exact RExact_6 hb a b w
    · exact RExact_7 hb a b w
    · exact RExact_8 hb a b w
    · exact RExact_9 hb a b w
    · exact RExact_10 hb a b w
    · exact RExact_11 hb a b w
    · exact RExact_12 hb a b w
    · exact RExact_13 hb a b w
    · exact RExact_14 hb a b w
    · exact RExact_15 hb a b w
    · exact RExact_16 hb a b w
    · exact RExact_17 hb a b w
    · exact RExact_18 hb a b w
    · exact RExact_19 hb a b w
  · rw [if_neg h]; exact RExact_no op a b n h w
end Go.Proofs.Ytgnhighlkpgjiaa
