/- Contracts of the function that reports whether a word is what whole numbers give. -/
import Derived.Test.YtgnhighlkpgjiaaA
import Derived.Test.YtgnhighlkpgjiaaJ
namespace Go.Proofs.Ytgnhighlkpgjiaa
open Go.RowKit
set_option linter.unusedVariables false

theorem narrow_any (v : Int) (w : World) : Calls Try.prog 54 #[.int .i64 v] w fun e w' => e = .returned (.bool (nar v)) ∧ w = w' := by
  by_cases h1 : -32768 ≤ v
  · by_cases h2 : v ≤ 32767
    · rw [show nar v = true from decide_eq_true ⟨h1, h2⟩]
      go_enter Try.func54, Try.ntmps54
      go_wp2; go_ret; exact ⟨rfl, rfl⟩
    · rw [show nar v = false from decide_eq_false fun h => h2 h.2]
      go_enter Try.func54, Try.ntmps54
      go_wp2; go_ret; exact ⟨rfl, rfl⟩
  · rw [show nar v = false from decide_eq_false fun h => h1 h.1]
    go_enter Try.func54, Try.ntmps54
    go_wp2; go_ret; exact ⟨rfl, rfl⟩
set_option maxHeartbeats 800000 in
theorem Exact_1 {n : Int} (hb : OkB n) (a b : Int) (w : World) : Calls Try.prog 22 #[.int .i64 1, .int .i64 a, .int .i64 b, .int .i64 n] w fun e w' => e = .returned (.tuple #[.bool (exC 1 (nrm a n) (nrm b n) n), .int .i64 0]) ∧ Fr w w' := by
  have H := Lib.hid hb
  have he : appE 1 b n = 0 := by simp [appE, show okB n = true from by simpa [okB] using hb]
  have HE := Lib.hid he
  obtain ⟨a1, a2⟩ := nrm_bd (v := a) hb
  obtain ⟨b1, b2⟩ := nrm_bd (v := b) hb
  clear hb he
  rcases Bool.eq_false_or_eq_true (nar (nrm a n)) with hA | hA
  · rcases Bool.eq_false_or_eq_true (nar (nrm b n)) with hB | hB
    · have HX : Hid (exC 1 (nrm a n) (nrm b n) n = nar (opv 1 (nrm a n) (nrm b n) n)) := by unfold Hid; simp [exC, hA, hB]
      go_enter Try.func22, Try.ntmps22
      go_wp2_with first
        | (go_at_call 49; refine (check_any _ _ _ _).mono ?_; rintro e w' ⟨rfl, rfl⟩; rw [HE.out])
        | (go_at_call 45; refine (normed_any H.out _ _).mono ?_; rintro e w' ⟨rfl, rfl⟩)
        | (go_at_call 50; refine (opOf_any 1 (by decide) (by decide) _).mono ?_; rintro e w' ⟨rfl, hf⟩; rw [show opF 1 = .func (.func 66) #[] #[] from rfl])
        | (go_at_call 66; refine (fn_1 _ _ _ a1 a2 b1 b2 _).mono ?_; rintro e w' ⟨rfl, rfl⟩)
        | (go_at_call 54; refine (narrow_any _ _).mono ?_; rintro e w' ⟨rfl, rfl⟩)
      go_ret2
      exact ⟨by rw [HX.out]; rfl, by first | assumption | exact Fr.refl _⟩
    · have HX : Hid (exC 1 (nrm a n) (nrm b n) n = false) := by unfold Hid; simp [exC, hA, hB]
      go_enter Try.func22, Try.ntmps22
      go_wp2_with first
        | (go_at_call 49; refine (check_any _ _ _ _).mono ?_; rintro e w' ⟨rfl, rfl⟩; rw [HE.out])
        | (go_at_call 45; refine (normed_any H.out _ _).mono ?_; rintro e w' ⟨rfl, rfl⟩)
        | (go_at_call 50; refine (opOf_any 1 (by decide) (by decide) _).mono ?_; rintro e w' ⟨rfl, hf⟩; rw [show opF 1 = .func (.func 66) #[] #[] from rfl])
        | (go_at_call 66; refine (fn_1 _ _ _ a1 a2 b1 b2 _).mono ?_; rintro e w' ⟨rfl, rfl⟩)
        | (go_at_call 54; refine (narrow_any _ _).mono ?_; rintro e w' ⟨rfl, rfl⟩)
      go_ret2
      exact ⟨by rw [HX.out]; rfl, by first | assumption | exact Fr.refl _⟩
  · have HX : Hid (exC 1 (nrm a n) (nrm b n) n = false) := by unfold Hid; simp [exC, hA]
    go_enter Try.func22, Try.ntmps22
    go_wp2_with first
      | (go_at_call 49; refine (check_any _ _ _ _).mono ?_; rintro e w' ⟨rfl, rfl⟩; rw [HE.out])
      | (go_at_call 45; refine (normed_any H.out _ _).mono ?_; rintro e w' ⟨rfl, rfl⟩)
      | (go_at_call 50; refine (opOf_any 1 (by decide) (by decide) _).mono ?_; rintro e w' ⟨rfl, hf⟩; rw [show opF 1 = .func (.func 66) #[] #[] from rfl])
      | (go_at_call 66; refine (fn_1 _ _ _ a1 a2 b1 b2 _).mono ?_; rintro e w' ⟨rfl, rfl⟩)
      | (go_at_call 54; refine (narrow_any _ _).mono ?_; rintro e w' ⟨rfl, rfl⟩)
    go_ret2
    exact ⟨by rw [HX.out]; rfl, by first | assumption | exact Fr.refl _⟩
set_option maxHeartbeats 800000 in
theorem Exact_2 {n : Int} (hb : OkB n) (a b : Int) (hz : nrm b n ≠ 0) (w : World) : Calls Try.prog 22 #[.int .i64 2, .int .i64 a, .int .i64 b, .int .i64 n] w fun e w' => e = .returned (.tuple #[.bool (exC 2 (nrm a n) (nrm b n) n), .int .i64 0]) ∧ Fr w w' := by
  have H := Lib.hid hb
  have he : appE 2 b n = 0 := by simp [appE, show okB n = true from by simpa [okB] using hb, hz]
  have HE := Lib.hid he
  obtain ⟨a1, a2⟩ := nrm_bd (v := a) hb
  obtain ⟨b1, b2⟩ := nrm_bd (v := b) hb
  clear hb he
  rcases Bool.eq_false_or_eq_true (nar (nrm a n)) with hA | hA
  · rcases Bool.eq_false_or_eq_true (nar (nrm b n)) with hB | hB
    · have HX : Hid (exC 2 (nrm a n) (nrm b n) n = nar (opv 2 (nrm a n) (nrm b n) n)) := by unfold Hid; simp [exC, hA, hB]
      go_enter Try.func22, Try.ntmps22
      go_wp2_with first
        | (go_at_call 49; refine (check_any _ _ _ _).mono ?_; rintro e w' ⟨rfl, rfl⟩; rw [HE.out])
        | (go_at_call 45; refine (normed_any H.out _ _).mono ?_; rintro e w' ⟨rfl, rfl⟩)
        | (go_at_call 50; refine (opOf_any 2 (by decide) (by decide) _).mono ?_; rintro e w' ⟨rfl, hf⟩; rw [show opF 2 = .func (.func 67) #[] #[] from rfl])
        | (go_at_call 67; refine (fn_2 _ _ _ a1 a2 b1 b2 hz _).mono ?_; rintro e w' ⟨rfl, rfl⟩)
        | (go_at_call 54; refine (narrow_any _ _).mono ?_; rintro e w' ⟨rfl, rfl⟩)
      go_ret2
      exact ⟨by rw [HX.out]; rfl, by first | assumption | exact Fr.refl _⟩
    · have HX : Hid (exC 2 (nrm a n) (nrm b n) n = false) := by unfold Hid; simp [exC, hA, hB]
      go_enter Try.func22, Try.ntmps22
      go_wp2_with first
        | (go_at_call 49; refine (check_any _ _ _ _).mono ?_; rintro e w' ⟨rfl, rfl⟩; rw [HE.out])
        | (go_at_call 45; refine (normed_any H.out _ _).mono ?_; rintro e w' ⟨rfl, rfl⟩)
        | (go_at_call 50; refine (opOf_any 2 (by decide) (by decide) _).mono ?_; rintro e w' ⟨rfl, hf⟩; rw [show opF 2 = .func (.func 67) #[] #[] from rfl])
        | (go_at_call 67; refine (fn_2 _ _ _ a1 a2 b1 b2 hz _).mono ?_; rintro e w' ⟨rfl, rfl⟩)
        | (go_at_call 54; refine (narrow_any _ _).mono ?_; rintro e w' ⟨rfl, rfl⟩)
      go_ret2
      exact ⟨by rw [HX.out]; rfl, by first | assumption | exact Fr.refl _⟩
  · have HX : Hid (exC 2 (nrm a n) (nrm b n) n = false) := by unfold Hid; simp [exC, hA]
    go_enter Try.func22, Try.ntmps22
    go_wp2_with first
      | (go_at_call 49; refine (check_any _ _ _ _).mono ?_; rintro e w' ⟨rfl, rfl⟩; rw [HE.out])
      | (go_at_call 45; refine (normed_any H.out _ _).mono ?_; rintro e w' ⟨rfl, rfl⟩)
      | (go_at_call 50; refine (opOf_any 2 (by decide) (by decide) _).mono ?_; rintro e w' ⟨rfl, hf⟩; rw [show opF 2 = .func (.func 67) #[] #[] from rfl])
      | (go_at_call 67; refine (fn_2 _ _ _ a1 a2 b1 b2 hz _).mono ?_; rintro e w' ⟨rfl, rfl⟩)
      | (go_at_call 54; refine (narrow_any _ _).mono ?_; rintro e w' ⟨rfl, rfl⟩)
    go_ret2
    exact ⟨by rw [HX.out]; rfl, by first | assumption | exact Fr.refl _⟩
set_option maxHeartbeats 800000 in
theorem Exact_3 {n : Int} (hb : OkB n) (a b : Int) (hz : nrm b n ≠ 0) (w : World) : Calls Try.prog 22 #[.int .i64 3, .int .i64 a, .int .i64 b, .int .i64 n] w fun e w' => e = .returned (.tuple #[.bool (exC 3 (nrm a n) (nrm b n) n), .int .i64 0]) ∧ Fr w w' := by
  have H := Lib.hid hb
  have he : appE 3 b n = 0 := by simp [appE, show okB n = true from by simpa [okB] using hb, hz]
  have HE := Lib.hid he
  obtain ⟨a1, a2⟩ := nrm_bd (v := a) hb
  obtain ⟨b1, b2⟩ := nrm_bd (v := b) hb
  clear hb he
  rcases Bool.eq_false_or_eq_true (nar (nrm a n)) with hA | hA
  · rcases Bool.eq_false_or_eq_true (nar (nrm b n)) with hB | hB
    · have HX : Hid (exC 3 (nrm a n) (nrm b n) n = nar (opv 3 (nrm a n) (nrm b n) n)) := by unfold Hid; simp [exC, hA, hB]
      go_enter Try.func22, Try.ntmps22
      go_wp2_with first
        | (go_at_call 49; refine (check_any _ _ _ _).mono ?_; rintro e w' ⟨rfl, rfl⟩; rw [HE.out])
        | (go_at_call 45; refine (normed_any H.out _ _).mono ?_; rintro e w' ⟨rfl, rfl⟩)
        | (go_at_call 50; refine (opOf_any 3 (by decide) (by decide) _).mono ?_; rintro e w' ⟨rfl, hf⟩; rw [show opF 3 = .func (.func 68) #[] #[] from rfl])
        | (go_at_call 68; refine (fn_3 _ _ _ a1 a2 b1 b2 hz _).mono ?_; rintro e w' ⟨rfl, rfl⟩)
        | (go_at_call 54; refine (narrow_any _ _).mono ?_; rintro e w' ⟨rfl, rfl⟩)
      go_ret2
      exact ⟨by rw [HX.out]; rfl, by first | assumption | exact Fr.refl _⟩
    · have HX : Hid (exC 3 (nrm a n) (nrm b n) n = false) := by unfold Hid; simp [exC, hA, hB]
      go_enter Try.func22, Try.ntmps22
      go_wp2_with first
        | (go_at_call 49; refine (check_any _ _ _ _).mono ?_; rintro e w' ⟨rfl, rfl⟩; rw [HE.out])
        | (go_at_call 45; refine (normed_any H.out _ _).mono ?_; rintro e w' ⟨rfl, rfl⟩)
        | (go_at_call 50; refine (opOf_any 3 (by decide) (by decide) _).mono ?_; rintro e w' ⟨rfl, hf⟩; rw [show opF 3 = .func (.func 68) #[] #[] from rfl])
        | (go_at_call 68; refine (fn_3 _ _ _ a1 a2 b1 b2 hz _).mono ?_; rintro e w' ⟨rfl, rfl⟩)
        | (go_at_call 54; refine (narrow_any _ _).mono ?_; rintro e w' ⟨rfl, rfl⟩)
      go_ret2
      exact ⟨by rw [HX.out]; rfl, by first | assumption | exact Fr.refl _⟩
  · have HX : Hid (exC 3 (nrm a n) (nrm b n) n = false) := by unfold Hid; simp [exC, hA]
    go_enter Try.func22, Try.ntmps22
    go_wp2_with first
      | (go_at_call 49; refine (check_any _ _ _ _).mono ?_; rintro e w' ⟨rfl, rfl⟩; rw [HE.out])
      | (go_at_call 45; refine (normed_any H.out _ _).mono ?_; rintro e w' ⟨rfl, rfl⟩)
      | (go_at_call 50; refine (opOf_any 3 (by decide) (by decide) _).mono ?_; rintro e w' ⟨rfl, hf⟩; rw [show opF 3 = .func (.func 68) #[] #[] from rfl])
      | (go_at_call 68; refine (fn_3 _ _ _ a1 a2 b1 b2 hz _).mono ?_; rintro e w' ⟨rfl, rfl⟩)
      | (go_at_call 54; refine (narrow_any _ _).mono ?_; rintro e w' ⟨rfl, rfl⟩)
    go_ret2
    exact ⟨by rw [HX.out]; rfl, by first | assumption | exact Fr.refl _⟩
set_option maxHeartbeats 800000 in
theorem Exact_4 {n : Int} (hb : OkB n) (a b : Int) (w : World) : Calls Try.prog 22 #[.int .i64 4, .int .i64 a, .int .i64 b, .int .i64 n] w fun e w' => e = .returned (.tuple #[.bool (exC 4 (nrm a n) (nrm b n) n), .int .i64 0]) ∧ Fr w w' := by
  have H := Lib.hid hb
  have he : appE 4 b n = 0 := by simp [appE, show okB n = true from by simpa [okB] using hb]
  have HE := Lib.hid he
  obtain ⟨a1, a2⟩ := nrm_bd (v := a) hb
  obtain ⟨b1, b2⟩ := nrm_bd (v := b) hb
  clear hb he
  rcases Bool.eq_false_or_eq_true (nar (nrm a n)) with hA | hA
  · rcases Bool.eq_false_or_eq_true (nar (nrm b n)) with hB | hB
    · have HX : Hid (exC 4 (nrm a n) (nrm b n) n = nar (opv 4 (nrm a n) (nrm b n) n)) := by unfold Hid; simp [exC, hA, hB]
      go_enter Try.func22, Try.ntmps22
      go_wp2_with first
        | (go_at_call 49; refine (check_any _ _ _ _).mono ?_; rintro e w' ⟨rfl, rfl⟩; rw [HE.out])
        | (go_at_call 45; refine (normed_any H.out _ _).mono ?_; rintro e w' ⟨rfl, rfl⟩)
        | (go_at_call 50; refine (opOf_any 4 (by decide) (by decide) _).mono ?_; rintro e w' ⟨rfl, hf⟩; rw [show opF 4 = .func (.func 69) #[] #[] from rfl])
        | (go_at_call 69; refine (fn_4 _ _ _ a1 a2 b1 b2 _).mono ?_; rintro e w' ⟨rfl, rfl⟩)
        | (go_at_call 54; refine (narrow_any _ _).mono ?_; rintro e w' ⟨rfl, rfl⟩)
      go_ret2
      exact ⟨by rw [HX.out]; rfl, by first | assumption | exact Fr.refl _⟩
    · have HX : Hid (exC 4 (nrm a n) (nrm b n) n = false) := by unfold Hid; simp [exC, hA, hB]
      go_enter Try.func22, Try.ntmps22
      go_wp2_with first
        | (go_at_call 49; refine (check_any _ _ _ _).mono ?_; rintro e w' ⟨rfl, rfl⟩; rw [HE.out])
        | (go_at_call 45; refine (normed_any H.out _ _).mono ?_; rintro e w' ⟨rfl, rfl⟩)
        | (go_at_call 50; refine (opOf_any 4 (by decide) (by decide) _).mono ?_; rintro e w' ⟨rfl, hf⟩; rw [show opF 4 = .func (.func 69) #[] #[] from rfl])
        | (go_at_call 69; refine (fn_4 _ _ _ a1 a2 b1 b2 _).mono ?_; rintro e w' ⟨rfl, rfl⟩)
        | (go_at_call 54; refine (narrow_any _ _).mono ?_; rintro e w' ⟨rfl, rfl⟩)
      go_ret2
      exact ⟨by rw [HX.out]; rfl, by first | assumption | exact Fr.refl _⟩
  · have HX : Hid (exC 4 (nrm a n) (nrm b n) n = false) := by unfold Hid; simp [exC, hA]
    go_enter Try.func22, Try.ntmps22
    go_wp2_with first
      | (go_at_call 49; refine (check_any _ _ _ _).mono ?_; rintro e w' ⟨rfl, rfl⟩; rw [HE.out])
      | (go_at_call 45; refine (normed_any H.out _ _).mono ?_; rintro e w' ⟨rfl, rfl⟩)
      | (go_at_call 50; refine (opOf_any 4 (by decide) (by decide) _).mono ?_; rintro e w' ⟨rfl, hf⟩; rw [show opF 4 = .func (.func 69) #[] #[] from rfl])
      | (go_at_call 69; refine (fn_4 _ _ _ a1 a2 b1 b2 _).mono ?_; rintro e w' ⟨rfl, rfl⟩)
      | (go_at_call 54; refine (narrow_any _ _).mono ?_; rintro e w' ⟨rfl, rfl⟩)
    go_ret2
    exact ⟨by rw [HX.out]; rfl, by first | assumption | exact Fr.refl _⟩
set_option maxHeartbeats 800000 in
theorem Exact_5 {n : Int} (hb : OkB n) (a b : Int) (w : World) : Calls Try.prog 22 #[.int .i64 5, .int .i64 a, .int .i64 b, .int .i64 n] w fun e w' => e = .returned (.tuple #[.bool (exC 5 (nrm a n) (nrm b n) n), .int .i64 0]) ∧ Fr w w' := by
  have H := Lib.hid hb
  have he : appE 5 b n = 0 := by simp [appE, show okB n = true from by simpa [okB] using hb]
  have HE := Lib.hid he
  obtain ⟨a1, a2⟩ := nrm_bd (v := a) hb
  obtain ⟨b1, b2⟩ := nrm_bd (v := b) hb
  clear hb he
  rcases Bool.eq_false_or_eq_true (nar (nrm a n)) with hA | hA
  · rcases Bool.eq_false_or_eq_true (nar (nrm b n)) with hB | hB
    · have HX : Hid (exC 5 (nrm a n) (nrm b n) n = nar (opv 5 (nrm a n) (nrm b n) n)) := by unfold Hid; simp [exC, hA, hB]
      go_enter Try.func22, Try.ntmps22
      go_wp2_with first
        | (go_at_call 49; refine (check_any _ _ _ _).mono ?_; rintro e w' ⟨rfl, rfl⟩; rw [HE.out])
        | (go_at_call 45; refine (normed_any H.out _ _).mono ?_; rintro e w' ⟨rfl, rfl⟩)
        | (go_at_call 50; refine (opOf_any 5 (by decide) (by decide) _).mono ?_; rintro e w' ⟨rfl, hf⟩; rw [show opF 5 = .func (.func 70) #[] #[] from rfl])
        | (go_at_call 70; refine (fn_5 _ _ _ a1 a2 b1 b2 _).mono ?_; rintro e w' ⟨rfl, rfl⟩)
        | (go_at_call 54; refine (narrow_any _ _).mono ?_; rintro e w' ⟨rfl, rfl⟩)
      go_ret2
      exact ⟨by rw [HX.out]; rfl, by first | assumption | exact Fr.refl _⟩
    · have HX : Hid (exC 5 (nrm a n) (nrm b n) n = false) := by unfold Hid; simp [exC, hA, hB]
      go_enter Try.func22, Try.ntmps22
      go_wp2_with first
        | (go_at_call 49; refine (check_any _ _ _ _).mono ?_; rintro e w' ⟨rfl, rfl⟩; rw [HE.out])
        | (go_at_call 45; refine (normed_any H.out _ _).mono ?_; rintro e w' ⟨rfl, rfl⟩)
        | (go_at_call 50; refine (opOf_any 5 (by decide) (by decide) _).mono ?_; rintro e w' ⟨rfl, hf⟩; rw [show opF 5 = .func (.func 70) #[] #[] from rfl])
        | (go_at_call 70; refine (fn_5 _ _ _ a1 a2 b1 b2 _).mono ?_; rintro e w' ⟨rfl, rfl⟩)
        | (go_at_call 54; refine (narrow_any _ _).mono ?_; rintro e w' ⟨rfl, rfl⟩)
      go_ret2
      exact ⟨by rw [HX.out]; rfl, by first | assumption | exact Fr.refl _⟩
  · have HX : Hid (exC 5 (nrm a n) (nrm b n) n = false) := by unfold Hid; simp [exC, hA]
    go_enter Try.func22, Try.ntmps22
    go_wp2_with first
      | (go_at_call 49; refine (check_any _ _ _ _).mono ?_; rintro e w' ⟨rfl, rfl⟩; rw [HE.out])
      | (go_at_call 45; refine (normed_any H.out _ _).mono ?_; rintro e w' ⟨rfl, rfl⟩)
      | (go_at_call 50; refine (opOf_any 5 (by decide) (by decide) _).mono ?_; rintro e w' ⟨rfl, hf⟩; rw [show opF 5 = .func (.func 70) #[] #[] from rfl])
      | (go_at_call 70; refine (fn_5 _ _ _ a1 a2 b1 b2 _).mono ?_; rintro e w' ⟨rfl, rfl⟩)
      | (go_at_call 54; refine (narrow_any _ _).mono ?_; rintro e w' ⟨rfl, rfl⟩)
    go_ret2
    exact ⟨by rw [HX.out]; rfl, by first | assumption | exact Fr.refl _⟩
set_option maxHeartbeats 800000 in
theorem Exact_6 {n : Int} (hb : OkB n) (a b : Int) (w : World) : Calls Try.prog 22 #[.int .i64 6, .int .i64 a, .int .i64 b, .int .i64 n] w fun e w' => e = .returned (.tuple #[.bool (exC 6 (nrm a n) (nrm b n) n), .int .i64 0]) ∧ Fr w w' := by
  have H := Lib.hid hb
  have he : appE 6 b n = 0 := by simp [appE, show okB n = true from by simpa [okB] using hb]
  have HE := Lib.hid he
  obtain ⟨a1, a2⟩ := nrm_bd (v := a) hb
  obtain ⟨b1, b2⟩ := nrm_bd (v := b) hb
  clear hb he
  by_cases g1 : nrm a n < 0
  · have HX : Hid (exC 6 (nrm a n) (nrm b n) n = false) := by unfold Hid; simp [exC, g1]
    go_enter Try.func22, Try.ntmps22
    go_wp2_with first
      | (go_at_call 49; refine (check_any _ _ _ _).mono ?_; rintro e w' ⟨rfl, rfl⟩; rw [HE.out])
      | (go_at_call 45; refine (normed_any H.out _ _).mono ?_; rintro e w' ⟨rfl, rfl⟩)
      | (go_at_call 50; refine (opOf_any 6 (by decide) (by decide) _).mono ?_; rintro e w' ⟨rfl, hf⟩; rw [show opF 6 = .func (.func 71) #[] #[] from rfl])
      | (go_at_call 71; refine (fn_6 _ _ _ a1 a2 H.out _).mono ?_; rintro e w' ⟨rfl, rfl⟩)
      | (go_at_call 54; refine (narrow_any _ _).mono ?_; rintro e w' ⟨rfl, rfl⟩)
    go_ret2
    exact ⟨by rw [HX.out]; rfl, by first | assumption | exact Fr.refl _⟩
  by_cases g2 : nrm b n < 0
  · have HX : Hid (exC 6 (nrm a n) (nrm b n) n = false) := by unfold Hid; simp [exC, g2]
    go_enter Try.func22, Try.ntmps22
    go_wp2_with first
      | (go_at_call 49; refine (check_any _ _ _ _).mono ?_; rintro e w' ⟨rfl, rfl⟩; rw [HE.out])
      | (go_at_call 45; refine (normed_any H.out _ _).mono ?_; rintro e w' ⟨rfl, rfl⟩)
      | (go_at_call 50; refine (opOf_any 6 (by decide) (by decide) _).mono ?_; rintro e w' ⟨rfl, hf⟩; rw [show opF 6 = .func (.func 71) #[] #[] from rfl])
      | (go_at_call 71; refine (fn_6 _ _ _ a1 a2 H.out _).mono ?_; rintro e w' ⟨rfl, rfl⟩)
      | (go_at_call 54; refine (narrow_any _ _).mono ?_; rintro e w' ⟨rfl, rfl⟩)
    go_ret2
    exact ⟨by rw [HX.out]; rfl, by first | assumption | exact Fr.refl _⟩
  by_cases g3 : 15 < nrm b n
  · have HX : Hid (exC 6 (nrm a n) (nrm b n) n = false) := by unfold Hid; simp [exC, g3]
    go_enter Try.func22, Try.ntmps22
    go_wp2_with first
      | (go_at_call 49; refine (check_any _ _ _ _).mono ?_; rintro e w' ⟨rfl, rfl⟩; rw [HE.out])
      | (go_at_call 45; refine (normed_any H.out _ _).mono ?_; rintro e w' ⟨rfl, rfl⟩)
      | (go_at_call 50; refine (opOf_any 6 (by decide) (by decide) _).mono ?_; rintro e w' ⟨rfl, hf⟩; rw [show opF 6 = .func (.func 71) #[] #[] from rfl])
      | (go_at_call 71; refine (fn_6 _ _ _ a1 a2 H.out _).mono ?_; rintro e w' ⟨rfl, rfl⟩)
      | (go_at_call 54; refine (narrow_any _ _).mono ?_; rintro e w' ⟨rfl, rfl⟩)
    go_ret2
    exact ⟨by rw [HX.out]; rfl, by first | assumption | exact Fr.refl _⟩
  rcases Bool.eq_false_or_eq_true (nar (nrm a n)) with hA | hA
  · rcases Bool.eq_false_or_eq_true (nar (nrm b n)) with hB | hB
    · have HX : Hid (exC 6 (nrm a n) (nrm b n) n = nar (opv 6 (nrm a n) (nrm b n) n)) := by unfold Hid; simp [exC, hA, hB, g1, g2, g3]
      go_enter Try.func22, Try.ntmps22
      go_wp2_with first
        | (go_at_call 49; refine (check_any _ _ _ _).mono ?_; rintro e w' ⟨rfl, rfl⟩; rw [HE.out])
        | (go_at_call 45; refine (normed_any H.out _ _).mono ?_; rintro e w' ⟨rfl, rfl⟩)
        | (go_at_call 50; refine (opOf_any 6 (by decide) (by decide) _).mono ?_; rintro e w' ⟨rfl, hf⟩; rw [show opF 6 = .func (.func 71) #[] #[] from rfl])
        | (go_at_call 71; refine (fn_6 _ _ _ a1 a2 H.out _).mono ?_; rintro e w' ⟨rfl, rfl⟩)
        | (go_at_call 54; refine (narrow_any _ _).mono ?_; rintro e w' ⟨rfl, rfl⟩)
      go_ret2
      exact ⟨by rw [HX.out]; rfl, by first | assumption | exact Fr.refl _⟩
    · have HX : Hid (exC 6 (nrm a n) (nrm b n) n = false) := by unfold Hid; simp [exC, hA, hB, g1, g2, g3]
      go_enter Try.func22, Try.ntmps22
      go_wp2_with first
        | (go_at_call 49; refine (check_any _ _ _ _).mono ?_; rintro e w' ⟨rfl, rfl⟩; rw [HE.out])
        | (go_at_call 45; refine (normed_any H.out _ _).mono ?_; rintro e w' ⟨rfl, rfl⟩)
        | (go_at_call 50; refine (opOf_any 6 (by decide) (by decide) _).mono ?_; rintro e w' ⟨rfl, hf⟩; rw [show opF 6 = .func (.func 71) #[] #[] from rfl])
        | (go_at_call 71; refine (fn_6 _ _ _ a1 a2 H.out _).mono ?_; rintro e w' ⟨rfl, rfl⟩)
        | (go_at_call 54; refine (narrow_any _ _).mono ?_; rintro e w' ⟨rfl, rfl⟩)
      go_ret2
      exact ⟨by rw [HX.out]; rfl, by first | assumption | exact Fr.refl _⟩
  · have HX : Hid (exC 6 (nrm a n) (nrm b n) n = false) := by unfold Hid; simp [exC, hA]
    go_enter Try.func22, Try.ntmps22
    go_wp2_with first
      | (go_at_call 49; refine (check_any _ _ _ _).mono ?_; rintro e w' ⟨rfl, rfl⟩; rw [HE.out])
      | (go_at_call 45; refine (normed_any H.out _ _).mono ?_; rintro e w' ⟨rfl, rfl⟩)
      | (go_at_call 50; refine (opOf_any 6 (by decide) (by decide) _).mono ?_; rintro e w' ⟨rfl, hf⟩; rw [show opF 6 = .func (.func 71) #[] #[] from rfl])
      | (go_at_call 71; refine (fn_6 _ _ _ a1 a2 H.out _).mono ?_; rintro e w' ⟨rfl, rfl⟩)
      | (go_at_call 54; refine (narrow_any _ _).mono ?_; rintro e w' ⟨rfl, rfl⟩)
    go_ret2
    exact ⟨by rw [HX.out]; rfl, by first | assumption | exact Fr.refl _⟩
set_option maxHeartbeats 800000 in
theorem Exact_7 {n : Int} (hb : OkB n) (a b : Int) (w : World) : Calls Try.prog 22 #[.int .i64 7, .int .i64 a, .int .i64 b, .int .i64 n] w fun e w' => e = .returned (.tuple #[.bool (exC 7 (nrm a n) (nrm b n) n), .int .i64 0]) ∧ Fr w w' := by
  have H := Lib.hid hb
  have he : appE 7 b n = 0 := by simp [appE, show okB n = true from by simpa [okB] using hb]
  have HE := Lib.hid he
  obtain ⟨a1, a2⟩ := nrm_bd (v := a) hb
  obtain ⟨b1, b2⟩ := nrm_bd (v := b) hb
  clear hb he
  by_cases g1 : nrm a n < 0
  · have HX : Hid (exC 7 (nrm a n) (nrm b n) n = false) := by unfold Hid; simp [exC, g1]
    go_enter Try.func22, Try.ntmps22
    go_wp2_with first
      | (go_at_call 49; refine (check_any _ _ _ _).mono ?_; rintro e w' ⟨rfl, rfl⟩; rw [HE.out])
      | (go_at_call 45; refine (normed_any H.out _ _).mono ?_; rintro e w' ⟨rfl, rfl⟩)
      | (go_at_call 50; refine (opOf_any 7 (by decide) (by decide) _).mono ?_; rintro e w' ⟨rfl, hf⟩; rw [show opF 7 = .func (.func 72) #[] #[] from rfl])
      | (go_at_call 72; refine (fn_7 _ _ _ a1 a2 H.out _).mono ?_; rintro e w' ⟨rfl, rfl⟩)
      | (go_at_call 54; refine (narrow_any _ _).mono ?_; rintro e w' ⟨rfl, rfl⟩)
    go_ret2
    exact ⟨by rw [HX.out]; rfl, by first | assumption | exact Fr.refl _⟩
  by_cases g2 : nrm b n < 0
  · have HX : Hid (exC 7 (nrm a n) (nrm b n) n = false) := by unfold Hid; simp [exC, g2]
    go_enter Try.func22, Try.ntmps22
    go_wp2_with first
      | (go_at_call 49; refine (check_any _ _ _ _).mono ?_; rintro e w' ⟨rfl, rfl⟩; rw [HE.out])
      | (go_at_call 45; refine (normed_any H.out _ _).mono ?_; rintro e w' ⟨rfl, rfl⟩)
      | (go_at_call 50; refine (opOf_any 7 (by decide) (by decide) _).mono ?_; rintro e w' ⟨rfl, hf⟩; rw [show opF 7 = .func (.func 72) #[] #[] from rfl])
      | (go_at_call 72; refine (fn_7 _ _ _ a1 a2 H.out _).mono ?_; rintro e w' ⟨rfl, rfl⟩)
      | (go_at_call 54; refine (narrow_any _ _).mono ?_; rintro e w' ⟨rfl, rfl⟩)
    go_ret2
    exact ⟨by rw [HX.out]; rfl, by first | assumption | exact Fr.refl _⟩
  by_cases g3 : 15 < nrm b n
  · have HX : Hid (exC 7 (nrm a n) (nrm b n) n = false) := by unfold Hid; simp [exC, g3]
    go_enter Try.func22, Try.ntmps22
    go_wp2_with first
      | (go_at_call 49; refine (check_any _ _ _ _).mono ?_; rintro e w' ⟨rfl, rfl⟩; rw [HE.out])
      | (go_at_call 45; refine (normed_any H.out _ _).mono ?_; rintro e w' ⟨rfl, rfl⟩)
      | (go_at_call 50; refine (opOf_any 7 (by decide) (by decide) _).mono ?_; rintro e w' ⟨rfl, hf⟩; rw [show opF 7 = .func (.func 72) #[] #[] from rfl])
      | (go_at_call 72; refine (fn_7 _ _ _ a1 a2 H.out _).mono ?_; rintro e w' ⟨rfl, rfl⟩)
      | (go_at_call 54; refine (narrow_any _ _).mono ?_; rintro e w' ⟨rfl, rfl⟩)
    go_ret2
    exact ⟨by rw [HX.out]; rfl, by first | assumption | exact Fr.refl _⟩
  rcases Bool.eq_false_or_eq_true (nar (nrm a n)) with hA | hA
  · rcases Bool.eq_false_or_eq_true (nar (nrm b n)) with hB | hB
    · have HX : Hid (exC 7 (nrm a n) (nrm b n) n = nar (opv 7 (nrm a n) (nrm b n) n)) := by unfold Hid; simp [exC, hA, hB, g1, g2, g3]
      go_enter Try.func22, Try.ntmps22
      go_wp2_with first
        | (go_at_call 49; refine (check_any _ _ _ _).mono ?_; rintro e w' ⟨rfl, rfl⟩; rw [HE.out])
        | (go_at_call 45; refine (normed_any H.out _ _).mono ?_; rintro e w' ⟨rfl, rfl⟩)
        | (go_at_call 50; refine (opOf_any 7 (by decide) (by decide) _).mono ?_; rintro e w' ⟨rfl, hf⟩; rw [show opF 7 = .func (.func 72) #[] #[] from rfl])
        | (go_at_call 72; refine (fn_7 _ _ _ a1 a2 H.out _).mono ?_; rintro e w' ⟨rfl, rfl⟩)
        | (go_at_call 54; refine (narrow_any _ _).mono ?_; rintro e w' ⟨rfl, rfl⟩)
      go_ret2
      exact ⟨by rw [HX.out]; rfl, by first | assumption | exact Fr.refl _⟩
    · have HX : Hid (exC 7 (nrm a n) (nrm b n) n = false) := by unfold Hid; simp [exC, hA, hB, g1, g2, g3]
      go_enter Try.func22, Try.ntmps22
      go_wp2_with first
        | (go_at_call 49; refine (check_any _ _ _ _).mono ?_; rintro e w' ⟨rfl, rfl⟩; rw [HE.out])
        | (go_at_call 45; refine (normed_any H.out _ _).mono ?_; rintro e w' ⟨rfl, rfl⟩)
        | (go_at_call 50; refine (opOf_any 7 (by decide) (by decide) _).mono ?_; rintro e w' ⟨rfl, hf⟩; rw [show opF 7 = .func (.func 72) #[] #[] from rfl])
        | (go_at_call 72; refine (fn_7 _ _ _ a1 a2 H.out _).mono ?_; rintro e w' ⟨rfl, rfl⟩)
        | (go_at_call 54; refine (narrow_any _ _).mono ?_; rintro e w' ⟨rfl, rfl⟩)
      go_ret2
      exact ⟨by rw [HX.out]; rfl, by first | assumption | exact Fr.refl _⟩
  · have HX : Hid (exC 7 (nrm a n) (nrm b n) n = false) := by unfold Hid; simp [exC, hA]
    go_enter Try.func22, Try.ntmps22
    go_wp2_with first
      | (go_at_call 49; refine (check_any _ _ _ _).mono ?_; rintro e w' ⟨rfl, rfl⟩; rw [HE.out])
      | (go_at_call 45; refine (normed_any H.out _ _).mono ?_; rintro e w' ⟨rfl, rfl⟩)
      | (go_at_call 50; refine (opOf_any 7 (by decide) (by decide) _).mono ?_; rintro e w' ⟨rfl, hf⟩; rw [show opF 7 = .func (.func 72) #[] #[] from rfl])
      | (go_at_call 72; refine (fn_7 _ _ _ a1 a2 H.out _).mono ?_; rintro e w' ⟨rfl, rfl⟩)
      | (go_at_call 54; refine (narrow_any _ _).mono ?_; rintro e w' ⟨rfl, rfl⟩)
    go_ret2
    exact ⟨by rw [HX.out]; rfl, by first | assumption | exact Fr.refl _⟩
set_option maxHeartbeats 800000 in
theorem Exact_8 {n : Int} (hb : OkB n) (a b : Int) (w : World) : Calls Try.prog 22 #[.int .i64 8, .int .i64 a, .int .i64 b, .int .i64 n] w fun e w' => e = .returned (.tuple #[.bool (exC 8 (nrm a n) (nrm b n) n), .int .i64 0]) ∧ Fr w w' := by
  have H := Lib.hid hb
  have he : appE 8 b n = 0 := by simp [appE, show okB n = true from by simpa [okB] using hb]
  have HE := Lib.hid he
  obtain ⟨a1, a2⟩ := nrm_bd (v := a) hb
  obtain ⟨b1, b2⟩ := nrm_bd (v := b) hb
  clear hb he
  rcases Bool.eq_false_or_eq_true (nar (nrm a n)) with hA | hA
  · rcases Bool.eq_false_or_eq_true (nar (nrm b n)) with hB | hB
    · have HX : Hid (exC 8 (nrm a n) (nrm b n) n = nar (opv 8 (nrm a n) (nrm b n) n)) := by unfold Hid; simp [exC, hA, hB]
      go_enter Try.func22, Try.ntmps22
      go_wp2_with first
        | (go_at_call 49; refine (check_any _ _ _ _).mono ?_; rintro e w' ⟨rfl, rfl⟩; rw [HE.out])
        | (go_at_call 45; refine (normed_any H.out _ _).mono ?_; rintro e w' ⟨rfl, rfl⟩)
        | (go_at_call 50; refine (opOf_any 8 (by decide) (by decide) _).mono ?_; rintro e w' ⟨rfl, hf⟩; rw [show opF 8 = .func (.func 73) #[] #[] from rfl])
        | (go_at_call 73; refine (fn_8 _ _ _ a1 a2 b1 b2 _).mono ?_; rintro e w' ⟨rfl, rfl⟩)
        | (go_at_call 54; refine (narrow_any _ _).mono ?_; rintro e w' ⟨rfl, rfl⟩)
      go_ret2
      exact ⟨by rw [HX.out]; rfl, by first | assumption | exact Fr.refl _⟩
    · have HX : Hid (exC 8 (nrm a n) (nrm b n) n = false) := by unfold Hid; simp [exC, hA, hB]
      go_enter Try.func22, Try.ntmps22
      go_wp2_with first
        | (go_at_call 49; refine (check_any _ _ _ _).mono ?_; rintro e w' ⟨rfl, rfl⟩; rw [HE.out])
        | (go_at_call 45; refine (normed_any H.out _ _).mono ?_; rintro e w' ⟨rfl, rfl⟩)
        | (go_at_call 50; refine (opOf_any 8 (by decide) (by decide) _).mono ?_; rintro e w' ⟨rfl, hf⟩; rw [show opF 8 = .func (.func 73) #[] #[] from rfl])
        | (go_at_call 73; refine (fn_8 _ _ _ a1 a2 b1 b2 _).mono ?_; rintro e w' ⟨rfl, rfl⟩)
        | (go_at_call 54; refine (narrow_any _ _).mono ?_; rintro e w' ⟨rfl, rfl⟩)
      go_ret2
      exact ⟨by rw [HX.out]; rfl, by first | assumption | exact Fr.refl _⟩
  · have HX : Hid (exC 8 (nrm a n) (nrm b n) n = false) := by unfold Hid; simp [exC, hA]
    go_enter Try.func22, Try.ntmps22
    go_wp2_with first
      | (go_at_call 49; refine (check_any _ _ _ _).mono ?_; rintro e w' ⟨rfl, rfl⟩; rw [HE.out])
      | (go_at_call 45; refine (normed_any H.out _ _).mono ?_; rintro e w' ⟨rfl, rfl⟩)
      | (go_at_call 50; refine (opOf_any 8 (by decide) (by decide) _).mono ?_; rintro e w' ⟨rfl, hf⟩; rw [show opF 8 = .func (.func 73) #[] #[] from rfl])
      | (go_at_call 73; refine (fn_8 _ _ _ a1 a2 b1 b2 _).mono ?_; rintro e w' ⟨rfl, rfl⟩)
      | (go_at_call 54; refine (narrow_any _ _).mono ?_; rintro e w' ⟨rfl, rfl⟩)
    go_ret2
    exact ⟨by rw [HX.out]; rfl, by first | assumption | exact Fr.refl _⟩
set_option maxHeartbeats 800000 in
theorem Exact_9 {n : Int} (hb : OkB n) (a b : Int) (w : World) : Calls Try.prog 22 #[.int .i64 9, .int .i64 a, .int .i64 b, .int .i64 n] w fun e w' => e = .returned (.tuple #[.bool (exC 9 (nrm a n) (nrm b n) n), .int .i64 0]) ∧ Fr w w' := by
  have H := Lib.hid hb
  have he : appE 9 b n = 0 := by simp [appE, show okB n = true from by simpa [okB] using hb]
  have HE := Lib.hid he
  obtain ⟨a1, a2⟩ := nrm_bd (v := a) hb
  obtain ⟨b1, b2⟩ := nrm_bd (v := b) hb
  clear hb he
  rcases Bool.eq_false_or_eq_true (nar (nrm a n)) with hA | hA
  · rcases Bool.eq_false_or_eq_true (nar (nrm b n)) with hB | hB
    · have HX : Hid (exC 9 (nrm a n) (nrm b n) n = nar (opv 9 (nrm a n) (nrm b n) n)) := by unfold Hid; simp [exC, hA, hB]
      go_enter Try.func22, Try.ntmps22
      go_wp2_with first
        | (go_at_call 49; refine (check_any _ _ _ _).mono ?_; rintro e w' ⟨rfl, rfl⟩; rw [HE.out])
        | (go_at_call 45; refine (normed_any H.out _ _).mono ?_; rintro e w' ⟨rfl, rfl⟩)
        | (go_at_call 50; refine (opOf_any 9 (by decide) (by decide) _).mono ?_; rintro e w' ⟨rfl, hf⟩; rw [show opF 9 = .func (.func 74) #[] #[] from rfl])
        | (go_at_call 74; refine (fn_9 _ _ _ a1 a2 b1 b2 _).mono ?_; rintro e w' ⟨rfl, rfl⟩)
        | (go_at_call 54; refine (narrow_any _ _).mono ?_; rintro e w' ⟨rfl, rfl⟩)
      go_ret2
      exact ⟨by rw [HX.out]; rfl, by first | assumption | exact Fr.refl _⟩
    · have HX : Hid (exC 9 (nrm a n) (nrm b n) n = false) := by unfold Hid; simp [exC, hA, hB]
      go_enter Try.func22, Try.ntmps22
      go_wp2_with first
        | (go_at_call 49; refine (check_any _ _ _ _).mono ?_; rintro e w' ⟨rfl, rfl⟩; rw [HE.out])
        | (go_at_call 45; refine (normed_any H.out _ _).mono ?_; rintro e w' ⟨rfl, rfl⟩)
        | (go_at_call 50; refine (opOf_any 9 (by decide) (by decide) _).mono ?_; rintro e w' ⟨rfl, hf⟩; rw [show opF 9 = .func (.func 74) #[] #[] from rfl])
        | (go_at_call 74; refine (fn_9 _ _ _ a1 a2 b1 b2 _).mono ?_; rintro e w' ⟨rfl, rfl⟩)
        | (go_at_call 54; refine (narrow_any _ _).mono ?_; rintro e w' ⟨rfl, rfl⟩)
      go_ret2
      exact ⟨by rw [HX.out]; rfl, by first | assumption | exact Fr.refl _⟩
  · have HX : Hid (exC 9 (nrm a n) (nrm b n) n = false) := by unfold Hid; simp [exC, hA]
    go_enter Try.func22, Try.ntmps22
    go_wp2_with first
      | (go_at_call 49; refine (check_any _ _ _ _).mono ?_; rintro e w' ⟨rfl, rfl⟩; rw [HE.out])
      | (go_at_call 45; refine (normed_any H.out _ _).mono ?_; rintro e w' ⟨rfl, rfl⟩)
      | (go_at_call 50; refine (opOf_any 9 (by decide) (by decide) _).mono ?_; rintro e w' ⟨rfl, hf⟩; rw [show opF 9 = .func (.func 74) #[] #[] from rfl])
      | (go_at_call 74; refine (fn_9 _ _ _ a1 a2 b1 b2 _).mono ?_; rintro e w' ⟨rfl, rfl⟩)
      | (go_at_call 54; refine (narrow_any _ _).mono ?_; rintro e w' ⟨rfl, rfl⟩)
    go_ret2
    exact ⟨by rw [HX.out]; rfl, by first | assumption | exact Fr.refl _⟩
set_option maxHeartbeats 800000 in
theorem Exact_10 {n : Int} (hb : OkB n) (a b : Int) (w : World) : Calls Try.prog 22 #[.int .i64 10, .int .i64 a, .int .i64 b, .int .i64 n] w fun e w' => e = .returned (.tuple #[.bool (exC 10 (nrm a n) (nrm b n) n), .int .i64 0]) ∧ Fr w w' := by
  have H := Lib.hid hb
  have he : appE 10 b n = 0 := by simp [appE, show okB n = true from by simpa [okB] using hb]
  have HE := Lib.hid he
  obtain ⟨a1, a2⟩ := nrm_bd (v := a) hb
  obtain ⟨b1, b2⟩ := nrm_bd (v := b) hb
  clear hb he
  rcases Bool.eq_false_or_eq_true (nar (nrm a n)) with hA | hA
  · rcases Bool.eq_false_or_eq_true (nar (nrm b n)) with hB | hB
    · have HX : Hid (exC 10 (nrm a n) (nrm b n) n = nar (opv 10 (nrm a n) (nrm b n) n)) := by unfold Hid; simp [exC, hA, hB]
      go_enter Try.func22, Try.ntmps22
      go_wp2_with first
        | (go_at_call 49; refine (check_any _ _ _ _).mono ?_; rintro e w' ⟨rfl, rfl⟩; rw [HE.out])
        | (go_at_call 45; refine (normed_any H.out _ _).mono ?_; rintro e w' ⟨rfl, rfl⟩)
        | (go_at_call 50; refine (opOf_any 10 (by decide) (by decide) _).mono ?_; rintro e w' ⟨rfl, hf⟩; rw [show opF 10 = .func (.func 75) #[] #[] from rfl])
        | (go_at_call 75; refine (fn_10 _ _ _ a1 a2 b1 b2 _).mono ?_; rintro e w' ⟨rfl, rfl⟩)
        | (go_at_call 54; refine (narrow_any _ _).mono ?_; rintro e w' ⟨rfl, rfl⟩)
      go_ret2
      exact ⟨by rw [HX.out]; rfl, by first | assumption | exact Fr.refl _⟩
    · have HX : Hid (exC 10 (nrm a n) (nrm b n) n = false) := by unfold Hid; simp [exC, hA, hB]
      go_enter Try.func22, Try.ntmps22
      go_wp2_with first
        | (go_at_call 49; refine (check_any _ _ _ _).mono ?_; rintro e w' ⟨rfl, rfl⟩; rw [HE.out])
        | (go_at_call 45; refine (normed_any H.out _ _).mono ?_; rintro e w' ⟨rfl, rfl⟩)
        | (go_at_call 50; refine (opOf_any 10 (by decide) (by decide) _).mono ?_; rintro e w' ⟨rfl, hf⟩; rw [show opF 10 = .func (.func 75) #[] #[] from rfl])
        | (go_at_call 75; refine (fn_10 _ _ _ a1 a2 b1 b2 _).mono ?_; rintro e w' ⟨rfl, rfl⟩)
        | (go_at_call 54; refine (narrow_any _ _).mono ?_; rintro e w' ⟨rfl, rfl⟩)
      go_ret2
      exact ⟨by rw [HX.out]; rfl, by first | assumption | exact Fr.refl _⟩
  · have HX : Hid (exC 10 (nrm a n) (nrm b n) n = false) := by unfold Hid; simp [exC, hA]
    go_enter Try.func22, Try.ntmps22
    go_wp2_with first
      | (go_at_call 49; refine (check_any _ _ _ _).mono ?_; rintro e w' ⟨rfl, rfl⟩; rw [HE.out])
      | (go_at_call 45; refine (normed_any H.out _ _).mono ?_; rintro e w' ⟨rfl, rfl⟩)
      | (go_at_call 50; refine (opOf_any 10 (by decide) (by decide) _).mono ?_; rintro e w' ⟨rfl, hf⟩; rw [show opF 10 = .func (.func 75) #[] #[] from rfl])
      | (go_at_call 75; refine (fn_10 _ _ _ a1 a2 b1 b2 _).mono ?_; rintro e w' ⟨rfl, rfl⟩)
      | (go_at_call 54; refine (narrow_any _ _).mono ?_; rintro e w' ⟨rfl, rfl⟩)
    go_ret2
    exact ⟨by rw [HX.out]; rfl, by first | assumption | exact Fr.refl _⟩
set_option maxHeartbeats 800000 in
theorem Exact_11 {n : Int} (hb : OkB n) (a b : Int) (w : World) : Calls Try.prog 22 #[.int .i64 11, .int .i64 a, .int .i64 b, .int .i64 n] w fun e w' => e = .returned (.tuple #[.bool (exC 11 (nrm a n) (nrm b n) n), .int .i64 0]) ∧ Fr w w' := by
  have H := Lib.hid hb
  have he : appE 11 b n = 0 := by simp [appE, show okB n = true from by simpa [okB] using hb]
  have HE := Lib.hid he
  obtain ⟨a1, a2⟩ := nrm_bd (v := a) hb
  obtain ⟨b1, b2⟩ := nrm_bd (v := b) hb
  clear hb he
  rcases Bool.eq_false_or_eq_true (nar (nrm a n)) with hA | hA
  · rcases Bool.eq_false_or_eq_true (nar (nrm b n)) with hB | hB
    · have HX : Hid (exC 11 (nrm a n) (nrm b n) n = nar (opv 11 (nrm a n) (nrm b n) n)) := by unfold Hid; simp [exC, hA, hB]
      go_enter Try.func22, Try.ntmps22
      go_wp2_with first
        | (go_at_call 49; refine (check_any _ _ _ _).mono ?_; rintro e w' ⟨rfl, rfl⟩; rw [HE.out])
        | (go_at_call 45; refine (normed_any H.out _ _).mono ?_; rintro e w' ⟨rfl, rfl⟩)
        | (go_at_call 50; refine (opOf_any 11 (by decide) (by decide) _).mono ?_; rintro e w' ⟨rfl, hf⟩; rw [show opF 11 = .func (.func 76) #[] #[] from rfl])
        | (go_at_call 76; refine (fn_11 _ _ _ a1 a2 b1 b2 _).mono ?_; rintro e w' ⟨rfl, rfl⟩)
        | (go_at_call 54; refine (narrow_any _ _).mono ?_; rintro e w' ⟨rfl, rfl⟩)
      go_ret2
      exact ⟨by rw [HX.out]; rfl, by first | assumption | exact Fr.refl _⟩
    · have HX : Hid (exC 11 (nrm a n) (nrm b n) n = false) := by unfold Hid; simp [exC, hA, hB]
      go_enter Try.func22, Try.ntmps22
      go_wp2_with first
        | (go_at_call 49; refine (check_any _ _ _ _).mono ?_; rintro e w' ⟨rfl, rfl⟩; rw [HE.out])
        | (go_at_call 45; refine (normed_any H.out _ _).mono ?_; rintro e w' ⟨rfl, rfl⟩)
        | (go_at_call 50; refine (opOf_any 11 (by decide) (by decide) _).mono ?_; rintro e w' ⟨rfl, hf⟩; rw [show opF 11 = .func (.func 76) #[] #[] from rfl])
        | (go_at_call 76; refine (fn_11 _ _ _ a1 a2 b1 b2 _).mono ?_; rintro e w' ⟨rfl, rfl⟩)
        | (go_at_call 54; refine (narrow_any _ _).mono ?_; rintro e w' ⟨rfl, rfl⟩)
      go_ret2
      exact ⟨by rw [HX.out]; rfl, by first | assumption | exact Fr.refl _⟩
  · have HX : Hid (exC 11 (nrm a n) (nrm b n) n = false) := by unfold Hid; simp [exC, hA]
    go_enter Try.func22, Try.ntmps22
    go_wp2_with first
      | (go_at_call 49; refine (check_any _ _ _ _).mono ?_; rintro e w' ⟨rfl, rfl⟩; rw [HE.out])
      | (go_at_call 45; refine (normed_any H.out _ _).mono ?_; rintro e w' ⟨rfl, rfl⟩)
      | (go_at_call 50; refine (opOf_any 11 (by decide) (by decide) _).mono ?_; rintro e w' ⟨rfl, hf⟩; rw [show opF 11 = .func (.func 76) #[] #[] from rfl])
      | (go_at_call 76; refine (fn_11 _ _ _ a1 a2 b1 b2 _).mono ?_; rintro e w' ⟨rfl, rfl⟩)
      | (go_at_call 54; refine (narrow_any _ _).mono ?_; rintro e w' ⟨rfl, rfl⟩)
    go_ret2
    exact ⟨by rw [HX.out]; rfl, by first | assumption | exact Fr.refl _⟩
set_option maxHeartbeats 800000 in
theorem Exact_12 {n : Int} (hb : OkB n) (a b : Int) (w : World) : Calls Try.prog 22 #[.int .i64 12, .int .i64 a, .int .i64 b, .int .i64 n] w fun e w' => e = .returned (.tuple #[.bool (exC 12 (nrm a n) (nrm b n) n), .int .i64 0]) ∧ Fr w w' := by
  have H := Lib.hid hb
  have he : appE 12 b n = 0 := by simp [appE, show okB n = true from by simpa [okB] using hb]
  have HE := Lib.hid he
  obtain ⟨a1, a2⟩ := nrm_bd (v := a) hb
  obtain ⟨b1, b2⟩ := nrm_bd (v := b) hb
  clear hb he
  rcases Bool.eq_false_or_eq_true (nar (nrm a n)) with hA | hA
  · rcases Bool.eq_false_or_eq_true (nar (nrm b n)) with hB | hB
    · have HX : Hid (exC 12 (nrm a n) (nrm b n) n = nar (opv 12 (nrm a n) (nrm b n) n)) := by unfold Hid; simp [exC, hA, hB]
      go_enter Try.func22, Try.ntmps22
      go_wp2_with first
        | (go_at_call 49; refine (check_any _ _ _ _).mono ?_; rintro e w' ⟨rfl, rfl⟩; rw [HE.out])
        | (go_at_call 45; refine (normed_any H.out _ _).mono ?_; rintro e w' ⟨rfl, rfl⟩)
        | (go_at_call 50; refine (opOf_any 12 (by decide) (by decide) _).mono ?_; rintro e w' ⟨rfl, hf⟩; rw [show opF 12 = .func (.func 77) #[] #[] from rfl])
        | (go_at_call 77; refine (fn_12 _ _ _ a1 a2 b1 b2 _).mono ?_; rintro e w' ⟨rfl, rfl⟩)
        | (go_at_call 54; refine (narrow_any _ _).mono ?_; rintro e w' ⟨rfl, rfl⟩)
      go_ret2
      exact ⟨by rw [HX.out]; rfl, by first | assumption | exact Fr.refl _⟩
    · have HX : Hid (exC 12 (nrm a n) (nrm b n) n = false) := by unfold Hid; simp [exC, hA, hB]
      go_enter Try.func22, Try.ntmps22
      go_wp2_with first
        | (go_at_call 49; refine (check_any _ _ _ _).mono ?_; rintro e w' ⟨rfl, rfl⟩; rw [HE.out])
        | (go_at_call 45; refine (normed_any H.out _ _).mono ?_; rintro e w' ⟨rfl, rfl⟩)
        | (go_at_call 50; refine (opOf_any 12 (by decide) (by decide) _).mono ?_; rintro e w' ⟨rfl, hf⟩; rw [show opF 12 = .func (.func 77) #[] #[] from rfl])
        | (go_at_call 77; refine (fn_12 _ _ _ a1 a2 b1 b2 _).mono ?_; rintro e w' ⟨rfl, rfl⟩)
        | (go_at_call 54; refine (narrow_any _ _).mono ?_; rintro e w' ⟨rfl, rfl⟩)
      go_ret2
      exact ⟨by rw [HX.out]; rfl, by first | assumption | exact Fr.refl _⟩
  · have HX : Hid (exC 12 (nrm a n) (nrm b n) n = false) := by unfold Hid; simp [exC, hA]
    go_enter Try.func22, Try.ntmps22
    go_wp2_with first
      | (go_at_call 49; refine (check_any _ _ _ _).mono ?_; rintro e w' ⟨rfl, rfl⟩; rw [HE.out])
      | (go_at_call 45; refine (normed_any H.out _ _).mono ?_; rintro e w' ⟨rfl, rfl⟩)
      | (go_at_call 50; refine (opOf_any 12 (by decide) (by decide) _).mono ?_; rintro e w' ⟨rfl, hf⟩; rw [show opF 12 = .func (.func 77) #[] #[] from rfl])
      | (go_at_call 77; refine (fn_12 _ _ _ a1 a2 b1 b2 _).mono ?_; rintro e w' ⟨rfl, rfl⟩)
      | (go_at_call 54; refine (narrow_any _ _).mono ?_; rintro e w' ⟨rfl, rfl⟩)
    go_ret2
    exact ⟨by rw [HX.out]; rfl, by first | assumption | exact Fr.refl _⟩
set_option maxHeartbeats 800000 in
theorem Exact_13 {n : Int} (hb : OkB n) (a b : Int) (w : World) : Calls Try.prog 22 #[.int .i64 13, .int .i64 a, .int .i64 b, .int .i64 n] w fun e w' => e = .returned (.tuple #[.bool (exC 13 (nrm a n) (nrm b n) n), .int .i64 0]) ∧ Fr w w' := by
  have H := Lib.hid hb
  have he : appE 13 b n = 0 := by simp [appE, show okB n = true from by simpa [okB] using hb]
  have HE := Lib.hid he
  obtain ⟨a1, a2⟩ := nrm_bd (v := a) hb
  obtain ⟨b1, b2⟩ := nrm_bd (v := b) hb
  clear hb he
  rcases Bool.eq_false_or_eq_true (nar (nrm a n)) with hA | hA
  · rcases Bool.eq_false_or_eq_true (nar (nrm b n)) with hB | hB
    · have HX : Hid (exC 13 (nrm a n) (nrm b n) n = nar (opv 13 (nrm a n) (nrm b n) n)) := by unfold Hid; simp [exC, hA, hB]
      go_enter Try.func22, Try.ntmps22
      go_wp2_with first
        | (go_at_call 49; refine (check_any _ _ _ _).mono ?_; rintro e w' ⟨rfl, rfl⟩; rw [HE.out])
        | (go_at_call 45; refine (normed_any H.out _ _).mono ?_; rintro e w' ⟨rfl, rfl⟩)
        | (go_at_call 50; refine (opOf_any 13 (by decide) (by decide) _).mono ?_; rintro e w' ⟨rfl, hf⟩; rw [show opF 13 = .func (.func 79) #[] #[] from rfl])
        | (go_at_call 79; refine (fn_13 _ _ _ a1 a2 b1 b2 _).mono ?_; rintro e w' ⟨rfl, rfl⟩)
        | (go_at_call 54; refine (narrow_any _ _).mono ?_; rintro e w' ⟨rfl, rfl⟩)
      go_ret2
      exact ⟨by rw [HX.out]; rfl, by first | assumption | exact Fr.refl _⟩
    · have HX : Hid (exC 13 (nrm a n) (nrm b n) n = false) := by unfold Hid; simp [exC, hA, hB]
      go_enter Try.func22, Try.ntmps22
      go_wp2_with first
        | (go_at_call 49; refine (check_any _ _ _ _).mono ?_; rintro e w' ⟨rfl, rfl⟩; rw [HE.out])
        | (go_at_call 45; refine (normed_any H.out _ _).mono ?_; rintro e w' ⟨rfl, rfl⟩)
        | (go_at_call 50; refine (opOf_any 13 (by decide) (by decide) _).mono ?_; rintro e w' ⟨rfl, hf⟩; rw [show opF 13 = .func (.func 79) #[] #[] from rfl])
        | (go_at_call 79; refine (fn_13 _ _ _ a1 a2 b1 b2 _).mono ?_; rintro e w' ⟨rfl, rfl⟩)
        | (go_at_call 54; refine (narrow_any _ _).mono ?_; rintro e w' ⟨rfl, rfl⟩)
      go_ret2
      exact ⟨by rw [HX.out]; rfl, by first | assumption | exact Fr.refl _⟩
  · have HX : Hid (exC 13 (nrm a n) (nrm b n) n = false) := by unfold Hid; simp [exC, hA]
    go_enter Try.func22, Try.ntmps22
    go_wp2_with first
      | (go_at_call 49; refine (check_any _ _ _ _).mono ?_; rintro e w' ⟨rfl, rfl⟩; rw [HE.out])
      | (go_at_call 45; refine (normed_any H.out _ _).mono ?_; rintro e w' ⟨rfl, rfl⟩)
      | (go_at_call 50; refine (opOf_any 13 (by decide) (by decide) _).mono ?_; rintro e w' ⟨rfl, hf⟩; rw [show opF 13 = .func (.func 79) #[] #[] from rfl])
      | (go_at_call 79; refine (fn_13 _ _ _ a1 a2 b1 b2 _).mono ?_; rintro e w' ⟨rfl, rfl⟩)
      | (go_at_call 54; refine (narrow_any _ _).mono ?_; rintro e w' ⟨rfl, rfl⟩)
    go_ret2
    exact ⟨by rw [HX.out]; rfl, by first | assumption | exact Fr.refl _⟩
set_option maxHeartbeats 800000 in
theorem Exact_14 {n : Int} (hb : OkB n) (a b : Int) (w : World) : Calls Try.prog 22 #[.int .i64 14, .int .i64 a, .int .i64 b, .int .i64 n] w fun e w' => e = .returned (.tuple #[.bool (exC 14 (nrm a n) (nrm b n) n), .int .i64 0]) ∧ Fr w w' := by
  have H := Lib.hid hb
  have he : appE 14 b n = 0 := by simp [appE, show okB n = true from by simpa [okB] using hb]
  have HE := Lib.hid he
  obtain ⟨a1, a2⟩ := nrm_bd (v := a) hb
  obtain ⟨b1, b2⟩ := nrm_bd (v := b) hb
  clear hb he
  rcases Bool.eq_false_or_eq_true (nar (nrm a n)) with hA | hA
  · rcases Bool.eq_false_or_eq_true (nar (nrm b n)) with hB | hB
    · have HX : Hid (exC 14 (nrm a n) (nrm b n) n = nar (opv 14 (nrm a n) (nrm b n) n)) := by unfold Hid; simp [exC, hA, hB]
      go_enter Try.func22, Try.ntmps22
      go_wp2_with first
        | (go_at_call 49; refine (check_any _ _ _ _).mono ?_; rintro e w' ⟨rfl, rfl⟩; rw [HE.out])
        | (go_at_call 45; refine (normed_any H.out _ _).mono ?_; rintro e w' ⟨rfl, rfl⟩)
        | (go_at_call 50; refine (opOf_any 14 (by decide) (by decide) _).mono ?_; rintro e w' ⟨rfl, hf⟩; rw [show opF 14 = .func (.func 80) #[] #[] from rfl])
        | (go_at_call 80; refine (fn_14 _ _ _ a1 a2 b1 b2 _).mono ?_; rintro e w' ⟨rfl, rfl⟩)
        | (go_at_call 54; refine (narrow_any _ _).mono ?_; rintro e w' ⟨rfl, rfl⟩)
      go_ret2
      exact ⟨by rw [HX.out]; rfl, by first | assumption | exact Fr.refl _⟩
    · have HX : Hid (exC 14 (nrm a n) (nrm b n) n = false) := by unfold Hid; simp [exC, hA, hB]
      go_enter Try.func22, Try.ntmps22
      go_wp2_with first
        | (go_at_call 49; refine (check_any _ _ _ _).mono ?_; rintro e w' ⟨rfl, rfl⟩; rw [HE.out])
        | (go_at_call 45; refine (normed_any H.out _ _).mono ?_; rintro e w' ⟨rfl, rfl⟩)
        | (go_at_call 50; refine (opOf_any 14 (by decide) (by decide) _).mono ?_; rintro e w' ⟨rfl, hf⟩; rw [show opF 14 = .func (.func 80) #[] #[] from rfl])
        | (go_at_call 80; refine (fn_14 _ _ _ a1 a2 b1 b2 _).mono ?_; rintro e w' ⟨rfl, rfl⟩)
        | (go_at_call 54; refine (narrow_any _ _).mono ?_; rintro e w' ⟨rfl, rfl⟩)
      go_ret2
      exact ⟨by rw [HX.out]; rfl, by first | assumption | exact Fr.refl _⟩
  · have HX : Hid (exC 14 (nrm a n) (nrm b n) n = false) := by unfold Hid; simp [exC, hA]
    go_enter Try.func22, Try.ntmps22
    go_wp2_with first
      | (go_at_call 49; refine (check_any _ _ _ _).mono ?_; rintro e w' ⟨rfl, rfl⟩; rw [HE.out])
      | (go_at_call 45; refine (normed_any H.out _ _).mono ?_; rintro e w' ⟨rfl, rfl⟩)
      | (go_at_call 50; refine (opOf_any 14 (by decide) (by decide) _).mono ?_; rintro e w' ⟨rfl, hf⟩; rw [show opF 14 = .func (.func 80) #[] #[] from rfl])
      | (go_at_call 80; refine (fn_14 _ _ _ a1 a2 b1 b2 _).mono ?_; rintro e w' ⟨rfl, rfl⟩)
      | (go_at_call 54; refine (narrow_any _ _).mono ?_; rintro e w' ⟨rfl, rfl⟩)
    go_ret2
    exact ⟨by rw [HX.out]; rfl, by first | assumption | exact Fr.refl _⟩
set_option maxHeartbeats 800000 in
theorem Exact_15 {n : Int} (hb : OkB n) (a b : Int) (w : World) : Calls Try.prog 22 #[.int .i64 15, .int .i64 a, .int .i64 b, .int .i64 n] w fun e w' => e = .returned (.tuple #[.bool (exC 15 (nrm a n) (nrm b n) n), .int .i64 0]) ∧ Fr w w' := by
  have H := Lib.hid hb
  have he : appE 15 b n = 0 := by simp [appE, show okB n = true from by simpa [okB] using hb]
  have HE := Lib.hid he
  obtain ⟨a1, a2⟩ := nrm_bd (v := a) hb
  obtain ⟨b1, b2⟩ := nrm_bd (v := b) hb
  clear hb he
  rcases Bool.eq_false_or_eq_true (nar (nrm a n)) with hA | hA
  · rcases Bool.eq_false_or_eq_true (nar (nrm b n)) with hB | hB
    · have HX : Hid (exC 15 (nrm a n) (nrm b n) n = nar (opv 15 (nrm a n) (nrm b n) n)) := by unfold Hid; simp [exC, hA, hB]
      go_enter Try.func22, Try.ntmps22
      go_wp2_with first
        | (go_at_call 49; refine (check_any _ _ _ _).mono ?_; rintro e w' ⟨rfl, rfl⟩; rw [HE.out])
        | (go_at_call 45; refine (normed_any H.out _ _).mono ?_; rintro e w' ⟨rfl, rfl⟩)
        | (go_at_call 50; refine (opOf_any 15 (by decide) (by decide) _).mono ?_; rintro e w' ⟨rfl, hf⟩; rw [show opF 15 = .func (.func 81) #[] #[] from rfl])
        | (go_at_call 81; refine (fn_15 _ _ _ a1 a2 b1 b2 _).mono ?_; rintro e w' ⟨rfl, rfl⟩)
        | (go_at_call 54; refine (narrow_any _ _).mono ?_; rintro e w' ⟨rfl, rfl⟩)
      go_ret2
      exact ⟨by rw [HX.out]; rfl, by first | assumption | exact Fr.refl _⟩
    · have HX : Hid (exC 15 (nrm a n) (nrm b n) n = false) := by unfold Hid; simp [exC, hA, hB]
      go_enter Try.func22, Try.ntmps22
      go_wp2_with first
        | (go_at_call 49; refine (check_any _ _ _ _).mono ?_; rintro e w' ⟨rfl, rfl⟩; rw [HE.out])
        | (go_at_call 45; refine (normed_any H.out _ _).mono ?_; rintro e w' ⟨rfl, rfl⟩)
        | (go_at_call 50; refine (opOf_any 15 (by decide) (by decide) _).mono ?_; rintro e w' ⟨rfl, hf⟩; rw [show opF 15 = .func (.func 81) #[] #[] from rfl])
        | (go_at_call 81; refine (fn_15 _ _ _ a1 a2 b1 b2 _).mono ?_; rintro e w' ⟨rfl, rfl⟩)
        | (go_at_call 54; refine (narrow_any _ _).mono ?_; rintro e w' ⟨rfl, rfl⟩)
      go_ret2
      exact ⟨by rw [HX.out]; rfl, by first | assumption | exact Fr.refl _⟩
  · have HX : Hid (exC 15 (nrm a n) (nrm b n) n = false) := by unfold Hid; simp [exC, hA]
    go_enter Try.func22, Try.ntmps22
    go_wp2_with first
      | (go_at_call 49; refine (check_any _ _ _ _).mono ?_; rintro e w' ⟨rfl, rfl⟩; rw [HE.out])
      | (go_at_call 45; refine (normed_any H.out _ _).mono ?_; rintro e w' ⟨rfl, rfl⟩)
      | (go_at_call 50; refine (opOf_any 15 (by decide) (by decide) _).mono ?_; rintro e w' ⟨rfl, hf⟩; rw [show opF 15 = .func (.func 81) #[] #[] from rfl])
      | (go_at_call 81; refine (fn_15 _ _ _ a1 a2 b1 b2 _).mono ?_; rintro e w' ⟨rfl, rfl⟩)
      | (go_at_call 54; refine (narrow_any _ _).mono ?_; rintro e w' ⟨rfl, rfl⟩)
    go_ret2
    exact ⟨by rw [HX.out]; rfl, by first | assumption | exact Fr.refl _⟩
set_option maxHeartbeats 800000 in
theorem Exact_16 {n : Int} (hb : OkB n) (a b : Int) (w : World) : Calls Try.prog 22 #[.int .i64 16, .int .i64 a, .int .i64 b, .int .i64 n] w fun e w' => e = .returned (.tuple #[.bool (exC 16 (nrm a n) (nrm b n) n), .int .i64 0]) ∧ Fr w w' := by
  have H := Lib.hid hb
  have he : appE 16 b n = 0 := by simp [appE, show okB n = true from by simpa [okB] using hb]
  have HE := Lib.hid he
  obtain ⟨a1, a2⟩ := nrm_bd (v := a) hb
  obtain ⟨b1, b2⟩ := nrm_bd (v := b) hb
  clear hb he
  rcases Bool.eq_false_or_eq_true (nar (nrm a n)) with hA | hA
  · rcases Bool.eq_false_or_eq_true (nar (nrm b n)) with hB | hB
    · have HX : Hid (exC 16 (nrm a n) (nrm b n) n = nar (opv 16 (nrm a n) (nrm b n) n)) := by unfold Hid; simp [exC, hA, hB]
      go_enter Try.func22, Try.ntmps22
      go_wp2_with first
        | (go_at_call 49; refine (check_any _ _ _ _).mono ?_; rintro e w' ⟨rfl, rfl⟩; rw [HE.out])
        | (go_at_call 45; refine (normed_any H.out _ _).mono ?_; rintro e w' ⟨rfl, rfl⟩)
        | (go_at_call 50; refine (opOf_any 16 (by decide) (by decide) _).mono ?_; rintro e w' ⟨rfl, hf⟩; rw [show opF 16 = .func (.func 82) #[] #[] from rfl])
        | (go_at_call 82; refine (fn_16 _ _ _ a1 a2 b1 b2 _).mono ?_; rintro e w' ⟨rfl, rfl⟩)
        | (go_at_call 54; refine (narrow_any _ _).mono ?_; rintro e w' ⟨rfl, rfl⟩)
      go_ret2
      exact ⟨by rw [HX.out]; rfl, by first | assumption | exact Fr.refl _⟩
    · have HX : Hid (exC 16 (nrm a n) (nrm b n) n = false) := by unfold Hid; simp [exC, hA, hB]
      go_enter Try.func22, Try.ntmps22
      go_wp2_with first
        | (go_at_call 49; refine (check_any _ _ _ _).mono ?_; rintro e w' ⟨rfl, rfl⟩; rw [HE.out])
        | (go_at_call 45; refine (normed_any H.out _ _).mono ?_; rintro e w' ⟨rfl, rfl⟩)
        | (go_at_call 50; refine (opOf_any 16 (by decide) (by decide) _).mono ?_; rintro e w' ⟨rfl, hf⟩; rw [show opF 16 = .func (.func 82) #[] #[] from rfl])
        | (go_at_call 82; refine (fn_16 _ _ _ a1 a2 b1 b2 _).mono ?_; rintro e w' ⟨rfl, rfl⟩)
        | (go_at_call 54; refine (narrow_any _ _).mono ?_; rintro e w' ⟨rfl, rfl⟩)
      go_ret2
      exact ⟨by rw [HX.out]; rfl, by first | assumption | exact Fr.refl _⟩
  · have HX : Hid (exC 16 (nrm a n) (nrm b n) n = false) := by unfold Hid; simp [exC, hA]
    go_enter Try.func22, Try.ntmps22
    go_wp2_with first
      | (go_at_call 49; refine (check_any _ _ _ _).mono ?_; rintro e w' ⟨rfl, rfl⟩; rw [HE.out])
      | (go_at_call 45; refine (normed_any H.out _ _).mono ?_; rintro e w' ⟨rfl, rfl⟩)
      | (go_at_call 50; refine (opOf_any 16 (by decide) (by decide) _).mono ?_; rintro e w' ⟨rfl, hf⟩; rw [show opF 16 = .func (.func 82) #[] #[] from rfl])
      | (go_at_call 82; refine (fn_16 _ _ _ a1 a2 b1 b2 _).mono ?_; rintro e w' ⟨rfl, rfl⟩)
      | (go_at_call 54; refine (narrow_any _ _).mono ?_; rintro e w' ⟨rfl, rfl⟩)
    go_ret2
    exact ⟨by rw [HX.out]; rfl, by first | assumption | exact Fr.refl _⟩
set_option maxHeartbeats 800000 in
theorem Exact_17 {n : Int} (hb : OkB n) (a b : Int) (w : World) : Calls Try.prog 22 #[.int .i64 17, .int .i64 a, .int .i64 b, .int .i64 n] w fun e w' => e = .returned (.tuple #[.bool (exC 17 (nrm a n) (nrm b n) n), .int .i64 0]) ∧ Fr w w' := by
  have H := Lib.hid hb
  have he : appE 17 b n = 0 := by simp [appE, show okB n = true from by simpa [okB] using hb]
  have HE := Lib.hid he
  obtain ⟨a1, a2⟩ := nrm_bd (v := a) hb
  obtain ⟨b1, b2⟩ := nrm_bd (v := b) hb
  clear hb he
  rcases Bool.eq_false_or_eq_true (nar (nrm a n)) with hA | hA
  · rcases Bool.eq_false_or_eq_true (nar (nrm b n)) with hB | hB
    · have HX : Hid (exC 17 (nrm a n) (nrm b n) n = nar (opv 17 (nrm a n) (nrm b n) n)) := by unfold Hid; simp [exC, hA, hB]
      go_enter Try.func22, Try.ntmps22
      go_wp2_with first
        | (go_at_call 49; refine (check_any _ _ _ _).mono ?_; rintro e w' ⟨rfl, rfl⟩; rw [HE.out])
        | (go_at_call 45; refine (normed_any H.out _ _).mono ?_; rintro e w' ⟨rfl, rfl⟩)
        | (go_at_call 50; refine (opOf_any 17 (by decide) (by decide) _).mono ?_; rintro e w' ⟨rfl, hf⟩; rw [show opF 17 = .func (.func 83) #[] #[] from rfl])
        | (go_at_call 83; refine (fn_17 _ _ _ a1 a2 b1 b2 _).mono ?_; rintro e w' ⟨rfl, rfl⟩)
        | (go_at_call 54; refine (narrow_any _ _).mono ?_; rintro e w' ⟨rfl, rfl⟩)
      go_ret2
      exact ⟨by rw [HX.out]; rfl, by first | assumption | exact Fr.refl _⟩
    · have HX : Hid (exC 17 (nrm a n) (nrm b n) n = false) := by unfold Hid; simp [exC, hA, hB]
      go_enter Try.func22, Try.ntmps22
      go_wp2_with first
        | (go_at_call 49; refine (check_any _ _ _ _).mono ?_; rintro e w' ⟨rfl, rfl⟩; rw [HE.out])
        | (go_at_call 45; refine (normed_any H.out _ _).mono ?_; rintro e w' ⟨rfl, rfl⟩)
        | (go_at_call 50; refine (opOf_any 17 (by decide) (by decide) _).mono ?_; rintro e w' ⟨rfl, hf⟩; rw [show opF 17 = .func (.func 83) #[] #[] from rfl])
        | (go_at_call 83; refine (fn_17 _ _ _ a1 a2 b1 b2 _).mono ?_; rintro e w' ⟨rfl, rfl⟩)
        | (go_at_call 54; refine (narrow_any _ _).mono ?_; rintro e w' ⟨rfl, rfl⟩)
      go_ret2
      exact ⟨by rw [HX.out]; rfl, by first | assumption | exact Fr.refl _⟩
  · have HX : Hid (exC 17 (nrm a n) (nrm b n) n = false) := by unfold Hid; simp [exC, hA]
    go_enter Try.func22, Try.ntmps22
    go_wp2_with first
      | (go_at_call 49; refine (check_any _ _ _ _).mono ?_; rintro e w' ⟨rfl, rfl⟩; rw [HE.out])
      | (go_at_call 45; refine (normed_any H.out _ _).mono ?_; rintro e w' ⟨rfl, rfl⟩)
      | (go_at_call 50; refine (opOf_any 17 (by decide) (by decide) _).mono ?_; rintro e w' ⟨rfl, hf⟩; rw [show opF 17 = .func (.func 83) #[] #[] from rfl])
      | (go_at_call 83; refine (fn_17 _ _ _ a1 a2 b1 b2 _).mono ?_; rintro e w' ⟨rfl, rfl⟩)
      | (go_at_call 54; refine (narrow_any _ _).mono ?_; rintro e w' ⟨rfl, rfl⟩)
    go_ret2
    exact ⟨by rw [HX.out]; rfl, by first | assumption | exact Fr.refl _⟩
set_option maxHeartbeats 800000 in
theorem Exact_18 {n : Int} (hb : OkB n) (a b : Int) (w : World) : Calls Try.prog 22 #[.int .i64 18, .int .i64 a, .int .i64 b, .int .i64 n] w fun e w' => e = .returned (.tuple #[.bool (exC 18 (nrm a n) (nrm b n) n), .int .i64 0]) ∧ Fr w w' := by
  have H := Lib.hid hb
  have he : appE 18 b n = 0 := by simp [appE, show okB n = true from by simpa [okB] using hb]
  have HE := Lib.hid he
  obtain ⟨a1, a2⟩ := nrm_bd (v := a) hb
  obtain ⟨b1, b2⟩ := nrm_bd (v := b) hb
  clear hb he
  have h0 : nar 0 = true := nar_0
  rcases Bool.eq_false_or_eq_true (nar (nrm a n)) with hA | hA
  · have HX : Hid (exC 18 (nrm a n) (nrm b n) n = nar (opv 18 (nrm a n) 0 n)) := by unfold Hid; simp [exC, hA, h0]
    go_enter Try.func22, Try.ntmps22
    go_wp2_with first
      | (go_at_call 49; refine (check_any _ _ _ _).mono ?_; rintro e w' ⟨rfl, rfl⟩; rw [HE.out])
      | (go_at_call 45; refine (normed_any H.out _ _).mono ?_; rintro e w' ⟨rfl, rfl⟩)
      | (go_at_call 50; refine (opOf_any 18 (by decide) (by decide) _).mono ?_; rintro e w' ⟨rfl, hf⟩; rw [show opF 18 = .func (.func 84) #[] #[] from rfl])
      | (go_at_call 84; refine (fn_18 _ _ _ a1 a2 (by decide) (by decide) _).mono ?_; rintro e w' ⟨rfl, rfl⟩)
      | (go_at_call 54; refine (narrow_any _ _).mono ?_; rintro e w' ⟨rfl, rfl⟩)
    go_ret2
    exact ⟨by rw [HX.out]; rfl, by first | assumption | exact Fr.refl _⟩
  · have HX : Hid (exC 18 (nrm a n) (nrm b n) n = false) := by unfold Hid; simp [exC, hA]
    go_enter Try.func22, Try.ntmps22
    go_wp2_with first
      | (go_at_call 49; refine (check_any _ _ _ _).mono ?_; rintro e w' ⟨rfl, rfl⟩; rw [HE.out])
      | (go_at_call 45; refine (normed_any H.out _ _).mono ?_; rintro e w' ⟨rfl, rfl⟩)
      | (go_at_call 50; refine (opOf_any 18 (by decide) (by decide) _).mono ?_; rintro e w' ⟨rfl, hf⟩; rw [show opF 18 = .func (.func 84) #[] #[] from rfl])
      | (go_at_call 84; refine (fn_18 _ _ _ a1 a2 (by decide) (by decide) _).mono ?_; rintro e w' ⟨rfl, rfl⟩)
      | (go_at_call 54; refine (narrow_any _ _).mono ?_; rintro e w' ⟨rfl, rfl⟩)
    go_ret2
    exact ⟨by rw [HX.out]; rfl, by first | assumption | exact Fr.refl _⟩
set_option maxHeartbeats 800000 in
theorem Exact_19 {n : Int} (hb : OkB n) (a b : Int) (w : World) : Calls Try.prog 22 #[.int .i64 19, .int .i64 a, .int .i64 b, .int .i64 n] w fun e w' => e = .returned (.tuple #[.bool (exC 19 (nrm a n) (nrm b n) n), .int .i64 0]) ∧ Fr w w' := by
  have H := Lib.hid hb
  have he : appE 19 b n = 0 := by simp [appE, show okB n = true from by simpa [okB] using hb]
  have HE := Lib.hid he
  obtain ⟨a1, a2⟩ := nrm_bd (v := a) hb
  obtain ⟨b1, b2⟩ := nrm_bd (v := b) hb
  clear hb he
  have h0 : nar 0 = true := nar_0
  rcases Bool.eq_false_or_eq_true (nar (nrm a n)) with hA | hA
  · have HX : Hid (exC 19 (nrm a n) (nrm b n) n = nar (opv 19 (nrm a n) 0 n)) := by unfold Hid; simp [exC, hA, h0]
    go_enter Try.func22, Try.ntmps22
    go_wp2_with first
      | (go_at_call 49; refine (check_any _ _ _ _).mono ?_; rintro e w' ⟨rfl, rfl⟩; rw [HE.out])
      | (go_at_call 45; refine (normed_any H.out _ _).mono ?_; rintro e w' ⟨rfl, rfl⟩)
      | (go_at_call 50; refine (opOf_any 19 (by decide) (by decide) _).mono ?_; rintro e w' ⟨rfl, hf⟩; rw [show opF 19 = .func (.func 85) #[] #[] from rfl])
      | (go_at_call 85; refine (fn_19 _ _ _ a1 a2 (by decide) (by decide) _).mono ?_; rintro e w' ⟨rfl, rfl⟩)
      | (go_at_call 54; refine (narrow_any _ _).mono ?_; rintro e w' ⟨rfl, rfl⟩)
    go_ret2
    exact ⟨by rw [HX.out]; rfl, by first | assumption | exact Fr.refl _⟩
  · have HX : Hid (exC 19 (nrm a n) (nrm b n) n = false) := by unfold Hid; simp [exC, hA]
    go_enter Try.func22, Try.ntmps22
    go_wp2_with first
      | (go_at_call 49; refine (check_any _ _ _ _).mono ?_; rintro e w' ⟨rfl, rfl⟩; rw [HE.out])
      | (go_at_call 45; refine (normed_any H.out _ _).mono ?_; rintro e w' ⟨rfl, rfl⟩)
      | (go_at_call 50; refine (opOf_any 19 (by decide) (by decide) _).mono ?_; rintro e w' ⟨rfl, hf⟩; rw [show opF 19 = .func (.func 85) #[] #[] from rfl])
      | (go_at_call 85; refine (fn_19 _ _ _ a1 a2 (by decide) (by decide) _).mono ?_; rintro e w' ⟨rfl, rfl⟩)
      | (go_at_call 54; refine (narrow_any _ _).mono ?_; rintro e w' ⟨rfl, rfl⟩)
    go_ret2
    exact ⟨by rw [HX.out]; rfl, by first | assumption | exact Fr.refl _⟩

theorem Exact_no (op a b n : Int) (h : appE op b n ≠ 0) (w : World) : Calls Try.prog 22 #[.int .i64 op, .int .i64 a, .int .i64 b, .int .i64 n] w fun e w' => e = .returned (.tuple #[.bool false, .int .i64 (appE op b n)]) ∧ Fr w w' := by
  have h1 : (appE op b n != 0) = true := by simpa using h
  clear h
  go_enter Try.func22, Try.ntmps22
  go_wp2_with (go_at_call 49; refine (check_any _ _ _ _).mono ?_; rintro e w' ⟨rfl, rfl⟩)
  go_ret2
  exact ⟨rfl, Fr.refl _⟩
theorem Exact_any (op a b n : Int) (w : World) : Calls Try.prog 22 #[.int .i64 op, .int .i64 a, .int .i64 b, .int .i64 n] w fun e w' => e = .returned (.tuple #[.bool (exV op a b n), .int .i64 (appE op b n)]) ∧ Fr w w' := by
  unfold exV
  by_cases h : appE op b n = 0
  · rw [if_pos h, h]
    obtain ⟨hb, h1, h2, h3⟩ := appE_ok h
    clear h
    obtain ⟨k, rfl⟩ := Int.eq_ofNat_of_zero_le (show 0 ≤ op by omega)
    rw [Int.toNat_natCast]
    have hk : k = 1 ∨ k = 2 ∨ k = 3 ∨ k = 4 ∨ k = 5 ∨ k = 6 ∨ k = 7 ∨ k = 8 ∨ k = 9 ∨ k = 10 ∨ k = 11 ∨ k = 12 ∨ k = 13 ∨ k = 14 ∨ k = 15 ∨ k = 16 ∨ k = 17 ∨ k = 18 ∨ k = 19 := by omega
    rcases hk with rfl | rfl | rfl | rfl | rfl | rfl | rfl | rfl | rfl | rfl | rfl | rfl | rfl | rfl | rfl | rfl | rfl | rfl | rfl
    · exact Exact_1 hb a b w
    · exact Exact_2 hb a b (h3 (by decide)) w
    · exact Exact_3 hb a b (h3 (by decide)) w
    · exact Exact_4 hb a b w
    · exact Exact_5 hb a b w
    · exact Exact_6 hb a b w
    · exact Exact_7 hb a b w
    · exact Exact_8 hb a b w
    · exact Exact_9 hb a b w
    · exact Exact_10 hb a b w
    · exact Exact_11 hb a b w
    · exact Exact_12 hb a b w
    · exact Exact_13 hb a b w
    · exact Exact_14 hb a b w
    · exact Exact_15 hb a b w
    · exact Exact_16 hb a b w
    · exact Exact_17 hb a b w
    · exact Exact_18 hb a b w
    · exact Exact_19 hb a b w
  · rw [if_neg h]; exact Exact_no op a b n h w
end Go.Proofs.Ytgnhighlkpgjiaa
