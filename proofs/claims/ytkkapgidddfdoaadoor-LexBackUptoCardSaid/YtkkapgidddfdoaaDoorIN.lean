/- Which texts are names, by both; lists of strings compared. -/
import Derived.Test.YtkkapgidddfdoaaDoorD
import Derived.Test.YtkkapgidddfdoaaDoorW
namespace Go.Proofs.YtkkapgidddfdoaaDoor
open Go.RowKit
set_option linter.unusedVariables false

theorem emp_yes {s : ByteArray} (h : s.size = 0) : s.toList.isEmpty = true := by
  rw [ByteArray.toList_eq, List.isEmpty_iff_length_eq_zero]; simpa using h
theorem emp_no {s : ByteArray} (h : 0 < s.size) : s.toList.isEmpty = false := by
  rw [Bool.eq_false_iff]
  intro e
  rw [ByteArray.toList_eq, List.isEmpty_iff_length_eq_zero] at e
  have : s.size = 0 := by simpa using e
  omega
theorem isNm_no {s : ByteArray} (h : ¬ (0 < s.size ∧ s.size ≤ 24 ∧ small (bt s 0) = true ∧ (∀ i, i < s.size → part (bt s i) = true) ∧ hasB 43 keyB s = false)) : isNm s = false := decide_eq_false h
theorem isNm_yes {s : ByteArray} (h : 0 < s.size ∧ s.size ≤ 24 ∧ small (bt s 0) = true ∧ (∀ i, i < s.size → part (bt s i) = true) ∧ hasB 43 keyB s = false) : isNm s = true := decide_eq_true h
set_option maxHeartbeats 1000000 in
theorem IsName_any (s : ByteArray) (w : World) : Calls Tryd.prog 69 #[.string s] w fun e w' => e = .returned (.bool (isNm s)) ∧ Fr w w' := by
  by_cases h1 : 0 < s.size
  · have e1 := emp_no h1
    by_cases h2 : s.size ≤ 24
    · have hb := bt_at s 0 h1
      cases h3 : small (bt s 0) with
      | true =>
        have H3 := Lib.hid h3
        clear h3
        have hall := run_all part s s.size 0 rfl (Nat.zero_le _)
        by_cases h4 : run part s 0 = s.size
        · have H4 := Lib.hid (hall.1 h4)
          have ht : (((run part s 0 : Nat) : Int) == ((s.size : Nat) : Int)) = true := by rw [beq_iff_eq]; omega
          have HR : Hid (isNm s = !hasB 43 keyB s) := by
            refine Lib.hid ?_
            cases h5 : hasB 43 keyB s with
            | true => exact isNm_no fun h => by rw [h5] at h; exact absurd h.2.2.2.2 (by decide)
            | false => exact isNm_yes ⟨h1, h2, H3.out, fun i hi => H4.out i (Nat.zero_le _) hi, h5⟩
          clear hall h4
          go_enter Tryd.func69, Tryd.ntmps69
          go_wp2_with (first | (go_at_call 47; refine (isSmall_any _ _).mono ?_; rintro e w' ⟨rfl, rfl⟩; rw [H3.out]) | (go_at_call 43; refine (behindName_any s 0 (Nat.zero_le _) (by omega) _).mono ?_; rintro e w' ⟨rfl, rfl⟩) | (go_at_call 70; refine (isKey_any _ _).mono ?_; rintro e w' ⟨rfl, hf⟩))
          go_ret
          exact ⟨by rw [HR.out]; rfl, hf⟩
        · have ht : (((run part s 0 : Nat) : Int) == ((s.size : Nat) : Int)) = false := by rw [beq_eq_false_iff_ne]; omega
          have HR : Hid (isNm s = false) := Lib.hid (isNm_no fun h => h4 (hall.2 fun k _ hk => h.2.2.2.1 k hk))
          clear hall h4
          go_enter Tryd.func69, Tryd.ntmps69
          go_wp2_with (first | (go_at_call 47; refine (isSmall_any _ _).mono ?_; rintro e w' ⟨rfl, rfl⟩; rw [H3.out]) | (go_at_call 43; refine (behindName_any s 0 (Nat.zero_le _) (by omega) _).mono ?_; rintro e w' ⟨rfl, rfl⟩))
          go_ret
          exact ⟨by rw [HR.out]; rfl, Fr.refl _⟩
      | false =>
        have HR : Hid (isNm s = false) := Lib.hid (isNm_no fun h => by rw [h3] at h; exact absurd h.2.2.1 (by decide))
        have H3 := Lib.hid h3
        clear h3
        go_enter Tryd.func69, Tryd.ntmps69
        go_wp2_with (go_at_call 47; refine (isSmall_any _ _).mono ?_; rintro e w' ⟨rfl, rfl⟩; rw [H3.out])
        go_ret
        exact ⟨by rw [HR.out]; rfl, Fr.refl _⟩
    · have HR : Hid (isNm s = false) := Lib.hid (isNm_no fun h => h2 h.2.1)
      have h3 : decide ((s.size : Int) ≤ 24) = false := decide_eq_false (by omega)
      go_enter Tryd.func69, Tryd.ntmps69
      go_wp2
      go_ret
      exact ⟨by rw [HR.out]; rfl, Fr.refl _⟩
  · have e1 := emp_yes (show s.size = 0 by omega)
    have HR : Hid (isNm s = false) := Lib.hid (isNm_no fun h => h1 h.1)
    go_enter Tryd.func69, Tryd.ntmps69
    go_wp2
    go_ret
    exact ⟨by rw [HR.out]; rfl, Fr.refl _⟩
set_option maxHeartbeats 1000000 in
theorem RIsName_any (s : ByteArray) (w : World) : Calls Tryd.prog 75 #[.string s] w fun e w' => e = .returned (.bool (isNm s)) ∧ Fr w w' := by
  by_cases h1 : 0 < s.size
  · have e1 : (((s.size : Nat) : Int) == 0) = false := by rw [beq_eq_false_iff_ne]; omega
    by_cases h2 : s.size ≤ 24
    · have hb := bt_at s 0 h1
      have e2 : decide ((24 : Int) < s.size) = false := decide_eq_false (by omega)
      cases h3 : small (bt s 0) with
      | true =>
        have H3 := Lib.hid h3
        clear h3
        cases h5 : hasB 43 keyB s with
        | true =>
          have HR : Hid (isNm s = false) := Lib.hid (isNm_no fun h => by rw [h5] at h; exact absurd h.2.2.2.2 (by decide))
          have H5 := Lib.hid h5
          clear h5
          go_enter Tryd.func75, Tryd.ntmps75
          go_wp2_with (first | (go_at_call 55; refine (RisSmall_any _ _).mono ?_; rintro e w' ⟨rfl, rfl⟩; rw [H3.out]) | (go_at_call 77; refine (RKeys_any _).mono ?_; rintro e w1 ⟨g, rfl, hr, hf⟩; have HRW := Lib.hid hr; clear hr) | (go_at_call 76; refine (has_any _ _ 0 43 43 (by omega) s keyB (fun i hi => by rw [Nat.zero_add]; exact HRW.out.cell hi)).mono ?_; rintro e w2 ⟨rfl, rfl⟩; rw [H5.out]))
          go_ret
          exact ⟨by rw [HR.out]; rfl, hf⟩
        | false =>
          have H5 := Lib.hid h5
          clear h5
          go_enter Tryd.func75, Tryd.ntmps75
          go_wp2_with (first | (go_at_call 55; refine (RisSmall_any _ _).mono ?_; rintro e w' ⟨rfl, rfl⟩; rw [H3.out]) | (go_at_call 77; refine (RKeys_any _).mono ?_; rintro e w1 ⟨g, rfl, hr, hf⟩; have HRW := Lib.hid hr; clear hr) | (go_at_call 76; refine (has_any _ _ 0 43 43 (by omega) s keyB (fun i hi => by rw [Nat.zero_add]; exact HRW.out.cell hi)).mono ?_; rintro e w2 ⟨rfl, rfl⟩; rw [H5.out]))
          go_loop [3] (fun i => ∃ k : Nat, k ≤ s.size ∧ i = .int .i64 k ∧ ∀ j, j < k → part (bt s j) = true) (fun i => s.size - (intOf i).toNat)
          case atStart => exact ⟨0, Nat.zero_le _, rfl, fun j hj => absurd hj (by omega)⟩
          case round =>
            obtain ⟨k, hk, rfl, hall⟩ := hrel
            have HA := Lib.hid hall
            clear hall
            by_cases hlt : k < s.size
            · have hbk := bt_at s k hlt
              cases hp : part (bt s k) with
              | true =>
                have HP := Lib.hid hp
                clear hp
                go_wp2_with (go_at_call 85; refine (isPart_any _ _).mono ?_; rintro e w' ⟨rfl, rfl⟩; rw [HP.out])
                go_round
                case rel => exact ⟨k + 1, by omega, by go_num, fun j hj => by by_cases hjk : j = k; { rw [hjk]; exact HP.out }; exact HA.out j (by omega)⟩
                case measure => simp [intOf]; omega
              | false =>
                have HR : Hid (isNm s = false) := Lib.hid (isNm_no fun h => by have := h.2.2.2.1 k hlt; rw [hp] at this; exact absurd this (by decide))
                have HP := Lib.hid hp
                clear hp
                go_wp2_with (go_at_call 85; refine (isPart_any _ _).mono ?_; rintro e w' ⟨rfl, rfl⟩; rw [HP.out])
                go_ret
                exact ⟨by rw [HR.out]; rfl, hf⟩
            · obtain rfl : k = s.size := by omega
              have HR : Hid (isNm s = true) := Lib.hid (isNm_yes ⟨h1, h2, H3.out, HA.out, H5.out⟩)
              go_wp2
              go_ret
              exact ⟨by rw [HR.out]; rfl, hf⟩
      | false =>
        have HR : Hid (isNm s = false) := Lib.hid (isNm_no fun h => by rw [h3] at h; exact absurd h.2.2.1 (by decide))
        have H3 := Lib.hid h3
        clear h3
        go_enter Tryd.func75, Tryd.ntmps75
        go_wp2_with (go_at_call 55; refine (RisSmall_any _ _).mono ?_; rintro e w' ⟨rfl, rfl⟩; rw [H3.out])
        go_ret
        exact ⟨by rw [HR.out]; rfl, Fr.refl _⟩
    · have HR : Hid (isNm s = false) := Lib.hid (isNm_no fun h => h2 h.2.1)
      have h3 : decide ((24 : Int) < s.size) = true := decide_eq_true (by omega)
      go_enter Tryd.func75, Tryd.ntmps75
      go_wp2
      go_ret
      exact ⟨by rw [HR.out]; rfl, Fr.refl _⟩
  · have e1 : (((s.size : Nat) : Int) == 0) = true := by rw [beq_iff_eq]; omega
    have HR : Hid (isNm s = false) := Lib.hid (isNm_no fun h => h1 h.1)
    go_enter Tryd.func75, Tryd.ntmps75
    go_wp2
    go_ret
    exact ⟨by rw [HR.out]; rfl, Fr.refl _⟩
end Go.Proofs.YtkkapgidddfdoaaDoor
