/- Contracts of the document's own answers: operators. -/
import Derived.Test.YtgnhighlkpgjiaaW
import Derived.Test.YtgnhighlkpgjiaaB
namespace Go.Proofs.Ytgnhighlkpgjiaa
open Go.RowKit
set_option linter.unusedVariables false

theorem rtruth_any (c : Bool) (w : World) : Calls Try.prog 86 #[.bool c] w fun e w' => e = .returned (.int .i64 (tru c)) ∧ w = w' := by
  cases c
  all_goals
    go_enter Try.func86, Try.ntmps86
    go_wp2
    go_ret
    exact ⟨rfl, rfl⟩
theorem whole_1 (a b n : Int) (a1 : -2147483648 ≤ a) (a2 : a ≤ 2147483647) (b1 : -2147483648 ≤ b) (b2 : b ≤ 2147483647) (w : World) : Calls Try.prog 51 #[.int .i64 1, .int .i64 a, .int .i64 b] w fun e w' => e = .returned (.tuple #[.int .i64 (opv 1 a b n), .bool true]) ∧ w = w' := by
  obtain ⟨d1, d2⟩ := mul_bd a b a1 a2 b1 b2
  go_enter Try.func51, Try.ntmps51
  go_wp2_with (go_at_call 86; refine (rtruth_any _ _).mono ?_; rintro e w' ⟨rfl, rfl⟩)
  go_ret2
  exact ⟨rfl, rfl⟩
theorem whole_2 (a b n : Int) (a1 : -2147483648 ≤ a) (a2 : a ≤ 2147483647) (b1 : -2147483648 ≤ b) (b2 : b ≤ 2147483647) (hz : b ≠ 0) (w : World) : Calls Try.prog 51 #[.int .i64 2, .int .i64 a, .int .i64 b] w fun e w' => e = .returned (.tuple #[.int .i64 (opv 2 a b n), .bool true]) ∧ w = w' := by
  obtain ⟨d1, d2⟩ := tdiv_bd a b a1 a2
  go_enter Try.func51, Try.ntmps51
  go_wp2_with (go_at_call 86; refine (rtruth_any _ _).mono ?_; rintro e w' ⟨rfl, rfl⟩)
  go_ret2
  exact ⟨rfl, rfl⟩
theorem whole_3 (a b n : Int) (a1 : -2147483648 ≤ a) (a2 : a ≤ 2147483647) (b1 : -2147483648 ≤ b) (b2 : b ≤ 2147483647) (hz : b ≠ 0) (w : World) : Calls Try.prog 51 #[.int .i64 3, .int .i64 a, .int .i64 b] w fun e w' => e = .returned (.tuple #[.int .i64 (opv 3 a b n), .bool true]) ∧ w = w' := by
  obtain ⟨d1, d2⟩ := tdiv_bd a b a1 a2
  go_enter Try.func51, Try.ntmps51
  go_wp2_with (go_at_call 86; refine (rtruth_any _ _).mono ?_; rintro e w' ⟨rfl, rfl⟩)
  go_ret2
  exact ⟨rfl, rfl⟩
theorem whole_4 (a b n : Int) (a1 : -2147483648 ≤ a) (a2 : a ≤ 2147483647) (b1 : -2147483648 ≤ b) (b2 : b ≤ 2147483647) (w : World) : Calls Try.prog 51 #[.int .i64 4, .int .i64 a, .int .i64 b] w fun e w' => e = .returned (.tuple #[.int .i64 (opv 4 a b n), .bool true]) ∧ w = w' := by
  go_enter Try.func51, Try.ntmps51
  go_wp2_with (go_at_call 86; refine (rtruth_any _ _).mono ?_; rintro e w' ⟨rfl, rfl⟩)
  go_ret2
  exact ⟨rfl, rfl⟩
theorem whole_5 (a b n : Int) (a1 : -2147483648 ≤ a) (a2 : a ≤ 2147483647) (b1 : -2147483648 ≤ b) (b2 : b ≤ 2147483647) (w : World) : Calls Try.prog 51 #[.int .i64 5, .int .i64 a, .int .i64 b] w fun e w' => e = .returned (.tuple #[.int .i64 (opv 5 a b n), .bool true]) ∧ w = w' := by
  go_enter Try.func51, Try.ntmps51
  go_wp2_with (go_at_call 86; refine (rtruth_any _ _).mono ?_; rintro e w' ⟨rfl, rfl⟩)
  go_ret2
  exact ⟨rfl, rfl⟩
theorem whole_12 (a b n : Int) (a1 : -2147483648 ≤ a) (a2 : a ≤ 2147483647) (b1 : -2147483648 ≤ b) (b2 : b ≤ 2147483647) (w : World) : Calls Try.prog 51 #[.int .i64 12, .int .i64 a, .int .i64 b] w fun e w' => e = .returned (.tuple #[.int .i64 (opv 12 a b n), .bool true]) ∧ w = w' := by
  go_enter Try.func51, Try.ntmps51
  go_wp2_with (go_at_call 86; refine (rtruth_any _ _).mono ?_; rintro e w' ⟨rfl, rfl⟩)
  go_ret2
  exact ⟨rfl, rfl⟩
theorem whole_13 (a b n : Int) (a1 : -2147483648 ≤ a) (a2 : a ≤ 2147483647) (b1 : -2147483648 ≤ b) (b2 : b ≤ 2147483647) (w : World) : Calls Try.prog 51 #[.int .i64 13, .int .i64 a, .int .i64 b] w fun e w' => e = .returned (.tuple #[.int .i64 (opv 13 a b n), .bool true]) ∧ w = w' := by
  go_enter Try.func51, Try.ntmps51
  go_wp2_with (go_at_call 86; refine (rtruth_any _ _).mono ?_; rintro e w' ⟨rfl, rfl⟩)
  go_ret2
  exact ⟨rfl, rfl⟩
theorem whole_14 (a b n : Int) (a1 : -2147483648 ≤ a) (a2 : a ≤ 2147483647) (b1 : -2147483648 ≤ b) (b2 : b ≤ 2147483647) (w : World) : Calls Try.prog 51 #[.int .i64 14, .int .i64 a, .int .i64 b] w fun e w' => e = .returned (.tuple #[.int .i64 (opv 14 a b n), .bool true]) ∧ w = w' := by
  go_enter Try.func51, Try.ntmps51
  go_wp2_with (go_at_call 86; refine (rtruth_any _ _).mono ?_; rintro e w' ⟨rfl, rfl⟩)
  go_ret2
  exact ⟨rfl, rfl⟩
theorem whole_15 (a b n : Int) (a1 : -2147483648 ≤ a) (a2 : a ≤ 2147483647) (b1 : -2147483648 ≤ b) (b2 : b ≤ 2147483647) (w : World) : Calls Try.prog 51 #[.int .i64 15, .int .i64 a, .int .i64 b] w fun e w' => e = .returned (.tuple #[.int .i64 (opv 15 a b n), .bool true]) ∧ w = w' := by
  go_enter Try.func51, Try.ntmps51
  go_wp2_with (go_at_call 86; refine (rtruth_any _ _).mono ?_; rintro e w' ⟨rfl, rfl⟩)
  go_ret2
  exact ⟨rfl, rfl⟩
theorem whole_16 (a b n : Int) (a1 : -2147483648 ≤ a) (a2 : a ≤ 2147483647) (b1 : -2147483648 ≤ b) (b2 : b ≤ 2147483647) (w : World) : Calls Try.prog 51 #[.int .i64 16, .int .i64 a, .int .i64 b] w fun e w' => e = .returned (.tuple #[.int .i64 (opv 16 a b n), .bool true]) ∧ w = w' := by
  go_enter Try.func51, Try.ntmps51
  go_wp2_with (go_at_call 86; refine (rtruth_any _ _).mono ?_; rintro e w' ⟨rfl, rfl⟩)
  go_ret2
  exact ⟨rfl, rfl⟩
theorem whole_17 (a b n : Int) (a1 : -2147483648 ≤ a) (a2 : a ≤ 2147483647) (b1 : -2147483648 ≤ b) (b2 : b ≤ 2147483647) (w : World) : Calls Try.prog 51 #[.int .i64 17, .int .i64 a, .int .i64 b] w fun e w' => e = .returned (.tuple #[.int .i64 (opv 17 a b n), .bool true]) ∧ w = w' := by
  go_enter Try.func51, Try.ntmps51
  go_wp2_with (go_at_call 86; refine (rtruth_any _ _).mono ?_; rintro e w' ⟨rfl, rfl⟩)
  go_ret2
  exact ⟨rfl, rfl⟩
theorem whole_18 (a b n : Int) (a1 : -2147483648 ≤ a) (a2 : a ≤ 2147483647) (b1 : -2147483648 ≤ b) (b2 : b ≤ 2147483647) (w : World) : Calls Try.prog 51 #[.int .i64 18, .int .i64 a, .int .i64 b] w fun e w' => e = .returned (.tuple #[.int .i64 (opv 18 a b n), .bool true]) ∧ w = w' := by
  go_enter Try.func51, Try.ntmps51
  go_wp2_with (go_at_call 86; refine (rtruth_any _ _).mono ?_; rintro e w' ⟨rfl, rfl⟩)
  go_ret2
  exact ⟨rfl, rfl⟩
theorem whole_19 (a b n : Int) (a1 : -2147483648 ≤ a) (a2 : a ≤ 2147483647) (b1 : -2147483648 ≤ b) (b2 : b ≤ 2147483647) (w : World) : Calls Try.prog 51 #[.int .i64 19, .int .i64 a, .int .i64 b] w fun e w' => e = .returned (.tuple #[.int .i64 (opv 19 a b n), .bool true]) ∧ w = w' := by
  go_enter Try.func51, Try.ntmps51
  go_wp2_with (go_at_call 86; refine (rtruth_any _ _).mono ?_; rintro e w' ⟨rfl, rfl⟩)
  go_ret2
  exact ⟨rfl, rfl⟩
theorem whole_6 (a b : Int) (w : World) : Calls Try.prog 51 #[.int .i64 6, .int .i64 a, .int .i64 b] w fun e w' => e = .returned (.tuple #[.int .i64 0, .bool false]) ∧ w = w' := by
  go_enter Try.func51, Try.ntmps51
  go_wp2
  go_ret2
  exact ⟨rfl, rfl⟩
theorem whole_7 (a b : Int) (w : World) : Calls Try.prog 51 #[.int .i64 7, .int .i64 a, .int .i64 b] w fun e w' => e = .returned (.tuple #[.int .i64 0, .bool false]) ∧ w = w' := by
  go_enter Try.func51, Try.ntmps51
  go_wp2
  go_ret2
  exact ⟨rfl, rfl⟩
theorem whole_8 (a b : Int) (w : World) : Calls Try.prog 51 #[.int .i64 8, .int .i64 a, .int .i64 b] w fun e w' => e = .returned (.tuple #[.int .i64 0, .bool false]) ∧ w = w' := by
  go_enter Try.func51, Try.ntmps51
  go_wp2
  go_ret2
  exact ⟨rfl, rfl⟩
theorem whole_9 (a b : Int) (w : World) : Calls Try.prog 51 #[.int .i64 9, .int .i64 a, .int .i64 b] w fun e w' => e = .returned (.tuple #[.int .i64 0, .bool false]) ∧ w = w' := by
  go_enter Try.func51, Try.ntmps51
  go_wp2
  go_ret2
  exact ⟨rfl, rfl⟩
theorem whole_10 (a b : Int) (w : World) : Calls Try.prog 51 #[.int .i64 10, .int .i64 a, .int .i64 b] w fun e w' => e = .returned (.tuple #[.int .i64 0, .bool false]) ∧ w = w' := by
  go_enter Try.func51, Try.ntmps51
  go_wp2
  go_ret2
  exact ⟨rfl, rfl⟩
theorem whole_11 (a b : Int) (w : World) : Calls Try.prog 51 #[.int .i64 11, .int .i64 a, .int .i64 b] w fun e w' => e = .returned (.tuple #[.int .i64 0, .bool false]) ∧ w = w' := by
  go_enter Try.func51, Try.ntmps51
  go_wp2
  go_ret2
  exact ⟨rfl, rfl⟩

theorem shl_step {p A : Int} (hp : 0 < p) : (A % p * 2) % p = (A * 2) % p := by rw [Int.mul_emod, Int.emod_emod, ← Int.mul_emod]
theorem shiftedL_any {n : Int} (hn : OkB n) (a : Int) (m : Nat) (hm : (m : Int) < n) (w : World) : Calls Try.prog 52 #[.int .i64 a, .int .i64 m, .int .i64 n, .bool true] w fun e w' => e = .returned (.int .i64 (nrm (opv 6 a m n) n)) ∧ w = w' := by
  have H := Lib.hid hn
  obtain ⟨p1, p2⟩ := pw_bd hn
  have he : opv 6 a m n = a * 2 ^ m := by
    show (if (m : Int) < 0 ∨ n ≤ m then 0 else a * 2 ^ (m : Int).toNat) = a * 2 ^ m
    rw [if_neg (by omega), Int.toNat_natCast]
  rw [he]
  have hm2 : (m : Int) < 32 := by have : n ≤ 32 := by { rcases hn with rfl | rfl | rfl <;> decide }
                                  omega
  clear he
  have hb0 := H
  clear hn hb0
  have q1 := Int.emod_nonneg a (b := pw n) (by omega)
  have q2 := Int.emod_lt_of_pos a (b := pw n) (by omega)
  go_enter Try.func52, Try.ntmps52
  go_wp2_with (go_at_call 48; refine (runs_any H.out _ _).mono ?_; rintro e w' ⟨rfl, rfl⟩)
  go_loop [0, 9] (fun v i => ∃ k : Nat, k ≤ m ∧ i = .int .i64 k ∧ v = .int .i64 (uns (a * 2 ^ k) n)) (fun _ i => m - (intOf i).toNat)
  case atStart => exact ⟨0, Nat.zero_le _, rfl, by simp⟩
  case round =>
    obtain ⟨k, hk, rfl, rfl⟩ := hrel
    obtain ⟨u1, u2⟩ := uns_bd (v := a * 2 ^ k) H.out
    by_cases hlt : k < m
    · have HS : Hid ((uns (a * 2 ^ k) n * 2) % pw n = uns (a * 2 ^ (k + 1)) n) := by
        unfold uns; rw [shl_step (by omega), Int.pow_succ, Int.mul_assoc]; rfl
      go_wp2_with (go_at_call 56; refine (power_pw H.out _).mono ?_; rintro e w' ⟨rfl, rfl⟩)
      go_round
      case rel => exact ⟨k + 1, by omega, by go_num, by rw [HS.out]⟩
      case measure => simp [intOf]; omega
    · obtain rfl : k = m := by omega
      have HN : Hid (nrm (uns (a * 2 ^ k) n) n = nrm (a * 2 ^ k) n) := nrm_congr (by unfold uns; rw [Int.emod_emod])
      go_wp2_with (go_at_call 46; refine (norm_any H.out _ _).mono ?_; rintro e w' ⟨rfl, rfl⟩)
      go_ret
      exact ⟨ret_int HN.out, rfl⟩
theorem shiftedR_any {n : Int} (hn : OkB n) (a : Int) (m : Nat) (hm : (m : Int) < n) (w : World) : Calls Try.prog 52 #[.int .i64 a, .int .i64 m, .int .i64 n, .bool false] w fun e w' => e = .returned (.int .i64 (nrm (opv 7 a m n) n)) ∧ w = w' := by
  have H := Lib.hid hn
  have he : opv 7 a m n = uns a n / 2 ^ m := by
    show (if (m : Int) < 0 ∨ n ≤ m then 0 else uns a n / 2 ^ (m : Int).toNat) = uns a n / 2 ^ m
    rw [if_neg (by omega), Int.toNat_natCast]
  rw [he]
  have hm2 : (m : Int) < 32 := by have : n ≤ 32 := by { rcases hn with rfl | rfl | rfl <;> decide }
                                  omega
  obtain ⟨q1, q2⟩ := uns_bd (v := a) hn
  clear he hn
  go_enter Try.func52, Try.ntmps52
  go_wp2_with (go_at_call 48; refine (runs_any H.out _ _).mono ?_; rintro e w' ⟨rfl, rfl⟩)
  go_loop [0, 9] (fun v i => ∃ k : Nat, k ≤ m ∧ i = .int .i64 k ∧ v = .int .i64 (uns a n / 2 ^ k)) (fun _ i => m - (intOf i).toNat)
  case atStart => exact ⟨0, Nat.zero_le _, rfl, by simp⟩
  case round =>
    obtain ⟨k, hk, rfl, rfl⟩ := hrel
    have u1 : 0 ≤ uns a n / 2 ^ k := Int.ediv_nonneg q1 (Int.le_of_lt (Int.pow_pos (by decide)))
    have u2 : uns a n / 2 ^ k ≤ 4294967295 := Int.le_trans (Int.ediv_le_self _ q1) q2
    by_cases hlt : k < m
    · have HS : Hid (uns a n / 2 ^ k / 2 = uns a n / 2 ^ (k + 1)) := by
        unfold Hid; rw [Int.pow_succ, Int.ediv_ediv_of_nonneg (Int.le_of_lt (Int.pow_pos (by decide)))]
      go_wp2
      go_round
      case rel => exact ⟨k + 1, by omega, by go_num, by rw [HS.out]⟩
      case measure => simp [intOf]; omega
    · obtain rfl : k = m := by omega
      go_wp2_with (go_at_call 46; refine (norm_any H.out _ _).mono ?_; rintro e w' ⟨rfl, rfl⟩)
      go_ret
      exact ⟨rfl, rfl⟩
theorem shifted_out {n : Int} (a b : Int) (h : b < 0 ∨ n ≤ b) (c : Bool) (w : World) : Calls Try.prog 52 #[.int .i64 a, .int .i64 b, .int .i64 n, .bool c] w fun e w' => e = .returned (.int .i64 0) ∧ w = w' := by
  by_cases h1 : b < 0
  · clear h
    go_enter Try.func52, Try.ntmps52
    go_wp2; go_ret; exact ⟨rfl, rfl⟩
  · have h2 : n ≤ b := by omega
    clear h
    go_enter Try.func52, Try.ntmps52
    go_wp2; go_ret; exact ⟨rfl, rfl⟩

end Go.Proofs.Ytgnhighlkpgjiaa
