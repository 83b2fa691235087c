/- Contracts of the functions that norm words: they return the word and leave memory alone. -/
import Derived.Test.YtflkcelgbnojaaaRows
import Derived.Test.YtflkcelgbnojaaaM
import Derived.Test.YtflkcelgbnojaaaB
import Derived.WalkKit
import Derived.LoopTactic
import Derived.Lib.Hide
import Derived.Deep.QuietTactic
import Derived.BigQuiet
namespace Go.Proofs.Ytflkcelgbnojaaa
open Go.RowKit

theorem ret_int {k : IntKind} {a b : Int} (h : a = b) : Ending.returned (.int k a) = .returned (.int k b) := by rw [h]

theorem okB_16 : okB 16 = true := rfl
theorem okB_24 : okB 24 = true := rfl
theorem okB_32 : okB 32 = true := rfl
theorem okB_no {b : Int} (h1 : b ≠ 16) (h2 : b ≠ 24) (h3 : b ≠ 32) : okB b = false := by simp [okB, OkB, h1, h2, h3]

theorem beq_no {a b : Int} (h : a ≠ b) : (a == b) = false := by simpa using h

theorem validBits_any (b : Int) (w : World) : Calls Try.prog 44 #[.int .i64 b] w fun e w' => e = .returned (.bool (okB b)) ∧ w = w' := by
  by_cases h1 : b = 16
  · subst h1; go_enter Try.func44, Try.ntmps44
    go_wp2; go_ret; exact ⟨rfl, rfl⟩
  · by_cases h2 : b = 24
    · subst h2; go_enter Try.func44, Try.ntmps44
      go_wp2; go_ret; exact ⟨rfl, rfl⟩
    · by_cases h3 : b = 32
      · subst h3; go_enter Try.func44, Try.ntmps44
        go_wp2; go_ret; exact ⟨rfl, rfl⟩
      · have e := okB_no h1 h2 h3
        have e1 := beq_no h1
        have e2 := beq_no h2
        have e3 := beq_no h3
        rw [e]; clear e
        go_enter Try.func44, Try.ntmps44
        go_wp2; go_ret; exact ⟨rfl, rfl⟩

theorem Valid_any (b : Int) (c : Bool) (w : World) : Calls Try.prog 17 #[.agg #[.int .i64 b, .bool c]] w fun e w' => e = .returned (.bool (okB b)) ∧ Fr w w' := by
  go_enter Try.func17, Try.ntmps17
  go_wp2_with (go_at_call 44; refine (validBits_any _ _).mono ?_; rintro e w' ⟨rfl, rfl⟩)
  go_ret
  exact ⟨rfl, (Fr.refl _).alloc _⟩

theorem Bits_any (b : Int) (w : World) : Calls Try.prog 18 #[.int .i64 b] w fun e w' => e = .returned (.bool (okB b)) ∧ w = w' := by
  by_cases h1 : b = 16
  · subst h1; go_enter Try.func18, Try.ntmps18
    go_wp2; go_ret; exact ⟨rfl, rfl⟩
  · by_cases h2 : b = 24
    · subst h2; go_enter Try.func18, Try.ntmps18
      go_wp2; go_ret; exact ⟨rfl, rfl⟩
    · by_cases h3 : b = 32
      · subst h3; go_enter Try.func18, Try.ntmps18
        go_wp2; go_ret; exact ⟨rfl, rfl⟩
      · have e := okB_no h1 h2 h3
        have e1 := beq_no h1
        have e2 := beq_no h2
        have e3 := beq_no h3
        rw [e]; clear e
        go_enter Try.func18, Try.ntmps18
        go_wp2; go_ret; exact ⟨rfl, rfl⟩


theorem normed_any {b : Int} (hb : OkB b) (v : Int) (w : World) : Calls Try.prog 45 #[.int .i64 v, .int .i64 b] w fun e w' => e = .returned (.int .i64 (nrm v b)) ∧ w = w' := by
  rcases hb with rfl | rfl | rfl
  all_goals
    go_enter Try.func45, Try.ntmps45
    go_wp2
    go_ret
    refine ⟨ret_int ?_, rfl⟩
    first | exact nrm16_sh v | exact nrm24_sh v | exact nrm32_sh v

theorem unsigned_any {b : Int} (hb : OkB b) (v : Int) (w : World) : Calls Try.prog 47 #[.int .i64 v, .int .i64 b] w fun e w' => e = .returned (.int .i64 (uns v b)) ∧ w = w' := by
  rcases hb with rfl | rfl | rfl
  all_goals
    go_enter Try.func47, Try.ntmps47
    go_wp2
    go_ret
    refine ⟨ret_int ?_, rfl⟩
    first | exact uns16_and v | exact uns24_and v | exact uns32_and v

theorem power_nat (n : Nat) (hn : n ≤ 62) (w : World) : Calls Try.prog 56 #[.int .i64 n] w fun e w' => e = .returned (.int .i64 (2 ^ n)) ∧ w = w' := by
  go_enter Try.func56, Try.ntmps56
  go_wp2
  go_loop [3, 4] (fun v i => ∃ k : Nat, k ≤ n ∧ i = .int .i64 k ∧ v = .int .i64 (2 ^ k)) (fun _ i => n - (intOf i).toNat)
  case atStart => exact ⟨0, Nat.zero_le _, rfl, rfl⟩
  case round =>
    obtain ⟨k, hk, rfl, rfl⟩ := hrel
    by_cases hlt : k < n
    · have hp : (1 : Int) ≤ 2 ^ k ∧ (2 : Int) ^ k ≤ 2305843009213693952 := by
        refine ⟨Int.pow_pos (by decide), ?_⟩
        have h := Nat.pow_le_pow_right (n := 2) (by decide) (show k ≤ 61 by omega)
        have h2 : ((2 ^ k : Nat) : Int) ≤ ((2 ^ 61 : Nat) : Int) := by omega
        simpa using h2
      obtain ⟨hp1, hp2⟩ := hp
      go_wp2
      go_round
      case rel => exact ⟨k + 1, by omega, by go_num, by rw [Int.pow_succ]⟩
      case measure => simp [intOf]; omega
    · obtain rfl : k = n := by omega
      go_wp2
      go_ret
      exact ⟨rfl, rfl⟩

theorem power_any (n : Int) (h0 : 0 ≤ n) (hn : n ≤ 62) (w : World) : Calls Try.prog 56 #[.int .i64 n] w fun e w' => e = .returned (.int .i64 (2 ^ n.toNat)) ∧ w = w' := by
  obtain ⟨n, rfl⟩ := Int.eq_ofNat_of_zero_le h0
  rw [Int.toNat_natCast]
  exact power_nat n (by omega) w

theorem power_pw {b : Int} (hb : OkB b) (w : World) : Calls Try.prog 56 #[.int .i64 b] w fun e w' => e = .returned (.int .i64 (pw b)) ∧ w = w' := by
  rcases hb with rfl | rfl | rfl
  · exact power_any 16 (by decide) (by decide) w
  · exact power_any 24 (by decide) (by decide) w
  · exact power_any 32 (by decide) (by decide) w

theorem norm_any {b : Int} (hb : OkB b) (v : Int) (w : World) : Calls Try.prog 46 #[.int .i64 v, .int .i64 b] w fun e w' => e = .returned (.int .i64 (nrm v b)) ∧ w = w' := by
  rcases hb with rfl | rfl | rfl
  · have H := Lib.hid (nrm16_t v)
    obtain ⟨b1, b2, _⟩ := tmod_alike v 65536 (by decide)
    by_cases hx : v.tmod 65536 < -32768
    · go_enter Try.func46, Try.ntmps46
      go_wp2_with (go_at_call 56; refine (power_any 16 (by decide) (by decide) _).mono ?_; rintro e w' ⟨rfl, rfl⟩)
      go_ret
      exact ⟨ret_int (by rw [H.out, if_pos hx]), rfl⟩
    · by_cases hy : 32768 ≤ v.tmod 65536
      all_goals
        go_enter Try.func46, Try.ntmps46
        go_wp2_with (go_at_call 56; refine (power_any 16 (by decide) (by decide) _).mono ?_; rintro e w' ⟨rfl, rfl⟩)
        go_ret
        exact ⟨ret_int (by rw [H.out, if_neg (by omega)]; first | rw [if_pos (by omega)] | rw [if_neg (by omega)]), rfl⟩
  · have H := Lib.hid (nrm24_t v)
    obtain ⟨b1, b2, _⟩ := tmod_alike v 16777216 (by decide)
    by_cases hx : v.tmod 16777216 < -8388608
    · go_enter Try.func46, Try.ntmps46
      go_wp2_with (go_at_call 56; refine (power_any 24 (by decide) (by decide) _).mono ?_; rintro e w' ⟨rfl, rfl⟩)
      go_ret
      exact ⟨ret_int (by rw [H.out, if_pos hx]), rfl⟩
    · by_cases hy : 8388608 ≤ v.tmod 16777216
      all_goals
        go_enter Try.func46, Try.ntmps46
        go_wp2_with (go_at_call 56; refine (power_any 24 (by decide) (by decide) _).mono ?_; rintro e w' ⟨rfl, rfl⟩)
        go_ret
        exact ⟨ret_int (by rw [H.out, if_neg (by omega)]; first | rw [if_pos (by omega)] | rw [if_neg (by omega)]), rfl⟩
  · have H := Lib.hid (nrm32_t v)
    obtain ⟨b1, b2, _⟩ := tmod_alike v 4294967296 (by decide)
    by_cases hx : v.tmod 4294967296 < -2147483648
    · go_enter Try.func46, Try.ntmps46
      go_wp2_with (go_at_call 56; refine (power_any 32 (by decide) (by decide) _).mono ?_; rintro e w' ⟨rfl, rfl⟩)
      go_ret
      exact ⟨ret_int (by rw [H.out, if_pos hx]), rfl⟩
    · by_cases hy : 2147483648 ≤ v.tmod 4294967296
      all_goals
        go_enter Try.func46, Try.ntmps46
        go_wp2_with (go_at_call 56; refine (power_any 32 (by decide) (by decide) _).mono ?_; rintro e w' ⟨rfl, rfl⟩)
        go_ret
        exact ⟨ret_int (by rw [H.out, if_neg (by omega)]; first | rw [if_pos (by omega)] | rw [if_neg (by omega)]), rfl⟩

theorem Word_any {b : Int} (hb : OkB b) (v : Int) (w : World) : Calls Try.prog 40 #[.int .i64 v, .int .i64 b] w fun e w' => e = .returned (.int .i64 (nrm v b)) ∧ w = w' := by
  have H := Lib.hid hb
  go_enter Try.func40, Try.ntmps40
  go_wp2_with (go_at_call 46; refine (norm_any H.out _ _).mono ?_; rintro e w' ⟨rfl, rfl⟩)
  go_ret
  exact ⟨rfl, rfl⟩

theorem runs_any {b : Int} (hb : OkB b) (v : Int) (w : World) : Calls Try.prog 48 #[.int .i64 v, .int .i64 b] w fun e w' => e = .returned (.int .i64 (uns v b)) ∧ w = w' := by
  have H := Lib.hid hb
  obtain ⟨h1, h2⟩ := nrm_bd (v := v) hb
  have HU := Lib.hid (uns_nrm (v := v) hb)
  obtain ⟨p1, p2⟩ := pw_bd hb
  by_cases h : nrm v b < 0
  all_goals
    go_enter Try.func48, Try.ntmps48
    go_wp2_with first
      | (go_at_call 46; refine (norm_any H.out _ _).mono ?_; rintro e w' ⟨rfl, rfl⟩)
      | (go_at_call 56; refine (power_pw H.out _).mono ?_; rintro e w' ⟨rfl, rfl⟩)
    go_ret
    refine ⟨ret_int ?_, rfl⟩
    rw [HU.out]
    first | rw [if_pos (by omega)] | rw [if_neg (by omega)]

/-- What a function with an error answers: the value, or its zero with the error. -/
def orErr (ok : Bool) (err v : Int) : Value := .tuple #[.int .i64 (if ok then v else 0), .int .i64 (if ok then 0 else err)]

theorem Norm_any (v b : Int) (w : World) : Calls Try.prog 13 #[.int .i64 v, .int .i64 b] w fun e w' => e = .returned (orErr (okB b) 3 (nrm v b)) ∧ w = w' := by
  by_cases h : okB b = true
  · have H := Lib.hid (okB_yes h)
    go_enter Try.func13, Try.ntmps13
    go_wp2_with first
      | (go_at_call 44; refine (validBits_any _ _).mono ?_; rintro e w' ⟨rfl, rfl⟩)
      | (go_at_call 45; refine (normed_any H.out _ _).mono ?_; rintro e w' ⟨rfl, rfl⟩)
    go_ret2
    exact ⟨by simp [orErr, h], rfl⟩
  · have h' : okB b = false := by simpa using h
    go_enter Try.func13, Try.ntmps13
    go_wp2_with (go_at_call 44; refine (validBits_any _ _).mono ?_; rintro e w' ⟨rfl, rfl⟩)
    go_ret2
    exact ⟨by simp [orErr, h'], rfl⟩

theorem RNorm_any (v b : Int) (w : World) : Calls Try.prog 14 #[.int .i64 v, .int .i64 b] w fun e w' => e = .returned (orErr (okB b) 3 (nrm v b)) ∧ w = w' := by
  by_cases h : okB b = true
  · have H := Lib.hid (okB_yes h)
    go_enter Try.func14, Try.ntmps14
    go_wp2_with first
      | (go_at_call 18; refine (Bits_any _ _).mono ?_; rintro e w' ⟨rfl, rfl⟩)
      | (go_at_call 46; refine (norm_any H.out _ _).mono ?_; rintro e w' ⟨rfl, rfl⟩)
    go_ret2
    exact ⟨by simp [orErr, h], rfl⟩
  · have h' : okB b = false := by simpa using h
    go_enter Try.func14, Try.ntmps14
    go_wp2_with (go_at_call 18; refine (Bits_any _ _).mono ?_; rintro e w' ⟨rfl, rfl⟩)
    go_ret2
    exact ⟨by simp [orErr, h'], rfl⟩

theorem Unsigned_any (v b : Int) (w : World) : Calls Try.prog 15 #[.int .i64 v, .int .i64 b] w fun e w' => e = .returned (orErr (okB b) 3 (uns v b)) ∧ w = w' := by
  by_cases h : okB b = true
  · have H := Lib.hid (okB_yes h)
    go_enter Try.func15, Try.ntmps15
    go_wp2_with first
      | (go_at_call 44; refine (validBits_any _ _).mono ?_; rintro e w' ⟨rfl, rfl⟩)
      | (go_at_call 47; refine (unsigned_any H.out _ _).mono ?_; rintro e w' ⟨rfl, rfl⟩)
    go_ret2
    exact ⟨by simp [orErr, h], rfl⟩
  · have h' : okB b = false := by simpa using h
    go_enter Try.func15, Try.ntmps15
    go_wp2_with (go_at_call 44; refine (validBits_any _ _).mono ?_; rintro e w' ⟨rfl, rfl⟩)
    go_ret2
    exact ⟨by simp [orErr, h'], rfl⟩

theorem RUnsigned_any (v b : Int) (w : World) : Calls Try.prog 16 #[.int .i64 v, .int .i64 b] w fun e w' => e = .returned (orErr (okB b) 3 (uns v b)) ∧ w = w' := by
  by_cases h : okB b = true
  · have H := Lib.hid (okB_yes h)
    go_enter Try.func16, Try.ntmps16
    go_wp2_with first
      | (go_at_call 18; refine (Bits_any _ _).mono ?_; rintro e w' ⟨rfl, rfl⟩)
      | (go_at_call 48; refine (runs_any H.out _ _).mono ?_; rintro e w' ⟨rfl, rfl⟩)
    go_ret2
    exact ⟨by simp [orErr, h], rfl⟩
  · have h' : okB b = false := by simpa using h
    go_enter Try.func16, Try.ntmps16
    go_wp2_with (go_at_call 18; refine (Bits_any _ _).mono ?_; rintro e w' ⟨rfl, rfl⟩)
    go_ret2
    exact ⟨by simp [orErr, h'], rfl⟩
end Go.Proofs.Ytflkcelgbnojaaa
