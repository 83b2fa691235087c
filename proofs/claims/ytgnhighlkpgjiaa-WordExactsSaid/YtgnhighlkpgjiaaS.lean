/- Contracts of the document's own answers: bits, and all operators. -/
import Derived.Test.YtgnhighlkpgjiaaR
namespace Go.Proofs.Ytgnhighlkpgjiaa
open Go.RowKit
set_option linter.unusedVariables false
theorem tab_at {t0 t1 t2 t3 : Nat} {A B : Nat} : ∀ x y, A % 2 = x → B % 2 = y → (x = 0 ∨ x = 1) → (y = 0 ∨ y = 1) → tab t0 t1 t2 t3 (A % 2) (B % 2) = (if x = 0 then (if y = 0 then t0 else t1) else (if y = 0 then t2 else t3)) := by
  intro x y hx hy _ _; rw [hx, hy]; rfl
theorem bw_step (t0 t1 t2 t3 : Nat) {k : Nat} (A B : Nat) (hk : 0 < k) : bw t0 t1 t2 t3 k A B = tab t0 t1 t2 t3 (A % 2) (B % 2) + 2 * bw t0 t1 t2 t3 (k - 1) (A / 2) (B / 2) := by
  obtain ⟨j, rfl⟩ : ∃ j, k = j + 1 := ⟨k - 1, by omega⟩
  rfl
theorem bitwise_any {n : Int} (hn : OkB n) (a b : Int) (t0 t1 t2 t3 : Nat) (h0 : t0 ≤ 1) (h1 : t1 ≤ 1) (h2 : t2 ≤ 1) (h3 : t3 ≤ 1) (w : World) :
    Calls Try.prog 53 #[.int .i64 a, .int .i64 b, .int .i64 n, .agg #[.int .i64 t0, .int .i64 t1, .int .i64 t2, .int .i64 t3]] w fun e w' =>
      e = .returned (.int .i64 (nrm (bw t0 t1 t2 t3 n.toNat (uns a n).toNat (uns b n).toNat : Nat) n)) ∧ Fr w w' := by
  have H := Lib.hid hn
  obtain ⟨A0, hA⟩ := Int.eq_ofNat_of_zero_le (uns_bd (v := a) hn).1
  obtain ⟨B0, hB⟩ := Int.eq_ofNat_of_zero_le (uns_bd (v := b) hn).1
  obtain ⟨N, hN⟩ := Int.eq_ofNat_of_zero_le (show 0 ≤ n by rcases hn with rfl | rfl | rfl <;> decide)
  have hA0 : A0 < 4294967296 := by have := (uns_bd (v := a) hn).2; omega
  have hB0 : B0 < 4294967296 := by have := (uns_bd (v := b) hn).2; omega
  have HA := Lib.hid hA
  have HB := Lib.hid hB
  rw [hA, hB, Int.toNat_natCast, Int.toNat_natCast]
  clear hA hB
  subst hN
  rw [Int.toNat_natCast]
  have hN : N ≤ 32 := by rcases hn with h | h | h <;> omega
  obtain ⟨T, hT⟩ : ∃ T, T = bw t0 t1 t2 t3 N A0 B0 := ⟨_, rfl⟩
  have hTb : T < 4294967296 := by
    have := bw_lt h0 h1 h2 h3 N A0 B0
    have h := Nat.pow_le_pow_right (n := 2) (by decide) hN
    omega
  have HT := Lib.hid hT
  rw [← hT]
  clear hT hn
  go_enter Try.func53, Try.ntmps53
  go_wp2_with (go_at_call 48; refine (runs_any H.out _ _).mono ?_; rintro e w' ⟨rfl, rfl⟩)
  go_loop [0, 1, 9, 10, 11] (fun x y o p i => ∃ k A B O : Nat, k ≤ N ∧ A < 4294967296 ∧ B < 4294967296 ∧ i = .int .i64 k ∧ x = .int .i64 A ∧ y = .int .i64 B ∧ o = .int .i64 O ∧ p = .int .i64 (2 ^ k) ∧ O + 2 ^ k * bw t0 t1 t2 t3 (N - k) A B = T) (fun _ _ _ _ i => N - (intOf i).toNat)
  case atStart => exact ⟨0, A0, B0, 0, Nat.zero_le _, hA0, hB0, rfl, by rw [HA.out], by rw [HB.out], rfl, rfl, by rw [HT.out]; simp⟩
  case round =>
    obtain ⟨k, A, B, O, hk, hA1, hB1, rfl, rfl, rfl, rfl, rfl, hE⟩ := hrel
    by_cases hlt : k < N
    · have HE := Lib.hid hE
      have hO : O ≤ T := by omega
      clear hE
      have hp : (1 : Int) ≤ 2 ^ k ∧ (2 : Int) ^ k ≤ 2147483648 := by
        have := pow_bd (k : Int) (by omega) (by omega)
        rwa [Int.toNat_natCast] at this
      obtain ⟨hp1, hp2⟩ := hp
      have HS : Hid (O + 2 ^ k * tab t0 t1 t2 t3 (A % 2) (B % 2) + 2 ^ (k + 1) * bw t0 t1 t2 t3 (N - (k + 1)) (A / 2) (B / 2) = T) := by
        unfold Hid
        have h := HE.out
        rw [bw_step _ _ _ _ _ _ (show 0 < N - k by omega), Nat.mul_add, ← Nat.mul_assoc, ← Nat.pow_succ, show N - k - 1 = N - (k + 1) from by omega, ← Nat.add_assoc] at h
        exact h
      have hpt : ∀ t : Nat, t ≤ 1 → (0 : Int) ≤ 2 ^ k * t ∧ (2 : Int) ^ k * t ≤ 2147483648 := fun t ht => by
        have : t = 0 ∨ t = 1 := by omega
        rcases this with rfl | rfl
        · simp
        · simp only [Int.natCast_one, Int.mul_one]; omega
      obtain ⟨g0, g0'⟩ := hpt t0 h0
      obtain ⟨g1, g1'⟩ := hpt t1 h1
      obtain ⟨g2, g2'⟩ := hpt t2 h2
      obtain ⟨g3, g3'⟩ := hpt t3 h3
      clear hpt
      have HX := Lib.hid (two_cases A)
      have HY := Lib.hid (two_cases B)
      by_cases ha : (A : Int) % 2 = 0 <;> by_cases hb : (B : Int) % 2 = 0
      · have ht : tab t0 t1 t2 t3 (A % 2) (B % 2) = t0 := by unfold tab; rw [if_pos (by omega), if_pos (by omega)]
        rw [ht] at HS; clear ht
        go_wp2
        go_round
        case rel => exact ⟨k + 1, A / 2, B / 2, O + 2 ^ k * t0, by omega, by omega, by omega, by go_num, by go_num, by go_num, by simp, by rw [Int.pow_succ], HS.out⟩
        case measure => simp [intOf]; omega
      · have hb' : (B : Int) % 2 = 1 := by omega
        have ht : tab t0 t1 t2 t3 (A % 2) (B % 2) = t1 := by unfold tab; rw [if_pos (by omega), if_neg (by omega)]
        rw [ht] at HS; clear ht hb
        go_wp2
        go_round
        case rel => exact ⟨k + 1, A / 2, B / 2, O + 2 ^ k * t1, by omega, by omega, by omega, by go_num, by go_num, by go_num, by simp, by rw [Int.pow_succ], HS.out⟩
        case measure => simp [intOf]; omega
      · have ha' : (A : Int) % 2 = 1 := by omega
        have ht : tab t0 t1 t2 t3 (A % 2) (B % 2) = t2 := by unfold tab; rw [if_neg (by omega), if_pos (by omega)]
        rw [ht] at HS; clear ht ha
        go_wp2
        go_round
        case rel => exact ⟨k + 1, A / 2, B / 2, O + 2 ^ k * t2, by omega, by omega, by omega, by go_num, by go_num, by go_num, by simp, by rw [Int.pow_succ], HS.out⟩
        case measure => simp [intOf]; omega
      · have ha' : (A : Int) % 2 = 1 := by omega
        have hb' : (B : Int) % 2 = 1 := by omega
        have ht : tab t0 t1 t2 t3 (A % 2) (B % 2) = t3 := by unfold tab; rw [if_neg (by omega), if_neg (by omega)]
        rw [ht] at HS; clear ht ha hb
        go_wp2
        go_round
        case rel => exact ⟨k + 1, A / 2, B / 2, O + 2 ^ k * t3, by omega, by omega, by omega, by go_num, by go_num, by go_num, by simp, by rw [Int.pow_succ], HS.out⟩
        case measure => simp [intOf]; omega
    · obtain rfl : k = N := by omega
      have hO : T = O := by rw [Nat.sub_self] at hE; simp only [bw, Nat.mul_zero, Nat.add_zero] at hE; exact hE.symm
      have HO := Lib.hid hO
      clear hO hE
      go_wp2_with (go_at_call 46; refine (norm_any H.out _ _).mono ?_; rintro e w' ⟨rfl, rfl⟩)
      go_ret
      exact ⟨by rw [HO.out]; rfl, (Fr.refl _).alloc _⟩

theorem nrm_0 {n : Int} (hn : OkB n) : nrm 0 n = 0 := by rcases hn with rfl | rfl | rfl <;> rfl
theorem shifted_6 {n : Int} (hn : OkB n) (a b : Int) (w : World) : Calls Try.prog 52 #[.int .i64 a, .int .i64 b, .int .i64 n, .bool true] w fun e w' => e = .returned (.int .i64 (nrm (opv 6 a b n) n)) ∧ w = w' := by
  by_cases h : b < 0 ∨ n ≤ b
  · have e : opv 6 a b n = 0 := by show (if b < 0 ∨ n ≤ b then 0 else a * 2 ^ b.toNat) = 0; rw [if_pos h]
    rw [e, nrm_0 hn]; exact shifted_out a b h true w
  · obtain ⟨m, rfl⟩ := Int.eq_ofNat_of_zero_le (show 0 ≤ b by omega)
    exact shiftedL_any hn a m (by omega) w
theorem shifted_7 {n : Int} (hn : OkB n) (a b : Int) (w : World) : Calls Try.prog 52 #[.int .i64 a, .int .i64 b, .int .i64 n, .bool false] w fun e w' => e = .returned (.int .i64 (nrm (opv 7 a b n) n)) ∧ w = w' := by
  by_cases h : b < 0 ∨ n ≤ b
  · have e : opv 7 a b n = 0 := by show (if b < 0 ∨ n ≤ b then 0 else uns a n / 2 ^ b.toNat) = 0; rw [if_pos h]
    rw [e, nrm_0 hn]; exact shifted_out a b h false w
  · obtain ⟨m, rfl⟩ := Int.eq_ofNat_of_zero_le (show 0 ≤ b by omega)
    exact shiftedR_any hn a m (by omega) w
theorem bitwise_8 {n : Int} (hn : OkB n) (a b : Int) (w : World) : Calls Try.prog 53 #[.int .i64 a, .int .i64 b, .int .i64 n, .agg #[.int .i64 0, .int .i64 0, .int .i64 0, .int .i64 1]] w fun e w' => e = .returned (.int .i64 (nrm (opv 8 a b n) n)) ∧ Fr w w' := by
  rw [← nrm_and hn]; exact bitwise_any hn a b 0 0 0 1 (by decide) (by decide) (by decide) (by decide) w
theorem bitwise_9 {n : Int} (hn : OkB n) (a b : Int) (w : World) : Calls Try.prog 53 #[.int .i64 a, .int .i64 b, .int .i64 n, .agg #[.int .i64 0, .int .i64 1, .int .i64 1, .int .i64 1]] w fun e w' => e = .returned (.int .i64 (nrm (opv 9 a b n) n)) ∧ Fr w w' := by
  rw [← nrm_or hn]; exact bitwise_any hn a b 0 1 1 1 (by decide) (by decide) (by decide) (by decide) w
theorem bitwise_10 {n : Int} (hn : OkB n) (a b : Int) (w : World) : Calls Try.prog 53 #[.int .i64 a, .int .i64 b, .int .i64 n, .agg #[.int .i64 0, .int .i64 1, .int .i64 1, .int .i64 0]] w fun e w' => e = .returned (.int .i64 (nrm (opv 10 a b n) n)) ∧ Fr w w' := by
  rw [← nrm_xor hn]; exact bitwise_any hn a b 0 1 1 0 (by decide) (by decide) (by decide) (by decide) w
theorem bitwise_11 {n : Int} (hn : OkB n) (a b : Int) (w : World) : Calls Try.prog 53 #[.int .i64 a, .int .i64 b, .int .i64 n, .agg #[.int .i64 1, .int .i64 0, .int .i64 0, .int .i64 1]] w fun e w' => e = .returned (.int .i64 (nrm (opv 11 a b n) n)) ∧ Fr w w' := by
  rw [← nrm_eqv hn]; exact bitwise_any hn a b 1 0 0 1 (by decide) (by decide) (by decide) (by decide) w
end Go.Proofs.Ytgnhighlkpgjiaa
