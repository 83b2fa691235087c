/- The line and the column of a byte: both functions give them. -/
import Derived.Test.YtkkapgidddfdoaaDoorS
import Derived.Test.YtkkapgidddfdoaaDoorSH2
namespace Go.Proofs.YtkkapgidddfdoaaDoor
open Go.RowKit
set_option linter.unusedVariables false

def ln (s : ByteArray) : Nat → Nat
  | 0 => 1
  | a + 1 => ln s a + (if bt s a = 10 then 1 else 0)
def co (s : ByteArray) : Nat → Nat
  | 0 => 0
  | a + 1 => if bt s a = 10 then 0 else co s a + 1
theorem ln_le (s : ByteArray) : ∀ a, ln s a ≤ a + 1
  | 0 => Nat.le_refl _
  | a + 1 => by have := ln_le s a; rw [ln]; split <;> omega
theorem co_le (s : ByteArray) : ∀ a, co s a ≤ a
  | 0 => Nat.le_refl _
  | a + 1 => by have := co_le s a; rw [co]; split <;> omega
theorem bt_bang (s : ByteArray) (i : Nat) (h : i < s.size) : (s.data[i]!).toNat = bt s i := by
  unfold bt
  rw [getElem!_pos s.data i (by simpa using h), Array.getD_eq_getD_getElem?, Array.getElem?_eq_getElem (by simpa using h)]
  rfl
theorem last_co (s : ByteArray) (n : Nat) (hn : n ≤ s.size) : ∀ a, a ≤ n → Lib.lastIdx (s.extract 0 n) 10 a = (a : Int) - co s a - 1
  | 0, _ => by rw [Lib.lastIdx, co]; rfl
  | a + 1, h => by
    have hs := ext_size s 0 n hn
    have ih := last_co s n hn a (by omega)
    have hb : ((s.extract 0 n).data[a]!).toNat = bt s a := by
      rw [bt_bang _ _ (by omega), ext_bt s 0 n a hn (by omega), Nat.zero_add]
    rw [Lib.lastIdx, hb, ih, co]
    by_cases h10 : bt s a = 10
    · rw [if_pos h10, if_pos (by omega)]; omega
    · rw [if_neg h10, if_neg (by omega)]; omega
theorem count_ln (s : ByteArray) : ∀ a, a ≤ s.size → 1 + Lib.countByte (s.data.toList.take a) 10 = ln s a
  | 0, _ => by rw [List.take_zero]; rfl
  | a + 1, h => by
    have ih := count_ln s a (by omega)
    have hl : a < s.data.toList.length := by rw [Array.length_toList]; exact h
    have hb : (s.data.toList[a]).toNat = bt s a := by
      unfold bt
      rw [Array.getD_eq_getD_getElem?, Array.getElem?_eq_getElem (show a < s.data.size from h), Array.getElem_toList]
      rfl
    rw [List.take_succ_eq_append_getElem hl]
    unfold Lib.countByte at ih ⊢
    rw [List.count_append, ln, ← ih]
    by_cases h10 : bt s a = 10
    · have : s.data.toList[a] = 10 := UInt8.toNat_inj.1 (by rw [hb, h10]; rfl)
      rw [if_pos h10, this]; rfl
    · have : s.data.toList[a] ≠ 10 := fun e => h10 (by rw [← hb, e]; rfl)
      rw [if_neg h10, List.count_cons_of_ne this]; rfl
theorem ext_list (s : ByteArray) (n : Nat) : (s.extract 0 n).data.toList = s.data.toList.take n := by
  rw [ByteArray.data_extract, Array.toList_extract, List.extract_eq_take_drop, Nat.sub_zero, List.drop_zero]
theorem ret_two {a a' b b' c : Int} (h1 : a = a') (h2 : b = b') : Ending.returned (.tuple #[.int .i64 a, .int .i64 b, .int .i64 c]) = .returned (.tuple #[.int .i64 a', .int .i64 b', .int .i64 c]) := by rw [h1, h2]
theorem Line_any (s : ByteArray) (hs : s.size ≤ 140737488351232) (a : Int) (h0 : -9223372036854775808 ≤ a) (h1 : a ≤ 9223372036854775807) (w : World) :
    Calls Tryd.prog 21 #[.string s, .int .i64 a] w fun e w' => e = .returned (.tuple (if a < 0 ∨ (s.size : Int) < a then #[.int .i64 0, .int .i64 0, .int .i64 1] else #[.int .i64 (ln s a.toNat), .int .i64 (co s a.toNat), .int .i64 0])) ∧ w = w' := by
  by_cases hn : a < 0
  · have hd : decide (a < 0) = true := decide_eq_true hn
    rw [if_pos (Or.inl hn)]
    go_enter Tryd.func21, Tryd.ntmps21
    go_wp2_with fail
    go_ret3
    exact ⟨rfl, rfl⟩
  have hd : decide (a < 0) = false := decide_eq_false hn
  by_cases hm : (s.size : Int) < a
  · have hd2 : decide ((s.size : Int) < a) = true := decide_eq_true hm
    rw [if_pos (Or.inr hm)]
    go_enter Tryd.func21, Tryd.ntmps21
    go_wp2_with fail
    go_ret3
    exact ⟨rfl, rfl⟩
  obtain ⟨n, rfl⟩ : ∃ n : Nat, a = n := ⟨a.toNat, by omega⟩
  have hns : n ≤ s.size := by omega
  have hd2 : decide ((s.size : Int) < (n : Int)) = false := decide_eq_false hm
  rw [if_neg (by omega), Int.toNat_natCast]
  have hln := ln_le s n
  have hco := co_le s n
  have HC : Hid (1 + Lib.countByte (s.extract 0 n).data.toList 10 = ln s n) := Lib.hid (by rw [ext_list]; exact count_ln s n hns)
  have HX : Hid (Lib.lastIndexByte (s.extract 0 n) 10 = (n : Int) - co s n - 1) := Lib.hid (by unfold Lib.lastIndexByte; rw [ext_size s 0 n hns]; exact last_co s n hns n (Nat.le_refl _))
  have hz := ext_size s 0 n hns
  obtain ⟨L, hL⟩ : ∃ L, L = ln s n := ⟨_, rfl⟩
  obtain ⟨C, hC⟩ : ∃ C, C = co s n := ⟨_, rfl⟩
  rw [← hL] at HC hln ⊢
  rw [← hC] at HX hco ⊢
  have hcn := Tryd.strings_Count_one (s.extract 0 n) 10
  obtain ⟨N, hN⟩ : ∃ N, N = Lib.countByte (s.extract 0 n).data.toList 10 := ⟨_, rfl⟩
  rw [← hN] at hcn HC
  have q1 : (1 : Int) + N = L := by have := HC.out; omega
  have q2 : (n : Int) - ((n : Int) - C) = C := by omega
  have hNn : N ≤ n := by have := HC.out; omega
  have Q := Lib.hid (And.intro q1 q2)
  clear hL hC hN q1 q2 HC hm hn
  go_enter Tryd.func21, Tryd.ntmps21
  have hli := Tryd.strings_LastIndexByte (s.extract 0 n) 10 (by omega)
  go_wp2_with (first
    | (go_at_call 37; refine (hcn _).mono ?_; rintro e w' ⟨rfl, rfl⟩)
    | (go_at_call 38; refine (hli _).mono ?_; rintro e w' ⟨rfl, rfl⟩; rw [HX.out]))
  go_ret3
  exact ⟨ret_two Q.out.1 Q.out.2, rfl⟩
set_option maxHeartbeats 1000000 in
theorem RLine_any (s : ByteArray) (hs : s.size ≤ 140737488351232) (a : Int) (h0 : -9223372036854775808 ≤ a) (h1 : a ≤ 9223372036854775807) (w : World) :
    Calls Tryd.prog 22 #[.string s, .int .i64 a] w fun e w' => e = .returned (.tuple (if a < 0 ∨ (s.size : Int) < a then #[.int .i64 0, .int .i64 0, .int .i64 1] else #[.int .i64 (ln s a.toNat), .int .i64 (co s a.toNat), .int .i64 0])) ∧ w = w' := by
  by_cases hn : a < 0
  · have hd : decide (a < 0) = true := decide_eq_true hn
    rw [if_pos (Or.inl hn)]
    go_enter Tryd.func22, Tryd.ntmps22
    go_wp2_with fail
    go_ret3
    exact ⟨rfl, rfl⟩
  have hd : decide (a < 0) = false := decide_eq_false hn
  by_cases hm : (s.size : Int) < a
  · have hd2 : decide ((s.size : Int) < a) = true := decide_eq_true hm
    rw [if_pos (Or.inr hm)]
    go_enter Tryd.func22, Tryd.ntmps22
    go_wp2_with fail
    go_ret3
    exact ⟨rfl, rfl⟩
  obtain ⟨n, rfl⟩ : ∃ n : Nat, a = n := ⟨a.toNat, by omega⟩
  have hns : n ≤ s.size := by omega
  have hd2 : decide ((s.size : Int) < (n : Int)) = false := decide_eq_false hm
  rw [if_neg (by omega), Int.toNat_natCast]
  clear hn hm
  go_enter Tryd.func22, Tryd.ntmps22
  go_wp2_with fail
  go_loop [4, 5, 7] (fun l c i => ∃ k : Nat, k ≤ n ∧ i = .int .i64 k ∧ l = .int .i64 (ln s k) ∧ c = .int .i64 (co s k)) (fun _ _ i => n - (intOf i).toNat)
  case atStart => exact ⟨0, Nat.zero_le _, rfl, rfl, rfl⟩
  case round =>
    obtain ⟨k, hk, rfl, rfl, rfl⟩ := hrel
    by_cases hlt : k < n
    · have hks : k < s.size := by omega
      have hb := bt_at s k hks
      have hln := ln_le s k
      have hco := co_le s k
      by_cases h10 : bt s k = 10
      · have HL : Hid (ln s (k + 1) = ln s k + 1) := Lib.hid (by rw [ln, if_pos h10])
        have HC : Hid (co s (k + 1) = 0) := Lib.hid (by rw [co, if_pos h10])
        have e10 : ((bt s k : Int) == 10) = true := by rw [beq_iff_eq]; omega
        clear h10
        go_wp2_with fail
        go_round
        case rel => exact ⟨k + 1, by omega, by go_num, by rw [HL.out]; go_num, by rw [HC.out]; rfl⟩
        case measure => simp [intOf]; omega
      · have HL : Hid (ln s (k + 1) = ln s k) := Lib.hid (by rw [ln, if_neg h10]; rfl)
        have HC : Hid (co s (k + 1) = co s k + 1) := Lib.hid (by rw [co, if_neg h10])
        have e10 : ((bt s k : Int) == 10) = false := by rw [beq_eq_false_iff_ne]; omega
        clear h10
        go_wp2_with fail
        go_round
        case rel => exact ⟨k + 1, by omega, by go_num, by rw [HL.out], by rw [HC.out]; go_num⟩
        case measure => simp [intOf]; omega
    · obtain rfl : k = n := by omega
      go_wp2_with fail
      go_ret3
      exact ⟨rfl, rfl⟩
end Go.Proofs.YtkkapgidddfdoaaDoor
