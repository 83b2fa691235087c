/- Classes of bytes, and where bytes of a class come to an end. -/
import Derived.Test.YtkkapgidddfdoaaDoorC
namespace Go.Proofs.YtkkapgidddfdoaaDoor
open Go.RowKit
set_option linter.unusedVariables false

def hexc (c : Nat) : Bool := digit c || (decide (97 ≤ c ∧ c ≤ 102)) || (decide (65 ≤ c ∧ c ≤ 70))
def blank (c : Nat) : Bool := decide (c = 32 ∨ c = 9 ∨ c = 10)
def inl (c : Nat) : Bool := decide (c ≠ 10)
def plain (c : Nat) : Bool := decide (32 ≤ c ∧ c ≤ 126)
theorem isPlain_any (c : Nat) (w : World) : Calls Tryd.prog 33 #[.int .u8 c] w fun e w' => e = .returned (.bool (plain c)) ∧ w = w' := by
  by_cases h1 : 32 ≤ c
  · by_cases h2 : c ≤ 126
    · rw [show plain c = true from decide_eq_true ⟨h1, h2⟩]
      have h3 : decide ((c : Int) ≤ 126) = true := decide_eq_true (by omega)
      have h4 : decide ((32 : Int) ≤ c) = true := decide_eq_true (by omega)
      go_enter Tryd.func33, Tryd.ntmps33
      go_wp2
      go_ret
      exact ⟨rfl, rfl⟩
    · rw [show plain c = false from decide_eq_false (by omega)]
      have h3 : decide ((c : Int) ≤ 126) = false := decide_eq_false (by omega)
      have h4 : decide ((32 : Int) ≤ c) = true := decide_eq_true (by omega)
      go_enter Tryd.func33, Tryd.ntmps33
      go_wp2
      go_ret
      exact ⟨rfl, rfl⟩
  · rw [show plain c = false from decide_eq_false (by omega)]
    have h4 : decide ((32 : Int) ≤ c) = false := decide_eq_false (by omega)
    go_enter Tryd.func33, Tryd.ntmps33
    go_wp2
    go_ret
    exact ⟨rfl, rfl⟩
theorem isInLine_any (c : Nat) (w : World) : Calls Tryd.prog 46 #[.int .u8 c] w fun e w' => e = .returned (.bool (inl c)) ∧ w = w' := by
  by_cases h : c = 10
  · rw [show inl c = false from decide_eq_false (by omega)]
    have h3 : ((c : Int) != 10) = false := by subst h; rfl
    clear h
    go_enter Tryd.func46, Tryd.ntmps46
    go_wp2
    go_ret
    exact ⟨by simp, rfl⟩
  · rw [show inl c = true from decide_eq_true h]
    have h3 : ((c : Int) != 10) = true := by rw [bne_iff_ne]; omega
    clear h
    go_enter Tryd.func46, Tryd.ntmps46
    go_wp2
    go_ret
    exact ⟨by simp, rfl⟩
theorem isBlank_any (c : Nat) (w : World) : Calls Tryd.prog 44 #[.int .u8 c] w fun e w' => e = .returned (.bool (blank c)) ∧ w = w' := by
  obtain ⟨x, hx⟩ : ∃ x, x = ((c : Int) == 32) := ⟨_, rfl⟩
  obtain ⟨y, hy⟩ : ∃ y, y = ((c : Int) == 9) := ⟨_, rfl⟩
  obtain ⟨z, hz⟩ : ∃ z, z = ((c : Int) == 10) := ⟨_, rfl⟩
  have HZ : Hid (blank c = (x || y || z)) := by
    refine Lib.hid ?_
    rw [hx, hy, hz]; unfold blank
    rw [Bool.eq_iff_iff]; simp; omega
  cases x <;> cases y <;> cases z
  all_goals
    have h1 := hx.symm
    have h2 := hy.symm
    have h3 := hz.symm
    clear hx hy hz
    go_enter Tryd.func44, Tryd.ntmps44
    go_wp2
    go_ret
    exact ⟨by rw [HZ.out]; simp [*], rfl⟩
theorem isBase16_any (c : Nat) (w : World) : Calls Tryd.prog 82 #[.int .u8 c] w fun e w' => e = .returned (.bool (hexc c)) ∧ w = w' := by
  obtain ⟨d, hd⟩ : ∃ d, d = digit c := ⟨_, rfl⟩
  obtain ⟨x, hx⟩ : ∃ x, x = decide ((97 : Int) ≤ c) := ⟨_, rfl⟩
  obtain ⟨y, hy⟩ : ∃ y, y = decide ((c : Int) ≤ 102) := ⟨_, rfl⟩
  obtain ⟨z, hz⟩ : ∃ z, z = decide ((65 : Int) ≤ c) := ⟨_, rfl⟩
  obtain ⟨t, ht⟩ : ∃ t, t = decide ((c : Int) ≤ 70) := ⟨_, rfl⟩
  have HZ : Hid (hexc c = (d || (x && y) || (z && t))) := by
    refine Lib.hid ?_
    have e1 : decide (97 ≤ c ∧ c ≤ 102) = (decide ((97 : Int) ≤ c) && decide ((c : Int) ≤ 102)) := by rw [Bool.eq_iff_iff]; simp; omega
    have e2 : decide (65 ≤ c ∧ c ≤ 70) = (decide ((65 : Int) ≤ c) && decide ((c : Int) ≤ 70)) := by rw [Bool.eq_iff_iff]; simp; omega
    rw [hd, hx, hy, hz, ht]; unfold hexc
    rw [e1, e2]
  have HD := Lib.hid hd
  clear hd
  cases d <;> cases x <;> cases y <;> cases z <;> cases t
  all_goals
    have h1 := hx.symm
    have h2 := hy.symm
    have h3 := hz.symm
    have h4 := ht.symm
    clear hx hy hz ht
    go_enter Tryd.func82, Tryd.ntmps82
    go_wp2_with (go_at_call 49; refine (isDigit_any _ _).mono ?_; rintro e w' ⟨rfl, rfl⟩; rw [← HD.out])
    go_ret
    exact ⟨by rw [HZ.out]; first | rfl | simp [*], rfl⟩
theorem behindName_any (s : ByteArray) (at_ : Nat) (hat : at_ ≤ s.size) (hs : s.size ≤ 9223372036854775806) (w : World) :
    Calls Tryd.prog 43 #[.string s, .int .i64 at_, .func (.func 80) #[] #[]] w fun e w' => e = .returned (.int .i64 (run part s at_ : Nat)) ∧ w = w' := by
  obtain ⟨r, hr⟩ : ∃ r, r = run part s at_ := ⟨_, rfl⟩
  rw [← hr]
  have HR := Lib.hid hr
  clear hr
  go_enter Tryd.func43, Tryd.ntmps43
  go_wp2
  go_loop [1] (fun i => ∃ k : Nat, k ≤ s.size ∧ i = .int .i64 k ∧ r = run part s k) (fun i => s.size - (intOf i).toNat)
  case atStart => exact ⟨at_, hat, rfl, HR.out⟩
  case round =>
    obtain ⟨k, hk, rfl, hr⟩ := hrel
    have HK := Lib.hid hr
    clear hr
    by_cases hlt : k < s.size
    · have hb := bt_at s k hlt
      cases hp : part (bt s k) with
      | true =>
        have HP := Lib.hid hp
        clear hp
        go_wp2_with (go_at_call 80; refine (isInName_any _ _).mono ?_; rintro e w' ⟨rfl, rfl⟩; rw [HP.out])
        go_round
        case rel => exact ⟨k + 1, by omega, by go_num, by rw [HK.out, run_inside hlt HP.out]⟩
        case measure => simp [intOf]; omega
      | false =>
        have HP := Lib.hid hp
        clear hp
        go_wp2_with (go_at_call 80; refine (isInName_any _ _).mono ?_; rintro e w' ⟨rfl, rfl⟩; rw [HP.out])
        go_ret
        exact ⟨ret_int (by rw [HK.out, run_out HP.out]), rfl⟩
    · obtain rfl : k = s.size := by omega
      go_wp2
      go_ret
      exact ⟨ret_int (by rw [HK.out, run_end (Nat.le_refl _)]), rfl⟩
theorem behindDigit_any (s : ByteArray) (at_ : Nat) (hat : at_ ≤ s.size) (hs : s.size ≤ 9223372036854775806) (w : World) :
    Calls Tryd.prog 43 #[.string s, .int .i64 at_, .func (.func 49) #[] #[]] w fun e w' => e = .returned (.int .i64 (run digit s at_ : Nat)) ∧ w = w' := by
  obtain ⟨r, hr⟩ : ∃ r, r = run digit s at_ := ⟨_, rfl⟩
  rw [← hr]
  have HR := Lib.hid hr
  clear hr
  go_enter Tryd.func43, Tryd.ntmps43
  go_wp2
  go_loop [1] (fun i => ∃ k : Nat, k ≤ s.size ∧ i = .int .i64 k ∧ r = run digit s k) (fun i => s.size - (intOf i).toNat)
  case atStart => exact ⟨at_, hat, rfl, HR.out⟩
  case round =>
    obtain ⟨k, hk, rfl, hr⟩ := hrel
    have HK := Lib.hid hr
    clear hr
    by_cases hlt : k < s.size
    · have hb := bt_at s k hlt
      cases hp : digit (bt s k) with
      | true =>
        have HP := Lib.hid hp
        clear hp
        go_wp2_with (go_at_call 49; refine (isDigit_any _ _).mono ?_; rintro e w' ⟨rfl, rfl⟩; rw [HP.out])
        go_round
        case rel => exact ⟨k + 1, by omega, by go_num, by rw [HK.out, run_inside hlt HP.out]⟩
        case measure => simp [intOf]; omega
      | false =>
        have HP := Lib.hid hp
        clear hp
        go_wp2_with (go_at_call 49; refine (isDigit_any _ _).mono ?_; rintro e w' ⟨rfl, rfl⟩; rw [HP.out])
        go_ret
        exact ⟨ret_int (by rw [HK.out, run_out HP.out]), rfl⟩
    · obtain rfl : k = s.size := by omega
      go_wp2
      go_ret
      exact ⟨ret_int (by rw [HK.out, run_end (Nat.le_refl _)]), rfl⟩
theorem behindHex_any (s : ByteArray) (at_ : Nat) (hat : at_ ≤ s.size) (hs : s.size ≤ 9223372036854775806) (w : World) :
    Calls Tryd.prog 43 #[.string s, .int .i64 at_, .func (.func 82) #[] #[]] w fun e w' => e = .returned (.int .i64 (run hexc s at_ : Nat)) ∧ w = w' := by
  obtain ⟨r, hr⟩ : ∃ r, r = run hexc s at_ := ⟨_, rfl⟩
  rw [← hr]
  have HR := Lib.hid hr
  clear hr
  go_enter Tryd.func43, Tryd.ntmps43
  go_wp2
  go_loop [1] (fun i => ∃ k : Nat, k ≤ s.size ∧ i = .int .i64 k ∧ r = run hexc s k) (fun i => s.size - (intOf i).toNat)
  case atStart => exact ⟨at_, hat, rfl, HR.out⟩
  case round =>
    obtain ⟨k, hk, rfl, hr⟩ := hrel
    have HK := Lib.hid hr
    clear hr
    by_cases hlt : k < s.size
    · have hb := bt_at s k hlt
      cases hp : hexc (bt s k) with
      | true =>
        have HP := Lib.hid hp
        clear hp
        go_wp2_with (go_at_call 82; refine (isBase16_any _ _).mono ?_; rintro e w' ⟨rfl, rfl⟩; rw [HP.out])
        go_round
        case rel => exact ⟨k + 1, by omega, by go_num, by rw [HK.out, run_inside hlt HP.out]⟩
        case measure => simp [intOf]; omega
      | false =>
        have HP := Lib.hid hp
        clear hp
        go_wp2_with (go_at_call 82; refine (isBase16_any _ _).mono ?_; rintro e w' ⟨rfl, rfl⟩; rw [HP.out])
        go_ret
        exact ⟨ret_int (by rw [HK.out, run_out HP.out]), rfl⟩
    · obtain rfl : k = s.size := by omega
      go_wp2
      go_ret
      exact ⟨ret_int (by rw [HK.out, run_end (Nat.le_refl _)]), rfl⟩
theorem behindBlank_any (s : ByteArray) (at_ : Nat) (hat : at_ ≤ s.size) (hs : s.size ≤ 9223372036854775806) (w : World) :
    Calls Tryd.prog 43 #[.string s, .int .i64 at_, .func (.func 44) #[] #[]] w fun e w' => e = .returned (.int .i64 (run blank s at_ : Nat)) ∧ w = w' := by
  obtain ⟨r, hr⟩ : ∃ r, r = run blank s at_ := ⟨_, rfl⟩
  rw [← hr]
  have HR := Lib.hid hr
  clear hr
  go_enter Tryd.func43, Tryd.ntmps43
  go_wp2
  go_loop [1] (fun i => ∃ k : Nat, k ≤ s.size ∧ i = .int .i64 k ∧ r = run blank s k) (fun i => s.size - (intOf i).toNat)
  case atStart => exact ⟨at_, hat, rfl, HR.out⟩
  case round =>
    obtain ⟨k, hk, rfl, hr⟩ := hrel
    have HK := Lib.hid hr
    clear hr
    by_cases hlt : k < s.size
    · have hb := bt_at s k hlt
      cases hp : blank (bt s k) with
      | true =>
        have HP := Lib.hid hp
        clear hp
        go_wp2_with (go_at_call 44; refine (isBlank_any _ _).mono ?_; rintro e w' ⟨rfl, rfl⟩; rw [HP.out])
        go_round
        case rel => exact ⟨k + 1, by omega, by go_num, by rw [HK.out, run_inside hlt HP.out]⟩
        case measure => simp [intOf]; omega
      | false =>
        have HP := Lib.hid hp
        clear hp
        go_wp2_with (go_at_call 44; refine (isBlank_any _ _).mono ?_; rintro e w' ⟨rfl, rfl⟩; rw [HP.out])
        go_ret
        exact ⟨ret_int (by rw [HK.out, run_out HP.out]), rfl⟩
    · obtain rfl : k = s.size := by omega
      go_wp2
      go_ret
      exact ⟨ret_int (by rw [HK.out, run_end (Nat.le_refl _)]), rfl⟩
theorem behindLine_any (s : ByteArray) (at_ : Nat) (hat : at_ ≤ s.size) (hs : s.size ≤ 9223372036854775806) (w : World) :
    Calls Tryd.prog 43 #[.string s, .int .i64 at_, .func (.func 46) #[] #[]] w fun e w' => e = .returned (.int .i64 (run inl s at_ : Nat)) ∧ w = w' := by
  obtain ⟨r, hr⟩ : ∃ r, r = run inl s at_ := ⟨_, rfl⟩
  rw [← hr]
  have HR := Lib.hid hr
  clear hr
  go_enter Tryd.func43, Tryd.ntmps43
  go_wp2
  go_loop [1] (fun i => ∃ k : Nat, k ≤ s.size ∧ i = .int .i64 k ∧ r = run inl s k) (fun i => s.size - (intOf i).toNat)
  case atStart => exact ⟨at_, hat, rfl, HR.out⟩
  case round =>
    obtain ⟨k, hk, rfl, hr⟩ := hrel
    have HK := Lib.hid hr
    clear hr
    by_cases hlt : k < s.size
    · have hb := bt_at s k hlt
      cases hp : inl (bt s k) with
      | true =>
        have HP := Lib.hid hp
        clear hp
        go_wp2_with (go_at_call 46; refine (isInLine_any _ _).mono ?_; rintro e w' ⟨rfl, rfl⟩; rw [HP.out])
        go_round
        case rel => exact ⟨k + 1, by omega, by go_num, by rw [HK.out, run_inside hlt HP.out]⟩
        case measure => simp [intOf]; omega
      | false =>
        have HP := Lib.hid hp
        clear hp
        go_wp2_with (go_at_call 46; refine (isInLine_any _ _).mono ?_; rintro e w' ⟨rfl, rfl⟩; rw [HP.out])
        go_ret
        exact ⟨ret_int (by rw [HK.out, run_out HP.out]), rfl⟩
    · obtain rfl : k = s.size := by omega
      go_wp2
      go_ret
      exact ⟨ret_int (by rw [HK.out, run_end (Nat.le_refl _)]), rfl⟩
/-- What a letter behind a star stands for. -/
def esc (c : Nat) : Nat := if c = 110 then 10 else if c = 116 then 9 else if c = 115 then 32 else if c = 42 ∨ c = 39 ∨ c = 34 then c else 0
def escOk (c : Nat) : Bool := decide (c = 110 ∨ c = 116 ∨ c = 115 ∨ c = 42 ∨ c = 39 ∨ c = 34)
theorem escaped_any (c : Nat) (w : World) : Calls Tryd.prog 98 #[.int .u8 c] w fun e w' => e = .returned (.tuple #[.int .u8 (esc c : Nat), .bool (escOk c)]) ∧ w = w' := by
  by_cases h1 : c = 110
  · subst h1; go_enter Tryd.func98, Tryd.ntmps98
    go_wp2; go_ret2; exact ⟨rfl, rfl⟩
  by_cases h2 : c = 116
  · subst h2; go_enter Tryd.func98, Tryd.ntmps98
    go_wp2; go_ret2; exact ⟨rfl, rfl⟩
  by_cases h3 : c = 115
  · subst h3; go_enter Tryd.func98, Tryd.ntmps98
    go_wp2; go_ret2; exact ⟨rfl, rfl⟩
  by_cases h4 : c = 42
  · subst h4; go_enter Tryd.func98, Tryd.ntmps98
    go_wp2; go_ret2; exact ⟨rfl, rfl⟩
  by_cases h5 : c = 39
  · subst h5; go_enter Tryd.func98, Tryd.ntmps98
    go_wp2; go_ret2; exact ⟨rfl, rfl⟩
  by_cases h6 : c = 34
  · subst h6; go_enter Tryd.func98, Tryd.ntmps98
    go_wp2; go_ret2; exact ⟨rfl, rfl⟩
  rw [show esc c = 0 from by unfold esc; rw [if_neg h1, if_neg h2, if_neg h3, if_neg (by omega)], show escOk c = false from decide_eq_false (by omega)]
  have e1 : ((c : Int) == 110) = false := by rw [beq_eq_false_iff_ne]; omega
  have e2 : ((c : Int) == 116) = false := by rw [beq_eq_false_iff_ne]; omega
  have e3 : ((c : Int) == 115) = false := by rw [beq_eq_false_iff_ne]; omega
  have e4 : ((c : Int) == 42) = false := by rw [beq_eq_false_iff_ne]; omega
  have e5 : ((c : Int) == 39) = false := by rw [beq_eq_false_iff_ne]; omega
  have e6 : ((c : Int) == 34) = false := by rw [beq_eq_false_iff_ne]; omega
  clear h1 h2 h3 h4 h5 h6
  go_enter Tryd.func98, Tryd.ntmps98
  go_wp2; go_ret2; exact ⟨rfl, rfl⟩
end Go.Proofs.YtkkapgidddfdoaaDoor
