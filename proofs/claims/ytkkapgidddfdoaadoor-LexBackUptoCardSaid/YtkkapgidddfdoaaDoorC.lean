/- The lists of keys and signs; classes of bytes; lists asked for a string. -/
import Derived.Test.YtkkapgidddfdoaaDoorRows
import Derived.Test.YtkkapgidddfdoaaDoorK
import Derived.WalkKit
import Derived.LoopTactic
import Derived.Deep.QuietTactic
import Derived.BigQuiet
import Derived.Outline
namespace Go.Proofs.YtkkapgidddfdoaaDoor
open Go.RowKit
set_option linter.unusedVariables false

theorem se_yes {a b : ByteArray} (h : a = b) : (a.toList == b.toList) = true := by subst h; simp
theorem se_no {a b : ByteArray} (h : a ≠ b) : (a.toList == b.toList) = false := by
  rw [beq_eq_false_iff_ne]
  intro e
  rw [ByteArray.toList_eq, ByteArray.toList_eq] at e
  exact h (ByteArray.ext (Array.ext' e))
theorem Keys_any (w : World) : Calls Tryd.prog 42 #[] w fun e w' => ∃ g : Nat, e = .returned (.slice (some ⟨g, 0, none⟩) 43 43) ∧ w'.rowIs g 9 43 (fun i => .string (keyB i)) ∧ Fr w w' := by
  go_enter Tryd.func42, Tryd.ntmps42
  go_wp2
  go_ret
  exact ⟨w.heap.size, rfl, World.rowIs_alloc w keyV _ _ keyV_at, (Fr.refl _).alloc _⟩
theorem RKeys_any (w : World) : Calls Tryd.prog 77 #[] w fun e w' => ∃ g : Nat, e = .returned (.slice (some ⟨g, 0, none⟩) 43 43) ∧ w'.rowIs g 9 43 (fun i => .string (keyB i)) ∧ Fr w w' := by
  go_enter Tryd.func77, Tryd.ntmps77
  go_wp2
  go_ret
  exact ⟨w.heap.size, rfl, World.rowIs_alloc w keyV _ _ keyV_at, (Fr.refl _).alloc _⟩
theorem Signs_any (w : World) : Calls Tryd.prog 27 #[] w fun e w' => ∃ g : Nat, e = .returned (.slice (some ⟨g, 0, none⟩) 28 28) ∧ w'.rowIs g 9 28 (fun i => .string (sgnB i)) ∧ Fr w w' := by
  go_enter Tryd.func27, Tryd.ntmps27
  go_wp2
  go_ret
  exact ⟨w.heap.size, rfl, World.rowIs_alloc w sgnV _ _ sgnV_at, (Fr.refl _).alloc _⟩
theorem RSigns_any (w : World) : Calls Tryd.prog 78 #[] w fun e w' => ∃ g : Nat, e = .returned (.slice (some ⟨g, 0, none⟩) 28 28) ∧ w'.rowIs g 9 28 (fun i => .string (sgnB i)) ∧ Fr w w' := by
  go_enter Tryd.func78, Tryd.ntmps78
  go_wp2
  go_ret
  exact ⟨w.heap.size, rfl, World.rowIs_alloc w sgnV _ _ sgnV_at, (Fr.refl _).alloc _⟩
theorem isSmall_any (c : Nat) (w : World) : Calls Tryd.prog 47 #[.int .u8 c] w fun e w' => e = .returned (.bool (small c)) ∧ w = w' := by
  by_cases h1 : 97 ≤ c
  · by_cases h2 : c ≤ 122
    · rw [small_yes h1 h2]
      have h3 : decide ((c : Int) ≤ 122) = true := decide_eq_true (by omega)
      have h4 : decide ((97 : Int) ≤ c) = true := decide_eq_true (by omega)
      go_enter Tryd.func47, Tryd.ntmps47
      go_wp2
      go_ret
      exact ⟨rfl, rfl⟩
    · rw [small_no (by omega)]
      have h3 : decide ((c : Int) ≤ 122) = false := decide_eq_false (by omega)
      have h4 : decide ((97 : Int) ≤ c) = true := decide_eq_true (by omega)
      go_enter Tryd.func47, Tryd.ntmps47
      go_wp2
      go_ret
      exact ⟨rfl, rfl⟩
  · rw [small_no (by omega)]
    have h4 : decide ((97 : Int) ≤ c) = false := decide_eq_false (by omega)
    go_enter Tryd.func47, Tryd.ntmps47
    go_wp2
    go_ret
    exact ⟨rfl, rfl⟩
theorem isDigit_any (c : Nat) (w : World) : Calls Tryd.prog 49 #[.int .u8 c] w fun e w' => e = .returned (.bool (digit c)) ∧ w = w' := by
  by_cases h1 : 48 ≤ c
  · by_cases h2 : c ≤ 57
    · rw [digit_yes h1 h2]
      have h3 : decide ((c : Int) ≤ 57) = true := decide_eq_true (by omega)
      have h4 : decide ((48 : Int) ≤ c) = true := decide_eq_true (by omega)
      go_enter Tryd.func49, Tryd.ntmps49
      go_wp2
      go_ret
      exact ⟨rfl, rfl⟩
    · rw [digit_no (by omega)]
      have h3 : decide ((c : Int) ≤ 57) = false := decide_eq_false (by omega)
      have h4 : decide ((48 : Int) ≤ c) = true := decide_eq_true (by omega)
      go_enter Tryd.func49, Tryd.ntmps49
      go_wp2
      go_ret
      exact ⟨rfl, rfl⟩
  · rw [digit_no (by omega)]
    have h4 : decide ((48 : Int) ≤ c) = false := decide_eq_false (by omega)
    go_enter Tryd.func49, Tryd.ntmps49
    go_wp2
    go_ret
    exact ⟨rfl, rfl⟩
theorem RisSmall_any (c : Nat) (w : World) : Calls Tryd.prog 55 #[.int .u8 c] w fun e w' => e = .returned (.bool (small c)) ∧ w = w' := by
  by_cases h1 : 97 ≤ c
  · by_cases h2 : c ≤ 122
    · rw [small_yes h1 h2]
      have h3 : decide ((c : Int) ≤ 122) = true := decide_eq_true (by omega)
      have h4 : decide ((97 : Int) ≤ c) = true := decide_eq_true (by omega)
      go_enter Tryd.func55, Tryd.ntmps55
      go_wp2
      go_ret
      exact ⟨rfl, rfl⟩
    · rw [small_no (by omega)]
      have h3 : decide ((c : Int) ≤ 122) = false := decide_eq_false (by omega)
      have h4 : decide ((97 : Int) ≤ c) = true := decide_eq_true (by omega)
      go_enter Tryd.func55, Tryd.ntmps55
      go_wp2
      go_ret
      exact ⟨rfl, rfl⟩
  · rw [small_no (by omega)]
    have h4 : decide ((97 : Int) ≤ c) = false := decide_eq_false (by omega)
    go_enter Tryd.func55, Tryd.ntmps55
    go_wp2
    go_ret
    exact ⟨rfl, rfl⟩
theorem RisDigit_any (c : Nat) (w : World) : Calls Tryd.prog 57 #[.int .u8 c] w fun e w' => e = .returned (.bool (digit c)) ∧ w = w' := by
  by_cases h1 : 48 ≤ c
  · by_cases h2 : c ≤ 57
    · rw [digit_yes h1 h2]
      have h3 : decide ((c : Int) ≤ 57) = true := decide_eq_true (by omega)
      have h4 : decide ((48 : Int) ≤ c) = true := decide_eq_true (by omega)
      go_enter Tryd.func57, Tryd.ntmps57
      go_wp2
      go_ret
      exact ⟨rfl, rfl⟩
    · rw [digit_no (by omega)]
      have h3 : decide ((c : Int) ≤ 57) = false := decide_eq_false (by omega)
      have h4 : decide ((48 : Int) ≤ c) = true := decide_eq_true (by omega)
      go_enter Tryd.func57, Tryd.ntmps57
      go_wp2
      go_ret
      exact ⟨rfl, rfl⟩
  · rw [digit_no (by omega)]
    have h4 : decide ((48 : Int) ≤ c) = false := decide_eq_false (by omega)
    go_enter Tryd.func57, Tryd.ntmps57
    go_wp2
    go_ret
    exact ⟨rfl, rfl⟩
theorem isInName_any (c : Nat) (w : World) : Calls Tryd.prog 80 #[.int .u8 c] w fun e w' => e = .returned (.bool (part c)) ∧ w = w' := by
  obtain ⟨x, hx⟩ : ∃ x, x = small c := ⟨_, rfl⟩
  obtain ⟨y, hy⟩ : ∃ y, y = digit c := ⟨_, rfl⟩
  obtain ⟨z, hz⟩ : ∃ z, z = part c := ⟨_, rfl⟩
  have HZ : Hid (z = (x || y || ((c : Int) == 95))) := by
    refine Lib.hid ?_
    rw [hx, hy, hz]; unfold part; congr 1
    rw [Bool.eq_iff_iff]; simp; omega
  rw [← hz]
  have HX := Lib.hid hx
  have HY := Lib.hid hy
  clear hx hy hz
  cases x <;> cases y
  all_goals
    go_enter Tryd.func80, Tryd.ntmps80
    go_wp2_with (first | (go_at_call 47; refine (isSmall_any _ _).mono ?_; rintro e w' ⟨rfl, rfl⟩; rw [← HX.out]) | (go_at_call 49; refine (isDigit_any _ _).mono ?_; rintro e w' ⟨rfl, rfl⟩; rw [← HY.out]))
    go_ret
    exact ⟨by rw [HZ.out]; rfl, rfl⟩
theorem isPart_any (c : Nat) (w : World) : Calls Tryd.prog 85 #[.int .u8 c] w fun e w' => e = .returned (.bool (part c)) ∧ w = w' := by
  obtain ⟨x, hx⟩ : ∃ x, x = small c := ⟨_, rfl⟩
  obtain ⟨y, hy⟩ : ∃ y, y = digit c := ⟨_, rfl⟩
  obtain ⟨z, hz⟩ : ∃ z, z = part c := ⟨_, rfl⟩
  have HZ : Hid (z = (x || y || ((c : Int) == 95))) := by
    refine Lib.hid ?_
    rw [hx, hy, hz]; unfold part; congr 1
    rw [Bool.eq_iff_iff]; simp; omega
  rw [← hz]
  have HX := Lib.hid hx
  have HY := Lib.hid hy
  clear hx hy hz
  cases x <;> cases y
  all_goals
    go_enter Tryd.func85, Tryd.ntmps85
    go_wp2_with (first | (go_at_call 55; refine (RisSmall_any _ _).mono ?_; rintro e w' ⟨rfl, rfl⟩; rw [← HX.out]) | (go_at_call 57; refine (RisDigit_any _ _).mono ?_; rintro e w' ⟨rfl, rfl⟩; rw [← HY.out]))
    go_ret
    exact ⟨by rw [HZ.out]; rfl, rfl⟩

theorem has_any (w : World) (b off L cap : Nat) (hL : L ≤ 1000000) (s : ByteArray) (f : Nat → ByteArray) (hr : Row w b off L (fun i => .string (f i))) : Calls Tryd.prog 76 #[.slice (some ⟨b, off, none⟩) L cap, .string s] w fun e w' => e = .returned (.bool (hasB L f s)) ∧ w = w' := by
  have HR := Lib.hid hr
  clear hr
  go_enter Tryd.func76, Tryd.ntmps76
  go_wp2
  go_loop [5] (fun i => ∃ k : Nat, k ≤ L ∧ i = .int .i64 k ∧ ∀ j, j < k → f j ≠ s) (fun i => L - (intOf i).toNat)
  case atStart => exact ⟨0, Nat.zero_le _, rfl, fun j hj => absurd hj (by omega)⟩
  case round =>
    obtain ⟨k, hk, rfl, hno⟩ := hrel
    have HN := Lib.hid hno
    clear hno
    by_cases hlt : k < L
    · have hc := HR.out k hlt
      by_cases e : f k = s
      · have ht := se_yes e
        have HE := Lib.hid (hasB_yes hlt e)
        clear e
        go_wp2
        go_ret
        exact ⟨by rw [HE.out]; rfl, rfl⟩
      · have ht := se_no e
        have HE := Lib.hid e
        clear e
        go_wp2
        go_round
        case rel => exact ⟨k + 1, by omega, by go_num, fun j hj => by by_cases hjk : j = k; { rw [hjk]; exact HE.out }; exact HN.out j (by omega)⟩
        case measure => simp [intOf]; omega
    · obtain rfl : k = L := by omega
      go_wp2
      go_ret
      exact ⟨by rw [hasB_no HN.out]; rfl, rfl⟩
/-- What the library's search answers. -/
def IdxIs (r : Int) (b : Bool) : Prop := (b = true ∧ 0 ≤ r) ∨ (b = false ∧ r < 0)
theorem Index_any (w : World) (b off L cap : Nat) (hL : L ≤ 1000000) (s : ByteArray) (f : Nat → ByteArray) (hr : Row w b off L (fun i => .string (f i))) : Calls Tryd.prog 108 #[.slice (some ⟨b, off, none⟩) L cap, .string s] w fun e w' => ∃ r : Int, e = .returned (.int .i64 r) ∧ IdxIs r (hasB L f s) ∧ w = w' := by
  have HR := Lib.hid hr
  clear hr
  go_enter Tryd.func108, Tryd.ntmps108
  go_wp2
  go_loop [5, 8] (fun _ i => ∃ k : Nat, k ≤ L ∧ i = .int .i64 k ∧ ∀ j, j < k → f j ≠ s) (fun _ i => L - (intOf i).toNat)
  case atStart => exact ⟨0, Nat.zero_le _, rfl, fun j hj => absurd hj (by omega)⟩
  case round =>
    obtain ⟨k, hk, rfl, hno⟩ := hrel
    have HN := Lib.hid hno
    clear hno
    by_cases hlt : k < L
    · have hc := HR.out k hlt
      by_cases e : f k = s
      · have ht := se_yes e.symm
        have HE := Lib.hid (hasB_yes hlt e)
        clear e
        go_wp2
        go_ret
        exact ⟨k, rfl, .inl ⟨HE.out, by omega⟩, rfl⟩
      · have ht := se_no (Ne.symm e)
        have HE := Lib.hid e
        clear e
        go_wp2
        go_round
        case rel => exact ⟨k + 1, by omega, by go_num, fun j hj => by by_cases hjk : j = k; { rw [hjk]; exact HE.out }; exact HN.out j (by omega)⟩
        case measure => simp [intOf]; omega
    · obtain rfl : k = L := by omega
      go_wp2
      go_ret
      exact ⟨-1, rfl, .inr ⟨hasB_no HN.out, by omega⟩, rfl⟩
theorem Contains_any (w : World) (b off L cap : Nat) (hL : L ≤ 1000000) (s : ByteArray) (f : Nat → ByteArray) (hr : Row w b off L (fun i => .string (f i))) : Calls Tryd.prog 93 #[.slice (some ⟨b, off, none⟩) L cap, .string s] w fun e w' => e = .returned (.bool (hasB L f s)) ∧ w = w' := by
  have HR := Lib.hid hr
  clear hr
  go_enter Tryd.func93, Tryd.ntmps93
  go_wp2_with fail
  refine (Index_any _ _ _ _ _ hL _ _ HR.out).mono ?_
  rintro e w' ⟨r, rfl, h, rfl⟩
  rcases h with ⟨h1, h2⟩ | ⟨h1, h2⟩
  all_goals
    have H1 := Lib.hid h1
    clear h1
    first | (have h3 : decide ((0 : Int) ≤ r) = true := decide_eq_true h2) | (have h3 : decide ((0 : Int) ≤ r) = false := decide_eq_false (by omega))
    go_wp2
    go_ret
    exact ⟨by rw [H1.out]; simp [*], rfl⟩
theorem isKey_any (w : World) (s : ByteArray) : Calls Tryd.prog 70 #[.string s] w fun e w' => e = .returned (.bool (hasB 43 keyB s)) ∧ Fr w w' := by
  go_enter Tryd.func70, Tryd.ntmps70
  go_wp2_with fail
  refine (Keys_any _).mono ?_
  rintro e w1 ⟨g, rfl, hr, hf⟩
  have HR := Lib.hid hr
  clear hr
  go_wp2_with fail
  refine (Contains_any _ g 0 43 43 (by omega) s keyB (fun i hi => by rw [Nat.zero_add]; exact HR.out.cell hi)).mono ?_
  rintro e w2 ⟨rfl, rfl⟩
  go_wp2
  go_ret
  exact ⟨rfl, hf⟩
end Go.Proofs.YtkkapgidddfdoaaDoor
