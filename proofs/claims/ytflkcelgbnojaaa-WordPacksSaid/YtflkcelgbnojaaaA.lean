/- Contracts of the functions that apply operators. -/
import Derived.Test.YtflkcelgbnojaaaW
import Derived.Test.YtflkcelgbnojaaaB
namespace Go.Proofs.Ytflkcelgbnojaaa
open Go.RowKit
set_option linter.unusedVariables false
theorem check_no {bits : Int} (h : okB bits = false) (op b : Int) (w : World) : Calls Try.prog 49 #[.int .i64 op, .int .i64 b, .int .i64 bits] w fun e w' => e = .returned (.int .i64 3) ∧ w = w' := by
  go_enter Try.func49, Try.ntmps49
  go_wp2_with (go_at_call 44; refine (validBits_any _ _).mono ?_; rintro e w' ⟨rfl, rfl⟩)
  go_ret
  exact ⟨rfl, rfl⟩
theorem check_out {bits : Int} (h : okB bits = true) (op b : Int) (ho : op < 1 ∨ 19 < op) (w : World) : Calls Try.prog 49 #[.int .i64 op, .int .i64 b, .int .i64 bits] w fun e w' => e = .returned (.int .i64 1) ∧ w = w' := by
  rcases ho with ho | ho
  · go_enter Try.func49, Try.ntmps49
    go_wp2_with (go_at_call 44; refine (validBits_any _ _).mono ?_; rintro e w' ⟨rfl, rfl⟩)
    go_ret
    exact ⟨rfl, rfl⟩
  · have h1 : ¬ op < 1 := by omega
    go_enter Try.func49, Try.ntmps49
    go_wp2_with (go_at_call 44; refine (validBits_any _ _).mono ?_; rintro e w' ⟨rfl, rfl⟩)
    go_ret
    exact ⟨rfl, rfl⟩
theorem check_zero {bits : Int} (h : okB bits = true) (op b : Int) (ho : op = 2 ∨ op = 3) (hz : nrm b bits = 0) (w : World) : Calls Try.prog 49 #[.int .i64 op, .int .i64 b, .int .i64 bits] w fun e w' => e = .returned (.int .i64 10) ∧ w = w' := by
  have H := Lib.hid (okB_yes h)
  have HZ := Lib.hid hz
  clear hz
  rcases ho with rfl | rfl
  all_goals
    go_enter Try.func49, Try.ntmps49
    go_wp2_with first
     | (go_at_call 44; refine (validBits_any _ _).mono ?_; rintro e w' ⟨rfl, rfl⟩)
     | (go_at_call 45; refine (normed_any H.out _ _).mono ?_; rintro e w' ⟨rfl, rfl⟩; rw [HZ.out])
    go_ret
    exact ⟨rfl, rfl⟩
theorem check_div {bits : Int} (h : okB bits = true) (op b : Int) (ho : op = 2 ∨ op = 3) (hz : nrm b bits ≠ 0) (w : World) : Calls Try.prog 49 #[.int .i64 op, .int .i64 b, .int .i64 bits] w fun e w' => e = .returned (.int .i64 0) ∧ w = w' := by
  have H := Lib.hid (okB_yes h)
  have HZ := beq_no hz
  rcases ho with rfl | rfl
  all_goals
    go_enter Try.func49, Try.ntmps49
    go_wp2_with first
     | (go_at_call 44; refine (validBits_any _ _).mono ?_; rintro e w' ⟨rfl, rfl⟩)
     | (go_at_call 45; refine (normed_any H.out _ _).mono ?_; rintro e w' ⟨rfl, rfl⟩)
    go_ret
    exact ⟨rfl, rfl⟩
theorem check_else {bits : Int} (h : okB bits = true) (op b : Int) (h1 : 1 ≤ op) (h19 : op ≤ 19) (h2 : op ≠ 2) (h3 : op ≠ 3) (w : World) : Calls Try.prog 49 #[.int .i64 op, .int .i64 b, .int .i64 bits] w fun e w' => e = .returned (.int .i64 0) ∧ w = w' := by
  have e2 := beq_no h2
  have e3 := beq_no h3
  have e4 : ¬ op < 1 := by omega
  go_enter Try.func49, Try.ntmps49
  go_wp2_with (go_at_call 44; refine (validBits_any _ _).mono ?_; rintro e w' ⟨rfl, rfl⟩)
  go_ret
  exact ⟨rfl, rfl⟩

theorem check_any (op b bits : Int) (w : World) : Calls Try.prog 49 #[.int .i64 op, .int .i64 b, .int .i64 bits] w fun e w' => e = .returned (.int .i64 (appE op b bits)) ∧ w = w' := by
  unfold appE
  by_cases h : okB bits = true
  · rw [if_pos h]
    by_cases ho : op < 1 ∨ 19 < op
    · rw [if_pos ho]; exact check_out h op b ho w
    · rw [if_neg ho]
      by_cases hd : op = 2 ∨ op = 3
      · by_cases hz : nrm b bits = 0
        · rw [if_pos ⟨hd, hz⟩]; exact check_zero h op b hd hz w
        · rw [if_neg (fun x => hz x.2)]; exact check_div h op b hd hz w
      · rw [if_neg (fun x => hd x.1)]; exact check_else h op b (by omega) (by omega) (by omega) (by omega) w
  · rw [if_neg h]; exact check_no (by simpa using h) op b w

/-- The table of operators, by their numbers. -/
def opTbl : Array Value := #[.nilFunc, .func (.func 66) #[] #[], .func (.func 67) #[] #[], .func (.func 68) #[] #[], .func (.func 69) #[] #[], .func (.func 70) #[] #[], .func (.func 71) #[] #[], .func (.func 72) #[] #[], .func (.func 73) #[] #[], .func (.func 74) #[] #[], .func (.func 75) #[] #[], .func (.func 76) #[] #[], .func (.func 77) #[] #[], .func (.func 79) #[] #[], .func (.func 80) #[] #[], .func (.func 81) #[] #[], .func (.func 82) #[] #[], .func (.func 83) #[] #[], .func (.func 84) #[] #[], .func (.func 85) #[] #[]]
theorem stop_store {P : Program} {ops : Array Oper} {rest : List Oper} {t ty x y pos aft g} {a : Act} {w : World} {Q : Exit → Act → World → Prop}
    (h : Stop (wpList P ops Q (⟨none, .store t x y, ty, pos, aft, g⟩ :: rest) a w)) : wpList P ops Q (⟨none, .store t x y, ty, pos, aft, g⟩ :: rest) a w := h
def zs20 : Array Value := #[Value.nilFunc, Value.nilFunc, Value.nilFunc, Value.nilFunc, Value.nilFunc, Value.nilFunc, Value.nilFunc, Value.nilFunc, Value.nilFunc, Value.nilFunc, Value.nilFunc, Value.nilFunc, Value.nilFunc, Value.nilFunc, Value.nilFunc, Value.nilFunc, Value.nilFunc, Value.nilFunc, Value.nilFunc, Value.nilFunc]
theorem heap_new (w : World) (o : Obj) : (w.alloc o).heap[w.heap.size]? = some o := by simp only [World.alloc, Array.getElem?_push_size]
theorem row_world (w : World) (zs tbl : Array Value) (T : TypeId) : ∃ W2, (w.alloc (.cells zs T)).setRow w.heap.size tbl = W2 ∧ Fr w W2 ∧ ∀ j : Nat, W2.cell? ⟨w.heap.size, j, none⟩ = tbl[j]? := by
  refine ⟨_, rfl, ?_, fun j => ?_⟩
  · refine ⟨rfl, rfl, rfl, by simp, fun k hk => ?_⟩
    rw [setRow_other _ _ _ _ (by omega)]
    exact ((Fr.refl w).alloc _).block k hk
  · exact cell_setRow_same _ _ _ zs _ T (0, 0) (heap_new ..)
def opF (k : Nat) : Value := opTbl.getD k undef
theorem opOf_any (k : Nat) (h1 : 1 ≤ k) (h2 : k ≤ 19) (w : World) : Calls Try.prog 50 #[.int .i64 k] w fun e w' => e = .returned (opF k) ∧ Fr w w' := by
  have hg : opTbl[k]? = some (opF k) := by
    have hs : k < opTbl.size := by show k < 20; omega
    simp [opF, Array.getD, hs]
  have HG := Lib.hid hg
  clear hg
  go_enter Try.func50, Try.ntmps50
  have hrow := row_world w zs20 opTbl 77
  go_wp2_with (with_reducible refine stop_store ?_)
  unfold Stop
  refine wpList_store_row rfl 77 (.tmp 3) (.tmp 4) rfl w.heap.size opTbl ?e1 ?e2 77 zs20 ?e3 ?e4 ?e5 ?e6 ?e7
  case e1 => rfl
  case e2 => rfl
  case e3 => exact heap_new ..
  case e4 => kernel_rfl
  case e5 => rfl
  case e6 => kernel_rfl
  obtain ⟨W2, hW2, hfr, hc0⟩ := hrow
  have hc := (hc0 k).trans HG.out
  show wpList _ _ _ _ _ ((w.alloc (.cells zs20 77)).setRow w.heap.size opTbl)
  rw [hW2]
  clear hW2 hc0
  go_wp2
  go_ret
  exact ⟨rfl, hfr⟩

theorem truth_any (c : Bool) (w : World) : Calls Try.prog 78 #[.bool c] w fun e w' => e = .returned (.int .i64 (tru c)) ∧ w = w' := by
  cases c
  all_goals
    go_enter Try.func78, Try.ntmps78
    go_wp2
    go_ret
    exact ⟨rfl, rfl⟩
theorem fn_1 (a b n : Int) (a1 : -2147483648 ≤ a) (a2 : a ≤ 2147483647) (b1 : -2147483648 ≤ b) (b2 : b ≤ 2147483647) (w : World) : Calls Try.prog 66 #[.int .i64 a, .int .i64 b, .int .i64 n] w fun e w' => e = .returned (.int .i64 (opv 1 a b n)) ∧ w = w' := by
  obtain ⟨d1, d2⟩ := mul_bd a b a1 a2 b1 b2
  go_enter Try.func66, Try.ntmps66
  go_wp2
  go_ret
  exact ⟨rfl, rfl⟩
theorem fn_2 (a b n : Int) (a1 : -2147483648 ≤ a) (a2 : a ≤ 2147483647) (b1 : -2147483648 ≤ b) (b2 : b ≤ 2147483647) (hz : b ≠ 0) (w : World) : Calls Try.prog 67 #[.int .i64 a, .int .i64 b, .int .i64 n] w fun e w' => e = .returned (.int .i64 (opv 2 a b n)) ∧ w = w' := by
  obtain ⟨d1, d2⟩ := tdiv_bd a b a1 a2
  go_enter Try.func67, Try.ntmps67
  go_wp2
  go_ret
  exact ⟨rfl, rfl⟩
theorem fn_3 (a b n : Int) (a1 : -2147483648 ≤ a) (a2 : a ≤ 2147483647) (b1 : -2147483648 ≤ b) (b2 : b ≤ 2147483647) (hz : b ≠ 0) (w : World) : Calls Try.prog 68 #[.int .i64 a, .int .i64 b, .int .i64 n] w fun e w' => e = .returned (.int .i64 (opv 3 a b n)) ∧ w = w' := by
  obtain ⟨d1, d2⟩ := tdiv_bd a b a1 a2
  go_enter Try.func68, Try.ntmps68
  go_wp2
  go_ret
  exact ⟨rfl, rfl⟩
theorem fn_4 (a b n : Int) (a1 : -2147483648 ≤ a) (a2 : a ≤ 2147483647) (b1 : -2147483648 ≤ b) (b2 : b ≤ 2147483647) (w : World) : Calls Try.prog 69 #[.int .i64 a, .int .i64 b, .int .i64 n] w fun e w' => e = .returned (.int .i64 (opv 4 a b n)) ∧ w = w' := by
  go_enter Try.func69, Try.ntmps69
  go_wp2
  go_ret
  exact ⟨rfl, rfl⟩
theorem fn_5 (a b n : Int) (a1 : -2147483648 ≤ a) (a2 : a ≤ 2147483647) (b1 : -2147483648 ≤ b) (b2 : b ≤ 2147483647) (w : World) : Calls Try.prog 70 #[.int .i64 a, .int .i64 b, .int .i64 n] w fun e w' => e = .returned (.int .i64 (opv 5 a b n)) ∧ w = w' := by
  go_enter Try.func70, Try.ntmps70
  go_wp2
  go_ret
  exact ⟨rfl, rfl⟩
theorem fn_8 (a b n : Int) (a1 : -2147483648 ≤ a) (a2 : a ≤ 2147483647) (b1 : -2147483648 ≤ b) (b2 : b ≤ 2147483647) (w : World) : Calls Try.prog 73 #[.int .i64 a, .int .i64 b, .int .i64 n] w fun e w' => e = .returned (.int .i64 (opv 8 a b n)) ∧ w = w' := by
  go_enter Try.func73, Try.ntmps73
  go_wp2
  go_ret
  exact ⟨rfl, rfl⟩
theorem fn_9 (a b n : Int) (a1 : -2147483648 ≤ a) (a2 : a ≤ 2147483647) (b1 : -2147483648 ≤ b) (b2 : b ≤ 2147483647) (w : World) : Calls Try.prog 74 #[.int .i64 a, .int .i64 b, .int .i64 n] w fun e w' => e = .returned (.int .i64 (opv 9 a b n)) ∧ w = w' := by
  go_enter Try.func74, Try.ntmps74
  go_wp2
  go_ret
  exact ⟨rfl, rfl⟩
theorem fn_10 (a b n : Int) (a1 : -2147483648 ≤ a) (a2 : a ≤ 2147483647) (b1 : -2147483648 ≤ b) (b2 : b ≤ 2147483647) (w : World) : Calls Try.prog 75 #[.int .i64 a, .int .i64 b, .int .i64 n] w fun e w' => e = .returned (.int .i64 (opv 10 a b n)) ∧ w = w' := by
  go_enter Try.func75, Try.ntmps75
  go_wp2
  go_ret
  exact ⟨rfl, rfl⟩
theorem fn_11 (a b n : Int) (a1 : -2147483648 ≤ a) (a2 : a ≤ 2147483647) (b1 : -2147483648 ≤ b) (b2 : b ≤ 2147483647) (w : World) : Calls Try.prog 76 #[.int .i64 a, .int .i64 b, .int .i64 n] w fun e w' => e = .returned (.int .i64 (opv 11 a b n)) ∧ w = w' := by
  go_enter Try.func76, Try.ntmps76
  go_wp2
  go_ret
  exact ⟨ret_int (not_i64 _ (bits_bd _ _ _).1 (bits_bd _ _ _).2), rfl⟩
theorem fn_12 (a b n : Int) (a1 : -2147483648 ≤ a) (a2 : a ≤ 2147483647) (b1 : -2147483648 ≤ b) (b2 : b ≤ 2147483647) (w : World) : Calls Try.prog 77 #[.int .i64 a, .int .i64 b, .int .i64 n] w fun e w' => e = .returned (.int .i64 (opv 12 a b n)) ∧ w = w' := by
  go_enter Try.func77, Try.ntmps77
  go_wp2_with (go_at_call 78; refine (truth_any _ _).mono ?_; rintro e w' ⟨rfl, rfl⟩)
  go_ret
  exact ⟨rfl, rfl⟩
theorem fn_13 (a b n : Int) (a1 : -2147483648 ≤ a) (a2 : a ≤ 2147483647) (b1 : -2147483648 ≤ b) (b2 : b ≤ 2147483647) (w : World) : Calls Try.prog 79 #[.int .i64 a, .int .i64 b, .int .i64 n] w fun e w' => e = .returned (.int .i64 (opv 13 a b n)) ∧ w = w' := by
  go_enter Try.func79, Try.ntmps79
  go_wp2_with (go_at_call 78; refine (truth_any _ _).mono ?_; rintro e w' ⟨rfl, rfl⟩)
  go_ret
  exact ⟨rfl, rfl⟩
theorem fn_14 (a b n : Int) (a1 : -2147483648 ≤ a) (a2 : a ≤ 2147483647) (b1 : -2147483648 ≤ b) (b2 : b ≤ 2147483647) (w : World) : Calls Try.prog 80 #[.int .i64 a, .int .i64 b, .int .i64 n] w fun e w' => e = .returned (.int .i64 (opv 14 a b n)) ∧ w = w' := by
  go_enter Try.func80, Try.ntmps80
  go_wp2_with (go_at_call 78; refine (truth_any _ _).mono ?_; rintro e w' ⟨rfl, rfl⟩)
  go_ret
  exact ⟨rfl, rfl⟩
theorem fn_15 (a b n : Int) (a1 : -2147483648 ≤ a) (a2 : a ≤ 2147483647) (b1 : -2147483648 ≤ b) (b2 : b ≤ 2147483647) (w : World) : Calls Try.prog 81 #[.int .i64 a, .int .i64 b, .int .i64 n] w fun e w' => e = .returned (.int .i64 (opv 15 a b n)) ∧ w = w' := by
  go_enter Try.func81, Try.ntmps81
  go_wp2_with (go_at_call 78; refine (truth_any _ _).mono ?_; rintro e w' ⟨rfl, rfl⟩)
  go_ret
  exact ⟨rfl, rfl⟩
theorem fn_16 (a b n : Int) (a1 : -2147483648 ≤ a) (a2 : a ≤ 2147483647) (b1 : -2147483648 ≤ b) (b2 : b ≤ 2147483647) (w : World) : Calls Try.prog 82 #[.int .i64 a, .int .i64 b, .int .i64 n] w fun e w' => e = .returned (.int .i64 (opv 16 a b n)) ∧ w = w' := by
  go_enter Try.func82, Try.ntmps82
  go_wp2_with (go_at_call 78; refine (truth_any _ _).mono ?_; rintro e w' ⟨rfl, rfl⟩)
  go_ret
  exact ⟨rfl, rfl⟩
theorem fn_17 (a b n : Int) (a1 : -2147483648 ≤ a) (a2 : a ≤ 2147483647) (b1 : -2147483648 ≤ b) (b2 : b ≤ 2147483647) (w : World) : Calls Try.prog 83 #[.int .i64 a, .int .i64 b, .int .i64 n] w fun e w' => e = .returned (.int .i64 (opv 17 a b n)) ∧ w = w' := by
  go_enter Try.func83, Try.ntmps83
  go_wp2_with (go_at_call 78; refine (truth_any _ _).mono ?_; rintro e w' ⟨rfl, rfl⟩)
  go_ret
  exact ⟨rfl, rfl⟩
theorem fn_18 (a b n : Int) (a1 : -2147483648 ≤ a) (a2 : a ≤ 2147483647) (b1 : -2147483648 ≤ b) (b2 : b ≤ 2147483647) (w : World) : Calls Try.prog 84 #[.int .i64 a, .int .i64 b, .int .i64 n] w fun e w' => e = .returned (.int .i64 (opv 18 a b n)) ∧ w = w' := by
  go_enter Try.func84, Try.ntmps84
  go_wp2
  go_ret
  exact ⟨rfl, rfl⟩
theorem fn_19 (a b n : Int) (a1 : -2147483648 ≤ a) (a2 : a ≤ 2147483647) (b1 : -2147483648 ≤ b) (b2 : b ≤ 2147483647) (w : World) : Calls Try.prog 85 #[.int .i64 a, .int .i64 b, .int .i64 n] w fun e w' => e = .returned (.int .i64 (opv 19 a b n)) ∧ w = w' := by
  go_enter Try.func85, Try.ntmps85
  go_wp2
  go_ret
  exact ⟨ret_int (not_i64 _ (by omega) (by omega)), rfl⟩

theorem fn_6 (a b n : Int) (a1 : -2147483648 ≤ a) (a2 : a ≤ 2147483647) (hn : OkB n) (w : World) : Calls Try.prog 71 #[.int .i64 a, .int .i64 b, .int .i64 n] w fun e w' => e = .returned (.int .i64 (opv 6 a b n)) ∧ w = w' := by
  have hn1 : n ≤ 32 := by rcases hn with rfl | rfl | rfl <;> decide
  have e : opv 6 a b n = if b < 0 ∨ n ≤ b then 0 else a * 2 ^ b.toNat := rfl
  rw [e]
  by_cases h : b < 0
  · rw [if_pos (.inl h)]; clear e hn
    go_enter Try.func71, Try.ntmps71
    go_wp2; go_ret; exact ⟨rfl, rfl⟩
  · by_cases h2 : n ≤ b
    · rw [if_pos (.inr h2)]; clear e hn
      go_enter Try.func71, Try.ntmps71
      go_wp2; go_ret; exact ⟨rfl, rfl⟩
    · rw [if_neg (by omega)]; clear e hn
      obtain ⟨d1, d2⟩ := shl_bd a b a1 a2 (by omega) (by omega)
      go_enter Try.func71, Try.ntmps71
      go_wp2
      go_ret
      exact ⟨rfl, rfl⟩
theorem fn_7 (a b n : Int) (a1 : -2147483648 ≤ a) (a2 : a ≤ 2147483647) (hn : OkB n) (w : World) : Calls Try.prog 72 #[.int .i64 a, .int .i64 b, .int .i64 n] w fun e w' => e = .returned (.int .i64 (opv 7 a b n)) ∧ w = w' := by
  have hn1 : n ≤ 32 := by rcases hn with rfl | rfl | rfl <;> decide
  have e : opv 7 a b n = if b < 0 ∨ n ≤ b then 0 else uns a n / 2 ^ b.toNat := rfl
  rw [e]
  have HN := Lib.hid hn
  by_cases h : b < 0
  · rw [if_pos (.inl h)]; clear e hn
    go_enter Try.func72, Try.ntmps72
    go_wp2; go_ret; exact ⟨rfl, rfl⟩
  · by_cases h2 : n ≤ b
    · rw [if_pos (.inr h2)]; clear e hn
      go_enter Try.func72, Try.ntmps72
      go_wp2; go_ret; exact ⟨rfl, rfl⟩
    · rw [if_neg (by omega)]; clear e hn
      go_enter Try.func72, Try.ntmps72
      go_wp2_with (go_at_call 47; refine (unsigned_any HN.out _ _).mono ?_; rintro e w' ⟨rfl, rfl⟩)
      go_ret
      exact ⟨rfl, rfl⟩

theorem Apply_1 {n : Int} (hb : OkB n) (a b : Int) (w : World) : Calls Try.prog 20 #[.int .i64 1, .int .i64 a, .int .i64 b, .int .i64 n] w fun e w' => e = .returned (.tuple #[.int .i64 (nrm (opv 1 (nrm a n) (nrm b n) n) n), .int .i64 0]) ∧ Fr w w' := by
  have H := Lib.hid hb
  have he : appE 1 b n = 0 := by simp [appE, show okB n = true from by simpa [okB] using hb]
  have HE := Lib.hid he
  obtain ⟨a1, a2⟩ := nrm_bd (v := a) hb
  obtain ⟨b1, b2⟩ := nrm_bd (v := b) hb
  clear hb he
  go_enter Try.func20, Try.ntmps20
  go_wp2_with first
    | (go_at_call 49; refine (check_any _ _ _ _).mono ?_; rintro e w' ⟨rfl, rfl⟩; rw [HE.out])
    | (go_at_call 50; refine (opOf_any 1 (by decide) (by decide) _).mono ?_; rintro e w' ⟨rfl, hf⟩; rw [show opF 1 = .func (.func 66) #[] #[] from rfl])
    | (go_at_call 45; refine (normed_any H.out _ _).mono ?_; rintro e w' ⟨rfl, rfl⟩)
    | (go_at_call 66; refine (fn_1 _ _ _ a1 a2 b1 b2 _).mono ?_; rintro e w' ⟨rfl, rfl⟩)
  go_ret2
  exact ⟨rfl, by assumption⟩
theorem Apply_2 {n : Int} (hb : OkB n) (a b : Int) (hz : nrm b n ≠ 0) (w : World) : Calls Try.prog 20 #[.int .i64 2, .int .i64 a, .int .i64 b, .int .i64 n] w fun e w' => e = .returned (.tuple #[.int .i64 (nrm (opv 2 (nrm a n) (nrm b n) n) n), .int .i64 0]) ∧ Fr w w' := by
  have H := Lib.hid hb
  have he : appE 2 b n = 0 := by simp [appE, show okB n = true from by simpa [okB] using hb, hz]
  have HE := Lib.hid he
  obtain ⟨a1, a2⟩ := nrm_bd (v := a) hb
  obtain ⟨b1, b2⟩ := nrm_bd (v := b) hb
  clear hb he
  go_enter Try.func20, Try.ntmps20
  go_wp2_with first
    | (go_at_call 49; refine (check_any _ _ _ _).mono ?_; rintro e w' ⟨rfl, rfl⟩; rw [HE.out])
    | (go_at_call 50; refine (opOf_any 2 (by decide) (by decide) _).mono ?_; rintro e w' ⟨rfl, hf⟩; rw [show opF 2 = .func (.func 67) #[] #[] from rfl])
    | (go_at_call 45; refine (normed_any H.out _ _).mono ?_; rintro e w' ⟨rfl, rfl⟩)
    | (go_at_call 67; refine (fn_2 _ _ _ a1 a2 b1 b2 hz _).mono ?_; rintro e w' ⟨rfl, rfl⟩)
  go_ret2
  exact ⟨rfl, by assumption⟩
theorem Apply_3 {n : Int} (hb : OkB n) (a b : Int) (hz : nrm b n ≠ 0) (w : World) : Calls Try.prog 20 #[.int .i64 3, .int .i64 a, .int .i64 b, .int .i64 n] w fun e w' => e = .returned (.tuple #[.int .i64 (nrm (opv 3 (nrm a n) (nrm b n) n) n), .int .i64 0]) ∧ Fr w w' := by
  have H := Lib.hid hb
  have he : appE 3 b n = 0 := by simp [appE, show okB n = true from by simpa [okB] using hb, hz]
  have HE := Lib.hid he
  obtain ⟨a1, a2⟩ := nrm_bd (v := a) hb
  obtain ⟨b1, b2⟩ := nrm_bd (v := b) hb
  clear hb he
  go_enter Try.func20, Try.ntmps20
  go_wp2_with first
    | (go_at_call 49; refine (check_any _ _ _ _).mono ?_; rintro e w' ⟨rfl, rfl⟩; rw [HE.out])
    | (go_at_call 50; refine (opOf_any 3 (by decide) (by decide) _).mono ?_; rintro e w' ⟨rfl, hf⟩; rw [show opF 3 = .func (.func 68) #[] #[] from rfl])
    | (go_at_call 45; refine (normed_any H.out _ _).mono ?_; rintro e w' ⟨rfl, rfl⟩)
    | (go_at_call 68; refine (fn_3 _ _ _ a1 a2 b1 b2 hz _).mono ?_; rintro e w' ⟨rfl, rfl⟩)
  go_ret2
  exact ⟨rfl, by assumption⟩
theorem Apply_4 {n : Int} (hb : OkB n) (a b : Int) (w : World) : Calls Try.prog 20 #[.int .i64 4, .int .i64 a, .int .i64 b, .int .i64 n] w fun e w' => e = .returned (.tuple #[.int .i64 (nrm (opv 4 (nrm a n) (nrm b n) n) n), .int .i64 0]) ∧ Fr w w' := by
  have H := Lib.hid hb
  have he : appE 4 b n = 0 := by simp [appE, show okB n = true from by simpa [okB] using hb]
  have HE := Lib.hid he
  obtain ⟨a1, a2⟩ := nrm_bd (v := a) hb
  obtain ⟨b1, b2⟩ := nrm_bd (v := b) hb
  clear hb he
  go_enter Try.func20, Try.ntmps20
  go_wp2_with first
    | (go_at_call 49; refine (check_any _ _ _ _).mono ?_; rintro e w' ⟨rfl, rfl⟩; rw [HE.out])
    | (go_at_call 50; refine (opOf_any 4 (by decide) (by decide) _).mono ?_; rintro e w' ⟨rfl, hf⟩; rw [show opF 4 = .func (.func 69) #[] #[] from rfl])
    | (go_at_call 45; refine (normed_any H.out _ _).mono ?_; rintro e w' ⟨rfl, rfl⟩)
    | (go_at_call 69; refine (fn_4 _ _ _ a1 a2 b1 b2 _).mono ?_; rintro e w' ⟨rfl, rfl⟩)
  go_ret2
  exact ⟨rfl, by assumption⟩
theorem Apply_5 {n : Int} (hb : OkB n) (a b : Int) (w : World) : Calls Try.prog 20 #[.int .i64 5, .int .i64 a, .int .i64 b, .int .i64 n] w fun e w' => e = .returned (.tuple #[.int .i64 (nrm (opv 5 (nrm a n) (nrm b n) n) n), .int .i64 0]) ∧ Fr w w' := by
  have H := Lib.hid hb
  have he : appE 5 b n = 0 := by simp [appE, show okB n = true from by simpa [okB] using hb]
  have HE := Lib.hid he
  obtain ⟨a1, a2⟩ := nrm_bd (v := a) hb
  obtain ⟨b1, b2⟩ := nrm_bd (v := b) hb
  clear hb he
  go_enter Try.func20, Try.ntmps20
  go_wp2_with first
    | (go_at_call 49; refine (check_any _ _ _ _).mono ?_; rintro e w' ⟨rfl, rfl⟩; rw [HE.out])
    | (go_at_call 50; refine (opOf_any 5 (by decide) (by decide) _).mono ?_; rintro e w' ⟨rfl, hf⟩; rw [show opF 5 = .func (.func 70) #[] #[] from rfl])
    | (go_at_call 45; refine (normed_any H.out _ _).mono ?_; rintro e w' ⟨rfl, rfl⟩)
    | (go_at_call 70; refine (fn_5 _ _ _ a1 a2 b1 b2 _).mono ?_; rintro e w' ⟨rfl, rfl⟩)
  go_ret2
  exact ⟨rfl, by assumption⟩
theorem Apply_6 {n : Int} (hb : OkB n) (a b : Int) (w : World) : Calls Try.prog 20 #[.int .i64 6, .int .i64 a, .int .i64 b, .int .i64 n] w fun e w' => e = .returned (.tuple #[.int .i64 (nrm (opv 6 (nrm a n) (nrm b n) n) n), .int .i64 0]) ∧ Fr w w' := by
  have H := Lib.hid hb
  have he : appE 6 b n = 0 := by simp [appE, show okB n = true from by simpa [okB] using hb]
  have HE := Lib.hid he
  obtain ⟨a1, a2⟩ := nrm_bd (v := a) hb
  obtain ⟨b1, b2⟩ := nrm_bd (v := b) hb
  clear hb he
  go_enter Try.func20, Try.ntmps20
  go_wp2_with first
    | (go_at_call 49; refine (check_any _ _ _ _).mono ?_; rintro e w' ⟨rfl, rfl⟩; rw [HE.out])
    | (go_at_call 50; refine (opOf_any 6 (by decide) (by decide) _).mono ?_; rintro e w' ⟨rfl, hf⟩; rw [show opF 6 = .func (.func 71) #[] #[] from rfl])
    | (go_at_call 45; refine (normed_any H.out _ _).mono ?_; rintro e w' ⟨rfl, rfl⟩)
    | (go_at_call 71; refine (fn_6 _ _ _ a1 a2 H.out _).mono ?_; rintro e w' ⟨rfl, rfl⟩)
  go_ret2
  exact ⟨rfl, by assumption⟩
theorem Apply_7 {n : Int} (hb : OkB n) (a b : Int) (w : World) : Calls Try.prog 20 #[.int .i64 7, .int .i64 a, .int .i64 b, .int .i64 n] w fun e w' => e = .returned (.tuple #[.int .i64 (nrm (opv 7 (nrm a n) (nrm b n) n) n), .int .i64 0]) ∧ Fr w w' := by
  have H := Lib.hid hb
  have he : appE 7 b n = 0 := by simp [appE, show okB n = true from by simpa [okB] using hb]
  have HE := Lib.hid he
  obtain ⟨a1, a2⟩ := nrm_bd (v := a) hb
  obtain ⟨b1, b2⟩ := nrm_bd (v := b) hb
  clear hb he
  go_enter Try.func20, Try.ntmps20
  go_wp2_with first
    | (go_at_call 49; refine (check_any _ _ _ _).mono ?_; rintro e w' ⟨rfl, rfl⟩; rw [HE.out])
    | (go_at_call 50; refine (opOf_any 7 (by decide) (by decide) _).mono ?_; rintro e w' ⟨rfl, hf⟩; rw [show opF 7 = .func (.func 72) #[] #[] from rfl])
    | (go_at_call 45; refine (normed_any H.out _ _).mono ?_; rintro e w' ⟨rfl, rfl⟩)
    | (go_at_call 72; refine (fn_7 _ _ _ a1 a2 H.out _).mono ?_; rintro e w' ⟨rfl, rfl⟩)
  go_ret2
  exact ⟨rfl, by assumption⟩
theorem Apply_8 {n : Int} (hb : OkB n) (a b : Int) (w : World) : Calls Try.prog 20 #[.int .i64 8, .int .i64 a, .int .i64 b, .int .i64 n] w fun e w' => e = .returned (.tuple #[.int .i64 (nrm (opv 8 (nrm a n) (nrm b n) n) n), .int .i64 0]) ∧ Fr w w' := by
  have H := Lib.hid hb
  have he : appE 8 b n = 0 := by simp [appE, show okB n = true from by simpa [okB] using hb]
  have HE := Lib.hid he
  obtain ⟨a1, a2⟩ := nrm_bd (v := a) hb
  obtain ⟨b1, b2⟩ := nrm_bd (v := b) hb
  clear hb he
  go_enter Try.func20, Try.ntmps20
  go_wp2_with first
    | (go_at_call 49; refine (check_any _ _ _ _).mono ?_; rintro e w' ⟨rfl, rfl⟩; rw [HE.out])
    | (go_at_call 50; refine (opOf_any 8 (by decide) (by decide) _).mono ?_; rintro e w' ⟨rfl, hf⟩; rw [show opF 8 = .func (.func 73) #[] #[] from rfl])
    | (go_at_call 45; refine (normed_any H.out _ _).mono ?_; rintro e w' ⟨rfl, rfl⟩)
    | (go_at_call 73; refine (fn_8 _ _ _ a1 a2 b1 b2 _).mono ?_; rintro e w' ⟨rfl, rfl⟩)
  go_ret2
  exact ⟨rfl, by assumption⟩
theorem Apply_9 {n : Int} (hb : OkB n) (a b : Int) (w : World) : Calls Try.prog 20 #[.int .i64 9, .int .i64 a, .int .i64 b, .int .i64 n] w fun e w' => e = .returned (.tuple #[.int .i64 (nrm (opv 9 (nrm a n) (nrm b n) n) n), .int .i64 0]) ∧ Fr w w' := by
  have H := Lib.hid hb
  have he : appE 9 b n = 0 := by simp [appE, show okB n = true from by simpa [okB] using hb]
  have HE := Lib.hid he
  obtain ⟨a1, a2⟩ := nrm_bd (v := a) hb
  obtain ⟨b1, b2⟩ := nrm_bd (v := b) hb
  clear hb he
  go_enter Try.func20, Try.ntmps20
  go_wp2_with first
    | (go_at_call 49; refine (check_any _ _ _ _).mono ?_; rintro e w' ⟨rfl, rfl⟩; rw [HE.out])
    | (go_at_call 50; refine (opOf_any 9 (by decide) (by decide) _).mono ?_; rintro e w' ⟨rfl, hf⟩; rw [show opF 9 = .func (.func 74) #[] #[] from rfl])
    | (go_at_call 45; refine (normed_any H.out _ _).mono ?_; rintro e w' ⟨rfl, rfl⟩)
    | (go_at_call 74; refine (fn_9 _ _ _ a1 a2 b1 b2 _).mono ?_; rintro e w' ⟨rfl, rfl⟩)
  go_ret2
  exact ⟨rfl, by assumption⟩
theorem Apply_10 {n : Int} (hb : OkB n) (a b : Int) (w : World) : Calls Try.prog 20 #[.int .i64 10, .int .i64 a, .int .i64 b, .int .i64 n] w fun e w' => e = .returned (.tuple #[.int .i64 (nrm (opv 10 (nrm a n) (nrm b n) n) n), .int .i64 0]) ∧ Fr w w' := by
  have H := Lib.hid hb
  have he : appE 10 b n = 0 := by simp [appE, show okB n = true from by simpa [okB] using hb]
  have HE := Lib.hid he
  obtain ⟨a1, a2⟩ := nrm_bd (v := a) hb
  obtain ⟨b1, b2⟩ := nrm_bd (v := b) hb
  clear hb he
  go_enter Try.func20, Try.ntmps20
  go_wp2_with first
    | (go_at_call 49; refine (check_any _ _ _ _).mono ?_; rintro e w' ⟨rfl, rfl⟩; rw [HE.out])
    | (go_at_call 50; refine (opOf_any 10 (by decide) (by decide) _).mono ?_; rintro e w' ⟨rfl, hf⟩; rw [show opF 10 = .func (.func 75) #[] #[] from rfl])
    | (go_at_call 45; refine (normed_any H.out _ _).mono ?_; rintro e w' ⟨rfl, rfl⟩)
    | (go_at_call 75; refine (fn_10 _ _ _ a1 a2 b1 b2 _).mono ?_; rintro e w' ⟨rfl, rfl⟩)
  go_ret2
  exact ⟨rfl, by assumption⟩
theorem Apply_11 {n : Int} (hb : OkB n) (a b : Int) (w : World) : Calls Try.prog 20 #[.int .i64 11, .int .i64 a, .int .i64 b, .int .i64 n] w fun e w' => e = .returned (.tuple #[.int .i64 (nrm (opv 11 (nrm a n) (nrm b n) n) n), .int .i64 0]) ∧ Fr w w' := by
  have H := Lib.hid hb
  have he : appE 11 b n = 0 := by simp [appE, show okB n = true from by simpa [okB] using hb]
  have HE := Lib.hid he
  obtain ⟨a1, a2⟩ := nrm_bd (v := a) hb
  obtain ⟨b1, b2⟩ := nrm_bd (v := b) hb
  clear hb he
  go_enter Try.func20, Try.ntmps20
  go_wp2_with first
    | (go_at_call 49; refine (check_any _ _ _ _).mono ?_; rintro e w' ⟨rfl, rfl⟩; rw [HE.out])
    | (go_at_call 50; refine (opOf_any 11 (by decide) (by decide) _).mono ?_; rintro e w' ⟨rfl, hf⟩; rw [show opF 11 = .func (.func 76) #[] #[] from rfl])
    | (go_at_call 45; refine (normed_any H.out _ _).mono ?_; rintro e w' ⟨rfl, rfl⟩)
    | (go_at_call 76; refine (fn_11 _ _ _ a1 a2 b1 b2 _).mono ?_; rintro e w' ⟨rfl, rfl⟩)
  go_ret2
  exact ⟨rfl, by assumption⟩
theorem Apply_12 {n : Int} (hb : OkB n) (a b : Int) (w : World) : Calls Try.prog 20 #[.int .i64 12, .int .i64 a, .int .i64 b, .int .i64 n] w fun e w' => e = .returned (.tuple #[.int .i64 (nrm (opv 12 (nrm a n) (nrm b n) n) n), .int .i64 0]) ∧ Fr w w' := by
  have H := Lib.hid hb
  have he : appE 12 b n = 0 := by simp [appE, show okB n = true from by simpa [okB] using hb]
  have HE := Lib.hid he
  obtain ⟨a1, a2⟩ := nrm_bd (v := a) hb
  obtain ⟨b1, b2⟩ := nrm_bd (v := b) hb
  clear hb he
  go_enter Try.func20, Try.ntmps20
  go_wp2_with first
    | (go_at_call 49; refine (check_any _ _ _ _).mono ?_; rintro e w' ⟨rfl, rfl⟩; rw [HE.out])
    | (go_at_call 50; refine (opOf_any 12 (by decide) (by decide) _).mono ?_; rintro e w' ⟨rfl, hf⟩; rw [show opF 12 = .func (.func 77) #[] #[] from rfl])
    | (go_at_call 45; refine (normed_any H.out _ _).mono ?_; rintro e w' ⟨rfl, rfl⟩)
    | (go_at_call 77; refine (fn_12 _ _ _ a1 a2 b1 b2 _).mono ?_; rintro e w' ⟨rfl, rfl⟩)
  go_ret2
  exact ⟨rfl, by assumption⟩
theorem Apply_13 {n : Int} (hb : OkB n) (a b : Int) (w : World) : Calls Try.prog 20 #[.int .i64 13, .int .i64 a, .int .i64 b, .int .i64 n] w fun e w' => e = .returned (.tuple #[.int .i64 (nrm (opv 13 (nrm a n) (nrm b n) n) n), .int .i64 0]) ∧ Fr w w' := by
  have H := Lib.hid hb
  have he : appE 13 b n = 0 := by simp [appE, show okB n = true from by simpa [okB] using hb]
  have HE := Lib.hid he
  obtain ⟨a1, a2⟩ := nrm_bd (v := a) hb
  obtain ⟨b1, b2⟩ := nrm_bd (v := b) hb
  clear hb he
  go_enter Try.func20, Try.ntmps20
  go_wp2_with first
    | (go_at_call 49; refine (check_any _ _ _ _).mono ?_; rintro e w' ⟨rfl, rfl⟩; rw [HE.out])
    | (go_at_call 50; refine (opOf_any 13 (by decide) (by decide) _).mono ?_; rintro e w' ⟨rfl, hf⟩; rw [show opF 13 = .func (.func 79) #[] #[] from rfl])
    | (go_at_call 45; refine (normed_any H.out _ _).mono ?_; rintro e w' ⟨rfl, rfl⟩)
    | (go_at_call 79; refine (fn_13 _ _ _ a1 a2 b1 b2 _).mono ?_; rintro e w' ⟨rfl, rfl⟩)
  go_ret2
  exact ⟨rfl, by assumption⟩
theorem Apply_14 {n : Int} (hb : OkB n) (a b : Int) (w : World) : Calls Try.prog 20 #[.int .i64 14, .int .i64 a, .int .i64 b, .int .i64 n] w fun e w' => e = .returned (.tuple #[.int .i64 (nrm (opv 14 (nrm a n) (nrm b n) n) n), .int .i64 0]) ∧ Fr w w' := by
  have H := Lib.hid hb
  have he : appE 14 b n = 0 := by simp [appE, show okB n = true from by simpa [okB] using hb]
  have HE := Lib.hid he
  obtain ⟨a1, a2⟩ := nrm_bd (v := a) hb
  obtain ⟨b1, b2⟩ := nrm_bd (v := b) hb
  clear hb he
  go_enter Try.func20, Try.ntmps20
  go_wp2_with first
    | (go_at_call 49; refine (check_any _ _ _ _).mono ?_; rintro e w' ⟨rfl, rfl⟩; rw [HE.out])
    | (go_at_call 50; refine (opOf_any 14 (by decide) (by decide) _).mono ?_; rintro e w' ⟨rfl, hf⟩; rw [show opF 14 = .func (.func 80) #[] #[] from rfl])
    | (go_at_call 45; refine (normed_any H.out _ _).mono ?_; rintro e w' ⟨rfl, rfl⟩)
    | (go_at_call 80; refine (fn_14 _ _ _ a1 a2 b1 b2 _).mono ?_; rintro e w' ⟨rfl, rfl⟩)
  go_ret2
  exact ⟨rfl, by assumption⟩
theorem Apply_15 {n : Int} (hb : OkB n) (a b : Int) (w : World) : Calls Try.prog 20 #[.int .i64 15, .int .i64 a, .int .i64 b, .int .i64 n] w fun e w' => e = .returned (.tuple #[.int .i64 (nrm (opv 15 (nrm a n) (nrm b n) n) n), .int .i64 0]) ∧ Fr w w' := by
  have H := Lib.hid hb
  have he : appE 15 b n = 0 := by simp [appE, show okB n = true from by simpa [okB] using hb]
  have HE := Lib.hid he
  obtain ⟨a1, a2⟩ := nrm_bd (v := a) hb
  obtain ⟨b1, b2⟩ := nrm_bd (v := b) hb
  clear hb he
  go_enter Try.func20, Try.ntmps20
  go_wp2_with first
    | (go_at_call 49; refine (check_any _ _ _ _).mono ?_; rintro e w' ⟨rfl, rfl⟩; rw [HE.out])
    | (go_at_call 50; refine (opOf_any 15 (by decide) (by decide) _).mono ?_; rintro e w' ⟨rfl, hf⟩; rw [show opF 15 = .func (.func 81) #[] #[] from rfl])
    | (go_at_call 45; refine (normed_any H.out _ _).mono ?_; rintro e w' ⟨rfl, rfl⟩)
    | (go_at_call 81; refine (fn_15 _ _ _ a1 a2 b1 b2 _).mono ?_; rintro e w' ⟨rfl, rfl⟩)
  go_ret2
  exact ⟨rfl, by assumption⟩
theorem Apply_16 {n : Int} (hb : OkB n) (a b : Int) (w : World) : Calls Try.prog 20 #[.int .i64 16, .int .i64 a, .int .i64 b, .int .i64 n] w fun e w' => e = .returned (.tuple #[.int .i64 (nrm (opv 16 (nrm a n) (nrm b n) n) n), .int .i64 0]) ∧ Fr w w' := by
  have H := Lib.hid hb
  have he : appE 16 b n = 0 := by simp [appE, show okB n = true from by simpa [okB] using hb]
  have HE := Lib.hid he
  obtain ⟨a1, a2⟩ := nrm_bd (v := a) hb
  obtain ⟨b1, b2⟩ := nrm_bd (v := b) hb
  clear hb he
  go_enter Try.func20, Try.ntmps20
  go_wp2_with first
    | (go_at_call 49; refine (check_any _ _ _ _).mono ?_; rintro e w' ⟨rfl, rfl⟩; rw [HE.out])
    | (go_at_call 50; refine (opOf_any 16 (by decide) (by decide) _).mono ?_; rintro e w' ⟨rfl, hf⟩; rw [show opF 16 = .func (.func 82) #[] #[] from rfl])
    | (go_at_call 45; refine (normed_any H.out _ _).mono ?_; rintro e w' ⟨rfl, rfl⟩)
    | (go_at_call 82; refine (fn_16 _ _ _ a1 a2 b1 b2 _).mono ?_; rintro e w' ⟨rfl, rfl⟩)
  go_ret2
  exact ⟨rfl, by assumption⟩
theorem Apply_17 {n : Int} (hb : OkB n) (a b : Int) (w : World) : Calls Try.prog 20 #[.int .i64 17, .int .i64 a, .int .i64 b, .int .i64 n] w fun e w' => e = .returned (.tuple #[.int .i64 (nrm (opv 17 (nrm a n) (nrm b n) n) n), .int .i64 0]) ∧ Fr w w' := by
  have H := Lib.hid hb
  have he : appE 17 b n = 0 := by simp [appE, show okB n = true from by simpa [okB] using hb]
  have HE := Lib.hid he
  obtain ⟨a1, a2⟩ := nrm_bd (v := a) hb
  obtain ⟨b1, b2⟩ := nrm_bd (v := b) hb
  clear hb he
  go_enter Try.func20, Try.ntmps20
  go_wp2_with first
    | (go_at_call 49; refine (check_any _ _ _ _).mono ?_; rintro e w' ⟨rfl, rfl⟩; rw [HE.out])
    | (go_at_call 50; refine (opOf_any 17 (by decide) (by decide) _).mono ?_; rintro e w' ⟨rfl, hf⟩; rw [show opF 17 = .func (.func 83) #[] #[] from rfl])
    | (go_at_call 45; refine (normed_any H.out _ _).mono ?_; rintro e w' ⟨rfl, rfl⟩)
    | (go_at_call 83; refine (fn_17 _ _ _ a1 a2 b1 b2 _).mono ?_; rintro e w' ⟨rfl, rfl⟩)
  go_ret2
  exact ⟨rfl, by assumption⟩
theorem Apply_18 {n : Int} (hb : OkB n) (a b : Int) (w : World) : Calls Try.prog 20 #[.int .i64 18, .int .i64 a, .int .i64 b, .int .i64 n] w fun e w' => e = .returned (.tuple #[.int .i64 (nrm (opv 18 (nrm a n) (nrm b n) n) n), .int .i64 0]) ∧ Fr w w' := by
  have H := Lib.hid hb
  have he : appE 18 b n = 0 := by simp [appE, show okB n = true from by simpa [okB] using hb]
  have HE := Lib.hid he
  obtain ⟨a1, a2⟩ := nrm_bd (v := a) hb
  obtain ⟨b1, b2⟩ := nrm_bd (v := b) hb
  clear hb he
  go_enter Try.func20, Try.ntmps20
  go_wp2_with first
    | (go_at_call 49; refine (check_any _ _ _ _).mono ?_; rintro e w' ⟨rfl, rfl⟩; rw [HE.out])
    | (go_at_call 50; refine (opOf_any 18 (by decide) (by decide) _).mono ?_; rintro e w' ⟨rfl, hf⟩; rw [show opF 18 = .func (.func 84) #[] #[] from rfl])
    | (go_at_call 45; refine (normed_any H.out _ _).mono ?_; rintro e w' ⟨rfl, rfl⟩)
    | (go_at_call 84; refine (fn_18 _ _ _ a1 a2 b1 b2 _).mono ?_; rintro e w' ⟨rfl, rfl⟩)
  go_ret2
  exact ⟨rfl, by assumption⟩
theorem Apply_19 {n : Int} (hb : OkB n) (a b : Int) (w : World) : Calls Try.prog 20 #[.int .i64 19, .int .i64 a, .int .i64 b, .int .i64 n] w fun e w' => e = .returned (.tuple #[.int .i64 (nrm (opv 19 (nrm a n) (nrm b n) n) n), .int .i64 0]) ∧ Fr w w' := by
  have H := Lib.hid hb
  have he : appE 19 b n = 0 := by simp [appE, show okB n = true from by simpa [okB] using hb]
  have HE := Lib.hid he
  obtain ⟨a1, a2⟩ := nrm_bd (v := a) hb
  obtain ⟨b1, b2⟩ := nrm_bd (v := b) hb
  clear hb he
  go_enter Try.func20, Try.ntmps20
  go_wp2_with first
    | (go_at_call 49; refine (check_any _ _ _ _).mono ?_; rintro e w' ⟨rfl, rfl⟩; rw [HE.out])
    | (go_at_call 50; refine (opOf_any 19 (by decide) (by decide) _).mono ?_; rintro e w' ⟨rfl, hf⟩; rw [show opF 19 = .func (.func 85) #[] #[] from rfl])
    | (go_at_call 45; refine (normed_any H.out _ _).mono ?_; rintro e w' ⟨rfl, rfl⟩)
    | (go_at_call 85; refine (fn_19 _ _ _ a1 a2 b1 b2 _).mono ?_; rintro e w' ⟨rfl, rfl⟩)
  go_ret2
  exact ⟨rfl, by assumption⟩

theorem Apply_no (op a b n : Int) (h : appE op b n ≠ 0) (w : World) : Calls Try.prog 20 #[.int .i64 op, .int .i64 a, .int .i64 b, .int .i64 n] w fun e w' => e = .returned (.tuple #[.int .i64 0, .int .i64 (appE op b n)]) ∧ Fr w w' := by
  have h1 : (appE op b n != 0) = true := by simpa using h
  clear h
  go_enter Try.func20, Try.ntmps20
  go_wp2_with (go_at_call 49; refine (check_any _ _ _ _).mono ?_; rintro e w' ⟨rfl, rfl⟩)
  go_ret2
  exact ⟨rfl, Fr.refl _⟩
theorem Apply_any (op a b n : Int) (w : World) : Calls Try.prog 20 #[.int .i64 op, .int .i64 a, .int .i64 b, .int .i64 n] w fun e w' => e = .returned (appR op a b n) ∧ Fr w w' := by
  unfold appR appV
  by_cases h : appE op b n = 0
  · rw [if_pos h, h]
    obtain ⟨hb, h1, h2, h3⟩ := appE_ok h
    clear h
    obtain ⟨k, rfl⟩ := Int.eq_ofNat_of_zero_le (show 0 ≤ op by omega)
    rw [Int.toNat_natCast]
    have hk : k = 1 ∨ k = 2 ∨ k = 3 ∨ k = 4 ∨ k = 5 ∨ k = 6 ∨ k = 7 ∨ k = 8 ∨ k = 9 ∨ k = 10 ∨ k = 11 ∨ k = 12 ∨ k = 13 ∨ k = 14 ∨ k = 15 ∨ k = 16 ∨ k = 17 ∨ k = 18 ∨ k = 19 := by omega
    rcases hk with rfl | rfl | rfl | rfl | rfl | rfl | rfl | rfl | rfl | rfl | rfl | rfl | rfl | rfl | rfl | rfl | rfl | rfl | rfl
    · exact Apply_1 hb a b w
    · exact Apply_2 hb a b (h3 (by decide)) w
    · exact Apply_3 hb a b (h3 (by decide)) w
    · exact Apply_4 hb a b w
    · exact Apply_5 hb a b w
    · exact Apply_6 hb a b w
    · exact Apply_7 hb a b w
    · exact Apply_8 hb a b w
    · exact Apply_9 hb a b w
    · exact Apply_10 hb a b w
    · exact Apply_11 hb a b w
    · exact Apply_12 hb a b w
    · exact Apply_13 hb a b w
    · exact Apply_14 hb a b w
    · exact Apply_15 hb a b w
    · exact Apply_16 hb a b w
    · exact Apply_17 hb a b w
    · exact Apply_18 hb a b w
    · exact Apply_19 hb a b w
  · rw [if_neg h]; exact Apply_no op a b n h w
end Go.Proofs.Ytflkcelgbnojaaa
