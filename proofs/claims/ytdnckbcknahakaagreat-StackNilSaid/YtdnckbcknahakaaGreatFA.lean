/- The code's looks at one instruction. -/
import Derived.Test.YtdnckbcknahakaaGreatEX
namespace Go.Proofs.YtdnckbcknahakaaGreat
open Go.RowKit
set_option linter.unusedVariables false
set_option linter.unusedSimpArgs false

def opV (o : Op3) : Value := .agg #[.int .i64 o.op, .int .i64 o.n, .int .i64 o.m]
theorem within_any (n lo hi : Int) (w : World) : Calls Tryz.prog 108 #[.int .i64 n, .int .i64 lo, .int .i64 hi] w fun e w' => e = .returned (.bool (inI n lo hi)) ∧ w = w' := by
  unfold inI
  by_cases h1 : lo ≤ n
  · have e1 : decide (lo ≤ n) = true := decide_eq_true h1
    by_cases h2 : n ≤ hi
    · have e2 : decide (n ≤ hi) = true := decide_eq_true h2
      rw [e1, e2]
      go_enter Tryz.func108, Tryz.ntmps108
      go_wp2; go_ret; exact ⟨rfl, rfl⟩
    · have e2 : decide (n ≤ hi) = false := decide_eq_false h2
      rw [e1, e2]
      go_enter Tryz.func108, Tryz.ntmps108
      go_wp2; go_ret; exact ⟨rfl, rfl⟩
  · have e1 : decide (lo ≤ n) = false := decide_eq_false h1
    rw [e1, Bool.false_and]
    go_enter Tryz.func108, Tryz.ntmps108
    go_wp2; go_ret; exact ⟨rfl, rfl⟩
theorem isBeyond_any (n : Int) (w : World) : Calls Tryz.prog 110 #[.int .i64 n] w fun e w' => e = .returned (.bool (beyond n)) ∧ w = w' := by
  unfold beyond
  by_cases h1 : n < -2147483648
  · have e1 : decide (n < -2147483648) = true := decide_eq_true h1
    rw [e1, Bool.true_or]
    go_enter Tryz.func110, Tryz.ntmps110
    go_wp2; go_ret; exact ⟨rfl, rfl⟩
  · have e1 : decide (n < -2147483648) = false := decide_eq_false h1
    by_cases h2 : 2147483647 < n
    · have e2 : decide (2147483647 < n) = true := decide_eq_true h2
      rw [e1, e2]
      go_enter Tryz.func110, Tryz.ntmps110
      go_wp2; go_ret; exact ⟨rfl, rfl⟩
    · have e2 : decide (2147483647 < n) = false := decide_eq_false h2
      rw [e1, e2]
      go_enter Tryz.func110, Tryz.ntmps110
      go_wp2; go_ret; exact ⟨rfl, rfl⟩
theorem follow_any (op : Int) (w : World) : Calls Tryz.prog 114 #[.int .i64 op] w fun e w' => e = .returned (.bool (followB op)) ∧ w = w' := by
  by_cases h : op = 18 ∨ op = 28 ∨ op = 19
  · rcases h with rfl | rfl | rfl
    all_goals
      go_enter Tryz.func114, Tryz.ntmps114
      go_wp2; go_ret; exact ⟨rfl, rfl⟩
  · rw [show followB op = false from decide_eq_false h]
    have e1 : (op == 18) = false := by rw [beq_eq_false_iff_ne]; omega
    have e2 : (op == 28) = false := by rw [beq_eq_false_iff_ne]; omega
    have e3 : (op == 19) = false := by rw [beq_eq_false_iff_ne]; omega
    clear h
    go_enter Tryz.func114, Tryz.ntmps114
    go_wp2; go_ret; exact ⟨rfl, rfl⟩
set_option maxRecDepth 100000 in
set_option maxHeartbeats 4000000 in
theorem goesOn_any (op : Int) (n m : Int) (w : World) : Calls Tryz.prog 113 #[.agg #[.int .i64 op, .int .i64 n, .int .i64 m]] w fun e w' => e = .returned (.bool (goOn op)) ∧ Fr w w' := by
  by_cases h : op = 20 ∨ op = 25 ∨ op = 26 ∨ op = 27 ∨ op = 29 ∨ op = 30
  · rcases h with rfl | rfl | rfl | rfl | rfl | rfl
    all_goals
      go_enter Tryz.func113, Tryz.ntmps113
      go_wp2
      first | go_ret | skip
      refine ⟨?_, ?_⟩
      · first | rfl | (simp [goOn]; done) | (have hh := H.out; simp only [not_or] at hh; simp [goOn, hh]; done) | (have hh := H.out; simp only [not_or] at hh; simp only [goOn, hh, if_false, or_self]; congr 2 <;> (rw [Bool.eq_iff_iff]; simp))
      · first | rfl | exact Fr.refl _ | exact (Fr.refl _).alloc _ | exact ((Fr.refl _).alloc _).alloc _
  ·
    have n20 : (op == 20) = false := by rw [beq_eq_false_iff_ne]; omega
    have n25 : (op == 25) = false := by rw [beq_eq_false_iff_ne]; omega
    have n26 : (op == 26) = false := by rw [beq_eq_false_iff_ne]; omega
    have n27 : (op == 27) = false := by rw [beq_eq_false_iff_ne]; omega
    have n29 : (op == 29) = false := by rw [beq_eq_false_iff_ne]; omega
    have n30 : (op == 30) = false := by rw [beq_eq_false_iff_ne]; omega
    have H := Lib.hid h
    clear h
    go_enter Tryz.func113, Tryz.ntmps113
    go_wp2
    first | go_ret | skip
    refine ⟨?_, ?_⟩
    · first | rfl | (simp [goOn]; done) | (have hh := H.out; simp only [not_or] at hh; simp [goOn, hh]; done) | (have hh := H.out; simp only [not_or] at hh; simp only [goOn, hh, if_false, or_self]; congr 2 <;> (rw [Bool.eq_iff_iff]; simp))
    · first | rfl | exact Fr.refl _ | exact (Fr.refl _).alloc _ | exact ((Fr.refl _).alloc _).alloc _
set_option maxRecDepth 100000 in
set_option maxHeartbeats 4000000 in
theorem taken_any (op : Int) (w : World) : Calls Tryz.prog 79 #[.int .i64 op] w fun e w' => e = .returned (.int .i64 (takenI op)) ∧ w = w' := by
  by_cases h : op = 15 ∨ op = 13 ∨ op = 14 ∨ op = 16 ∨ op = 3 ∨ op = 6 ∨ op = 9 ∨ op = 12 ∨ op = 17 ∨ op = 21 ∨ op = 22 ∨ op = 29 ∨ op = 25 ∨ op = 27
  · rcases h with rfl | rfl | rfl | rfl | rfl | rfl | rfl | rfl | rfl | rfl | rfl | rfl | rfl | rfl
    all_goals
      go_enter Tryz.func79, Tryz.ntmps79
      go_wp2
      first | go_ret | skip
      refine ⟨?_, ?_⟩
      · first | rfl | (simp [takenI]; done) | (have hh := H.out; simp only [not_or] at hh; simp [takenI, hh]; done) | (have hh := H.out; simp only [not_or] at hh; simp only [takenI, hh, if_false, or_self]; congr 2 <;> (rw [Bool.eq_iff_iff]; simp))
      · first | rfl | exact Fr.refl _ | exact (Fr.refl _).alloc _ | exact ((Fr.refl _).alloc _).alloc _
  ·
    have n15 : (op == 15) = false := by rw [beq_eq_false_iff_ne]; omega
    have n13 : (op == 13) = false := by rw [beq_eq_false_iff_ne]; omega
    have n14 : (op == 14) = false := by rw [beq_eq_false_iff_ne]; omega
    have n16 : (op == 16) = false := by rw [beq_eq_false_iff_ne]; omega
    have n3 : (op == 3) = false := by rw [beq_eq_false_iff_ne]; omega
    have n6 : (op == 6) = false := by rw [beq_eq_false_iff_ne]; omega
    have n9 : (op == 9) = false := by rw [beq_eq_false_iff_ne]; omega
    have n12 : (op == 12) = false := by rw [beq_eq_false_iff_ne]; omega
    have n17 : (op == 17) = false := by rw [beq_eq_false_iff_ne]; omega
    have n21 : (op == 21) = false := by rw [beq_eq_false_iff_ne]; omega
    have n22 : (op == 22) = false := by rw [beq_eq_false_iff_ne]; omega
    have n29 : (op == 29) = false := by rw [beq_eq_false_iff_ne]; omega
    have n25 : (op == 25) = false := by rw [beq_eq_false_iff_ne]; omega
    have n27 : (op == 27) = false := by rw [beq_eq_false_iff_ne]; omega
    have H := Lib.hid h
    clear h
    go_enter Tryz.func79, Tryz.ntmps79
    go_wp2
    first | go_ret | skip
    refine ⟨?_, ?_⟩
    · first | rfl | (simp [takenI]; done) | (have hh := H.out; simp only [not_or] at hh; simp [takenI, hh]; done) | (have hh := H.out; simp only [not_or] at hh; simp only [takenI, hh, if_false, or_self]; congr 2 <;> (rw [Bool.eq_iff_iff]; simp))
    · first | rfl | exact Fr.refl _ | exact (Fr.refl _).alloc _ | exact ((Fr.refl _).alloc _).alloc _
set_option maxRecDepth 100000 in
set_option maxHeartbeats 4000000 in
theorem pushed_any (op : Int) (w : World) : Calls Tryz.prog 80 #[.int .i64 op] w fun e w' => e = .returned (.int .i64 (pushedI op)) ∧ w = w' := by
  by_cases h : op = 1 ∨ op = 2 ∨ op = 4 ∨ op = 5 ∨ op = 7 ∨ op = 8 ∨ op = 10 ∨ op = 11 ∨ op = 12 ∨ op = 14 ∨ op = 16 ∨ op = 17
  · rcases h with rfl | rfl | rfl | rfl | rfl | rfl | rfl | rfl | rfl | rfl | rfl | rfl
    all_goals
      go_enter Tryz.func80, Tryz.ntmps80
      go_wp2
      first | go_ret | skip
      refine ⟨?_, ?_⟩
      · first | rfl | (simp [pushedI]; done) | (have hh := H.out; simp only [not_or] at hh; simp [pushedI, hh]; done) | (have hh := H.out; simp only [not_or] at hh; simp only [pushedI, hh, if_false, or_self]; congr 2 <;> (rw [Bool.eq_iff_iff]; simp))
      · first | rfl | exact Fr.refl _ | exact (Fr.refl _).alloc _ | exact ((Fr.refl _).alloc _).alloc _
  ·
    have n1 : (op == 1) = false := by rw [beq_eq_false_iff_ne]; omega
    have n2 : (op == 2) = false := by rw [beq_eq_false_iff_ne]; omega
    have n4 : (op == 4) = false := by rw [beq_eq_false_iff_ne]; omega
    have n5 : (op == 5) = false := by rw [beq_eq_false_iff_ne]; omega
    have n7 : (op == 7) = false := by rw [beq_eq_false_iff_ne]; omega
    have n8 : (op == 8) = false := by rw [beq_eq_false_iff_ne]; omega
    have n10 : (op == 10) = false := by rw [beq_eq_false_iff_ne]; omega
    have n11 : (op == 11) = false := by rw [beq_eq_false_iff_ne]; omega
    have n12 : (op == 12) = false := by rw [beq_eq_false_iff_ne]; omega
    have n14 : (op == 14) = false := by rw [beq_eq_false_iff_ne]; omega
    have n16 : (op == 16) = false := by rw [beq_eq_false_iff_ne]; omega
    have n17 : (op == 17) = false := by rw [beq_eq_false_iff_ne]; omega
    have H := Lib.hid h
    clear h
    go_enter Tryz.func80, Tryz.ntmps80
    go_wp2
    first | go_ret | skip
    refine ⟨?_, ?_⟩
    · first | rfl | (simp [pushedI]; done) | (have hh := H.out; simp only [not_or] at hh; simp [pushedI, hh]; done) | (have hh := H.out; simp only [not_or] at hh; simp only [pushedI, hh, if_false, or_self]; congr 2 <;> (rw [Bool.eq_iff_iff]; simp))
    · first | rfl | exact Fr.refl _ | exact (Fr.refl _).alloc _ | exact ((Fr.refl _).alloc _).alloc _
set_option maxRecDepth 100000 in
set_option maxHeartbeats 4000000 in
theorem firstFits_any (op : Int) (n m : Int) (nm : ByteArray) (da : Option Addr) (nd dc : Nat) (ov gv : Value) (procs labels : Int) (w : World) (hnl : nd ≤ 140737488351232) : Calls Tryz.prog 111 #[.agg #[.int .i64 op, .int .i64 n, .int .i64 m], .agg #[.string nm, .slice da nd dc, ov, gv, .int .i64 procs, .int .i64 labels]] w fun e w' => e = .returned (.bool (firstB ⟨op, n, m⟩ nd procs labels)) ∧ Fr w w' := by
  have hnd : IntKind.i64.wrap ((nd : Int) - 1) = (nd : Int) - 1 := IntWalk.i64_in _ (by omega)
  by_cases h : op = 1 ∨ op = 2 ∨ op = 3 ∨ op = 4 ∨ op = 5 ∨ op = 6 ∨ op = 7 ∨ op = 8 ∨ op = 9 ∨ op = 10 ∨ op = 11 ∨ op = 12 ∨ op = 13 ∨ op = 14 ∨ op = 15 ∨ op = 16 ∨ op = 17 ∨ op = 18 ∨ op = 19 ∨ op = 20 ∨ op = 21 ∨ op = 22 ∨ op = 23 ∨ op = 24 ∨ op = 25 ∨ op = 26 ∨ op = 27 ∨ op = 28 ∨ op = 29 ∨ op = 30
  · rcases h with rfl | rfl | rfl | rfl | rfl | rfl | rfl | rfl | rfl | rfl | rfl | rfl | rfl | rfl | rfl | rfl | rfl | rfl | rfl | rfl | rfl | rfl | rfl | rfl | rfl | rfl | rfl | rfl | rfl | rfl
    all_goals
      go_enter Tryz.func111, Tryz.ntmps111
      go_wp2_with (go_at_call 108; refine (within_any _ _ _ _).mono ?_; rintro e w' ⟨rfl, rfl⟩)
      first | go_ret | skip
      refine ⟨?_, ?_⟩
      · first | rfl | (simp [firstB]; done) | (have hh := H.out; simp only [not_or] at hh; simp [firstB, hh]; done) | (have hh := H.out; simp only [not_or] at hh; simp only [firstB, hh, if_false, or_self]; congr 2 <;> (rw [Bool.eq_iff_iff]; simp))
      · first | rfl | exact Fr.refl _ | exact (Fr.refl _).alloc _ | exact ((Fr.refl _).alloc _).alloc _
  ·
    have n1 : (op == 1) = false := by rw [beq_eq_false_iff_ne]; omega
    have n2 : (op == 2) = false := by rw [beq_eq_false_iff_ne]; omega
    have n3 : (op == 3) = false := by rw [beq_eq_false_iff_ne]; omega
    have n4 : (op == 4) = false := by rw [beq_eq_false_iff_ne]; omega
    have n5 : (op == 5) = false := by rw [beq_eq_false_iff_ne]; omega
    have n6 : (op == 6) = false := by rw [beq_eq_false_iff_ne]; omega
    have n7 : (op == 7) = false := by rw [beq_eq_false_iff_ne]; omega
    have n8 : (op == 8) = false := by rw [beq_eq_false_iff_ne]; omega
    have n9 : (op == 9) = false := by rw [beq_eq_false_iff_ne]; omega
    have n10 : (op == 10) = false := by rw [beq_eq_false_iff_ne]; omega
    have n11 : (op == 11) = false := by rw [beq_eq_false_iff_ne]; omega
    have n12 : (op == 12) = false := by rw [beq_eq_false_iff_ne]; omega
    have n13 : (op == 13) = false := by rw [beq_eq_false_iff_ne]; omega
    have n14 : (op == 14) = false := by rw [beq_eq_false_iff_ne]; omega
    have n15 : (op == 15) = false := by rw [beq_eq_false_iff_ne]; omega
    have n16 : (op == 16) = false := by rw [beq_eq_false_iff_ne]; omega
    have n17 : (op == 17) = false := by rw [beq_eq_false_iff_ne]; omega
    have n18 : (op == 18) = false := by rw [beq_eq_false_iff_ne]; omega
    have n19 : (op == 19) = false := by rw [beq_eq_false_iff_ne]; omega
    have n20 : (op == 20) = false := by rw [beq_eq_false_iff_ne]; omega
    have n21 : (op == 21) = false := by rw [beq_eq_false_iff_ne]; omega
    have n22 : (op == 22) = false := by rw [beq_eq_false_iff_ne]; omega
    have n23 : (op == 23) = false := by rw [beq_eq_false_iff_ne]; omega
    have n24 : (op == 24) = false := by rw [beq_eq_false_iff_ne]; omega
    have n25 : (op == 25) = false := by rw [beq_eq_false_iff_ne]; omega
    have n26 : (op == 26) = false := by rw [beq_eq_false_iff_ne]; omega
    have n27 : (op == 27) = false := by rw [beq_eq_false_iff_ne]; omega
    have n28 : (op == 28) = false := by rw [beq_eq_false_iff_ne]; omega
    have n29 : (op == 29) = false := by rw [beq_eq_false_iff_ne]; omega
    have n30 : (op == 30) = false := by rw [beq_eq_false_iff_ne]; omega
    have H := Lib.hid h
    clear h
    go_enter Tryz.func111, Tryz.ntmps111
    go_wp2_with (go_at_call 108; refine (within_any _ _ _ _).mono ?_; rintro e w' ⟨rfl, rfl⟩)
    first | go_ret | skip
    refine ⟨?_, ?_⟩
    · first | rfl | (simp [firstB]; done) | (have hh := H.out; simp only [not_or] at hh; simp [firstB, hh]; done) | (have hh := H.out; simp only [not_or] at hh; simp only [firstB, hh, if_false, or_self]; congr 2 <;> (rw [Bool.eq_iff_iff]; simp))
    · first | rfl | exact Fr.refl _ | exact (Fr.refl _).alloc _ | exact ((Fr.refl _).alloc _).alloc _
set_option maxRecDepth 100000 in
set_option maxHeartbeats 4000000 in
theorem secondFits_any (op : Int) (n m : Int) (nm : ByteArray) (dv ov gv : Value) (procs labels : Int) (w : World) : Calls Tryz.prog 112 #[.agg #[.int .i64 op, .int .i64 n, .int .i64 m], .agg #[.string nm, dv, ov, gv, .int .i64 procs, .int .i64 labels]] w fun e w' => e = .returned (.bool (secondB ⟨op, n, m⟩ labels)) ∧ Fr w w' := by
  by_cases h : op = 24 ∨ op = 29 ∨ op = 30
  · rcases h with rfl | rfl | rfl
    all_goals
      go_enter Tryz.func112, Tryz.ntmps112
      go_wp2_with (go_at_call 108; refine (within_any _ _ _ _).mono ?_; rintro e w' ⟨rfl, rfl⟩)
      first | go_ret | skip
      refine ⟨?_, ?_⟩
      · first | rfl | (simp [secondB]; done) | (have hh := H.out; simp only [not_or] at hh; simp [secondB, hh]; done) | (have hh := H.out; simp only [not_or] at hh; simp only [secondB, hh, if_false, or_self]; congr 2 <;> (rw [Bool.eq_iff_iff]; simp))
      · first | rfl | exact Fr.refl _ | exact (Fr.refl _).alloc _ | exact ((Fr.refl _).alloc _).alloc _
  ·
    have n24 : (op == 24) = false := by rw [beq_eq_false_iff_ne]; omega
    have n29 : (op == 29) = false := by rw [beq_eq_false_iff_ne]; omega
    have n30 : (op == 30) = false := by rw [beq_eq_false_iff_ne]; omega
    have H := Lib.hid h
    clear h
    go_enter Tryz.func112, Tryz.ntmps112
    go_wp2_with (go_at_call 108; refine (within_any _ _ _ _).mono ?_; rintro e w' ⟨rfl, rfl⟩)
    first | go_ret | skip
    refine ⟨?_, ?_⟩
    · first | rfl | (simp [secondB]; done) | (have hh := H.out; simp only [not_or] at hh; simp [secondB, hh]; done) | (have hh := H.out; simp only [not_or] at hh; simp only [secondB, hh, if_false, or_self]; congr 2 <;> (rw [Bool.eq_iff_iff]; simp))
    · first | rfl | exact Fr.refl _ | exact (Fr.refl _).alloc _ | exact ((Fr.refl _).alloc _).alloc _

theorem taken_bd (op : Int) : 0 ≤ takenI op ∧ takenI op ≤ 3 := by unfold takenI; repeat' split
                                                                  all_goals omega
theorem pushed_bd (op : Int) : 0 ≤ pushedI op ∧ pushedI op ≤ 1 := by unfold pushedI; split <;> omega
set_option maxRecDepth 100000 in
set_option maxHeartbeats 4000000 in
theorem after_any (op n m d : Int) (w : World) (hn : -2147483648 ≤ n ∧ n ≤ 2147483647) (hm : -2147483648 ≤ m ∧ m ≤ 2147483647) (hd : -100000 ≤ d ∧ d ≤ 100000) : Calls Tryz.prog 49 #[.agg #[.int .i64 op, .int .i64 n, .int .i64 m], .int .i64 d] w fun e w' => e = .returned (.int .i64 (afterI ⟨op, n, m⟩ d)) ∧ Fr w w' := by
  have q1 : IntKind.i64.wrap (2 + m) = 2 + m := IntWalk.i64_in _ (by omega)
  have q2 : IntKind.i64.wrap (n + 1) = n + 1 := IntWalk.i64_in _ (by omega)
  by_cases h : op = 24 ∨ op = 18 ∨ op = 23 ∨ op = 28
  · rcases h with rfl | rfl | rfl | rfl
    all_goals
      go_enter Tryz.func49, Tryz.ntmps49
      go_wp2_with fail
      first | go_ret | skip
      exact ⟨by first | rfl | simp [afterI], (Fr.refl _).alloc _⟩
  · have n24 : (op == 24) = false := by rw [beq_eq_false_iff_ne]; omega
    have n18 : (op == 18) = false := by rw [beq_eq_false_iff_ne]; omega
    have n23 : (op == 23) = false := by rw [beq_eq_false_iff_ne]; omega
    have n28 : (op == 28) = false := by rw [beq_eq_false_iff_ne]; omega
    have ht := taken_bd op
    have hp := pushed_bd op
    obtain ⟨a, ha⟩ : ∃ a, a = takenI op := ⟨_, rfl⟩
    obtain ⟨b, hb⟩ : ∃ b, b = pushedI op := ⟨_, rfl⟩
    have HR : Hid (afterI ⟨op, n, m⟩ d = d - a + b) := Lib.hid (by simp only [not_or] at h; simp [afterI, h, ha, hb])
    rw [← ha] at ht
    rw [← hb] at hp
    have CT := Lib.hid (fun W => taken_any op W)
    have CP := Lib.hid (fun W => pushed_any op W)
    rw [← ha] at CT
    rw [← hb] at CP
    have q3 : IntKind.i64.wrap (d - a) = d - a := IntWalk.i64_in _ (by omega)
    have q4 : IntKind.i64.wrap (d - a + b) = d - a + b := IntWalk.i64_in _ (by omega)
    clear h ha hb hn hm q1 q2 ht hp hd
    go_enter Tryz.func49, Tryz.ntmps49
    go_wp2_with fail
    go_quiet (first | (go_at_call 79; exact Calls.quiet_of_same ((CT.out _).mono fun _ _ ⟨x1, x2⟩ => ⟨x1, x2.symm⟩)) | (go_at_call 80; exact Calls.quiet_of_same ((CP.out _).mono fun _ _ ⟨x1, x2⟩ => ⟨x1, x2.symm⟩)))
    go_wp2
    go_ret
    rw [HR.out]
    exact ⟨rfl, ((Fr.refl _).alloc _).drewN _⟩
set_option maxRecDepth 100000 in
set_option maxHeartbeats 4000000 in
theorem finds_any (op n m d : Int) (w : World) (hd : -100000 ≤ d ∧ d ≤ 100000) : Calls Tryz.prog 116 #[.agg #[.int .i64 op, .int .i64 n, .int .i64 m], .int .i64 d] w fun e w' => e = .returned (.bool (findsB ⟨op, n, m⟩ d)) ∧ Fr w w' := by
  have q1 : IntKind.i64.wrap (d - 1) = d - 1 := IntWalk.i64_in _ (by omega)
  have q2 : IntKind.i64.wrap (d - 3) = d - 3 := IntWalk.i64_in _ (by omega)
  by_cases h : op = 2 ∨ op = 3 ∨ op = 4 ∨ op = 23
  · rcases h with rfl | rfl | rfl | rfl
    all_goals
      go_enter Tryz.func116, Tryz.ntmps116
      go_wp2_with (go_at_call 108; refine (within_any _ _ _ _).mono ?_; rintro e w' ⟨rfl, rfl⟩)
      first | go_ret | skip
      exact ⟨by first | rfl | simp [findsB], (Fr.refl _).alloc _⟩
  · have n2 : (op == 2) = false := by rw [beq_eq_false_iff_ne]; omega
    have n3 : (op == 3) = false := by rw [beq_eq_false_iff_ne]; omega
    have n4 : (op == 4) = false := by rw [beq_eq_false_iff_ne]; omega
    have n23 : (op == 23) = false := by rw [beq_eq_false_iff_ne]; omega
    have ht := taken_bd op
    obtain ⟨a, ha⟩ : ∃ a, a = takenI op := ⟨_, rfl⟩
    have HR : Hid (findsB ⟨op, n, m⟩ d = (decide (a = 0) || decide (2 ≤ d - a))) := Lib.hid (by simp only [not_or] at h; simp [findsB, h, ha])
    rw [← ha] at ht
    have CT := Lib.hid (fun W => taken_any op W)
    rw [← ha] at CT
    have q3 : IntKind.i64.wrap (d - a) = d - a := IntWalk.i64_in _ (by omega)
    clear ha hd q1 q2 ht h
    by_cases h0 : a = 0
    · have e0 : (a == 0) = true := by rw [beq_iff_eq]; exact h0
      have HR2 : Hid (findsB ⟨op, n, m⟩ d = true) := Lib.hid (by rw [HR.out]; simp [h0])
      clear h0
      go_enter Tryz.func116, Tryz.ntmps116
      go_wp2_with (go_at_call 79; refine (CT.out _).mono ?_; rintro e w' ⟨rfl, rfl⟩)
      go_ret
      rw [HR2.out]
      exact ⟨rfl, (Fr.refl _).alloc _⟩
    · have e0 : (a == 0) = false := by rw [beq_eq_false_iff_ne]; exact h0
      have HR2 : Hid (findsB ⟨op, n, m⟩ d = decide (2 ≤ d - a)) := Lib.hid (by rw [HR.out]; simp [h0])
      clear h0
      go_enter Tryz.func116, Tryz.ntmps116
      go_wp2_with (go_at_call 79; refine (CT.out _).mono ?_; rintro e w' ⟨rfl, rfl⟩)
      go_ret
      rw [HR2.out]
      exact ⟨by first | rfl | simp, (Fr.refl _).alloc _⟩
end Go.Proofs.YtdnckbcknahakaaGreat
