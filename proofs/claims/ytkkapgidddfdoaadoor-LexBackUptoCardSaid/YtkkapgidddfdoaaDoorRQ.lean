/- How a string is written by the document's own function: its contract. -/
import Derived.Test.YtkkapgidddfdoaaDoorMO
import Derived.Laws.Concat
namespace Go.Proofs.YtkkapgidddfdoaaDoor
open Go.RowKit
set_option linter.unusedVariables false

theorem ofL_app (l m : List Nat) : ofL l ++ ofL m = ofL (l ++ m) := by
  unfold ofL strOfNums
  apply ByteArray.ext
  simp [ByteArray.data_append]
theorem ext_one (s : ByteArray) (k : Nat) (hk : k < s.size) : s.extract k (k + 1) = ofL [bt s k] := by
  refine bt_ext (by rw [ext_size _ _ _ (by omega), ofL_size]; simp) (fun i hi => ?_)
  rw [ext_size _ _ _ (by omega)] at hi
  obtain rfl : i = 0 := by omega
  rw [ext_bt _ _ _ _ (by omega) (by omega), bt_ofL _ _ (by simp) (by simp; exact bt_lt _ _)]
  simp
theorem slice_one (s : ByteArray) (k : Nat) (hk : k < s.size) (hs : s.size ≤ 2000000) (W : World) :
    (Instr.slice 9 (.string s) (some (.int .i64 k)) (some (.int .i64 ((k : Int) + 1))) none).run Tryd.prog W = .ok (.string (ofL [bt s k])) W := by
  have h := run_slice_string (P := Tryd.prog) W 9 s .i64 .i64 (k : Int) ((k : Int) + 1) Tryd.underlying9 (by omega) (by omega) (by omega)
  rw [← ext_one s k hk]
  have e1 : (k : Int).toNat = k := Int.toNat_natCast k
  have e2 : ((k : Int) + 1).toNat = k + 1 := by omega
  rw [e1, e2] at h
  exact h
set_option maxHeartbeats 2000000 in
theorem RQuote_any (s : ByteArray) (hs : s.size ≤ 2000000) (w : World) :
    Calls Tryd.prog 18 #[.string s] w fun e w' => e = .returned (.tuple #[.string (quo s).t, .int .i64 (quo s).e]) ∧ Fr w w' := by
  go_enter Tryd.func18, Tryd.ntmps18
  go_wp2_with fail
  go_loop [4, 5] (fun o i => ∃ k : Nat, k ≤ s.size ∧ i = .int .i64 k ∧ Hid (run okq s 0 = run okq s k) ∧ o = .string (ofL (qk s k))) (fun _ i => s.size - (intOf i).toNat)
  case atStart => exact ⟨0, Nat.zero_le _, rfl, Lib.hid rfl, rfl⟩
  case round =>
    obtain ⟨k, hk, rfl, HR, rfl⟩ := hrel
    have HL := qk_len s k
    by_cases hlt : k < s.size
    · have hb := bt_at s k hlt
      have hsl := slice_one s k hlt hs
      have hbl := bt_lt s k
      have HQ1 : Hid (qk s (k + 1) = qk s k ++ eq1 (bt s k)) := Lib.hid rfl
      have HRN : okq (bt s k) = true → Hid (run okq s 0 = run okq s (k + 1)) := fun h => Lib.hid (run_step_ok HR.out hlt h)
      have HRX : okq (bt s k) = false → quo s = ⟨nul, 3⟩ := fun h => by
        have : run okq s 0 = k := by rw [HR.out, run_out h]
        unfold quo; rw [this, if_pos hlt]
      obtain ⟨c, hc⟩ : ∃ c, c = bt s k := ⟨_, rfl⟩
      rw [← hc] at hb hbl hsl HQ1 HRN HRX
      have hsz : (ofL (qk s k)).size = (qk s k).length := ofL_size _
      have add : ∀ m : List Nat, m.length ≤ 10 → ∀ w, (Op.stringOp .add (ofL (qk s k)) (ofL m)).run Tryd.prog w = .ok (.string (ofL (qk s k ++ m))) w := fun m hm w => by
        rw [← ofL_app]; exact run_string_add_sum w _ _ (by rw [hsz, ofL_size]; omega)
      clear hc
      by_cases h10 : c = 10
      · subst h10
        have HRN2 := HRN (by decide)
        have hadd : ∀ w, (Op.stringOp .add (ofL (qk s k)) ⟨#[42, 110]⟩).run Tryd.prog w = .ok (.string (ofL (qk s (k + 1)))) w := fun w => by
          rw [HQ1.out]; exact add [42, 110] (by simp) w
        clear HQ1 HRN HRX add
        go_wp2_with fail
        go_round
        case rel => exact ⟨k + 1, by omega, by go_num, HRN2, rfl⟩
        case measure => simp [intOf]; omega
      have n10 : ((c : Int) == 10) = false := by rw [beq_eq_false_iff_ne]; omega
      by_cases h9 : c = 9
      · subst h9
        have HRN2 := HRN (by decide)
        have hadd : ∀ w, (Op.stringOp .add (ofL (qk s k)) ⟨#[42, 116]⟩).run Tryd.prog w = .ok (.string (ofL (qk s (k + 1)))) w := fun w => by
          rw [HQ1.out]; exact add [42, 116] (by simp) w
        clear HQ1 HRN HRX add
        go_wp2_with fail
        go_round
        case rel => exact ⟨k + 1, by omega, by go_num, HRN2, rfl⟩
        case measure => simp [intOf]; omega
      have n9 : ((c : Int) == 9) = false := by rw [beq_eq_false_iff_ne]; omega
      by_cases h42 : c = 42
      · subst h42
        have HRN2 := HRN (by decide)
        have hadd : ∀ w, (Op.stringOp .add (ofL (qk s k)) (ofL [42, 42])).run Tryd.prog w = .ok (.string (ofL (qk s (k + 1)))) w := fun w => by
          rw [HQ1.out]; exact add [42, 42] (by simp) w
        have hadd0 : ∀ w, (Op.stringOp .add ⟨#[42]⟩ (ofL [42])).run Tryd.prog w = .ok (.string (ofL [42, 42])) w := fun w => run_string_add_sum w _ _ (by rw [ofL_size]; decide)
        clear HQ1 HRN HRX add
        go_wp2_with fail
        go_round
        case rel => exact ⟨k + 1, by omega, by go_num, HRN2, rfl⟩
        case measure => simp [intOf]; omega
      have n42 : ((c : Int) == 42) = false := by rw [beq_eq_false_iff_ne]; omega
      by_cases h34 : c = 34
      · subst h34
        have HRN2 := HRN (by decide)
        have hadd : ∀ w, (Op.stringOp .add (ofL (qk s k)) (ofL [42, 34])).run Tryd.prog w = .ok (.string (ofL (qk s (k + 1)))) w := fun w => by
          rw [HQ1.out]; exact add [42, 34] (by simp) w
        have hadd0 : ∀ w, (Op.stringOp .add ⟨#[42]⟩ (ofL [34])).run Tryd.prog w = .ok (.string (ofL [42, 34])) w := fun w => run_string_add_sum w _ _ (by rw [ofL_size]; decide)
        clear HQ1 HRN HRX add
        go_wp2_with fail
        go_round
        case rel => exact ⟨k + 1, by omega, by go_num, HRN2, rfl⟩
        case measure => simp [intOf]; omega
      have n34 : ((c : Int) == 34) = false := by rw [beq_eq_false_iff_ne]; omega
      have he : eOk c = false := decide_eq_false (by omega)
      have hq1 : eq1 c = [c] := by unfold eq1; rw [if_neg (by rw [he]; decide)]
      by_cases hlo : c < 32
      · have d1 : decide ((c : Int) < 32) = true := decide_eq_true (by omega)
        have HN := Lib.hid (HRX (by unfold okq; rw [he]; exact decide_eq_false (by omega)))
        clear HQ1 HRN HRX add hq1 he
        go_wp2_with fail
        go_ret2
        rw [HN.out]
        exact ⟨rfl, Fr.refl _⟩
      have d1 : decide ((c : Int) < 32) = false := decide_eq_false (by omega)
      by_cases hhi : 126 < c
      · have d2 : decide ((126 : Int) < (c : Int)) = true := decide_eq_true (by omega)
        have HN := Lib.hid (HRX (by unfold okq; rw [he]; exact decide_eq_false (by omega)))
        clear HQ1 HRN HRX add hq1 he
        go_wp2_with fail
        go_ret2
        rw [HN.out]
        exact ⟨rfl, Fr.refl _⟩
      have d2 : decide ((126 : Int) < (c : Int)) = false := decide_eq_false (by omega)
      have HRN2 := HRN (by unfold okq; rw [he]; exact decide_eq_true (by omega))
      have hadd : ∀ w, (Op.stringOp .add (ofL (qk s k)) (ofL [c])).run Tryd.prog w = .ok (.string (ofL (qk s (k + 1)))) w := fun w => by
        rw [HQ1.out, hq1]; exact add [c] (by simp) w
      clear HQ1 HRN HRX add hq1 he hlo hhi
      go_wp2_with fail
      go_round
      case rel => exact ⟨k + 1, by omega, by go_num, HRN2, rfl⟩
      case measure => simp [intOf]; omega
    · obtain rfl : k = s.size := by omega
      have hr0 : run okq s 0 = s.size := by rw [HR.out, run_end (Nat.le_refl _)]
      by_cases h100 : 100 < s.size
      · have HN : Hid (quo s = ⟨nul, 2⟩) := Lib.hid (by unfold quo; rw [hr0, if_neg (by omega), if_pos h100])
        have hd2 : decide ((100 : Int) < (s.size : Int)) = true := decide_eq_true (by omega)
        clear hr0
        go_wp2_with fail
        go_ret2
        rw [HN.out]
        exact ⟨rfl, Fr.refl _⟩
      · have HN : Hid (quo s = ⟨ofL (qk s s.size ++ [34]), 0⟩) := Lib.hid (by unfold quo; rw [hr0, if_neg (by omega), if_neg h100])
        have hd2 : decide ((100 : Int) < (s.size : Int)) = false := decide_eq_false (by omega)
        have hadd : ∀ w, (Op.stringOp .add (ofL (qk s s.size)) ⟨#[34]⟩).run Tryd.prog w = .ok (.string (ofL (qk s s.size ++ [34]))) w := fun w => by
          rw [← ofL_app]; exact run_string_add_sum w _ _ (by rw [ofL_size]; show _ + 1 ≤ _; omega)
        clear hr0
        go_wp2_with fail
        go_ret2
        rw [HN.out]
        exact ⟨rfl, Fr.refl _⟩
end Go.Proofs.YtkkapgidddfdoaaDoor
