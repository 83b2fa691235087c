/- A product divided, as whole numbers, and what is left; and when a word is what whole numbers give. -/
import Derived.Test.YtgnhighlkpgjiaaA
import Derived.Test.YtgnhighlkpgjiaaT
namespace Go.Proofs.Ytgnhighlkpgjiaa
open Go.RowKit
set_option linter.unusedVariables false

def mdE (c n : Int) : Int := if okB n then (if nrm c n = 0 then 10 else 0) else 3
def mdQ (a b c n : Int) : Int := if mdE c n = 0 then nrm ((nrm a n * nrm b n).tdiv (nrm c n)) n else 0
def mdR (a b c n : Int) : Int := if mdE c n = 0 then nrm ((nrm a n * nrm b n).tmod (nrm c n)) n else 0
def mdV (a b c n : Int) : Value := .tuple #[.int .i64 (mdQ a b c n), .int .i64 (mdR a b c n), .int .i64 (mdE c n)]
theorem mdV_form {a b c n : Int} (h : okB n = false) : mdV a b c n = .tuple #[.int .i64 0, .int .i64 0, .int .i64 3] := by
  have e : mdE c n = 3 := by simp [mdE, h]
  simp [mdV, mdQ, mdR, e]
theorem mdV_zero {a b c n : Int} (h : okB n = true) (hz : nrm c n = 0) : mdV a b c n = .tuple #[.int .i64 0, .int .i64 0, .int .i64 10] := by
  have e : mdE c n = 10 := by simp [mdE, h, hz]
  simp [mdV, mdQ, mdR, e]
theorem mdV_ok {a b c n : Int} (h : okB n = true) (hz : nrm c n ≠ 0) : mdV a b c n = .tuple #[.int .i64 (nrm ((nrm a n * nrm b n).tdiv (nrm c n)) n), .int .i64 (nrm ((nrm a n * nrm b n).tmod (nrm c n)) n), .int .i64 0] := by
  have e : mdE c n = 0 := by simp [mdE, h, hz]
  simp [mdV, mdQ, mdR, e]
theorem quietly {P : Program} {f : FuncId} {args : Array Value} {w : World} {n : Nat} {v : Value} (h : Calls P f args (w.drewN n) fun e w' => e = .returned v ∧ w.drewN n = w') :
    Calls P f args (w.drewN n) fun e w'' => e = .returned v ∧ ∃ m, w'' = w.drewN m := h.mono fun _ _ ⟨he, hw⟩ => ⟨he, n, hw.symm⟩
theorem tdiv_bd62 (a b : Int) (h1 : -4611686018427387904 ≤ a) (h2 : a ≤ 4611686018427387904) : -4611686018427387904 ≤ a.tdiv b ∧ a.tdiv b ≤ 4611686018427387904 := by
  have h : (a.tdiv b).natAbs ≤ a.natAbs := by rw [Int.natAbs_tdiv]; exact Nat.div_le_self _ _
  generalize a.tdiv b = q at *
  omega
theorem MulDiv_any (a b c n : Int) (w : World) : Calls Try.prog 24 #[.int .i64 a, .int .i64 b, .int .i64 c, .int .i64 n] w fun e w' => e = .returned (mdV a b c n) ∧ ∃ m, w' = w.drewN m := by
  rcases Bool.eq_false_or_eq_true (okB n) with h | h
  · have H := Lib.hid (okB_yes h)
    obtain ⟨a1, a2⟩ := nrm_bd (v := a) H.out
    obtain ⟨b1, b2⟩ := nrm_bd (v := b) H.out
    obtain ⟨c1, c2⟩ := nrm_bd (v := c) H.out
    by_cases hz : nrm c n = 0
    · rw [mdV_zero h hz]
      have hz' := (beq_iff_eq (a := nrm c n) (b := 0)).2 hz
      clear hz
      go_enter Try.func24, Try.ntmps24
      go_wp2_with first
        | (go_at_call 44; refine (validBits_any _ _).mono ?_; rintro e w' ⟨rfl, rfl⟩)
        | (go_at_call 45; refine (normed_any H.out _ _).mono ?_; rintro e w' ⟨rfl, rfl⟩)
      go_ret3
      exact ⟨rfl, 0, rfl⟩
    · rw [mdV_ok h hz]
      have hz' := beq_no hz
      obtain ⟨m1, m2⟩ := mul_bd _ _ a1 a2 b1 b2
      obtain ⟨q1, q2⟩ := tdiv_bd62 (nrm a n * nrm b n) (nrm c n) m1 m2
      have hw1 : IntKind.i64.wrap ((nrm a n * nrm b n).tdiv (nrm c n)) = (nrm a n * nrm b n).tdiv (nrm c n) := IntWalk.i64_in _ (by omega)
      have hw2 : IntKind.i64.wrap (nrm a n * nrm b n) = nrm a n * nrm b n := IntWalk.i64_in _ (by omega)
      go_enter Try.func24, Try.ntmps24
      go_wp2_with first
        | (go_at_call 44; refine (validBits_any _ _).mono ?_; rintro e w' ⟨rfl, rfl⟩)
        | (go_at_call 45; refine (normed_any H.out _ _).mono ?_; rintro e w' ⟨rfl, rfl⟩)
      go_quiet ((go_at_call 45; exact quietly (normed_any H.out _ _)))
      go_wp2
      go_ret3
      exact ⟨rfl, ⟨_, rfl⟩⟩
  · rw [mdV_form h]
    go_enter Try.func24, Try.ntmps24
    go_wp2_with (go_at_call 44; refine (validBits_any _ _).mono ?_; rintro e w' ⟨rfl, rfl⟩)
    go_ret3
    exact ⟨rfl, 0, rfl⟩
theorem RMulDiv_any (a b c n : Int) (w : World) : Calls Try.prog 25 #[.int .i64 a, .int .i64 b, .int .i64 c, .int .i64 n] w fun e w' => e = .returned (mdV a b c n) ∧ ∃ m, w' = w.drewN m := by
  rcases Bool.eq_false_or_eq_true (okB n) with h | h
  · have H := Lib.hid (okB_yes h)
    obtain ⟨a1, a2⟩ := nrm_bd (v := a) H.out
    obtain ⟨b1, b2⟩ := nrm_bd (v := b) H.out
    obtain ⟨c1, c2⟩ := nrm_bd (v := c) H.out
    by_cases hz : nrm c n = 0
    · rw [mdV_zero h hz]
      have hz' := (beq_iff_eq (a := nrm c n) (b := 0)).2 hz
      clear hz
      go_enter Try.func25, Try.ntmps25
      go_wp2_with first
        | (go_at_call 18; refine (Bits_any _ _).mono ?_; rintro e w' ⟨rfl, rfl⟩)
        | (go_at_call 46; refine (norm_any H.out _ _).mono ?_; rintro e w' ⟨rfl, rfl⟩)
      go_ret3
      exact ⟨rfl, 0, rfl⟩
    · rw [mdV_ok h hz]
      have hz' := beq_no hz
      obtain ⟨m1, m2⟩ := mul_bd _ _ a1 a2 b1 b2
      obtain ⟨q1, q2⟩ := tdiv_bd62 (nrm a n * nrm b n) (nrm c n) m1 m2
      have hw1 : IntKind.i64.wrap ((nrm a n * nrm b n).tdiv (nrm c n)) = (nrm a n * nrm b n).tdiv (nrm c n) := IntWalk.i64_in _ (by omega)
      have hw2 : IntKind.i64.wrap (nrm a n * nrm b n) = nrm a n * nrm b n := IntWalk.i64_in _ (by omega)
      go_enter Try.func25, Try.ntmps25
      go_wp2_with first
        | (go_at_call 18; refine (Bits_any _ _).mono ?_; rintro e w' ⟨rfl, rfl⟩)
        | (go_at_call 46; refine (norm_any H.out _ _).mono ?_; rintro e w' ⟨rfl, rfl⟩)
      go_quiet ((go_at_call 46; exact quietly (norm_any H.out _ _)))
      go_wp2
      go_ret3
      exact ⟨rfl, ⟨_, rfl⟩⟩
  · rw [mdV_form h]
    go_enter Try.func25, Try.ntmps25
    go_wp2_with (go_at_call 18; refine (Bits_any _ _).mono ?_; rintro e w' ⟨rfl, rfl⟩)
    go_ret3
    exact ⟨rfl, 0, rfl⟩
end Go.Proofs.Ytgnhighlkpgjiaa
