/- How a number is written: the contract of the function that writes it. -/
import Derived.Test.YtkkapgidddfdoaaDoorNW
import Derived.Laws.Concat
namespace Go.Proofs.YtkkapgidddfdoaaDoor
open Go.RowKit
set_option linter.unusedVariables false

theorem iFormat_any (v : Nat) (h1 : 2147483648 ≤ v) (h2 : v < 4294967296) (w : World) (hdb : w.cell? ⟨5, 15, none⟩ = some (.int .u8 4)) :
    Calls Tryd.prog 64 #[.int .u64 v, .int .i64 16] w fun e w' => e = .returned (.string (ofL (hex8 v))) ∧ Fr w w' := by
  go_enter Tryd.func64, Tryd.ntmps64
  go_wp2_with (go_at_call 91; refine (fbits_any v h1 h2 _ hdb).mono ?_; rintro e w' ⟨rfl, hf⟩)
  go_ret
  exact ⟨rfl, hf⟩
theorem Format_any (v : Nat) (h1 : 2147483648 ≤ v) (h2 : v < 4294967296) (w : World) (hdb : w.cell? ⟨5, 15, none⟩ = some (.int .u8 4)) :
    Calls Tryd.prog 35 #[.int .u64 v, .int .i64 16] w fun e w' => e = .returned (.string (ofL (hex8 v))) ∧ Fr w w' := by
  go_enter Tryd.func35, Tryd.ntmps35
  go_wp2_with (go_at_call 64; refine (iFormat_any v h1 h2 _ hdb).mono ?_; rintro e w' ⟨rfl, hf⟩)
  go_ret
  exact ⟨rfl, hf⟩
def dec (n : Nat) : ByteArray := ⟨(Lib.decDigits n).toArray⟩
def num (n : Int) : Tx :=
  if n < -2147483648 ∨ 2147483647 < n then ⟨nul, 1⟩ else if 0 ≤ n then ⟨dec n.toNat, 0⟩ else ⟨⟨#[35]⟩ ++ ofL (hex8 (n + 4294967296).toNat), 0⟩
theorem ofL_size (l : List Nat) : (ofL l).size = l.length := by
  unfold ofL strOfNums
  simp [ByteArray.size]
theorem Number_any (n : Int) (h0 : -9223372036854775808 ≤ n) (h1 : n ≤ 9223372036854775807) (w : World) (hn : Nv w) :
    Calls Tryd.prog 19 #[.int .i64 n] w fun e w' => e = .returned (.tuple #[.string (num n).t, .int .i64 (num n).e]) ∧ Fr w w' := by
  by_cases hlo : n < -2147483648
  · have hd : decide (n < -2147483648) = true := decide_eq_true hlo
    rw [show num n = ⟨nul, 1⟩ by unfold num; rw [if_pos (Or.inl hlo)]]
    go_enter Tryd.func19, Tryd.ntmps19
    go_wp2_with fail
    go_ret2
    exact ⟨rfl, Fr.refl _⟩
  have hd : decide (n < -2147483648) = false := decide_eq_false hlo
  by_cases hhi : 2147483647 < n
  · have hd2 : decide (2147483647 < n) = true := decide_eq_true hhi
    rw [show num n = ⟨nul, 1⟩ by unfold num; rw [if_pos (Or.inr hhi)]]
    go_enter Tryd.func19, Tryd.ntmps19
    go_wp2_with fail
    go_ret2
    exact ⟨rfl, Fr.refl _⟩
  have hd2 : decide (2147483647 < n) = false := decide_eq_false hhi
  have HN := Lib.hid hn
  by_cases hp : 0 ≤ n
  · obtain ⟨m, rfl⟩ : ∃ m : Nat, n = m := ⟨n.toNat, by omega⟩
    have hd3 : decide ((0 : Int) ≤ (m : Int)) = true := decide_eq_true hp
    have hit := Tryd.strconv_Itoa (m : Int) h0 h1 w hn.2.1
    rw [Lib.itoa_nonneg] at hit
    rw [show num (m : Int) = ⟨dec m, 0⟩ by unfold num; rw [if_neg (by omega), if_pos hp, Int.toNat_natCast]]
    clear hlo hhi hp hn h0 h1
    go_enter Tryd.func19, Tryd.ntmps19
    go_wp2_with (go_at_call 34; refine hit.mono ?_; rintro e w' ⟨rfl, k, os, rfl⟩)
    go_ret2
    exact ⟨rfl, fr_grow w k os⟩
  · have hd3 : decide ((0 : Int) ≤ n) = false := decide_eq_false hp
    obtain ⟨v, hv⟩ : ∃ v : Nat, v = (n + 4294967296).toNat := ⟨_, rfl⟩
    rw [show num n = ⟨⟨#[35]⟩ ++ ofL (hex8 v), 0⟩ by unfold num; rw [if_neg (by omega), if_neg hp, hv]]
    have hw1 : IntKind.u32.wrap n = (v : Int) := by rw [IntKind.wrap_u32]; omega
    have hw2 : IntKind.u64.wrap (v : Int) = (v : Int) := by rw [IntKind.wrap_u64]; omega
    have hfm := Format_any v (by omega) (by omega) w hn.2.2
    have hadd : ∀ w, (Op.stringOp .add (⟨#[35]⟩ : ByteArray) (ofL (hex8 v))).run Tryd.prog w = .ok (.string (⟨#[35]⟩ ++ ofL (hex8 v))) w := fun w => run_string_add_sum w _ _ (by rw [ofL_size]; simp [hex8]; decide)
    clear hlo hhi hp hn h0 h1 hv
    go_enter Tryd.func19, Tryd.ntmps19
    go_wp2_with (go_at_call 35; refine hfm.mono ?_; rintro e w' ⟨rfl, hf⟩)
    go_ret2
    exact ⟨rfl, hf⟩
end Go.Proofs.YtkkapgidddfdoaaDoor
