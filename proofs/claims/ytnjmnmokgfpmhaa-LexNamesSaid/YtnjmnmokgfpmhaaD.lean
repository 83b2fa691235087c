/- Where bytes of a class come to an end; which texts are names. -/
import Derived.Test.YtnjmnmokgfpmhaaC
namespace Go.Proofs.Ytnjmnmokgfpmhaa
open Go.RowKit
set_option linter.unusedVariables false

theorem behindName_any (s : ByteArray) (at_ : Nat) (hat : at_ ≤ s.size) (hs : s.size ≤ 9223372036854775806) (w : World) :
    Calls Try.prog 12 #[.string s, .int .i64 at_, .func (.func 13) #[] #[]] w fun e w' => e = .returned (.int .i64 (run part s at_ : Nat)) ∧ w = w' := by
  obtain ⟨r, hr⟩ : ∃ r, r = run part s at_ := ⟨_, rfl⟩
  rw [← hr]
  have HR := Lib.hid hr
  clear hr
  go_enter Try.func12, Try.ntmps12
  go_wp2
  go_loop [1] (fun i => ∃ k : Nat, k ≤ s.size ∧ i = .int .i64 k ∧ r = run part s k) (fun i => s.size - (intOf i).toNat)
  case atStart => exact ⟨at_, hat, rfl, HR.out⟩
  case round =>
    obtain ⟨k, hk, rfl, hr⟩ := hrel
    have HK := Lib.hid hr
    clear hr
    by_cases hlt : k < s.size
    · have hb := bt_at s k hlt
      cases hp : part (bt s k) with
      | true =>
        have HP := Lib.hid hp
        clear hp
        go_wp2_with (go_at_call 13; refine (isInName_any _ _).mono ?_; rintro e w' ⟨rfl, rfl⟩; rw [HP.out])
        go_round
        case rel => exact ⟨k + 1, by omega, by go_num, by rw [HK.out, run_inside hlt HP.out]⟩
        case measure => simp [intOf]; omega
      | false =>
        have HP := Lib.hid hp
        clear hp
        go_wp2_with (go_at_call 13; refine (isInName_any _ _).mono ?_; rintro e w' ⟨rfl, rfl⟩; rw [HP.out])
        go_ret
        exact ⟨ret_int (by rw [HK.out, run_out HP.out]), rfl⟩
    · obtain rfl : k = s.size := by omega
      go_wp2
      go_ret
      exact ⟨ret_int (by rw [HK.out, run_end (Nat.le_refl _)]), rfl⟩
end Go.Proofs.Ytnjmnmokgfpmhaa
