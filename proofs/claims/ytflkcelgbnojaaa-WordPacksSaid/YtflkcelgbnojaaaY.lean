/- The small input that every statement of this layer ends with is accepted. -/
import Derived.Test.YtflkcelgbnojaaaA
import Derived.Test.YtflkcelgbnojaaaK
import Derived.Test.YtflkcelgbnojaaaE
namespace Go.Proofs.Ytflkcelgbnojaaa
open Go.RowKit
set_option linter.unusedVariables false

theorem awake_any (w : World) : Calls Try.prog 19 #[] w fun e w' => e = .returned (.bool true) ∧ Fr w w' := by
  go_enter Try.func19, Try.ntmps19
  go_wp2_with fail
  refine (Apply_any _ _ _ _ _).mono ?_; rintro e w1 ⟨rfl, hf1⟩
  rw [show appR 4 32767 1 16 = .tuple #[.int .i64 (-32768), .int .i64 0] from rfl]
  go_wp2_with fail
  refine (Pack_16 _ _ (by decide) _).mono ?_
  rintro e w2 ⟨g, m, hm, rfl, hg, hrow, hf2⟩
  obtain rfl : m = 1 := by
    have h : (m : Int) = (1 + ((1 : Nat) : Int) + 2 - 1) / 2 := hm
    omega
  have HR := Lib.hid hrow
  clear hm hrow
  go_wp2_with fail
  refine (EqInts_any (f := fun _ => 321) (g := fun _ => 321) (L1 := 1) (L2 := 1) (by decide) _ ?_ ?_).mono ?_
  · exact SlV.row ((HR.out.alloc _).congr (fun j hj => by
      obtain rfl : j = 0 := (by omega)
      exact congrArg (Value.int .i64) (by decide)))
  · exact SlV.row (World.rowIs_alloc _ #[.int .i64 321] _ (fun _ => .int .i64 321) (fun i hi => by
      obtain rfl : i = 0 := (by simpa using hi)
      rfl))
  · rintro e w3 ⟨rfl, hf3⟩
    rw [show eqL 1 1 (fun _ => 321) (fun _ => 321) = true from by decide]
    go_wp2_with fail
    go_ret
    exact ⟨rfl, ((hf1.trans hf2).alloc _).trans hf3⟩
end Go.Proofs.Ytflkcelgbnojaaa
