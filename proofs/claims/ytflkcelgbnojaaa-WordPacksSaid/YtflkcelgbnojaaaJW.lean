/- Words joined from whole words' bytes: by both ways the same. Nothing here speaks of a program but by the names of its values. -/
import Derived.Test.YtflkcelgbnojaaaWM
namespace Go.Proofs.Ytflkcelgbnojaaa
open Go.RowKit
set_option linter.unusedVariables false
theorem jn_wv {n : Int} (hn : OkB n) {s : Nat} (hs : (s : Int) = szI n) (big : Bool) (β : Nat → Nat) (M j : Nat) (hj : s * j + s ≤ M) : jn (fun p => (β (s * j + p) : Int)) s big s = wv β n big M j := by
  rcases hn with rfl | rfl | rfl
  · obtain rfl : s = 2 := by have h : (s : Int) = 2 := hs; omega
    cases big
    · rw [jn_16_false, wv_full_16_false β M j hj]; simp only [Nat.add_zero]; omega
    · rw [jn_16_true, wv_full_16_true β M j hj]; simp only [Nat.add_zero]; omega
  · obtain rfl : s = 3 := by have h : (s : Int) = 3 := hs; omega
    cases big
    · rw [jn_24_false, wv_full_24_false β M j hj]; simp only [Nat.add_zero]; omega
    · rw [jn_24_true, wv_full_24_true β M j hj]; simp only [Nat.add_zero]; omega
  · obtain rfl : s = 4 := by have h : (s : Int) = 4 := hs; omega
    cases big
    · rw [jn_32_false, wv_full_32_false β M j hj]; simp only [Nat.add_zero]; omega
    · rw [jn_32_true, wv_full_32_true β M j hj]; simp only [Nat.add_zero]; omega
theorem sl_one (W : World) (x : Value) (T : TypeId) : SlV (W.alloc (.cells #[x] T)) (.slice (some ⟨W.heap.size, 0, none⟩) 1 1) 1 (fun _ => x) :=
  ⟨_, 1, rfl, fun _ => ⟨W.heap.size, 0, rfl, fun i hi => by obtain rfl : i = 0 := (by omega); simp⟩⟩
end Go.Proofs.Ytflkcelgbnojaaa
