/- The law of lines: its walk. -/
import Derived.Test.YtkkapgidddfdoaaDoorLI
import Derived.Test.YtkkapgidddfdoaaDoorYA
namespace Go.Proofs.YtkkapgidddfdoaaDoor
open Go.RowKit
set_option linter.unusedVariables false

set_option maxHeartbeats 1000000 in
theorem lines_walk (s : ByteArray) (a : Int) (hs : s.size ≤ 140737488351232) (wa : (Lit.int .i64 a).wf = true) (W : World) (hev : Ev W) :
    Calls Tryd.prog 5 #[.string s, .int .i64 a] W fun e w' => e = .returned (.bool true) ∧ Fr W w' := by
  have hx : -9223372036854775808 ≤ a ∧ a ≤ 9223372036854775807 := by simpa [Lit.wf, IntKind.min, IntKind.max, IntKind.signed, IntKind.bits] using wa
  have HE := Lib.hid hev
  have h1 := Line_any s hs a hx.1 hx.2
  have h2 := RLine_any s hs a hx.1 hx.2
  by_cases hc : a < 0 ∨ (s.size : Int) < a
  · rw [if_pos hc] at h1 h2
    clear hc hx wa hev
    go_enter Tryd.func5, Tryd.ntmps5
    go_wp2_with (first
      | (go_at_call 21; refine (h1 _).mono ?_; rintro e w' ⟨rfl, rfl⟩)
      | (go_at_call 22; refine (h2 _).mono ?_; rintro e w' ⟨rfl, rfl⟩)
      | (go_at_call 16; refine (awake_any _ HE.out).mono ?_; rintro e w' ⟨rfl, hf⟩))
    go_ret
    exact ⟨rfl, hf⟩
  · rw [if_neg hc] at h1 h2
    obtain ⟨L, hL⟩ : ∃ L : Int, L = (ln s a.toNat : Nat) := ⟨_, rfl⟩
    obtain ⟨C, hC⟩ : ∃ C : Int, C = (co s a.toNat : Nat) := ⟨_, rfl⟩
    rw [← hL, ← hC] at h1 h2
    have e1 : (L == L) = true := by simp
    have e2 : (C == C) = true := by simp
    clear hc hx wa hL hC hev
    go_enter Tryd.func5, Tryd.ntmps5
    go_wp2_with (first
      | (go_at_call 21; refine (h1 _).mono ?_; rintro e w' ⟨rfl, rfl⟩)
      | (go_at_call 22; refine (h2 _).mono ?_; rintro e w' ⟨rfl, rfl⟩)
      | (go_at_call 16; refine (awake_any _ HE.out).mono ?_; rintro e w' ⟨rfl, hf⟩))
    go_ret
    exact ⟨rfl, hf⟩
end Go.Proofs.YtkkapgidddfdoaaDoor
