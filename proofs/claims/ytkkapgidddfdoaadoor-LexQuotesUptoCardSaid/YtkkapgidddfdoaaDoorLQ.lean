/- Strings and numbers are written as the document says: the law's walk. -/
import Derived.Test.YtkkapgidddfdoaaDoorRN
import Derived.Test.YtkkapgidddfdoaaDoorYA
namespace Go.Proofs.YtkkapgidddfdoaaDoor
open Go.RowKit
set_option linter.unusedVariables false

set_option maxRecDepth 100000 in
set_option maxHeartbeats 2000000 in
theorem quotes_walk (s : ByteArray) (n : Int) (hs : s.size ≤ 1048576) (wn : (Lit.int .i64 n).wf = true) (W : World) (hnv : Nv W) :
    Calls Tryd.prog 4 #[.string s, .int .i64 n] W fun e w' => e = .returned (.bool true) ∧ Fr W w' := by
  have hx : -9223372036854775808 ≤ n ∧ n ≤ 9223372036854775807 := by simpa [Lit.wf, IntKind.min, IntKind.max, IntKind.signed, IntKind.bits] using wn
  have HV := Lib.hid hnv
  have HQ := Lib.hid (Quote_any s (by omega))
  have HRQ := Lib.hid (RQuote_any s (by omega))
  have HN := Lib.hid (Number_any n hx.1 hx.2)
  have HRN := Lib.hid (RNumber_any n hx.1 hx.2)
  obtain ⟨⟨qt, qe⟩, hq⟩ : ∃ q, q = quo s := ⟨_, rfl⟩
  obtain ⟨⟨nt, ne⟩, hn⟩ : ∃ q, q = num n := ⟨_, rfl⟩
  rw [← hq] at HQ HRQ
  rw [← hn] at HN HRN
  simp only at HQ HRQ HN HRN
  have e1 : (qt.toList == qt.toList) = true := by simp
  have e2 : (nt.toList == nt.toList) = true := by simp
  have e3 : ((qe : Int) == (qe : Int)) = true := by simp
  have e4 : ((ne : Int) == (ne : Int)) = true := by simp
  clear hq hn wn hx hnv
  go_enter Tryd.func4, Tryd.ntmps4
  go_wp2_with fail
  refine (HQ.out _).mono ?_
  rintro e w1 ⟨rfl, hf1⟩
  have HF1 := Lib.hid hf1
  clear hf1
  go_wp2_with fail
  refine (HRQ.out _).mono ?_
  rintro e w2 ⟨rfl, hf2⟩
  have HF2 := Lib.hid (HF1.out.trans hf2)
  clear hf2
  go_wp2_with fail
  refine (HN.out _ (HV.out.fr HF2.out)).mono ?_
  rintro e w3 ⟨rfl, hf3⟩
  have HF3 := Lib.hid (HF2.out.trans hf3)
  clear hf3
  go_wp2_with fail
  refine (HRN.out _).mono ?_
  rintro e w4 ⟨rfl, hf4⟩
  have HF4 := Lib.hid (HF3.out.trans hf4)
  clear hf4
  go_wp2_with (go_at_call 16; refine (awake_any _ (HV.out.1.fr HF4.out)).mono ?_; rintro e w9 ⟨rfl, hf9⟩)
  go_ret
  exact ⟨rfl, HF4.out.trans hf9⟩
end Go.Proofs.YtkkapgidddfdoaaDoor
