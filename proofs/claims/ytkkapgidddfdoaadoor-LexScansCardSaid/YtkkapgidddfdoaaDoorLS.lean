/- The tokens of a source are as the document says: the law's walk. -/
import Derived.Test.YtkkapgidddfdoaaDoorRY
import Derived.Test.YtkkapgidddfdoaaDoorYA
import Derived.Test.YtkkapgidddfdoaaDoorET
import Derived.Test.YtkkapgidddfdoaaDoorMP
namespace Go.Proofs.YtkkapgidddfdoaaDoor
open Go.RowKit
set_option linter.unusedVariables false

theorem eqTokens_nil (w : World) (a b : Option Addr) (c1 c2 : Nat) :
    Calls Tryd.prog 15 #[.slice a 0 c1, .slice b 0 c2] w fun e w' => e = .returned (.bool true) ∧ Fr w w' := by
  go_enter Tryd.func15, Tryd.ntmps15
  go_wp2
  go_loopw [5] (fun i wr => i = .int .i64 0 ∧ Fr w wr) (fun i _ => 0)
  case atStart => exact ⟨rfl, Fr.refl _⟩
  case round =>
    obtain ⟨rfl, hfr⟩ := hrel
    go_wp2
    go_ret
    exact ⟨rfl, hfr⟩
theorem eqTokens_all (w : World) (L : List Tp) (hL : L.length ≤ 1000000) (v1 v2 : Value) (h1 : TkV w v1 L) (h2 : TkV w v2 L) :
    Calls Tryd.prog 15 #[v1, v2] w fun e w' => e = .returned (.bool true) ∧ Fr w w' := by
  by_cases hp : 0 < L.length
  · obtain ⟨b1, o1, c1, rfl, _, t1⟩ := h1.tc hp
    obtain ⟨b2, o2, c2, rfl, _, t2⟩ := h2.tc hp
    exact eqTokens_same w L hL hp b1 o1 c1 b2 o2 c2 t1 t2
  · obtain ⟨a1, c1, rfl, _, _⟩ := h1
    obtain ⟨a2, c2, rfl, _, _⟩ := h2
    rw [show L.length = 0 by omega]
    exact eqTokens_nil w a1 a2 c1 c2
theorem scan_len (s : ByteArray) : (scan s).l.length ≤ 1000000 := by
  by_cases he : (scan s).er = 0
  · obtain ⟨h1, _, h3, _, h5⟩ := scan_shape he
    omega
  · rw [(scan_bad he).1]; simp
set_option maxRecDepth 100000 in
set_option maxHeartbeats 2000000 in
theorem scans_walk (s : ByteArray) (hs : s.size ≤ 140737488351232) (W : World) (hev : Ev W) :
    Calls Tryd.prog 3 #[.string s] W fun e w' => e = .returned (.bool true) ∧ Fr W w' := by
  have HE := Lib.hid hev
  have HL := Lib.hid (scan_len s)
  have hS := Scan_any s (by omega) W hev
  have HR := Lib.hid (RScan_any s (by omega))
  obtain ⟨L, hL⟩ : ∃ L, L = (scan s).l := ⟨_, rfl⟩
  obtain ⟨er, her⟩ : ∃ x, x = (scan s).er := ⟨_, rfl⟩
  obtain ⟨pl, hpl⟩ : ∃ x, x = (scan s).a := ⟨_, rfl⟩
  rw [← hL] at HL HR hS
  rw [← her, ← hpl] at HR hS
  have e1 : ((er : Int) == (er : Int)) = true := by simp
  have e2 : ((pl : Int) == (pl : Int)) = true := by simp
  clear hL her hpl hev hs
  go_enter Tryd.func3, Tryd.ntmps3
  go_wp2_with fail
  refine hS.mono ?_
  rintro e w1 ⟨v1, rfl, hv1, hf1⟩
  have HF1 := Lib.hid hf1
  have HV1 := Lib.hid hv1
  clear hS hf1 hv1
  go_wp2_with fail
  refine (HR.out _).mono ?_
  rintro e w2 ⟨v2, rfl, hv2, hf2⟩
  have HV1' := Lib.hid (HV1.out.fr hf2)
  have HF2 := Lib.hid (HF1.out.trans hf2)
  have HV2 := Lib.hid hv2
  clear hf2 hv2
  go_wp2_with (first
    | (go_at_call 15; refine (eqTokens_all _ L HL.out _ _ HV1'.out HV2.out).mono ?_; rintro e w3 ⟨rfl, hf3⟩)
    | (go_at_call 16; refine (awake_any _ (HE.out.fr (HF2.out.trans hf3))).mono ?_; rintro e w4 ⟨rfl, hf4⟩))
  go_ret
  exact ⟨rfl, (HF2.out.trans hf3).trans hf4⟩
end Go.Proofs.YtkkapgidddfdoaaDoor
