/- Where an operator is exact by words of 16 bits, it is so by longer ones, and the word is the same: for every input, with no condition. -/
import Derived.Test.YtgnhighlkpgjiaaC
import Derived.Test.YtgnhighlkpgjiaaZ
namespace Go.Proofs.Ytgnhighlkpgjiaa.wordNarrow
open Go.ChangeShapes Go.WideShapes Go.ChangeAt Go.RowKit
set_option linter.unusedVariables false

set_option maxHeartbeats 1000000 in
theorem walk (a0 : Int) (a1 : Int) (a2 : Int) (w0 : (Lit.int .i64 a0).wf = true) (w1 : (Lit.int .i64 a1).wf = true) (w2 : (Lit.int .i64 a2).wf = true) (w : World) :
    Calls Try.prog 11 #[.int .i64 a0, .int .i64 a1, .int .i64 a2] w fun e w' => e = .returned (.bool true) ∧ Fr w w' := by
  by_cases hE : appE a0 a2 16 = 0
  · have HE := Lib.hid hE
    rcases Bool.eq_false_or_eq_true (exV a0 a1 a2 16) with hx | hx
    · have HX := Lib.hid hx
      by_cases g1 : a1 < -32768
      · clear hE hx
        go_enter Try.func11, Try.ntmps11
        go_wp2_with fail
        refine (Exact_any _ _ _ _ _).mono ?_; rintro e w1 ⟨rfl, hf1⟩
        rw [HX.out, HE.out]
        go_wp2_with fail
        refine (Apply_any _ _ _ _ _).mono ?_; rintro e w2 ⟨rfl, hf2⟩
        unfold appR
        rw [HE.out]
        go_wp2_with (go_at_call 19; refine (awake_any _).mono ?_; rintro e w' ⟨rfl, hfa⟩)
        go_ret
        exact ⟨rfl, (hf1.trans hf2).trans hfa⟩

      by_cases g2 : 32767 < a1
      · clear hE hx
        go_enter Try.func11, Try.ntmps11
        go_wp2_with fail
        refine (Exact_any _ _ _ _ _).mono ?_; rintro e w1 ⟨rfl, hf1⟩
        rw [HX.out, HE.out]
        go_wp2_with fail
        refine (Apply_any _ _ _ _ _).mono ?_; rintro e w2 ⟨rfl, hf2⟩
        unfold appR
        rw [HE.out]
        go_wp2_with (go_at_call 19; refine (awake_any _).mono ?_; rintro e w' ⟨rfl, hfa⟩)
        go_ret
        exact ⟨rfl, (hf1.trans hf2).trans hfa⟩

      by_cases g3 : a2 < -32768
      · clear hE hx
        go_enter Try.func11, Try.ntmps11
        go_wp2_with fail
        refine (Exact_any _ _ _ _ _).mono ?_; rintro e w1 ⟨rfl, hf1⟩
        rw [HX.out, HE.out]
        go_wp2_with fail
        refine (Apply_any _ _ _ _ _).mono ?_; rintro e w2 ⟨rfl, hf2⟩
        unfold appR
        rw [HE.out]
        go_wp2_with (go_at_call 19; refine (awake_any _).mono ?_; rintro e w' ⟨rfl, hfa⟩)
        go_ret
        exact ⟨rfl, (hf1.trans hf2).trans hfa⟩

      by_cases g4 : 32767 < a2
      · clear hE hx
        go_enter Try.func11, Try.ntmps11
        go_wp2_with fail
        refine (Exact_any _ _ _ _ _).mono ?_; rintro e w1 ⟨rfl, hf1⟩
        rw [HX.out, HE.out]
        go_wp2_with fail
        refine (Apply_any _ _ _ _ _).mono ?_; rintro e w2 ⟨rfl, hf2⟩
        unfold appR
        rw [HE.out]
        go_wp2_with (go_at_call 19; refine (awake_any _).mono ?_; rintro e w' ⟨rfl, hfa⟩)
        go_ret
        exact ⟨rfl, (hf1.trans hf2).trans hfa⟩

      have HL24 := Lib.hid (narrow_law (n := 24) (.inr (.inl rfl)) (by omega) (by omega) (by omega) (by omega) hE hx)
      have HL32 := Lib.hid (narrow_law (n := 32) (.inr (.inr rfl)) (by omega) (by omega) (by omega) (by omega) hE hx)
      clear hE hx
      go_enter Try.func11, Try.ntmps11
      go_wp2_with fail
      refine (Exact_any _ _ _ _ _).mono ?_; rintro e w1 ⟨rfl, hf1⟩
      rw [HX.out, HE.out]
      go_wp2_with fail
      refine (Apply_any _ _ _ _ _).mono ?_; rintro e w2 ⟨rfl, hf2⟩
      unfold appR
      rw [HE.out]
      go_wp2_with fail
      go_loopw [11] (fun i wr => ∃ j : Nat, j ≤ 2 ∧ i = .int .i64 (24 + 8 * (j : Int)) ∧ Fr w wr) (fun i _ => 100 - (intOf i).toNat)
      case atStart => exact ⟨0, by decide, rfl, hf1.trans hf2⟩
      case round =>
        obtain ⟨j, hj, rfl, hfr⟩ := hrel
        have hj3 : j = 0 ∨ j = 1 ∨ j = 2 := by omega
        rcases hj3 with rfl | rfl | rfl
        · rw [show (24 : Int) + 8 * ((0 : Nat) : Int) = 24 from rfl]
          go_wp2_with fail
          refine (Exact_any _ _ _ _ _).mono ?_; rintro e w3 ⟨rfl, hf3⟩
          rw [HL24.out.1, HL24.out.2.1]
          go_wp2_with fail
          refine (Apply_any _ _ _ _ _).mono ?_; rintro e w4 ⟨rfl, hf4⟩
          unfold appR
          rw [HL24.out.1, HL24.out.2.2]
          go_wp2_with fail
          go_roundw
          case rel => exact ⟨1, by decide, rfl, (hfr.trans hf3).trans hf4⟩
          case measure => simp [intOf]
        · rw [show (24 : Int) + 8 * ((1 : Nat) : Int) = 32 from rfl]
          go_wp2_with fail
          refine (Exact_any _ _ _ _ _).mono ?_; rintro e w3 ⟨rfl, hf3⟩
          rw [HL32.out.1, HL32.out.2.1]
          go_wp2_with fail
          refine (Apply_any _ _ _ _ _).mono ?_; rintro e w4 ⟨rfl, hf4⟩
          unfold appR
          rw [HL32.out.1, HL32.out.2.2]
          go_wp2_with fail
          go_roundw
          case rel => exact ⟨2, by decide, rfl, (hfr.trans hf3).trans hf4⟩
          case measure => simp [intOf]
        · rw [show (24 : Int) + 8 * ((2 : Nat) : Int) = 40 from rfl]
          go_wp2_with (go_at_call 19; refine (awake_any _).mono ?_; rintro e w' ⟨rfl, hfa⟩)
          go_ret
          exact ⟨rfl, hfr.trans hfa⟩
    · have HX := Lib.hid hx
      clear hE hx
      go_enter Try.func11, Try.ntmps11
      go_wp2_with fail
      refine (Exact_any _ _ _ _ _).mono ?_; rintro e w1 ⟨rfl, hf1⟩
      rw [HX.out, HE.out]
      go_wp2_with fail
      refine (Apply_any _ _ _ _ _).mono ?_; rintro e w2 ⟨rfl, hf2⟩
      unfold appR
      rw [HE.out]
      go_wp2_with (go_at_call 19; refine (awake_any _).mono ?_; rintro e w' ⟨rfl, hfa⟩)
      go_ret
      exact ⟨rfl, (hf1.trans hf2).trans hfa⟩

  · have hb : (appE a0 a2 16 != 0) = true := by simpa using hE
    clear hE
    go_enter Try.func11, Try.ntmps11
    go_wp2_with fail
    refine (Exact_any _ _ _ _ _).mono ?_; rintro e w1 ⟨rfl, hf1⟩
    go_wp2_with fail
    refine (Apply_any _ _ _ _ _).mono ?_; rintro e w2 ⟨rfl, hf2⟩
    unfold appR
    go_wp2_with (go_at_call 19; refine (awake_any _).mono ?_; rintro e w' ⟨rfl, hfa⟩)
    go_ret
    exact ⟨rfl, (hf1.trans hf2).trans hfa⟩

set_option maxRecDepth 100000 in
theorem lifted (os : Os) (started : os.Started) (H : Type) (enc : TypeId × Value → H) :
    ReturnsInHanded {} Try.checked os 11 .any (Rows.wordNarrowSpec.pre6 enc Try.prog Try.f11 Rows.wordNarrowRow.domain false) (Rows.wordNarrowSpec.post enc Try.prog Try.f11 false true false false) := by
  refine returnsInHanded_of_change (C := Try.checked) own started (by kernel_rfl) Try.func11
    (ChangeSpec.witness6 (enc := enc) (C := Try.checked) false ⟨#[], #[.int .i64 0, .int .i64 0, .int .i64 0], []⟩ 8 (by kernel_rfl) (by kernel_rfl) (by kernel_rfl) (by kernel_rfl)) ?_
  intro W base args ds gs before hval0 hW hcnd _
  have hval : ∀ (j : Nat) t v, Try.f11.params[j]? = some t → args[j]? = some v → Value.okWide Try.prog W .any base t v := hval0
  have hW' := hW
  obtain ⟨p, q, hA0, hV, rfl, hfz, hnd⟩ := hW
  have hA : DataW.TrodAll enc Try.prog W 0 (fun _ => true) true Try.f11.params.toList args.toList ds p := hA0
  rw [Try.params11] at hA hval
  obtain ⟨v0, vs0, d0, ds0, p0, q0, hargs, rfl, rfl, h0, r0⟩ := trodAll_cons hA
  obtain ⟨v1, vs1, d1, ds1, p1, q1, rfl, rfl, rfl, h1, r1⟩ := trodAll_cons r0
  obtain ⟨v2, vs2, d2, ds2, p2, q2, rfl, rfl, rfl, h2, r2⟩ := trodAll_cons r1
  obtain ⟨rfl, rfl, rfl⟩ := trodAll_nil r2
  obtain rfl : args = #[v0, v1, v2] := by cases args; simp_all
  obtain ⟨rfl, rfl⟩ := trodVars_none hV
  obtain ⟨a0, rfl, rfl, rfl, w0⟩ := open_int Try.underlying3 (hval 0 3 v0 rfl rfl) h0
  obtain ⟨a1, rfl, rfl, rfl, w1⟩ := open_int Try.underlying3 (hval 1 3 v1 rfl rfl) h1
  obtain ⟨a2, rfl, rfl, rfl, w2⟩ := open_int Try.underlying3 (hval 2 3 v2 rfl rfl) h2
  clear hA0 hval0
  simp only [List.append_nil] at hW'
  refine (walk a0 a1 a2 w0 w1 w2 W).mono fun e W' ⟨he, hg⟩ => ?_
  subst he
  exact ⟨_, rfl, post_fr (pa := []) (pv := []) hW' hg (fun _ _ _ => (trodAll_cons_mk (shut_bool Try.underlying4 _) trodAll_mk0)) (fun sp _ => (trodAll_cons_mk (shut_int Try.underlying3 w0) (trodAll_cons_mk (shut_int Try.underlying3 w1) (trodAll_cons_mk (shut_int Try.underlying3 w2) trodAll_mk0)))) (fun _ _ => rfl)⟩

theorem proved : Rows.WordNarrowSaid :=
  OpenClaim.holds_of_wide 11 Try.f11 rfl rfl rfl rfl rfl rfl rfl ⟨rfl, rfl, rfl, rfl, rfl⟩ rfl rfl rfl rfl rfl (by kernel_rfl) Try.func11 (by kernel_rfl)
    (of_decide_eq_true (by kernel_rfl)) (by unfold Func.isWrapper; first | (rw [if_pos (by decide +kernel)]; kernel_rfl) | (rw [if_neg (by decide +kernel)]; exact ⟨rfl, rfl⟩))
    (fun os started H enc _ => lifted os started H enc)
#print axioms proved
end Go.Proofs.Ytgnhighlkpgjiaa.wordNarrow
