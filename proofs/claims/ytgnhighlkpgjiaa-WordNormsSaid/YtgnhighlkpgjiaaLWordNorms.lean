/- Whether a form is valid, and the word of any number, with a sign and without one, are as the document's own answers give them: for every input, with no condition. -/
import Derived.Test.YtgnhighlkpgjiaaZ
namespace Go.Proofs.Ytgnhighlkpgjiaa.wordNorms
open Go.ChangeShapes Go.WideShapes Go.ChangeAt Go.RowKit
set_option linter.unusedVariables false

theorem walk (a0 : Int) (a1 : Int) (w0 : (Lit.int .i64 a0).wf = true) (w1 : (Lit.int .i64 a1).wf = true) (w : World) :
    Calls Try.prog 3 #[.int .i64 a0, .int .i64 a1] w fun e w' => e = .returned (.bool true) ∧ Fr w w' := by
  have orT : ∀ (x v : Int), orErr true x v = .tuple #[.int .i64 v, .int .i64 0] := fun _ _ => rfl
  have orF : ∀ (x v : Int), orErr false x v = .tuple #[.int .i64 0, .int .i64 x] := fun _ _ => rfl
  have OT := Lib.hid orT
  have OF := Lib.hid orF
  clear orT orF
  rcases Bool.eq_false_or_eq_true (okB a1) with h | h
  all_goals
    have HB := Lib.hid h
    clear h
    go_enter Try.func3, Try.ntmps3
    go_wp2_with fail
    refine (Norm_any _ _ _).mono ?_; rintro e w1 ⟨rfl, rfl⟩
    rw [HB.out]; first | rw [OT.out] | rw [OF.out]
    go_wp2_with fail
    refine (RNorm_any _ _ _).mono ?_; rintro e w1 ⟨rfl, rfl⟩
    rw [HB.out]; first | rw [OT.out] | rw [OF.out]
    go_wp2_with fail
    refine (Unsigned_any _ _ _).mono ?_; rintro e w1 ⟨rfl, rfl⟩
    rw [HB.out]; first | rw [OT.out] | rw [OF.out]
    go_wp2_with fail
    refine (RUnsigned_any _ _ _).mono ?_; rintro e w1 ⟨rfl, rfl⟩
    rw [HB.out]; first | rw [OT.out] | rw [OF.out]
    go_wp2_with fail
    refine (Valid_any _ _ _).mono ?_; rintro e w1 ⟨rfl, hf1⟩
    rw [HB.out]
    go_wp2_with first
      | (go_at_call 17; refine (Valid_any _ _ _).mono ?_; rintro e w2 ⟨rfl, hf2⟩; rw [HB.out])
      | (go_at_call 18; refine (Bits_any _ _).mono ?_; rintro e w3 ⟨rfl, rfl⟩; rw [HB.out])
      | (go_at_call 19; refine (awake_any _).mono ?_; rintro e w' ⟨rfl, hfa⟩)
    go_ret
    refine ⟨rfl, ?_⟩
    first | exact (hf1.trans (by assumption)).trans hfa | exact hf1.trans hfa

set_option maxRecDepth 100000 in
theorem lifted (os : Os) (started : os.Started) (H : Type) (enc : TypeId × Value → H) :
    ReturnsInHanded {} Try.checked os 3 .any (Rows.wordNormsSpec.pre6 enc Try.prog Try.f3 Rows.wordNormsRow.domain false) (Rows.wordNormsSpec.post enc Try.prog Try.f3 false true false false) := by
  refine returnsInHanded_of_change (C := Try.checked) own started (by kernel_rfl) Try.func3
    (ChangeSpec.witness6 (enc := enc) (C := Try.checked) false ⟨#[], #[.int .i64 0, .int .i64 0], []⟩ 8 (by kernel_rfl) (by kernel_rfl) (by kernel_rfl) (by kernel_rfl)) ?_
  intro W base args ds gs before hval0 hW hcnd _
  have hval : ∀ (j : Nat) t v, Try.f3.params[j]? = some t → args[j]? = some v → Value.okWide Try.prog W .any base t v := hval0
  have hW' := hW
  obtain ⟨p, q, hA0, hV, rfl, hfz, hnd⟩ := hW
  have hA : DataW.TrodAll enc Try.prog W 0 (fun _ => true) true Try.f3.params.toList args.toList ds p := hA0
  rw [Try.params3] at hA hval
  obtain ⟨v0, vs0, d0, ds0, p0, q0, hargs, rfl, rfl, h0, r0⟩ := trodAll_cons hA
  obtain ⟨v1, vs1, d1, ds1, p1, q1, rfl, rfl, rfl, h1, r1⟩ := trodAll_cons r0
  obtain ⟨rfl, rfl, rfl⟩ := trodAll_nil r1
  obtain rfl : args = #[v0, v1] := by cases args; simp_all
  obtain ⟨rfl, rfl⟩ := trodVars_none hV
  obtain ⟨a0, rfl, rfl, rfl, w0⟩ := open_int Try.underlying3 (hval 0 3 v0 rfl rfl) h0
  obtain ⟨a1, rfl, rfl, rfl, w1⟩ := open_int Try.underlying3 (hval 1 3 v1 rfl rfl) h1
  clear hA0 hval0
  simp only [List.append_nil] at hW'
  refine (walk a0 a1 w0 w1 W).mono fun e W' ⟨he, hg⟩ => ?_
  subst he
  exact ⟨_, rfl, post_fr (pa := []) (pv := []) hW' hg (fun _ _ _ => (trodAll_cons_mk (shut_bool Try.underlying4 _) trodAll_mk0)) (fun sp _ => (trodAll_cons_mk (shut_int Try.underlying3 w0) (trodAll_cons_mk (shut_int Try.underlying3 w1) trodAll_mk0))) (fun _ _ => rfl)⟩

theorem proved : Rows.WordNormsSaid :=
  OpenClaim.holds_of_wide 3 Try.f3 rfl rfl rfl rfl rfl rfl rfl ⟨rfl, rfl, rfl, rfl, rfl⟩ rfl rfl rfl rfl rfl (by kernel_rfl) Try.func3 (by kernel_rfl)
    (of_decide_eq_true (by kernel_rfl)) (by unfold Func.isWrapper; first | (rw [if_pos (by decide +kernel)]; kernel_rfl) | (rw [if_neg (by decide +kernel)]; exact ⟨rfl, rfl⟩))
    (fun os started H enc _ => lifted os started H enc)
#print axioms proved
end Go.Proofs.Ytgnhighlkpgjiaa.wordNorms
