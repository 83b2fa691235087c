/- Words add, subtract and multiply as whole numbers do, normed, and a quotient times the divisor with what is left is the word: for every input, with no condition. -/
import Derived.Test.YtgnhighlkpgjiaaG
import Derived.Deep.RegionHeld3
import Derived.Test.YtgnhighlkpgjiaaZ
namespace Go.Proofs.Ytgnhighlkpgjiaa.wordRings
open Go.ChangeShapes Go.WideShapes Go.ChangeAt Go.RowKit
set_option linter.unusedVariables false

theorem of_any (op a b n : Int) (w : World) : Calls Try.prog 41 #[.agg #[.int .i64 n], .int .i64 op, .int .i64 a, .int .i64 b] w fun e w' => e = .returned (.int .i64 (appV op a b n)) ∧ Fr w w' := by
  go_enter Try.func41, Try.ntmps41
  go_wp2_with (go_at_call 20; refine (Apply_any _ _ _ _ _).mono ?_; rintro e w1 ⟨rfl, hf⟩; unfold appR)
  go_ret
  exact ⟨rfl, ((Fr.refl _).alloc _).trans (by assumption)⟩

theorem last {w1 W W' : World} {g : Nat} {v : Value} (k : Fr W W') (h : W.cell? ⟨g, 0, none⟩ = some v ∧ Fr w1 W) : Fr w1 W' := h.2.trans k
theorem keep {w1 W W' : World} {g : Nat} {v : Value} (k : Fr W W') (h : W.cell? ⟨g, 0, none⟩ = some v ∧ Fr w1 W) : W'.cell? ⟨g, 0, none⟩ = some v ∧ Fr w1 W' := ⟨k.cell h.1, h.2.trans k⟩

set_option maxHeartbeats 4000000 in
theorem walk (a0 : Int) (a1 : Int) (a2 : Int) (a3 : Int) (w0 : (Lit.int .i64 a0).wf = true) (w1 : (Lit.int .i64 a1).wf = true) (w2 : (Lit.int .i64 a2).wf = true) (w3 : (Lit.int .i64 a3).wf = true) (w : World) :
    Calls Try.prog 9 #[.int .i64 a0, .int .i64 a1, .int .i64 a2, .int .i64 a3] w fun e w' => e = .returned (.bool true) ∧ Fr w w' := by
  rcases Bool.eq_false_or_eq_true (okB a3) with h | h
  · have H := Lib.hid (okB_yes h)
    have r1 : (appV 4 (nrm a0 a3) (nrm a1 a3) a3 != appV 4 (nrm a1 a3) (nrm a0 a3) a3) = false := by rw [ring_add_comm H.out (nrm a0 a3)]; exact bne_self_eq_false _
    have r2 : (appV 1 (nrm a0 a3) (nrm a1 a3) a3 != appV 1 (nrm a1 a3) (nrm a0 a3) a3) = false := by rw [ring_mul_comm H.out (nrm a0 a3)]; exact bne_self_eq_false _
    have r3 : (appV 5 (appV 4 (nrm a0 a3) (nrm a1 a3) a3) (nrm a1 a3) a3 != nrm a0 a3) = false := by rw [ring_add_sub H.out, nrm_nrm H.out]; exact bne_self_eq_false _
    have r4 : (appV 4 (appV 4 (nrm a0 a3) (nrm a1 a3) a3) (nrm a2 a3) a3 != appV 4 (nrm a0 a3) (appV 4 (nrm a1 a3) (nrm a2 a3) a3) a3) = false := by rw [ring_add_assoc H.out]; exact bne_self_eq_false _
    have r5 : (appV 1 (appV 1 (nrm a0 a3) (nrm a1 a3) a3) (nrm a2 a3) a3 != appV 1 (nrm a0 a3) (appV 1 (nrm a1 a3) (nrm a2 a3) a3) a3) = false := by rw [ring_mul_assoc H.out]; exact bne_self_eq_false _
    have r6 : (appV 1 (nrm a0 a3) (appV 4 (nrm a1 a3) (nrm a2 a3) a3) a3 != appV 4 (appV 1 (nrm a0 a3) (nrm a1 a3) a3) (appV 1 (nrm a0 a3) (nrm a2 a3) a3) a3) = false := by rw [ring_distrib H.out]; exact bne_self_eq_false _
    have r7 : (appV 4 (nrm a0 a3) (appV 18 (nrm a0 a3) 0 a3) a3 != 0) = false := by rw [ring_add_neg H.out]; exact bne_self_eq_false _
    by_cases hy : nrm a1 a3 = 0
    · have r8 : (nrm a1 a3 != 0) = false := by rw [hy]; rfl
      clear hy
      go_enter Try.func9, Try.ntmps9
      go_wp2_with first
        | (go_at_call 18; refine (Bits_any _ _).mono ?_; rintro e w' ⟨rfl, rfl⟩)
        | (go_at_call 40; refine (Word_any H.out _ _).mono ?_; rintro e w' ⟨rfl, rfl⟩)
      have hS : (w.alloc (.cells #[.int .i64 a3] 53)).drew.cell? ⟨w.heap.size, 0, none⟩ = some (.int .i64 a3) ∧ Fr w (w.alloc (.cells #[.int .i64 a3] 53)).drew := ⟨by simp, ((Fr.refl w).alloc _).drew⟩
      go_region_held3 (fun W => W.cell? ⟨w.heap.size, 0, none⟩ = some (.int .i64 a3) ∧ Fr w W) (first | exact hS | exact keep (by assumption) (by assumption)) ((first | (go_at_call 41; refine (of_any _ _ _ _ _).mono ?_; rintro e wx ⟨rfl, hfx⟩)))
      go_wp2
      clear hS
      have hS := keep (w1 := w) (g := w.heap.size) (v := .int .i64 a3) (Fr.drew (Fr.refl _)) (by assumption)
      go_region_held3 (fun W => W.cell? ⟨w.heap.size, 0, none⟩ = some (.int .i64 a3) ∧ Fr w W) (first | exact hS | exact keep (by assumption) (by assumption)) ((first | (go_at_call 41; refine (of_any _ _ _ _ _).mono ?_; rintro e wx ⟨rfl, hfx⟩)))
      go_wp2
      clear hS
      have hS := keep (w1 := w) (g := w.heap.size) (v := .int .i64 a3) (Fr.drew (Fr.refl _)) (by assumption)
      go_region_held3 (fun W => W.cell? ⟨w.heap.size, 0, none⟩ = some (.int .i64 a3) ∧ Fr w W) (first | exact hS | exact keep (by assumption) (by assumption)) ((first | (go_at_call 41; refine (of_any _ _ _ _ _).mono ?_; rintro e wx ⟨rfl, hfx⟩)))
      go_wp2
      clear hS
      have hl := last (w1 := w) (g := w.heap.size) (v := .int .i64 a3) (Fr.refl _) (by assumption)
      go_quiet (fail)
      go_wp2_with (go_at_call 19; refine (awake_any _).mono ?_; rintro e w' ⟨rfl, hfa⟩)
      go_ret
      exact ⟨rfl, (hl.drewN _).trans hfa⟩
    · have r8 : (nrm a1 a3 != 0) = true := by rw [bne_iff_ne]; exact hy
      have r9 : (appV 4 (appV 1 (nrm a1 a3) (appV 2 (nrm a0 a3) (nrm a1 a3) a3) a3) (appV 3 (nrm a0 a3) (nrm a1 a3) a3) a3 != nrm a0 a3) = false := by
        rw [ring_div H.out _ _ (by rw [nrm_nrm H.out]; exact hy), nrm_nrm H.out]; exact bne_self_eq_false _
      clear hy
      go_enter Try.func9, Try.ntmps9
      go_wp2_with first
        | (go_at_call 18; refine (Bits_any _ _).mono ?_; rintro e w' ⟨rfl, rfl⟩)
        | (go_at_call 40; refine (Word_any H.out _ _).mono ?_; rintro e w' ⟨rfl, rfl⟩)
      have hS : (w.alloc (.cells #[.int .i64 a3] 53)).drew.cell? ⟨w.heap.size, 0, none⟩ = some (.int .i64 a3) ∧ Fr w (w.alloc (.cells #[.int .i64 a3] 53)).drew := ⟨by simp, ((Fr.refl w).alloc _).drew⟩
      go_region_held3 (fun W => W.cell? ⟨w.heap.size, 0, none⟩ = some (.int .i64 a3) ∧ Fr w W) (first | exact hS | exact keep (by assumption) (by assumption)) ((first | (go_at_call 41; refine (of_any _ _ _ _ _).mono ?_; rintro e wx ⟨rfl, hfx⟩)))
      go_wp2
      clear hS
      have hS := keep (w1 := w) (g := w.heap.size) (v := .int .i64 a3) (Fr.drew (Fr.refl _)) (by assumption)
      go_region_held3 (fun W => W.cell? ⟨w.heap.size, 0, none⟩ = some (.int .i64 a3) ∧ Fr w W) (first | exact hS | exact keep (by assumption) (by assumption)) ((first | (go_at_call 41; refine (of_any _ _ _ _ _).mono ?_; rintro e wx ⟨rfl, hfx⟩)))
      go_wp2
      clear hS
      have hS := keep (w1 := w) (g := w.heap.size) (v := .int .i64 a3) (Fr.drew (Fr.refl _)) (by assumption)
      go_region_held3 (fun W => W.cell? ⟨w.heap.size, 0, none⟩ = some (.int .i64 a3) ∧ Fr w W) (first | exact hS | exact keep (by assumption) (by assumption)) ((first | (go_at_call 41; refine (of_any _ _ _ _ _).mono ?_; rintro e wx ⟨rfl, hfx⟩)))
      go_wp2
      clear hS
      have hS := keep (w1 := w) (g := w.heap.size) (v := .int .i64 a3) (Fr.drew (Fr.refl _)) (by assumption)
      go_region_held3 (fun W => W.cell? ⟨w.heap.size, 0, none⟩ = some (.int .i64 a3) ∧ Fr w W) (first | exact hS | exact keep (by assumption) (by assumption)) ((first | (go_at_call 41; refine (of_any _ _ _ _ _).mono ?_; rintro e wx ⟨rfl, hfx⟩)))
      clear hS
      go_wp2_with (go_at_call 19; refine (awake_any _).mono ?_; rintro e w' ⟨rfl, hfa⟩)
      go_ret
      exact ⟨rfl, last (g := w.heap.size) (v := .int .i64 a3) hfa (by assumption)⟩
  · go_enter Try.func9, Try.ntmps9
    go_wp2_with (go_at_call 18; refine (Bits_any _ _).mono ?_; rintro e w' ⟨rfl, rfl⟩)
    go_ret
    exact ⟨rfl, Fr.refl _⟩

set_option maxRecDepth 100000 in
theorem lifted (os : Os) (started : os.Started) (H : Type) (enc : TypeId × Value → H) :
    ReturnsInHanded {} Try.checked os 9 .any (Rows.wordRingsSpec.pre6 enc Try.prog Try.f9 Rows.wordRingsRow.domain false) (Rows.wordRingsSpec.post enc Try.prog Try.f9 false true false false) := by
  refine returnsInHanded_of_change (C := Try.checked) own started (by kernel_rfl) Try.func9
    (ChangeSpec.witness6 (enc := enc) (C := Try.checked) false ⟨#[], #[.int .i64 0, .int .i64 0, .int .i64 0, .int .i64 0], []⟩ 8 (by kernel_rfl) (by kernel_rfl) (by kernel_rfl) (by kernel_rfl)) ?_
  intro W base args ds gs before hval0 hW hcnd _
  have hval : ∀ (j : Nat) t v, Try.f9.params[j]? = some t → args[j]? = some v → Value.okWide Try.prog W .any base t v := hval0
  have hW' := hW
  obtain ⟨p, q, hA0, hV, rfl, hfz, hnd⟩ := hW
  have hA : DataW.TrodAll enc Try.prog W 0 (fun _ => true) true Try.f9.params.toList args.toList ds p := hA0
  rw [Try.params9] at hA hval
  obtain ⟨v0, vs0, d0, ds0, p0, q0, hargs, rfl, rfl, h0, r0⟩ := trodAll_cons hA
  obtain ⟨v1, vs1, d1, ds1, p1, q1, rfl, rfl, rfl, h1, r1⟩ := trodAll_cons r0
  obtain ⟨v2, vs2, d2, ds2, p2, q2, rfl, rfl, rfl, h2, r2⟩ := trodAll_cons r1
  obtain ⟨v3, vs3, d3, ds3, p3, q3, rfl, rfl, rfl, h3, r3⟩ := trodAll_cons r2
  obtain ⟨rfl, rfl, rfl⟩ := trodAll_nil r3
  obtain rfl : args = #[v0, v1, v2, v3] := by cases args; simp_all
  obtain ⟨rfl, rfl⟩ := trodVars_none hV
  obtain ⟨a0, rfl, rfl, rfl, w0⟩ := open_int Try.underlying3 (hval 0 3 v0 rfl rfl) h0
  obtain ⟨a1, rfl, rfl, rfl, w1⟩ := open_int Try.underlying3 (hval 1 3 v1 rfl rfl) h1
  obtain ⟨a2, rfl, rfl, rfl, w2⟩ := open_int Try.underlying3 (hval 2 3 v2 rfl rfl) h2
  obtain ⟨a3, rfl, rfl, rfl, w3⟩ := open_int Try.underlying3 (hval 3 3 v3 rfl rfl) h3
  clear hA0 hval0
  simp only [List.append_nil] at hW'
  refine (walk a0 a1 a2 a3 w0 w1 w2 w3 W).mono fun e W' ⟨he, hg⟩ => ?_
  subst he
  exact ⟨_, rfl, post_fr (pa := []) (pv := []) hW' hg (fun _ _ _ => (trodAll_cons_mk (shut_bool Try.underlying4 _) trodAll_mk0)) (fun sp _ => (trodAll_cons_mk (shut_int Try.underlying3 w0) (trodAll_cons_mk (shut_int Try.underlying3 w1) (trodAll_cons_mk (shut_int Try.underlying3 w2) (trodAll_cons_mk (shut_int Try.underlying3 w3) trodAll_mk0))))) (fun _ _ => rfl)⟩

theorem proved : Rows.WordRingsSaid :=
  OpenClaim.holds_of_wide 9 Try.f9 rfl rfl rfl rfl rfl rfl rfl ⟨rfl, rfl, rfl, rfl, rfl⟩ rfl rfl rfl rfl rfl (by kernel_rfl) Try.func9 (by kernel_rfl)
    (of_decide_eq_true (by kernel_rfl)) (by unfold Func.isWrapper; first | (rw [if_pos (by decide +kernel)]; kernel_rfl) | (rw [if_neg (by decide +kernel)]; exact ⟨rfl, rfl⟩))
    (fun os started H enc _ => lifted os started H enc)
#print axioms proved
end Go.Proofs.Ytgnhighlkpgjiaa.wordRings
