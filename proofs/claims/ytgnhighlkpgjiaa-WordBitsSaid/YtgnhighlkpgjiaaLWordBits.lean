/- Bits of words obey the laws of sets, and shifting is multiplying by the power of 2: for every input, with no condition. -/
import Derived.Test.YtgnhighlkpgjiaaH
import Derived.Deep.RegionHeld3
import Derived.Test.YtgnhighlkpgjiaaZ
namespace Go.Proofs.Ytgnhighlkpgjiaa.wordBits
open Go.ChangeShapes Go.WideShapes Go.ChangeAt Go.RowKit
set_option linter.unusedVariables false

theorem of_any (op a b n : Int) (w : World) : Calls Try.prog 41 #[.agg #[.int .i64 n], .int .i64 op, .int .i64 a, .int .i64 b] w fun e w' => e = .returned (.int .i64 (appV op a b n)) ∧ Fr w w' := by
  go_enter Try.func41, Try.ntmps41
  go_wp2_with (go_at_call 20; refine (Apply_any _ _ _ _ _).mono ?_; rintro e w1 ⟨rfl, hf⟩; unfold appR)
  go_ret
  exact ⟨rfl, ((Fr.refl _).alloc _).trans (by assumption)⟩

theorem last {w1 W W' : World} {g : Nat} {v : Value} (k : Fr W W') (h : W.cell? ⟨g, 0, none⟩ = some v ∧ Fr w1 W) : Fr w1 W' := h.2.trans k
theorem keep {w1 W W' : World} {g : Nat} {v : Value} (k : Fr W W') (h : W.cell? ⟨g, 0, none⟩ = some v ∧ Fr w1 W) : W'.cell? ⟨g, 0, none⟩ = some v ∧ Fr w1 W' := ⟨k.cell h.1, h.2.trans k⟩

set_option maxHeartbeats 4000000 in
theorem inside (a0 a1 a3 : Int) (m : Nat) (h : okB a3 = true) (hm : (m : Int) < a3) (w : World) :
    Calls Try.prog 10 #[.int .i64 a0, .int .i64 a1, .int .i64 m, .int .i64 a3] w fun e w' => e = .returned (.bool true) ∧ Fr w w' := by
  have H := Lib.hid (okB_yes h)
  have h32 : a3 ≤ 32 := by rcases okB_yes h with rfl | rfl | rfl <;> decide
  have r1 : (appV 8 (nrm a0 a3) (nrm a1 a3) a3 != appV 19 (appV 9 (appV 19 (nrm a0 a3) 0 a3) (appV 19 (nrm a1 a3) 0 a3) a3) 0 a3) = false := by rw [← bit_de_morgan H.out]; exact bne_self_eq_false _
  have r2 : (appV 11 (nrm a0 a3) (nrm a1 a3) a3 != appV 19 (appV 10 (nrm a0 a3) (nrm a1 a3) a3) 0 a3) = false := by rw [← bit_eqv H.out]; exact bne_self_eq_false _
  have r3 : (appV 10 (appV 10 (nrm a0 a3) (nrm a1 a3) a3) (nrm a1 a3) a3 != nrm a0 a3) = false := by rw [bit_xor H.out, nrm_nrm H.out]; exact bne_self_eq_false _
  have r4 : (appV 6 (nrm a0 a3) m a3 == appV 1 (nrm a0 a3) (nrm (2 ^ m) a3) a3) = true := by rw [bit_shl H.out _ m hm]; exact beq_self_eq_true _
  have r5 : (appV 6 (appV 7 (nrm a0 a3) m a3) m a3 == appV 8 (nrm a0 a3) (appV 19 (appV 5 (nrm (2 ^ m) a3) 1 a3) 0 a3) a3) = true := by rw [bit_clear H.out _ m hm]; exact beq_self_eq_true _
  have r6 : (appV 4 (appV 8 (nrm a0 a3) (nrm a1 a3) a3) (appV 9 (nrm a0 a3) (nrm a1 a3) a3) a3 == appV 4 (nrm a0 a3) (nrm a1 a3) a3) = true := by rw [bit_sum H.out]; exact beq_self_eq_true _
  go_enter Try.func10, Try.ntmps10
  go_wp2_with first
    | (go_at_call 18; refine (Bits_any _ _).mono ?_; rintro e w' ⟨rfl, rfl⟩)
    | (go_at_call 40; refine (Word_any H.out _ _).mono ?_; rintro e w' ⟨rfl, rfl⟩)
  refine (of_any _ _ _ _ _).mono ?_; rintro e w1 ⟨rfl, hf1⟩
  have hS := keep (w1 := w) (g := w.heap.size) (v := .int .i64 a3) hf1 ⟨by simp, (Fr.refl w).alloc _⟩
  have HS := Lib.hid hS
  clear hS
  go_wp2
  have hS := keep (Fr.drew (Fr.refl _)) HS.out
  go_region_held3 (fun W => W.cell? ⟨w.heap.size, 0, none⟩ = some (.int .i64 a3) ∧ Fr w W) (first | exact hS | exact keep (by assumption) (by assumption)) ((first | (go_at_call 41; refine (of_any _ _ _ _ _).mono ?_; rintro e wx ⟨rfl, hfx⟩)))
  clear hS
  have hS := keep (w1 := w) (g := w.heap.size) (v := .int .i64 a3) (Fr.refl _) (by assumption)
  go_wp2
  go_loopw [13, 14] (fun p i wr => ∃ k : Nat, k ≤ m ∧ i = .int .i64 k ∧ p = .int .i64 (nrm (2 ^ k) a3) ∧ wr.cell? ⟨w.heap.size, 0, none⟩ = some (.int .i64 a3) ∧ Fr w wr) (fun _ i _ => m - (intOf i).toNat)
  case atStart => exact ⟨0, Nat.zero_le _, rfl, by rw [show ((2 : Int) ^ 0) = 1 from rfl, nar_small H.out (by decide) (by decide)], hS.1, hS.2⟩
  case round =>
    obtain ⟨k, hk, rfl, rfl, hc, hfr⟩ := hrel
    by_cases hlt : k < m
    · have HC := Lib.hid hc
      go_wp2_with fail
      refine (of_any _ _ _ _ _).mono ?_; rintro e w2 ⟨rfl, hf2⟩
      rw [bit_double H.out]
      clear hc
      go_wp2_with fail
      go_roundw
      case rel => exact ⟨k + 1, by omega, by go_num, rfl, hf2.cell HC.out, hfr.trans hf2⟩
      case measure => simp [intOf]; omega
    · obtain rfl : k = m := by omega
      go_wp2_with fail
      refine (of_any _ _ _ _ _).mono ?_; rintro e w2 ⟨rfl, hf2⟩
      have hc2 := hf2.cell hc
      have hfr2 := hfr.trans hf2
      clear hc hS
      go_wp2_with fail
      refine (of_any _ _ _ _ _).mono ?_; rintro e w3 ⟨rfl, hf3⟩
      have hS := keep (Fr.drew (Fr.refl _)) (keep hf3 ⟨hc2, hfr2⟩)
      clear hc2
      go_wp2
      go_region_held3 (fun W => W.cell? ⟨w.heap.size, 0, none⟩ = some (.int .i64 a3) ∧ Fr w W) (first | exact hS | exact keep (by assumption) (by assumption)) ((first | (go_at_call 41; refine (of_any _ _ _ _ _).mono ?_; rintro e wx ⟨rfl, hfx⟩) | (go_at_call 19; refine (awake_any _).mono ?_; rintro e wx ⟨rfl, hfx⟩)))
      have hl := last (w1 := w) (g := w.heap.size) (v := .int .i64 a3) (Fr.refl _) (by assumption)
      clear hS
      go_wp2
      go_ret
      exact ⟨rfl, hl⟩

theorem walk (a0 : Int) (a1 : Int) (a2 : Int) (a3 : Int) (w0 : (Lit.int .i64 a0).wf = true) (w1 : (Lit.int .i64 a1).wf = true) (w2 : (Lit.int .i64 a2).wf = true) (w3 : (Lit.int .i64 a3).wf = true) (w : World) :
    Calls Try.prog 10 #[.int .i64 a0, .int .i64 a1, .int .i64 a2, .int .i64 a3] w fun e w' => e = .returned (.bool true) ∧ Fr w w' := by
  rcases Bool.eq_false_or_eq_true (okB a3) with h | h
  · by_cases g1 : a2 < 0
    · go_enter Try.func10, Try.ntmps10
      go_wp2_with (go_at_call 18; refine (Bits_any _ _).mono ?_; rintro e w' ⟨rfl, rfl⟩)
      go_ret
      exact ⟨rfl, Fr.refl _⟩
    · by_cases g2 : a3 ≤ a2
      · go_enter Try.func10, Try.ntmps10
        go_wp2_with (go_at_call 18; refine (Bits_any _ _).mono ?_; rintro e w' ⟨rfl, rfl⟩)
        go_ret
        exact ⟨rfl, Fr.refl _⟩
      · obtain ⟨m, rfl⟩ := Int.eq_ofNat_of_zero_le (show 0 ≤ a2 by omega)
        exact inside a0 a1 a3 m h (by omega) w
  · go_enter Try.func10, Try.ntmps10
    go_wp2_with (go_at_call 18; refine (Bits_any _ _).mono ?_; rintro e w' ⟨rfl, rfl⟩)
    go_ret
    exact ⟨rfl, Fr.refl _⟩

set_option maxRecDepth 100000 in
theorem lifted (os : Os) (started : os.Started) (H : Type) (enc : TypeId × Value → H) :
    ReturnsInHanded {} Try.checked os 10 .any (Rows.wordBitsSpec.pre6 enc Try.prog Try.f10 Rows.wordBitsRow.domain false) (Rows.wordBitsSpec.post enc Try.prog Try.f10 false true false false) := by
  refine returnsInHanded_of_change (C := Try.checked) own started (by kernel_rfl) Try.func10
    (ChangeSpec.witness6 (enc := enc) (C := Try.checked) false ⟨#[], #[.int .i64 0, .int .i64 0, .int .i64 0, .int .i64 0], []⟩ 8 (by kernel_rfl) (by kernel_rfl) (by kernel_rfl) (by kernel_rfl)) ?_
  intro W base args ds gs before hval0 hW hcnd _
  have hval : ∀ (j : Nat) t v, Try.f10.params[j]? = some t → args[j]? = some v → Value.okWide Try.prog W .any base t v := hval0
  have hW' := hW
  obtain ⟨p, q, hA0, hV, rfl, hfz, hnd⟩ := hW
  have hA : DataW.TrodAll enc Try.prog W 0 (fun _ => true) true Try.f10.params.toList args.toList ds p := hA0
  rw [Try.params10] at hA hval
  obtain ⟨v0, vs0, d0, ds0, p0, q0, hargs, rfl, rfl, h0, r0⟩ := trodAll_cons hA
  obtain ⟨v1, vs1, d1, ds1, p1, q1, rfl, rfl, rfl, h1, r1⟩ := trodAll_cons r0
  obtain ⟨v2, vs2, d2, ds2, p2, q2, rfl, rfl, rfl, h2, r2⟩ := trodAll_cons r1
  obtain ⟨v3, vs3, d3, ds3, p3, q3, rfl, rfl, rfl, h3, r3⟩ := trodAll_cons r2
  obtain ⟨rfl, rfl, rfl⟩ := trodAll_nil r3
  obtain rfl : args = #[v0, v1, v2, v3] := by cases args; simp_all
  obtain ⟨rfl, rfl⟩ := trodVars_none hV
  obtain ⟨a0, rfl, rfl, rfl, w0⟩ := open_int Try.underlying3 (hval 0 3 v0 rfl rfl) h0
  obtain ⟨a1, rfl, rfl, rfl, w1⟩ := open_int Try.underlying3 (hval 1 3 v1 rfl rfl) h1
  obtain ⟨a2, rfl, rfl, rfl, w2⟩ := open_int Try.underlying3 (hval 2 3 v2 rfl rfl) h2
  obtain ⟨a3, rfl, rfl, rfl, w3⟩ := open_int Try.underlying3 (hval 3 3 v3 rfl rfl) h3
  clear hA0 hval0
  simp only [List.append_nil] at hW'
  refine (walk a0 a1 a2 a3 w0 w1 w2 w3 W).mono fun e W' ⟨he, hg⟩ => ?_
  subst he
  exact ⟨_, rfl, post_fr (pa := []) (pv := []) hW' hg (fun _ _ _ => (trodAll_cons_mk (shut_bool Try.underlying4 _) trodAll_mk0)) (fun sp _ => (trodAll_cons_mk (shut_int Try.underlying3 w0) (trodAll_cons_mk (shut_int Try.underlying3 w1) (trodAll_cons_mk (shut_int Try.underlying3 w2) (trodAll_cons_mk (shut_int Try.underlying3 w3) trodAll_mk0))))) (fun _ _ => rfl)⟩

theorem proved : Rows.WordBitsSaid :=
  OpenClaim.holds_of_wide 10 Try.f10 rfl rfl rfl rfl rfl rfl rfl ⟨rfl, rfl, rfl, rfl, rfl⟩ rfl rfl rfl rfl rfl (by kernel_rfl) Try.func10 (by kernel_rfl)
    (of_decide_eq_true (by kernel_rfl)) (by unfold Func.isWrapper; first | (rw [if_pos (by decide +kernel)]; kernel_rfl) | (rw [if_neg (by decide +kernel)]; exact ⟨rfl, rfl⟩))
    (fun os started H enc _ => lifted os started H enc)
#print axioms proved
end Go.Proofs.Ytgnhighlkpgjiaa.wordBits
