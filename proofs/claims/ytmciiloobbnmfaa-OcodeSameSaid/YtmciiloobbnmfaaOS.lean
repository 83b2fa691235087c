/- The walk of OcodeSame. -/
import Derived.Test.YtmciiloobbnmfaaEC
import Derived.Deep.RegionHeld3
namespace Go.Proofs.Ytmciiloobbnmfaa
open Go.RowKit
set_option linter.unusedVariables false
set_option linter.unusedSimpArgs false

set_option maxRecDepth 100000 in
set_option maxHeartbeats 20000000 in
theorem same_walk (a : Cod) (dv ov gv : Value) (b : Cod) (dv2 ov2 gv2 : Value) (w : World) (ha : CodW w a dv ov gv) (wa : wfC a) (hb : CodW w b dv2 ov2 gv2) (wb : wfC b) :
    Calls Try.prog 7 #[codV a dv ov gv, codV b dv2 ov2 gv2] w fun e w' => e = .returned (.bool true) ∧ Fr w w' := by
  have CHA := Lib.hid (fun W (h : Fr w W) => heavy_any a dv ov gv W (ha.fr h) wa)
  have CHB := Lib.hid (fun W (h : Fr w W) => heavy_any b dv2 ov2 gv2 W (hb.fr h) wb)
  have KAB := Lib.hid (fun W (h : Fr w W) => Same_any a b dv ov gv dv2 ov2 gv2 W (ha.fr h) (hb.fr h) wa wb)
  have KBA := Lib.hid (fun W (h : Fr w W) => Same_any b a dv2 ov2 gv2 dv ov gv W (hb.fr h) (ha.fr h) wb wa)
  have KR := Lib.hid (fun W (h : Fr w W) => REqCode_any a b dv ov gv dv2 ov2 gv2 W (ha.fr h) (hb.fr h) wa wb)
  obtain ⟨P, hP⟩ : ∃ z, z = hvC a := ⟨_, rfl⟩
  obtain ⟨Q, hQ⟩ : ∃ z, z = hvC b := ⟨_, rfl⟩
  obtain ⟨D, hD⟩ : ∃ z, z = eqC a b := ⟨_, rfl⟩
  rw [← hP] at CHA
  rw [← hQ] at CHB
  rw [eqC_symm b a] at KBA
  rw [← hD] at KAB KBA KR
  obtain ⟨da, dc, hdv, _, _, _⟩ := ha.d.form
  obtain ⟨oa, oc, hov, _, _, _⟩ := ha.o.form
  obtain ⟨ga, gc, hgv, _, _, _⟩ := ha.g.form
  obtain ⟨da2, dc2, hdv2, _, _, _⟩ := hb.d.form
  obtain ⟨oa2, oc2, hov2, _, _, _⟩ := hb.o.form
  obtain ⟨ga2, gc2, hgv2, _, _, _⟩ := hb.g.form
  obtain ⟨ld, hld⟩ : ∃ y, y = a.data.length := ⟨_, rfl⟩
  obtain ⟨lo, hlo⟩ : ∃ y, y = a.ops.length := ⟨_, rfl⟩
  obtain ⟨lg, hlg⟩ : ∃ y, y = a.gl.length := ⟨_, rfl⟩
  obtain ⟨ld2, hld2⟩ : ∃ y, y = b.data.length := ⟨_, rfl⟩
  obtain ⟨lo2, hlo2⟩ : ∃ y, y = b.ops.length := ⟨_, rfl⟩
  obtain ⟨lg2, hlg2⟩ : ∃ y, y = b.gl.length := ⟨_, rfl⟩
  rw [← hld] at hdv
  rw [← hlo] at hov
  rw [← hlg] at hgv
  rw [← hld2] at hdv2
  rw [← hlo2] at hov2
  rw [← hlg2] at hgv2
  subst hdv hov hgv hdv2 hov2 hgv2
  unfold codV at CHA CHB KAB KBA KR ⊢
  obtain ⟨nm, hnm⟩ : ∃ y, y = a.name := ⟨_, rfl⟩
  obtain ⟨procs, hpr⟩ : ∃ y, y = a.procs := ⟨_, rfl⟩
  obtain ⟨labels, hlb⟩ : ∃ y, y = a.labels := ⟨_, rfl⟩
  obtain ⟨nm2, hnm2⟩ : ∃ y, y = b.name := ⟨_, rfl⟩
  obtain ⟨procs2, hpr2⟩ : ∃ y, y = b.procs := ⟨_, rfl⟩
  obtain ⟨labels2, hlb2⟩ : ∃ y, y = b.labels := ⟨_, rfl⟩
  rw [← hnm, ← hpr, ← hlb] at CHA
  rw [← hnm2, ← hpr2, ← hlb2] at CHB
  rw [← hnm, ← hpr, ← hlb, ← hnm2, ← hpr2, ← hlb2] at KAB KBA KR ⊢
  obtain ⟨w2, hw2⟩ : ∃ z, z = (w.alloc (.cells #[.string nm, .slice da ld dc, .slice oa lo oc, .slice ga lg gc, .int .i64 procs, .int .i64 labels] 26)).alloc (.cells #[.string nm2, .slice da2 ld2 dc2, .slice oa2 lo2 oc2, .slice ga2 lg2 gc2, .int .i64 procs2, .int .i64 labels2] 26) := ⟨_, rfl⟩
  have HF2 : Hid (Fr w w2) := Lib.hid (by rw [hw2]; exact ((Fr.refl w).alloc _).alloc _)
  have HCA : Hid (CdB w2 w.heap.size nm (.slice da ld dc) (.slice oa lo oc) (.slice ga lg gc) procs labels) := Lib.hid (by rw [hw2]; exact (CdB.new w _ _ _ _ _ _).fr ((Fr.refl _).alloc _))
  have HCB : Hid (CdB w2 (w.heap.size + 1) nm2 (.slice da2 ld2 dc2) (.slice oa2 lo2 oc2) (.slice ga2 lg2 gc2) procs2 labels2) := Lib.hid (by
    have := CdB.new (w.alloc (.cells #[.string nm, .slice da ld dc, .slice oa lo oc, .slice ga lg gc, .int .i64 procs, .int .i64 labels] 26)) nm2 (.slice da2 ld2 dc2) (.slice oa2 lo2 oc2) (.slice ga2 lg2 gc2) procs2 labels2
    rw [← hw2] at this
    simpa using this)
  have HW2 := Lib.hid hw2
  have HKP : Hid (∀ W', Fr w2 W' → W'.cell? ⟨w.heap.size, 0, none⟩ = some (.string nm) ∧ W'.cell? ⟨w.heap.size, 1, none⟩ = some (.slice da ld dc) ∧ W'.cell? ⟨w.heap.size, 2, none⟩ = some (.slice oa lo oc) ∧ W'.cell? ⟨w.heap.size, 3, none⟩ = some (.slice ga lg gc) ∧ W'.cell? ⟨w.heap.size, 4, none⟩ = some (.int .i64 procs) ∧ W'.cell? ⟨w.heap.size, 5, none⟩ = some (.int .i64 labels) ∧ W'.cell? ⟨w.heap.size + 1, 0, none⟩ = some (.string nm2) ∧ W'.cell? ⟨w.heap.size + 1, 1, none⟩ = some (.slice da2 ld2 dc2) ∧ W'.cell? ⟨w.heap.size + 1, 2, none⟩ = some (.slice oa2 lo2 oc2) ∧ W'.cell? ⟨w.heap.size + 1, 3, none⟩ = some (.slice ga2 lg2 gc2) ∧ W'.cell? ⟨w.heap.size + 1, 4, none⟩ = some (.int .i64 procs2) ∧ W'.cell? ⟨w.heap.size + 1, 5, none⟩ = some (.int .i64 labels2)) := Lib.hid (fun W' h => by
    obtain ⟨ca0, ca1, ca2, ca3, ca4, ca5⟩ := HCA.out.fr h
    obtain ⟨cb0, cb1, cb2, cb3, cb4, cb5⟩ := HCB.out.fr h
    exact ⟨ca0, ca1, ca2, ca3, ca4, ca5, cb0, cb1, cb2, cb3, cb4, cb5⟩)
  have e1 : (D == D) = true := beq_self_eq_true _
  clear ha hb wa wb hP hQ hD hld hlo hlg hld2 hlo2 hlg2 hnm hpr hlb hnm2 hpr2 hlb2 hw2
  go_enter Try.func7, Try.ntmps7
  go_wp2_with fail
  rw [← HW2.out]
  refine (CHA.out _ HF2.out).mono ?_
  rintro e w3 ⟨rfl, hf3⟩
  have HX3 := Lib.hid hf3
  have HF3 := Lib.hid (HF2.out.trans hf3)
  obtain ⟨k0, k1, k2, k3, k4, k5, k6, k7, k8, k9, k10, k11⟩ := HKP.out _ hf3
  clear hf3
  cases P with
  | true =>
    go_wp2_with fail
    refine (awake_any _).mono ?_
    rintro e w4 ⟨rfl, hf4⟩
    have HF4 := Lib.hid (HF3.out.trans hf4)
    clear hf4
    go_wp2_with fail
    go_ret
    exact ⟨rfl, HF4.out⟩
  | false =>
    go_wp2_with fail
    refine (CHB.out _ HF3.out).mono ?_
    rintro e w4 ⟨rfl, hf4⟩
    have HX4 := Lib.hid (HX3.out.trans hf4)
    have HF4 := Lib.hid (HF3.out.trans hf4)
    clear hf4 k0 k1 k2 k3 k4 k5 k6 k7 k8 k9 k10 k11
    obtain ⟨k0, k1, k2, k3, k4, k5, k6, k7, k8, k9, k10, k11⟩ := HKP.out _ HX4.out
    cases Q with
    | true =>
      go_wp2_with fail
      refine (awake_any _).mono ?_
      rintro e w5 ⟨rfl, hf5⟩
      have HF5 := Lib.hid (HF4.out.trans hf5)
      clear hf5
      go_wp2_with fail
      go_ret
      exact ⟨rfl, HF5.out⟩
    | false =>
      go_wp2_with fail
      have hq0 : Fr w2 w4.drew := HX4.out.drew
      clear k0 k1 k2 k3 k4 k5 k6 k7 k8 k9 k10 k11
      go_region_held3 (fun W' => W'.cell? ⟨w.heap.size, 0, none⟩ = some (.string nm) ∧ W'.cell? ⟨w.heap.size, 1, none⟩ = some (.slice da ld dc) ∧ W'.cell? ⟨w.heap.size, 2, none⟩ = some (.slice oa lo oc) ∧ W'.cell? ⟨w.heap.size, 3, none⟩ = some (.slice ga lg gc) ∧ W'.cell? ⟨w.heap.size, 4, none⟩ = some (.int .i64 procs) ∧ W'.cell? ⟨w.heap.size, 5, none⟩ = some (.int .i64 labels) ∧ W'.cell? ⟨w.heap.size + 1, 0, none⟩ = some (.string nm2) ∧ W'.cell? ⟨w.heap.size + 1, 1, none⟩ = some (.slice da2 ld2 dc2) ∧ W'.cell? ⟨w.heap.size + 1, 2, none⟩ = some (.slice oa2 lo2 oc2) ∧ W'.cell? ⟨w.heap.size + 1, 3, none⟩ = some (.slice ga2 lg2 gc2) ∧ W'.cell? ⟨w.heap.size + 1, 4, none⟩ = some (.int .i64 procs2) ∧ W'.cell? ⟨w.heap.size + 1, 5, none⟩ = some (.int .i64 labels2))
        (first | exact HKP.out _ (by assumption))
        ((first
        | (go_at_call 16; with_reducible refine (KAB.out _ (HF2.out.trans (by assumption))).mono ?_; rintro e wx ⟨rfl, hfx⟩; have hqx := Fr.trans (by assumption : Fr w2 _) hfx)
        | (go_at_call 16; with_reducible refine (KBA.out _ (HF2.out.trans (by assumption))).mono ?_; rintro e wx ⟨rfl, hfx⟩; have hqx := Fr.trans (by assumption : Fr w2 _) hfx)
        | (go_at_call 26; with_reducible refine (KR.out _ (HF2.out.trans (by assumption))).mono ?_; rintro e wx ⟨rfl, hfx⟩; have hqx := Fr.trans (by assumption : Fr w2 _) hfx)
        | (go_at_call 13; refine (awake_any _).mono ?_; rintro e wx ⟨rfl, hfx⟩; have hqx := Fr.trans (by assumption : Fr w2 _) hfx)))
      all_goals
        have HFX : Hid (Fr w wx) := Lib.hid (HF2.out.trans (by assumption))
        go_wp2_with fail
        first | go_ret | skip
        exact ⟨rfl, HFX.out⟩
end Go.Proofs.Ytmciiloobbnmfaa
