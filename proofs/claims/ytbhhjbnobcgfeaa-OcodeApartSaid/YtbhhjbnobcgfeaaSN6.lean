/- The code's Same. -/
import Derived.Test.YtbhhjbnobcgfeaaSM
namespace Go.Proofs.Ytbhhjbnobcgfeaa
open Go.RowKit
set_option linter.unusedVariables false
set_option linter.unusedSimpArgs false

set_option maxRecDepth 100000 in
set_option maxHeartbeats 8000000 in
theorem Same_any (a b : Cod) (dv ov gv dv2 ov2 gv2 : Value) (w : World) (ha : CodW w a dv ov gv) (hb : CodW w b dv2 ov2 gv2) (wa : wfC a) (wb : wfC b) :
    Calls Try.prog 16 #[codV a dv ov gv, codV b dv2 ov2 gv2] w fun e w' => e = .returned (.bool (eqC a b)) ∧ Fr w w' := by
  have CO := Lib.hid (fun W (h : Fr w W) => EqOp_any a.ops b.ops ov ov2 W (ha.o.fr' h) (hb.o.fr' h) wa.olen wb.olen)
  have CE := Lib.hid (fun W (h : Fr w W) => EqEn_any a.gl b.gl gv gv2 W (ha.g.fr' h) (hb.g.fr' h) wa.glen wb.glen)
  have CD := Lib.hid (fun W (h : Fr w W) => EqData_any a.data b.data dv dv2 W (ha.d.fr' h) (hb.d.fr' h) wa.dlen wb.dlen (fun x hx => wa.data x hx) (fun x hx => wb.data x hx))
  obtain ⟨A, hA⟩ : ∃ z, z = eqS a.name b.name := ⟨_, rfl⟩
  obtain ⟨B, hB⟩ : ∃ z, z = (a.procs == b.procs) := ⟨_, rfl⟩
  obtain ⟨C, hC⟩ : ∃ z, z = (a.labels == b.labels) := ⟨_, rfl⟩
  obtain ⟨D, hD⟩ : ∃ z, z = eqG eqO a.ops b.ops := ⟨_, rfl⟩
  obtain ⟨E, hE⟩ : ∃ z, z = eqG eqE a.gl b.gl := ⟨_, rfl⟩
  obtain ⟨F, hF⟩ : ∃ z, z = eqG eqD a.data b.data := ⟨_, rfl⟩
  have HR : Hid (eqC a b = (A && B && C && D && E && F)) := Lib.hid (by unfold eqC; rw [hA, hB, hC, hD, hE, hF])
  rw [HR.out]
  rw [← hD] at CO
  rw [← hE] at CE
  rw [← hF] at CD
  obtain ⟨da, dc, hdv, _, _, _⟩ := ha.d.form
  obtain ⟨oa, oc, hov, _, _, _⟩ := ha.o.form
  obtain ⟨ga, gc, hgv, _, _, _⟩ := ha.g.form
  obtain ⟨da2, dc2, hdv2, _, _, _⟩ := hb.d.form
  obtain ⟨oa2, oc2, hov2, _, _, _⟩ := hb.o.form
  obtain ⟨ga2, gc2, hgv2, _, _, _⟩ := hb.g.form
  obtain ⟨ld, hld⟩ : ∃ y, y = a.data.length := ⟨_, rfl⟩
  obtain ⟨lo, hlo⟩ : ∃ y, y = a.ops.length := ⟨_, rfl⟩
  obtain ⟨lg, hlg⟩ : ∃ y, y = a.gl.length := ⟨_, rfl⟩
  obtain ⟨ld2, hld2⟩ : ∃ y, y = b.data.length := ⟨_, rfl⟩
  obtain ⟨lo2, hlo2⟩ : ∃ y, y = b.ops.length := ⟨_, rfl⟩
  obtain ⟨lg2, hlg2⟩ : ∃ y, y = b.gl.length := ⟨_, rfl⟩
  rw [← hld] at hdv
  rw [← hlo] at hov
  rw [← hlg] at hgv
  rw [← hld2] at hdv2
  rw [← hlo2] at hov2
  rw [← hlg2] at hgv2
  subst hdv hov hgv hdv2 hov2 hgv2
  unfold codV
  have fA : (a.name.toList == b.name.toList) = A := hA.symm
  have fB : (a.procs == b.procs) = B := hB.symm
  have fC : (a.labels == b.labels) = C := hC.symm
  obtain ⟨nm, hnm⟩ : ∃ y, y = a.name := ⟨_, rfl⟩
  obtain ⟨procs, hpr⟩ : ∃ y, y = a.procs := ⟨_, rfl⟩
  obtain ⟨labels, hlb⟩ : ∃ y, y = a.labels := ⟨_, rfl⟩
  obtain ⟨nm2, hnm2⟩ : ∃ y, y = b.name := ⟨_, rfl⟩
  obtain ⟨procs2, hpr2⟩ : ∃ y, y = b.procs := ⟨_, rfl⟩
  obtain ⟨labels2, hlb2⟩ : ∃ y, y = b.labels := ⟨_, rfl⟩
  rw [← hnm, ← hnm2] at fA
  rw [← hpr, ← hpr2] at fB
  rw [← hlb, ← hlb2] at fC
  rw [← hnm, ← hpr, ← hlb, ← hnm2, ← hpr2, ← hlb2]
  obtain ⟨w2, hw2⟩ : ∃ z, z = (w.alloc (.cells #[.string nm, .slice da ld dc, .slice oa lo oc, .slice ga lg gc, .int .i64 procs, .int .i64 labels] 26)).alloc (.cells #[.string nm2, .slice da2 ld2 dc2, .slice oa2 lo2 oc2, .slice ga2 lg2 gc2, .int .i64 procs2, .int .i64 labels2] 26) := ⟨_, rfl⟩
  have HF2 : Hid (Fr w w2) := Lib.hid (by rw [hw2]; exact ((Fr.refl w).alloc _).alloc _)
  have HCA : Hid (CdB w2 w.heap.size nm (.slice da ld dc) (.slice oa lo oc) (.slice ga lg gc) procs labels) := Lib.hid (by rw [hw2]; exact (CdB.new w _ _ _ _ _ _).fr ((Fr.refl _).alloc _))
  have HCB : Hid (CdB w2 (w.heap.size + 1) nm2 (.slice da2 ld2 dc2) (.slice oa2 lo2 oc2) (.slice ga2 lg2 gc2) procs2 labels2) := Lib.hid (by
    have := CdB.new (w.alloc (.cells #[.string nm, .slice da ld dc, .slice oa lo oc, .slice ga lg gc, .int .i64 procs, .int .i64 labels] 26)) nm2 (.slice da2 ld2 dc2) (.slice oa2 lo2 oc2) (.slice ga2 lg2 gc2) procs2 labels2
    rw [← hw2] at this
    simpa using this)
  have HW2 := Lib.hid hw2
  clear ha hb wa wb hA hB hC hD hE hF hld hlo hlg hld2 hlo2 hlg2 hnm hpr hlb hnm2 hpr2 hlb2 hw2
  cases A with
  | false =>
    go_enter Try.func16, Try.ntmps16
    go_wp2_with fail
    go_ret
    try rw [← HW2.out]
    exact ⟨by first | rfl | simp, HF2.out⟩
  | true =>
  cases B with
  | false =>
    go_enter Try.func16, Try.ntmps16
    go_wp2_with fail
    go_ret
    try rw [← HW2.out]
    exact ⟨by first | rfl | simp, HF2.out⟩
  | true =>
  cases C with
  | false =>
    go_enter Try.func16, Try.ntmps16
    go_wp2_with fail
    go_ret
    try rw [← HW2.out]
    exact ⟨by first | rfl | simp, HF2.out⟩
  | true =>
    go_enter Try.func16, Try.ntmps16
    go_wp2_with fail
    rw [← HW2.out]
    refine (CO.out _ HF2.out).mono ?_
    rintro e w3 ⟨rfl, hf3⟩
    have HF3 := Lib.hid (HF2.out.trans hf3)
    have HCA3 := Lib.hid (HCA.out.fr hf3)
    have HCB3 := Lib.hid (HCB.out.fr hf3)
    clear hf3
    obtain ⟨ca0, ca1, ca2, ca3, ca4, ca5⟩ := HCA3.out
    obtain ⟨cb0, cb1, cb2, cb3, cb4, cb5⟩ := HCB3.out
    cases D with
    | false =>
      go_wp2_with fail
      go_ret
      exact ⟨by first | rfl | simp, HF3.out⟩
    | true =>
    go_wp2_with fail
    refine (CE.out _ HF3.out).mono ?_
    rintro e w4 ⟨rfl, hf4⟩
    have HF4 := Lib.hid (HF3.out.trans hf4)
    have HCA4 := Lib.hid (HCA3.out.fr hf4)
    have HCB4 := Lib.hid (HCB3.out.fr hf4)
    clear hf4 ca0 ca1 ca2 ca3 ca4 ca5 cb0 cb1 cb2 cb3 cb4 cb5
    obtain ⟨ca0, ca1, ca2, ca3, ca4, ca5⟩ := HCA4.out
    obtain ⟨cb0, cb1, cb2, cb3, cb4, cb5⟩ := HCB4.out
    cases E with
    | false =>
      go_wp2_with fail
      go_ret
      exact ⟨by first | rfl | simp, HF4.out⟩
    | true =>
    go_wp2_with fail
    refine (CD.out _ HF4.out).mono ?_
    rintro e w5 ⟨rfl, hf5⟩
    have HF5 := Lib.hid (HF4.out.trans hf5)
    clear hf5
    go_wp2_with fail
    go_ret
    exact ⟨by first | rfl | simp, HF5.out⟩
end Go.Proofs.Ytbhhjbnobcgfeaa
