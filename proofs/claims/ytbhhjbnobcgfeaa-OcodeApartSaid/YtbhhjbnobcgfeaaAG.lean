/- The walk of OcodeAgain. -/
import Derived.Test.YtbhhjbnobcgfeaaCN
import Derived.Test.YtbhhjbnobcgfeaaFN
import Derived.Test.YtbhhjbnobcgfeaaSN6
namespace Go.Proofs.Ytbhhjbnobcgfeaa
open Go.RowKit
set_option linter.unusedVariables false
set_option linter.unusedSimpArgs false

theorem renC_wf {c : Cod} (hw : wfC c) (h0 : exE c = 0) : wfC (renC c) := by
  have h1 := renC_ok h0
  obtain ⟨lb, hlb, hok⟩ := instr_ok (ex_lim h1).2
  have h20 := lim_ok (ex_lim h1).1
  refine ⟨hw.name, hw.data, fun x hx => ?_, hw.gl, hw.procs, ?_, hw.dlen, by omega, hw.glen⟩
  · have hb := hok.bd x hx
    have hop : wf64 x.op := by
      have hx2 : x ∈ c.ops.map (reO (fun x => (nmL c.ops).2 x.toNat)) := hx
      obtain ⟨y, hy, rfl⟩ := List.mem_map.1 hx2
      rw [reO_op]
      exact (hw.ops y hy).1
    exact ⟨hop, by unfold wf64; omega, by unfold wf64; omega⟩
  · rw [hlb]; unfold wf64; omega
theorem cod_val {c : Cod} {dv ov gv : Value} {w : World} (h : CodW w c dv ov gv) : ∃ nm da ld dc oa lo oc ga lg gc p l, codV c dv ov gv = .agg #[.string nm, .slice da ld dc, .slice oa lo oc, .slice ga lg gc, .int .i64 p, .int .i64 l] ∧ lo = c.ops.length := by
  obtain ⟨da, dc, hdv, _, _, _⟩ := h.d.form
  obtain ⟨oa, oc, hov, _, _, _⟩ := h.o.form
  obtain ⟨ga, gc, hgv, _, _, _⟩ := h.g.form
  exact ⟨c.name, da, c.data.length, dc, oa, c.ops.length, oc, ga, c.gl.length, gc, c.procs, c.labels, by unfold codV; rw [hdv, hov, hgv], rfl⟩
theorem row_intsR {w : World} {g n : Nat} {f : Nat → Int} (h : w.rowIs g 3 n (fun k => .int .i64 (f k))) (hn : n ≤ maxLen) : IntsV w (.slice (some ⟨g, 0, none⟩) n n) ((List.range n).map f) := by
  have hl : ((List.range n).map f).length = n := by simp
  refine ⟨some ⟨g, 0, none⟩, n, by rw [hl], by rw [hl]; exact Nat.le_refl _, hn, fun e => (by cases e), fun _ => ⟨g, 0, rfl, fun i x hx => ?_⟩⟩
  obtain ⟨hi, rfl⟩ := List.getElem?_eq_some_iff.1 hx
  rw [hl] at hi
  have h1 := h.cell hi
  unfold InC
  rw [Nat.zero_add, Nat.mul_one, h1]
  simp
set_option maxRecDepth 100000 in
set_option maxHeartbeats 20000000 in
theorem again_walk (c : Cod) (dv ov gv : Value) (w : World) (hc : CodW w c dv ov gv) (hw : wfC c) :
    Calls Try.prog 8 #[codV c dv ov gv] w fun e w' => e = .returned (.bool true) ∧ Fr w w' := by
  have CH := Lib.hid (fun W (h : Fr w W) => heavy_any c dv ov gv W (hc.fr h) hw)
  have HSM : Hid (hvC c = false → c.name.size ≤ 2000000 ∧ (∀ x ∈ c.data, x.t.size ≤ 2000000) ∧ c.gl.length ≤ 2000000 ∧ ∀ x ∈ c.data, x.ws.length ≤ 2000000) := Lib.hid (fun hv => by
    have h1 := hvC_small hv
    have h2 : hvGo c.name.size c.data ≤ 2000 := by
      simp only [hvC, Bool.or_eq_false_iff, decide_eq_false_iff_not] at hv
      omega
    refine ⟨by omega, fun x hx => by have := h1.2.1 x hx; omega, by omega, fun x hx => by have := hvGo_ws _ _ h2 x hx; omega⟩)
  have CD := Lib.hid (fun W (h : Fr w W) (hv : hvC c = false) => Depths_any c dv ov gv W (hc.fr h) hw (HSM.out hv).1 (HSM.out hv).2.1)
  have CR := Lib.hid (fun W (h : Fr w W) (hv : hvC c = false) => Room_any c dv ov gv W (hc.fr h) hw (HSM.out hv).1 (HSM.out hv).2.1)
  have CN := Lib.hid (fun W (h : Fr w W) (hv : hvC c = false) => Renumber_any c dv ov gv W (hc.fr h) hw (HSM.out hv).1 (HSM.out hv).2.1 (HSM.out hv).2.2.1 (HSM.out hv).2.2.2)
  have HWF := Lib.hid hw
  obtain ⟨R, hR⟩ : ∃ y, y = hvC c := ⟨_, rfl⟩
  rw [← hR] at CH CD CR CN HSM
  obtain ⟨nm, da, ld, dc, oa, lo, oc, ga, lg, gc, pr, lb, hA, hlo⟩ := cod_val hc
  rw [hA] at CH CD CR CN ⊢
  have HLO := Lib.hid hlo
  obtain ⟨w0, hw0⟩ : ∃ w0, w0 = w.alloc (.cells #[.string nm, .slice da ld dc, .slice oa lo oc, .slice ga lg gc, .int .i64 pr, .int .i64 lb] 26) := ⟨_, rfl⟩
  have HF0 : Hid (Fr w w0) := Lib.hid (by rw [hw0]; exact (Fr.refl w).alloc _)
  have HCB : Hid (CdR w0 w.heap.size (.string nm) (.slice da ld dc) (.slice oa lo oc) (.slice ga lg gc) (.int .i64 pr) (.int .i64 lb)) := Lib.hid (by rw [hw0]; exact CdR.new w _ _ _ _ _ _)
  have HW0 := Lib.hid hw0
  obtain ⟨k0, k1, k2, k3, k4, k5⟩ := HCB.out.cells
  rw [hw0] at k0 k1 k2 k3 k4 k5
  clear hc hw hw0 hR hA hlo
  go_enter Try.func8, Try.ntmps8
  go_wp2_with fail
  try rw [← HW0.out]
  clear k0 k1 k2 k3 k4 k5
  refine (CH.out _ HF0.out).mono ?_
  rintro e w1 ⟨rfl, hf1⟩
  have HF1 : Hid (Fr w w1) := Lib.hid (HF0.out.trans hf1)
  have HC1 := Lib.hid (HCB.out.fr hf1)
  clear hf1
  cases R with
  | true =>
    go_wp2_with fail
    refine (awake_any _).mono ?_
    rintro e w2 ⟨rfl, hf2⟩
    have HF2 : Hid (Fr w w2) := Lib.hid (HF1.out.trans hf2)
    go_wp2_with fail
    go_ret
    exact ⟨rfl, HF2.out⟩
  | false =>
    have CD2 := Lib.hid (fun W h => CD.out W h rfl)
    have CR2 := Lib.hid (fun W h => CR.out W h rfl)
    have CN2 := Lib.hid (fun W h => CN.out W h rfl)
    have HSM2 := Lib.hid (HSM.out rfl)
    clear CD CR CN HSM
    obtain ⟨k0, k1, k2, k3, k4, k5⟩ := HC1.out.cells
    go_wp2_with fail
    refine (CN2.out _ HF1.out).mono ?_
    rintro e w2 ⟨hP, hf2⟩
    have HF2 : Hid (Fr w w2) := Lib.hid (HF1.out.trans hf2)
    have HC2 := Lib.hid (HC1.out.fr hf2)
    clear k0 k1 k2 k3 k4 k5
    clear hf2
    by_cases h0 : exE c = 0
    · obtain ⟨dv2, ov2, gv2, rfl, hc2⟩ := hP.1 h0
      have H0 := Lib.hid h0
      obtain ⟨D, hD⟩ : ∃ y, y = renC c := ⟨_, rfl⟩
      have HDD := Lib.hid hD
      rw [← hD] at hc2 ⊢
      have HD0 : Hid (exE D = 0) := Lib.hid (by rw [hD]; exact renC_ok h0)
      have HDT : Hid (renC D = D) := Lib.hid (by rw [hD]; exact renC_twice h0)
      have HDW : Hid (wfC D) := Lib.hid (by rw [hD]; exact renC_wf HWF.out h0)
      have HSD : Hid (D.name.size ≤ 2000000 ∧ (∀ x ∈ D.data, x.t.size ≤ 2000000) ∧ D.gl.length ≤ 2000000 ∧ ∀ x ∈ D.data, x.ws.length ≤ 2000000) := Lib.hid (by rw [hD]; exact HSM2.out)
      have HDL : Hid (D.ops.length = c.ops.length) := Lib.hid (by rw [hD]; exact renC_len c)
      have HDP : Hid (D.procs = c.procs) := Lib.hid (by rw [hD]; rfl)
      have HDD1 : Hid (depL 0 D.ops = depL 0 c.ops) := Lib.hid (by rw [hD]; exact renC_depL c)
      have HDD2 : Hid (rmL D.ops = rmL c.ops) := Lib.hid (by rw [hD]; exact renC_rmL c)
      have CN3 := Lib.hid (fun W (h : Fr w2 W) => Renumber_any D dv2 ov2 gv2 W (hc2.fr h) HDW.out HSD.out.1 HSD.out.2.1 HSD.out.2.2.1 HSD.out.2.2.2)
      have CD3 := Lib.hid (fun W (h : Fr w2 W) => Depths_any D dv2 ov2 gv2 W (hc2.fr h) HDW.out HSD.out.1 HSD.out.2.1)
      have CR3 := Lib.hid (fun W (h : Fr w2 W) => Room_any D dv2 ov2 gv2 W (hc2.fr h) HDW.out HSD.out.1 HSD.out.2.1)
      have CS3 := Lib.hid (fun W (h : Fr w2 W) (dv4 ov4 gv4 : Value) (h4 : CodW W D dv4 ov4 gv4) => Same_any D D dv2 ov2 gv2 dv4 ov4 gv4 W (hc2.fr h) h4 HDW.out HDW.out)
      obtain ⟨nm2, da2, ld2, dc2, oa2, lo2, oc2, ga2, lg2, gc2, pr2, lb2, hA2, hlo2⟩ := cod_val hc2
      rw [hA2] at CN3 CD3 CR3 CS3 ⊢
      obtain rfl : lo2 = lo := by rw [hlo2, HDL.out]; exact HLO.out.symm
      obtain ⟨w3, hw3⟩ : ∃ y, y = w2.alloc (.cells #[.string nm2, .slice da2 ld2 dc2, .slice oa2 lo2 oc2, .slice ga2 lg2 gc2, .int .i64 pr2, .int .i64 lb2] 26) := ⟨_, rfl⟩
      have HR3 : Hid (CdR w3 w2.heap.size (.string nm2) (.slice da2 ld2 dc2) (.slice oa2 lo2 oc2) (.slice ga2 lg2 gc2) (.int .i64 pr2) (.int .i64 lb2)) := Lib.hid (by rw [hw3]; exact CdR.new w2 _ _ _ _ _ _)
      have HF3 : Hid (Fr w2 w3) := Lib.hid (by rw [hw3]; exact (Fr.refl w2).alloc _)
      have HW3 := Lib.hid hw3
      clear h0 hP hD hc2 hA2 hlo2 hw3
      go_wp2_with fail
      rw [← HW3.out]
      refine (CN3.out _ HF3.out).mono ?_
      rintro e w4 ⟨hP4, hf4⟩
      obtain ⟨dv4, ov4, gv4, rfl, hc4⟩ := hP4.1 HD0.out
      rw [HDT.out] at hc4 ⊢
      have HF4 := Lib.hid (HF3.out.trans hf4)
      have HR4 := Lib.hid (HR3.out.fr hf4)
      have HC4 := Lib.hid (HC2.out.fr HF4.out)
      have CS4 := Lib.hid (fun W (h : Fr w4 W) => CS3.out W (HF4.out.trans h) dv4 ov4 gv4 (hc4.fr h))
      obtain ⟨nm4, da4, ld4, dc4, oa4, lo4, oc4, ga4, lg4, gc4, pr4, lb4, hA4, hlo4⟩ := cod_val hc4
      rw [hA4] at CS4 ⊢
      obtain ⟨w5, hw5⟩ : ∃ y, y = w4.alloc (.cells #[.string nm4, .slice da4 ld4 dc4, .slice oa4 lo4 oc4, .slice ga4 lg4 gc4, .int .i64 pr4, .int .i64 lb4] 26) := ⟨_, rfl⟩
      have HR5 : Hid (CdR w5 w4.heap.size (.string nm4) (.slice da4 ld4 dc4) (.slice oa4 lo4 oc4) (.slice ga4 lg4 gc4) (.int .i64 pr4) (.int .i64 lb4)) := Lib.hid (by rw [hw5]; exact CdR.new w4 _ _ _ _ _ _)
      have HF5 : Hid (Fr w4 w5) := Lib.hid (by rw [hw5]; exact (Fr.refl w4).alloc _)
      have HW5 := Lib.hid hw5
      obtain ⟨j0, j1, j2, j3, j4, j5⟩ := (HC4.out.fr HF5.out).cells
      rw [hw5] at j0 j1 j2 j3 j4 j5
      clear hf4 hP4 hc4 hA4 hlo4 hw5
      go_wp2_with fail
      rw [← HW5.out]
      clear j0 j1 j2 j3 j4 j5
      have HF25 := Lib.hid (HF4.out.trans HF5.out)
      refine (CD2.out _ (HF2.out.trans HF25.out)).mono ?_
      rintro e w6 ⟨hP6, hf6⟩
      obtain ⟨g6, rfl, _, hrow6⟩ := hP6.1 H0.out
      have HROW6 := Lib.hid hrow6
      have HF6 := Lib.hid (HF25.out.trans hf6)
      have HR36 := Lib.hid (HR3.out.fr ((Fr.refl w3)))
      have HX6 := Lib.hid ((HR4.out.fr HF5.out).fr hf6)
      have HY6 := Lib.hid (HR5.out.fr hf6)
      have HC6 := Lib.hid ((HC4.out.fr HF5.out).fr hf6)
      have HF46 := Lib.hid (HF5.out.trans hf6)
      clear hf6 hP6 hrow6 HR36
      rw [← HLO.out]
      obtain ⟨j0, j1, j2, j3, j4, j5⟩ := HX6.out.cells
      go_wp2_with fail
      refine (CD3.out _ HF6.out).mono ?_
      rintro e w7 ⟨hP7, hf7⟩
      obtain ⟨g7, rfl, _, hrow7⟩ := hP7.1 HD0.out
      rw [HDD1.out, HDL.out] at hrow7
      have HROW7 := Lib.hid hrow7
      have HF7 := Lib.hid (HF6.out.trans hf7)
      have HX7 := Lib.hid (HX6.out.fr hf7)
      have HY7 := Lib.hid (HY6.out.fr hf7)
      have HC7 := Lib.hid (HC6.out.fr hf7)
      have HQ7 := Lib.hid (hf7.row HROW6.out)
      have HF47 := Lib.hid (HF46.out.trans hf7)
      clear hf7 hP7 hrow7 j0 j1 j2 j3 j4 j5
      rw [HDL.out, ← HLO.out]
      obtain ⟨k0, k1, k2, k3, k4, k5⟩ := HC7.out.cells
      go_wp2_with fail
      refine (CR2.out _ (HF2.out.trans HF7.out)).mono ?_
      rintro e w8 ⟨hP8, hf8⟩
      obtain ⟨g8, rfl, _, hrow8⟩ := hP8.1 H0.out
      have HROW8 := Lib.hid hrow8
      have HF8 := Lib.hid (HF7.out.trans hf8)
      have HX8 := Lib.hid (HX7.out.fr hf8)
      have HY8 := Lib.hid (HY7.out.fr hf8)
      have HC8 := Lib.hid (HC7.out.fr hf8)
      have HQ8 := Lib.hid (And.intro (hf8.row HQ7.out) (hf8.row HROW7.out))
      have HF48 := Lib.hid (HF47.out.trans hf8)
      clear hf8 hP8 hrow8 k0 k1 k2 k3 k4 k5
      obtain ⟨np, hnp⟩ : ∃ y, y = c.procs.toNat := ⟨_, rfl⟩
      have HNP := Lib.hid hnp
      rw [← hnp] at HROW8 ⊢
      clear hnp
      obtain ⟨j0, j1, j2, j3, j4, j5⟩ := HX8.out.cells
      go_wp2_with fail
      refine (CR3.out _ HF8.out).mono ?_
      rintro e w9 ⟨hP9, hf9⟩
      obtain ⟨g9, rfl, _, hrow9⟩ := hP9.1 HD0.out
      rw [HDD2.out, HDP.out, ← HNP.out] at hrow9
      rw [HDP.out, ← HNP.out]
      have HF9 := Lib.hid (HF8.out.trans hf9)
      have HX9 := Lib.hid (HX8.out.fr hf9)
      have HY9 := Lib.hid (HY8.out.fr hf9)
      have HC9 := Lib.hid (HC8.out.fr hf9)
      have HF49 := Lib.hid (HF48.out.trans hf9)
      have hlm : c.ops.length ≤ 40000 := (lim_ok (ex_lim H0.out).1).1
      have hpm : np ≤ 200 := by have := (lim_ok (ex_lim H0.out).1).2.2.1; have := HNP.out; omega
      have HI6 := Lib.hid (row_intsR (hf9.row HQ8.out.1) (by unfold maxLen; omega))
      have HI7 := Lib.hid (row_intsR (hf9.row HQ8.out.2) (by unfold maxLen; omega))
      have HI8 := Lib.hid (row_intsR (hf9.row HROW8.out) (by unfold maxLen; omega))
      have HI9 := Lib.hid (row_intsR hrow9 (by unfold maxLen; omega))
      have CE1 := Lib.hid (fun W (h : Fr w9 W) => EqInts_any _ _ _ _ W (HI6.out.fr' h) (HI7.out.fr' h) (by simp; omega) (by simp; omega))
      have CE2 := Lib.hid (fun W (h : Fr w9 W) => EqInts_any _ _ _ _ W (HI8.out.fr' h) (HI9.out.fr' h) (by simp; omega) (by simp; omega))
      rw [(eqI_iff _ _).2 rfl, ← HLO.out] at CE1
      rw [(eqI_iff _ _).2 rfl] at CE2
      rw [eqC_refl] at CS4
      clear hf9 hP9 hrow9 j0 j1 j2 j3 j4 j5 hlm hpm
      obtain ⟨j0, j1, j2, j3, j4, j5⟩ := HX9.out.cells
      obtain ⟨i0, i1, i2, i3, i4, i5⟩ := HY9.out.cells
      go_wp2_with fail
      refine (CS4.out _ HF49.out).mono ?_
      rintro e wa ⟨rfl, hfa⟩
      have HFA := Lib.hid hfa
      clear hfa j0 j1 j2 j3 j4 j5 i0 i1 i2 i3 i4 i5
      go_wp2_with fail
      refine (CE1.out _ HFA.out).mono ?_
      rintro e wb ⟨rfl, hfb⟩
      have HFB := Lib.hid (HFA.out.trans hfb)
      clear hfb
      go_wp2_with fail
      refine (CE2.out _ HFB.out).mono ?_
      rintro e wc ⟨rfl, hfc⟩
      have HFC := Lib.hid (HFB.out.trans hfc)
      clear hfc
      have x2 := (HX9.out.fr HFC.out).cells.2.2.1
      have y2 := (HC9.out.fr HFC.out).cells.2.2.1
      have n1 : ((lo2 : Int) == (lo2 : Int)) = true := beq_self_eq_true _
      go_wp2_with fail
      refine (awake_any _).mono ?_
      rintro e wd ⟨rfl, hfd⟩
      have HFD := Lib.hid ((HF2.out.trans HF9.out).trans (HFC.out.trans hfd))
      clear hfd
      go_wp2_with fail
      go_ret
      exact ⟨rfl, HFD.out⟩
    · obtain rfl := hP.2 h0
      have e1 : ((exE c : Int) != 0) = true := by rw [bne_iff_ne]; omega
      obtain ⟨E, hE⟩ : ∃ y, y = exE c := ⟨_, rfl⟩
      rw [← hE] at e1 ⊢
      clear h0 hP hE
      go_wp2_with fail
      refine (awake_any _).mono ?_
      rintro e w5 ⟨rfl, hf5⟩
      have HF5 : Hid (Fr w w5) := Lib.hid (HF2.out.trans (((Fr.refl w2).alloc _).trans hf5))
      go_wp2_with fail
      go_ret
      exact ⟨rfl, HF5.out⟩
end Go.Proofs.Ytbhhjbnobcgfeaa
