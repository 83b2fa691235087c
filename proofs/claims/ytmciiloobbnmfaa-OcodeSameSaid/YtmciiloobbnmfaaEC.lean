/- The reference's EqCode. -/
import Derived.Test.YtmciiloobbnmfaaSN6
namespace Go.Proofs.Ytmciiloobbnmfaa
open Go.RowKit
set_option linter.unusedVariables false
set_option linter.unusedSimpArgs false

set_option maxRecDepth 100000 in
set_option maxHeartbeats 4000000 in
theorem REqInts_q (l q : List Int) (v1 v2 : Value) (w : World) (h1 : IntsV w v1 l) (h2 : IntsV w v2 q) (hb1 : l.length ≤ 140737488351232) (hb2 : q.length ≤ 140737488351232) :
    Calls Try.prog 23 #[v1, v2] w fun e w' => e = .returned (.bool (eqG eqN l q)) ∧ ∃ m, w' = w.drewN m := by
  have HV := Lib.hid h1
  have HU := Lib.hid h2
  obtain ⟨a, cap, rfl, _, _, _⟩ := h1.form
  obtain ⟨a2, cap2, rfl, _, _, _⟩ := h2.form
  obtain ⟨n, hn⟩ : ∃ n, n = l.length := ⟨_, rfl⟩
  obtain ⟨m, hm⟩ : ∃ m, m = q.length := ⟨_, rfl⟩
  have HN := Lib.hid hn
  have HM := Lib.hid hm
  rw [← hn] at HV hb1 ⊢
  rw [← hm] at HU hb2 ⊢
  obtain ⟨R, hR⟩ : ∃ r, r = eqG eqN l q := ⟨_, rfl⟩
  have HR := Lib.hid hR
  rw [← hR]
  by_cases he : n = m
  · have HE := Lib.hid he
    have e0 : ((n : Int) != (m : Int)) = false := by simp [he]
    clear hn hm h1 h2 hR he
    go_enter Try.func23, Try.ntmps23
    go_wp2_with fail
    go_loopw [5] (fun i wr => ∃ j : Nat, j ≤ n ∧ i = .int .i64 j ∧ Hid (R = eqG eqN (l.drop j) (q.drop j)) ∧ ∃ k, wr = w.drewN k) (fun i _ => n - (intOf i).toNat)
    case atStart => exact ⟨0, Nat.zero_le _, rfl, Lib.hid (by rw [HR.out]; rfl), 0, by first | rfl | simp⟩
    case round =>
      obtain ⟨j, hj, rfl, HJ, kk, hwk⟩ := hrel
      have HWK := Lib.hid hwk
      have hfr : Fr w wr := by rw [hwk]; exact (Fr.refl w).drewN _
      clear hwk
      by_cases hlt : j < n
      · obtain ⟨x, hx⟩ : ∃ t, l[j]? = some t := ⟨_, List.getElem?_eq_getElem (by rw [← HN.out]; exact hlt)⟩
        obtain ⟨y, hy⟩ : ∃ t, q[j]? = some t := ⟨_, List.getElem?_eq_getElem (by rw [← HM.out, ← HE.out]; exact hlt)⟩
        have HST := Lib.hid (eqG_drop eqN hx hy)
        obtain ⟨b, off, rfl, x0⟩ := (HV.out.fr' hfr).at_ hx
        obtain ⟨b2, off2, rfl, y0⟩ := (HU.out.fr' hfr).at_ hy
        have hlm : j < m := by rw [← HE.out]; exact hlt
        clear hx hy
        unfold InC at x0 y0
        simp only [Nat.mul_one] at x0 y0
        obtain ⟨t0, ht0⟩ : ∃ b, b = (x == y) := ⟨_, rfl⟩
        have e0 : (x == y) = t0 := ht0.symm
        have g0 : (x != y) = !t0 := by rw [← e0]; rfl
        have HV2 : Hid (R = (t0 && eqG eqN (l.drop (j + 1)) (q.drop (j + 1)))) := Lib.hid (by rw [HJ.out, HST.out]; simp only [eqN, e0])
        clear ht0
        cases t0
        all_goals
          go_wp2_with fail
          go_quiet (fail)
          go_wp2_with fail
          first
            | (go_roundw
               case rel => exact ⟨j + 1, by omega, by go_num, Lib.hid (by have := HV2.out; simpa using this), kk + nq, by rw [HWK.out, World.drewN_drewN]⟩
               case measure => simp [intOf]; omega)
            | (go_ret
               have HF : R = false := by have := HV2.out; simpa using this
               rw [HF]
               exact ⟨rfl, kk + nq, by rw [HWK.out, World.drewN_drewN]⟩)
      · obtain rfl : j = n := by omega
        have HF : Hid (R = true) := Lib.hid (by rw [HJ.out, List.drop_eq_nil_of_le (by rw [← HN.out]; exact Nat.le_refl _), List.drop_eq_nil_of_le (by rw [← HM.out, ← HE.out]; exact Nat.le_refl _)]; rfl)
        go_wp2_with fail
        go_ret
        rw [HF.out]
        exact ⟨rfl, kk, HWK.out⟩
  · have e0 : ((n : Int) != (m : Int)) = true := by rw [bne_iff_ne]; omega
    have HF : Hid (R = false) := Lib.hid (by rw [hR]; exact eqG_len eqN l q (by rw [← hn, ← hm]; exact he))
    clear hn hm h1 h2 hR he
    go_enter Try.func23, Try.ntmps23
    go_wp2_with fail
    go_ret
    rw [HF.out]
    exact ⟨rfl, 0, by first | rfl | simp⟩
set_option maxRecDepth 100000 in
set_option maxHeartbeats 8000000 in
theorem REqCode_any (a b : Cod) (dv ov gv dv2 ov2 gv2 : Value) (w : World) (ha : CodW w a dv ov gv) (hb : CodW w b dv2 ov2 gv2) (wa : wfC a) (wb : wfC b) :
    Calls Try.prog 26 #[codV a dv ov gv, codV b dv2 ov2 gv2] w fun e w' => e = .returned (.bool (eqC a b)) ∧ Fr w w' := by
  have CO := Lib.hid (fun W (h : Fr w W) => REqOps_any a.ops b.ops ov ov2 W (ha.o.fr' h) (hb.o.fr' h) wa.olen wb.olen)
  have HG := Lib.hid (And.intro ha.g hb.g)
  have HDD := Lib.hid (And.intro ha.d hb.d)
  have HWD := Lib.hid (And.intro (fun x hx => wa.data x hx : ∀ x ∈ a.data, _) (fun x hx => wb.data x hx : ∀ x ∈ b.data, _))
  obtain ⟨gl1, hgl1⟩ : ∃ z, z = a.gl := ⟨_, rfl⟩
  obtain ⟨gl2, hgl2⟩ : ∃ z, z = b.gl := ⟨_, rfl⟩
  obtain ⟨dl1, hdl1⟩ : ∃ z, z = a.data := ⟨_, rfl⟩
  obtain ⟨dl2, hdl2⟩ : ∃ z, z = b.data := ⟨_, rfl⟩
  obtain ⟨A, hA⟩ : ∃ z, z = eqS a.name b.name := ⟨_, rfl⟩
  obtain ⟨B, hB⟩ : ∃ z, z = (a.procs == b.procs) := ⟨_, rfl⟩
  obtain ⟨C, hC⟩ : ∃ z, z = (a.labels == b.labels) := ⟨_, rfl⟩
  obtain ⟨D, hD⟩ : ∃ z, z = eqG eqO a.ops b.ops := ⟨_, rfl⟩
  obtain ⟨E, hE⟩ : ∃ z, z = eqG eqE gl1 gl2 := ⟨_, rfl⟩
  obtain ⟨F, hF⟩ : ∃ z, z = eqG eqD dl1 dl2 := ⟨_, rfl⟩
  have HR : Hid (eqC a b = (A && B && C && D && E && F)) := Lib.hid (by unfold eqC; rw [hA, hB, hC, hD, hE, hF, hgl1, hgl2, hdl1, hdl2])
  rw [HR.out]
  rw [← hD] at CO
  have HE := Lib.hid hE
  have HF := Lib.hid hF
  rw [← hgl1, ← hgl2] at HG
  rw [← hdl1, ← hdl2] at HDD HWD
  have hlen := And.intro wa.dlen (And.intro wb.dlen (And.intro wa.glen wb.glen))
  obtain ⟨da, dc, hdv, _, _, _⟩ := ha.d.form
  obtain ⟨oa, oc, hov, _, _, _⟩ := ha.o.form
  obtain ⟨ga, gc, hgv, _, _, _⟩ := ha.g.form
  obtain ⟨da2, dc2, hdv2, _, _, _⟩ := hb.d.form
  obtain ⟨oa2, oc2, hov2, _, _, _⟩ := hb.o.form
  obtain ⟨ga2, gc2, hgv2, _, _, _⟩ := hb.g.form
  obtain ⟨ld, hld⟩ : ∃ y, y = a.data.length := ⟨_, rfl⟩
  obtain ⟨lo, hlo⟩ : ∃ y, y = a.ops.length := ⟨_, rfl⟩
  obtain ⟨lg, hlg⟩ : ∃ y, y = a.gl.length := ⟨_, rfl⟩
  obtain ⟨ld2, hld2⟩ : ∃ y, y = b.data.length := ⟨_, rfl⟩
  obtain ⟨lo2, hlo2⟩ : ∃ y, y = b.ops.length := ⟨_, rfl⟩
  obtain ⟨lg2, hlg2⟩ : ∃ y, y = b.gl.length := ⟨_, rfl⟩
  rw [← hld] at hdv
  rw [← hlo] at hov
  rw [← hlg] at hgv
  rw [← hld2] at hdv2
  rw [← hlo2] at hov2
  rw [← hlg2] at hgv2
  rw [← hld, ← hld2, ← hlg, ← hlg2] at hlen
  have HL1 : Hid (ld = dl1.length) := Lib.hid (by rw [hld, hdl1])
  have HL2 : Hid (ld2 = dl2.length) := Lib.hid (by rw [hld2, hdl2])
  have HL3 : Hid (lg = gl1.length) := Lib.hid (by rw [hlg, hgl1])
  have HL4 : Hid (lg2 = gl2.length) := Lib.hid (by rw [hlg2, hgl2])
  obtain ⟨hl1, hl2, hl3, hl4⟩ := hlen
  subst hdv hov hgv hdv2 hov2 hgv2
  unfold codV
  have fA : (a.name.toList == b.name.toList) = A := hA.symm
  have fB : (a.procs == b.procs) = B := hB.symm
  have fC : (a.labels == b.labels) = C := hC.symm
  obtain ⟨nm, hnm⟩ : ∃ y, y = a.name := ⟨_, rfl⟩
  obtain ⟨procs, hpr⟩ : ∃ y, y = a.procs := ⟨_, rfl⟩
  obtain ⟨labels, hlb⟩ : ∃ y, y = a.labels := ⟨_, rfl⟩
  obtain ⟨nm2, hnm2⟩ : ∃ y, y = b.name := ⟨_, rfl⟩
  obtain ⟨procs2, hpr2⟩ : ∃ y, y = b.procs := ⟨_, rfl⟩
  obtain ⟨labels2, hlb2⟩ : ∃ y, y = b.labels := ⟨_, rfl⟩
  rw [← hnm, ← hnm2] at fA
  rw [← hpr, ← hpr2] at fB
  rw [← hlb, ← hlb2] at fC
  have gA : (nm.toList != nm2.toList) = !A := by rw [← fA]; rfl
  have gB : (procs != procs2) = !B := by rw [← fB]; rfl
  have gC : (labels != labels2) = !C := by rw [← fC]; rfl
  rw [← hnm, ← hpr, ← hlb, ← hnm2, ← hpr2, ← hlb2]
  obtain ⟨w2, hw2⟩ : ∃ z, z = (w.alloc (.cells #[.string nm, .slice da ld dc, .slice oa lo oc, .slice ga lg gc, .int .i64 procs, .int .i64 labels] 26)).alloc (.cells #[.string nm2, .slice da2 ld2 dc2, .slice oa2 lo2 oc2, .slice ga2 lg2 gc2, .int .i64 procs2, .int .i64 labels2] 26) := ⟨_, rfl⟩
  have HF2 : Hid (Fr w w2) := Lib.hid (by rw [hw2]; exact ((Fr.refl w).alloc _).alloc _)
  have HCA : Hid (CdB w2 w.heap.size nm (.slice da ld dc) (.slice oa lo oc) (.slice ga lg gc) procs labels) := Lib.hid (by rw [hw2]; exact (CdB.new w _ _ _ _ _ _).fr ((Fr.refl _).alloc _))
  have HCB : Hid (CdB w2 (w.heap.size + 1) nm2 (.slice da2 ld2 dc2) (.slice oa2 lo2 oc2) (.slice ga2 lg2 gc2) procs2 labels2) := Lib.hid (by
    have := CdB.new (w.alloc (.cells #[.string nm, .slice da ld dc, .slice oa lo oc, .slice ga lg gc, .int .i64 procs, .int .i64 labels] 26)) nm2 (.slice da2 ld2 dc2) (.slice oa2 lo2 oc2) (.slice ga2 lg2 gc2) procs2 labels2
    rw [← hw2] at this
    simpa using this)
  have HW2 := Lib.hid hw2
  clear ha hb wa wb hA hB hC hD hE hF hgl1 hgl2 hdl1 hdl2 hld hlo hlg hld2 hlo2 hlg2 hnm hpr hlb hnm2 hpr2 hlb2 hw2
  cases A with
  | false =>
    go_enter Try.func26, Try.ntmps26
    go_wp2_with fail
    go_ret
    try rw [← HW2.out]
    exact ⟨by first | rfl | simp, HF2.out⟩
  | true =>
  cases B with
  | false =>
    go_enter Try.func26, Try.ntmps26
    go_wp2_with fail
    go_ret
    try rw [← HW2.out]
    exact ⟨by first | rfl | simp, HF2.out⟩
  | true =>
  cases C with
  | false =>
    go_enter Try.func26, Try.ntmps26
    go_wp2_with fail
    go_ret
    try rw [← HW2.out]
    exact ⟨by first | rfl | simp, HF2.out⟩
  | true =>
  by_cases he1 : ld = ld2
  case neg =>
    have n1 : ((ld : Int) != (ld2 : Int)) = true := by rw [bne_iff_ne]; omega
    obtain rfl : F = false := by rw [HF.out]; exact eqG_len eqD _ _ (by rw [← HL1.out, ← HL2.out]; exact he1)
    clear he1
    go_enter Try.func26, Try.ntmps26
    go_wp2_with fail
    go_ret
    try rw [← HW2.out]
    exact ⟨by simp, HF2.out⟩
  have n1 : ((ld : Int) != (ld2 : Int)) = false := by simp [he1]
  by_cases he2 : lg = lg2
  case neg =>
    have n2 : ((lg : Int) != (lg2 : Int)) = true := by rw [bne_iff_ne]; omega
    obtain rfl : E = false := by rw [HE.out]; exact eqG_len eqE _ _ (by rw [← HL3.out, ← HL4.out]; exact he2)
    clear he1 he2
    go_enter Try.func26, Try.ntmps26
    go_wp2_with fail
    go_ret
    try rw [← HW2.out]
    exact ⟨by simp, HF2.out⟩
  have n2 : ((lg : Int) != (lg2 : Int)) = false := by simp [he2]
  have HE1 := Lib.hid he1
  have HE2 := Lib.hid he2
  clear he1 he2
  go_enter Try.func26, Try.ntmps26
  go_wp2_with fail
  rw [← HW2.out]
  go_loopw [5] (fun i wr => ∃ j : Nat, j ≤ ld ∧ i = .int .i64 j ∧ Hid (F = eqG eqD (dl1.drop j) (dl2.drop j)) ∧ Fr w2 wr) (fun i _ => ld - (intOf i).toNat)
  case atStart => exact ⟨0, Nat.zero_le _, rfl, Lib.hid (by rw [HF.out]; rfl), Fr.refl _⟩
  case round =>
    obtain ⟨j, hj, rfl, HJ, hfr⟩ := hrel
    obtain ⟨ca0, ca1, ca2, ca3, ca4, ca5⟩ := HCA.out.fr hfr
    obtain ⟨cb0, cb1, cb2, cb3, cb4, cb5⟩ := HCB.out.fr hfr
    by_cases hlt : j < ld
    · obtain ⟨x, hx⟩ : ∃ t, dl1[j]? = some t := ⟨_, List.getElem?_eq_getElem (by rw [← HL1.out]; exact hlt)⟩
      obtain ⟨y, hy⟩ : ∃ t, dl2[j]? = some t := ⟨_, List.getElem?_eq_getElem (by rw [← HL2.out, ← HE1.out]; exact hlt)⟩
      have HST := Lib.hid (eqG_drop eqD hx hy)
      obtain ⟨b, off, rfl, x0⟩ := (HDD.out.1.fr' (HF2.out.trans hfr)).at_ hx
      obtain ⟨b2, off2, rfl, y0⟩ := (HDD.out.2.fr' (HF2.out.trans hfr)).at_ hy
      have hlm : j < ld2 := by rw [← HE1.out]; exact hlt
      obtain ⟨x0, x1, lv, x2, hiv⟩ := x0
      obtain ⟨y0, y1, lu, y2, hiu⟩ := y0
      have CQ := Lib.hid (fun k => REqInts_q x.ws y.ws lv lu (wr.drewN k) (hiv.fr' ((Fr.refl wr).drewN k)) (hiu.fr' ((Fr.refl wr).drewN k)) (HWD.out.1 _ (List.mem_of_getElem? hx)).2.1 (HWD.out.2 _ (List.mem_of_getElem? hy)).2.1)
      obtain ⟨P, hP⟩ : ∃ z, z = eqS x.t y.t := ⟨_, rfl⟩
      obtain ⟨Q, hQ⟩ : ∃ z, z = (x.b == y.b) := ⟨_, rfl⟩
      obtain ⟨G, hG⟩ : ∃ z, z = eqG eqN x.ws y.ws := ⟨_, rfl⟩
      rw [← hG] at CQ
      have HV2 : Hid (F = ((P && Q && G) && eqG eqD (dl1.drop (j + 1)) (dl2.drop (j + 1)))) := Lib.hid (by rw [HJ.out, HST.out, eqD, hP, hQ, hG])
      obtain ⟨xa, xc, rfl, _, _, _⟩ := hiv.form
      obtain ⟨ya, yc, rfl, _, _, _⟩ := hiu.form
      obtain ⟨ln, hln⟩ : ∃ z, z = x.ws.length := ⟨_, rfl⟩
      obtain ⟨lm, hlm2⟩ : ∃ z, z = y.ws.length := ⟨_, rfl⟩
      rw [← hln] at x2 CQ
      rw [← hlm2] at y2 CQ
      have fP : (x.t.toList == y.t.toList) = P := hP.symm
      have fQ : (x.b == y.b) = Q := hQ.symm
      obtain ⟨p0, hp0⟩ : ∃ z, z = x.t := ⟨_, rfl⟩
      obtain ⟨p1, hp1⟩ : ∃ z, z = x.b := ⟨_, rfl⟩
      obtain ⟨r0, hr0⟩ : ∃ z, z = y.t := ⟨_, rfl⟩
      obtain ⟨r1, hr1⟩ : ∃ z, z = y.b := ⟨_, rfl⟩
      rw [← hp0] at x0 fP
      rw [← hp1] at x1 fQ
      rw [← hr0] at y0 fP
      rw [← hr1] at y1 fQ
      have gP : (p0.toList != r0.toList) = !P := by rw [← fP]; rfl
      have gQ : (p1 != r1) = !Q := by rw [← fQ]; rfl
      have HFR := Lib.hid hfr
      clear hx hy hiv hiu hP hQ hG hln hlm2 hp0 hp1 hr0 hr1 hfr
      cases P <;> cases Q <;> cases G
      all_goals
        go_wp2_with fail
        go_quiet (first | (go_at_call 23; exact Calls.quiet_of (CQ.out _)))
        go_wp2_with fail
        first
          | (go_roundw
             case rel => exact ⟨j + 1, by omega, by go_num, Lib.hid (by have := HV2.out; simpa using this), HFR.out.drewN _⟩
             case measure => simp [intOf]; omega)
          | (go_ret
             rw [show F = false from by have := HV2.out; simpa using this]
             exact ⟨by simp, (HF2.out.trans HFR.out).drewN _⟩)
    · obtain rfl : j = ld := by omega
      have HFT : Hid (F = true) := Lib.hid (by rw [HJ.out, List.drop_eq_nil_of_le (by rw [← HL1.out]; exact Nat.le_refl _), List.drop_eq_nil_of_le (by rw [← HL2.out, ← HE1.out]; exact Nat.le_refl _)]; rfl)
      rename World => wo
      have HFO : Hid (Fr w2 wo) := Lib.hid hfr
      clear hfr ca0 ca1 ca2 ca3 ca4 ca5 cb0 cb1 cb2 cb3 cb4 cb5
      obtain ⟨ca0, ca1, ca2, ca3, ca4, ca5⟩ := HCA.out.fr HFO.out
      obtain ⟨cb0, cb1, cb2, cb3, cb4, cb5⟩ := HCB.out.fr HFO.out
      go_wp2_with fail
      go_loopw [6] (fun i wr => ∃ k : Nat, k ≤ lg ∧ i = .int .i64 k ∧ Hid (E = eqG eqE (gl1.drop k) (gl2.drop k)) ∧ Fr wo wr) (fun i _ => lg - (intOf i).toNat)
      case atStart => exact ⟨0, Nat.zero_le _, rfl, Lib.hid (by rw [HE.out]; rfl), Fr.refl _⟩
      case round =>
        obtain ⟨k, hk, rfl, HJ2, hfr⟩ := hrel
        clear ca0 ca1 ca2 ca3 ca4 ca5 cb0 cb1 cb2 cb3 cb4 cb5
        obtain ⟨ca0, ca1, ca2, ca3, ca4, ca5⟩ := HCA.out.fr (HFO.out.trans hfr)
        obtain ⟨cb0, cb1, cb2, cb3, cb4, cb5⟩ := HCB.out.fr (HFO.out.trans hfr)
        by_cases hkn : k < lg
        · obtain ⟨x, hx⟩ : ∃ t, gl1[k]? = some t := ⟨_, List.getElem?_eq_getElem (by rw [← HL3.out]; exact hkn)⟩
          obtain ⟨y, hy⟩ : ∃ t, gl2[k]? = some t := ⟨_, List.getElem?_eq_getElem (by rw [← HL4.out, ← HE2.out]; exact hkn)⟩
          have HST := Lib.hid (eqG_drop eqE hx hy)
          obtain ⟨b, off, rfl, x0⟩ := (HG.out.1.fr' (HF2.out.trans (HFO.out.trans hfr))).at_ hx
          obtain ⟨b2, off2, rfl, y0⟩ := (HG.out.2.fr' (HF2.out.trans (HFO.out.trans hfr))).at_ hy
          have hlm : k < lg2 := by rw [← HE2.out]; exact hkn
          clear hx hy
          obtain ⟨x0, x1⟩ := x0
          obtain ⟨y0, y1⟩ := y0
          obtain ⟨⟨q0, q1⟩, hq⟩ : ∃ z, z = x := ⟨_, rfl⟩
          obtain ⟨⟨r0, r1⟩, hr⟩ : ∃ z, z = y := ⟨_, rfl⟩
          subst hq hr
          simp only at x0 x1 y0 y1
          obtain ⟨t0, ht0⟩ : ∃ z, z = (q0 == r0) := ⟨_, rfl⟩
          obtain ⟨t1, ht1⟩ : ∃ z, z = (q1 == r1) := ⟨_, rfl⟩
          have e0 : (q0 == r0) = t0 := ht0.symm
          have e1 : (q1 == r1) = t1 := ht1.symm
          have g0 : (q0 != r0) = !t0 := by rw [← e0]; rfl
          have g1 : (q1 != r1) = !t1 := by rw [← e1]; rfl
          have HV2 : Hid (E = ((t0 && t1) && eqG eqE (gl1.drop (k + 1)) (gl2.drop (k + 1)))) := Lib.hid (by rw [HJ2.out, HST.out]; simp only [eqE, e0, e1])
          have HFR := Lib.hid hfr
          clear ht0 ht1 hfr
          cases t0 <;> cases t1
          all_goals
            go_wp2_with fail
            go_quiet (fail)
            go_wp2_with fail
            first
              | (go_roundw
                 case rel => exact ⟨k + 1, by omega, by go_num, Lib.hid (by have := HV2.out; simpa using this), HFR.out.drewN _⟩
                 case measure => simp [intOf]; omega)
              | (go_ret
                 rw [show E = false from by have := HV2.out; simpa using this]
                 exact ⟨by simp, ((HF2.out.trans HFO.out).trans HFR.out).drewN _⟩)
        · obtain rfl : k = lg := by omega
          have HET : Hid (E = true) := Lib.hid (by rw [HJ2.out, List.drop_eq_nil_of_le (by rw [← HL3.out]; exact Nat.le_refl _), List.drop_eq_nil_of_le (by rw [← HL4.out, ← HE2.out]; exact Nat.le_refl _)]; rfl)
          have HFR := Lib.hid hfr
          clear hfr
          go_wp2_with fail
          refine (CO.out _ (HF2.out.trans (HFO.out.trans HFR.out))).mono ?_
          rintro e w9 ⟨rfl, hf9⟩
          have HF9 := Lib.hid ((HF2.out.trans (HFO.out.trans HFR.out)).trans hf9)
          clear hf9
          go_wp2_with fail
          go_ret
          rw [HET.out, HFT.out]
          exact ⟨by simp, HF9.out⟩
end Go.Proofs.Ytmciiloobbnmfaa
