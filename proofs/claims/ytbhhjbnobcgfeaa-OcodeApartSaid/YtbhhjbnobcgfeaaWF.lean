/- The law's own 'without': the code without a procedure. -/
import Derived.Test.YtbhhjbnobcgfeaaWE
namespace Go.Proofs.Ytbhhjbnobcgfeaa
open Go.RowKit
set_option linter.unusedVariables false
set_option linter.unusedSimpArgs false

/-- A block of an instruction's three cells. -/
def OpR (w : World) (b : Nat) (x0 x1 x2 : Value) : Prop := w.heap[b]? = some (.cells #[x0, x1, x2] 48 (0, 0))
section
variable {w w' : World} {b : Nat} {x0 x1 x2 : Value}
theorem OpR.lt (h : OpR w b x0 x1 x2) : b < w.heap.size := (Array.getElem?_eq_some_iff.1 h).1
theorem OpR.fr (h : OpR w b x0 x1 x2) (k : Fr w w') : OpR w' b x0 x1 x2 := (k.block b h.lt).trans h
theorem OpR.cells (h : OpR w b x0 x1 x2) : w.cell? ⟨b, 0, none⟩ = some x0 ∧ w.cell? ⟨b, 1, none⟩ = some x1 ∧ w.cell? ⟨b, 2, none⟩ = some x2 := by
  unfold OpR at h
  simp [World.cell?, h]
theorem OpR.free (h : OpR w b x0 x1 x2) (i : Nat) : w.frozen? ⟨b, i, none⟩ = false := by
  unfold OpR at h
  simp [World.frozen?, h]
theorem OpR.new (w : World) (x0 x1 x2 : Value) : OpR (w.alloc (.cells #[x0, x1, x2] 48)) w.heap.size x0 x1 x2 := by
  unfold OpR; simp only [World.alloc, Array.getElem?_push_size]
theorem OpR.set1 (h : OpR w b x0 x1 x2) (v : Value) : OpR (w.setCell ⟨b, 1, none⟩ v) b x0 v x2 := by
  unfold OpR at h ⊢
  simp [World.setCell, Array.getElem?_modify, h]
theorem OpR.news (h : OpR w b x0 x1 x2) : ∀ j u, ([x0, x1, x2] : List Value)[j]? = some u → w.cell? ((⟨b, 0, none⟩ : Addr).add j) = some u := by
  intro j u hu
  obtain ⟨h0, h1, h2⟩ := h.cells
  rw [ap_add, Nat.zero_add]
  match j, hu with
  | 0, hu => obtain rfl : _ = u := Option.some.inj hu; exact h0
  | 1, hu => obtain rfl : _ = u := Option.some.inj hu; exact h1
  | 2, hu => obtain rfl : _ = u := Option.some.inj hu; exact h2
end
theorem nz6 {o k : Int} (h : ¬ o = k) : (o == k) = false := by rw [beq_eq_false_iff_ne]; exact h
set_option maxRecDepth 100000 in
set_option maxHeartbeats 8000000 in
theorem wo_any (c : Cod) (p : Int) (dv ov gv : Value) (w : World) (hc : CodW w c dv ov gv) (hw : wfC c) (hpp : 1 ≤ c.procs) (hp : wf64 p) (ho : c.ops.length ≤ 2000000) (hg : c.gl.length ≤ 2000000) (hd : c.data.length ≤ 2000000) (hws : ∀ x ∈ c.data, x.ws.length ≤ 2000000) :
    Calls Try.prog 31 #[codV c dv ov gv, .int .i64 p] w fun e w' => ∃ dv' ov', e = .returned (codV (cutC c p) dv' ov' (.slice none 0 0)) ∧ CodW w' (cutC c p) dv' ov' (.slice none 0 0) ∧ Fr w w' := by
  have HC := Lib.hid hc
  have HW := Lib.hid hw
  have CC := Lib.hid (fun W (h : Fr w W) => cpC_any c dv ov gv W (hc.fr h) ho hg hd hws)
  have HO := Lib.hid ho
  obtain ⟨i1, hj0, hy0, hy1, hy2⟩ := info_at clO_info
  have HIO := Lib.hid (And.intro hj0 (And.intro hy0 (And.intro hy1 hy2)))
  clear hj0 hy0 hy1 hy2
  unfold codV at CC ⊢
  obtain ⟨nm, hnm⟩ : ∃ y, y = c.name := ⟨_, rfl⟩
  obtain ⟨procs, hpr⟩ : ∃ y, y = c.procs := ⟨_, rfl⟩
  obtain ⟨labels, hlb⟩ : ∃ y, y = c.labels := ⟨_, rfl⟩
  rw [← hnm, ← hpr, ← hlb] at CC
  rw [← hnm, ← hpr, ← hlb]
  obtain ⟨da, dc, hdv, _, _, _⟩ := hc.d.form
  obtain ⟨oa, oc, hov, ho1, _, ho3⟩ := hc.o.form
  obtain ⟨ga, gc, hgv, hg1, _, hg3⟩ := hc.g.form
  obtain ⟨ld, hld⟩ : ∃ y, y = c.data.length := ⟨_, rfl⟩
  obtain ⟨lo, hlo⟩ : ∃ y, y = c.ops.length := ⟨_, rfl⟩
  obtain ⟨lg, hlg⟩ : ∃ y, y = c.gl.length := ⟨_, rfl⟩
  rw [← hld] at hdv
  rw [← hlo] at hov
  rw [← hlg] at hgv
  subst hdv hov hgv
  obtain ⟨wa, hwa⟩ : ∃ y, y = w.alloc (.cells #[.string nm, .slice da ld dc, .slice oa lo oc, .slice ga lg gc, .int .i64 procs, .int .i64 labels] 26) := ⟨_, rfl⟩
  have HFA : Hid (Fr w wa) := Lib.hid (by rw [hwa]; exact (Fr.refl w).alloc _)
  have HRA : Hid (CdR wa w.heap.size (.string nm) (.slice da ld dc) (.slice oa lo oc) (.slice ga lg gc) (.int .i64 procs) (.int .i64 labels)) := Lib.hid (by rw [hwa]; exact CdR.new w _ _ _ _ _ _)
  have hza : wa.heap.size = w.heap.size + 1 := by rw [hwa]; exact size_al w _
  have HWA := Lib.hid hwa
  obtain ⟨w0, hw0⟩ : ∃ y, y = wa.alloc (.cells #[.string ⟨#[]⟩, .slice none 0 0, .slice none 0 0, .slice none 0 0, .int .i64 0, .int .i64 0] 26) := ⟨_, rfl⟩
  have HF0 : Hid (Fr w w0) := Lib.hid (by rw [hw0]; exact HFA.out.alloc _)
  have HR0 : Hid (CdR w0 w.heap.size (.string nm) (.slice da ld dc) (.slice oa lo oc) (.slice ga lg gc) (.int .i64 procs) (.int .i64 labels)) := Lib.hid (by rw [hw0]; exact HRA.out.fr ((Fr.refl wa).alloc _))
  have HZ0 : Hid (CdR w0 (w.heap.size + 1) (.string ⟨#[]⟩) (.slice none 0 0) (.slice none 0 0) (.slice none 0 0) (.int .i64 0) (.int .i64 0)) := Lib.hid (by rw [hw0, ← hza]; exact CdR.new wa _ _ _ _ _ _)
  have hz0 : w0.heap.size = w.heap.size + 2 := by rw [hw0, size_al, hza]
  have HW0 := Lib.hid hw0
  have HS0 := Lib.hid hz0
  have HLO := Lib.hid hlo
  have HLD := Lib.hid hld
  obtain ⟨cc, hcc⟩ : ∃ y, y = cutC c p := ⟨_, rfl⟩
  have HCC := Lib.hid hcc
  rw [← hcc]
  have HOV : Hid (OpsV w (.slice oa lo oc) c.ops) := Lib.hid hc.o
  have hlo2 : lo ≤ 2000000 := by rw [hlo]; exact ho
  obtain ⟨l, hl⟩ : ∃ y, y = c.ops := ⟨_, rfl⟩
  have HL := Lib.hid hl
  rw [← hl] at HOV
  have HN : Hid (lo = l.length) := Lib.hid (by rw [hl]; exact hlo)
  obtain ⟨k0, k1, k2, k3, k4, k5⟩ := HR0.out.cells
  have HNM := Lib.hid hnm
  have HPR := Lib.hid hpr
  have HPW : Hid (wf64 procs ∧ 1 ≤ procs) := Lib.hid (by rw [hpr]; exact ⟨hw.procs, hpp⟩)
  clear hc hw hpp ho hg hd hws hnm hpr hlb ho1 ho3 hg1 hg3 hld hlo hlg hwa hw0 hza hz0 hcc hl
  rw [HW0.out, HWA.out] at k0 k1 k2 k3 k4 k5
  go_enter Try.func31, Try.ntmps31
  go_wp2_with fail
  rw [← HWA.out, ← HW0.out]
  clear k0 k1 k2 k3 k4 k5
  refine (CC.out _ HF0.out).mono ?_
  rintro e w1 ⟨dv1, oa1, on1, oc1, ga1, gn1, gc1, rfl, hd1, hf1⟩
  obtain ⟨da1, dc1, rfl, _, _, _⟩ := hd1.dtsV.form
  rw [← HLD.out] at hd1 ⊢
  have HD1 := Lib.hid hd1
  have HF1 : Hid (Fr w0 w1) := Lib.hid hf1
  obtain ⟨w2, hw2⟩ : ∃ y, y = w1.alloc (.cells #[.string nm, .slice da1 ld dc1, .slice none 0 0, .slice ga1 gn1 gc1, .int .i64 procs, .int .i64 labels] 26) := ⟨_, rfl⟩
  have HF2 : Hid (Fr w0 w2) := Lib.hid (by rw [hw2]; exact hf1.alloc _)
  have HD2 : Hid (CdR w2 w1.heap.size (.string nm) (.slice da1 ld dc1) (.slice none 0 0) (.slice ga1 gn1 gc1) (.int .i64 procs) (.int .i64 labels)) := Lib.hid (by rw [hw2]; exact CdR.new _ _ _ _ _ _ _)
  have hs2 : w2.heap.size = w1.heap.size + 1 := by rw [hw2, size_al]
  have HS2 := Lib.hid hs2
  have HW2 := Lib.hid hw2
  obtain ⟨k0, k1, k2, k3, k4, k5⟩ := (HR0.out.fr hf1).cells
  clear hd1 hf1 hw2 hs2
  go_wp2_with fail
  rw [← HW2.out]
  clear k0 k1 k2 k3 k4 k5
  go_loopw [6, 7] (fun q i wr => ∃ (j : Nat) (R : Value), j ≤ lo ∧ i = .int .i64 j ∧ q = .int .i64 (curP 0 (l.take j)) ∧ Hid (CdR wr w1.heap.size (.string nm) (.slice da1 ld dc1) R (.slice ga1 gn1 gc1) (.int .i64 procs) (.int .i64 labels)) ∧ Hid (wr.ownsRow w2.heap.size 48 3 R (cutL p 0 (l.take j)).length (rowN (clO_cs (cutL p 0 (l.take j))) (cutL p 0 (l.take j)).length)) ∧ Hid (Fr w1 wr) ∧ Hid (w2.heap.size ≤ wr.heap.size)) (fun _ i _ => lo - (intOf i).toNat)
  case atStart => exact ⟨0, _, Nat.zero_le _, rfl, rfl, HD2, Lib.hid (World.ownsRow_nil _ _ _ _), Lib.hid (by rw [HW2.out]; exact (Fr.refl _).alloc _), Lib.hid (Nat.le_refl _)⟩
  case round =>
    obtain ⟨j, R, hj, rfl, rfl, HDR, HROW, HFR, HSR⟩ := hrel
    have HFR0 : Hid (Fr w0 wr) := Lib.hid (HF1.out.trans HFR.out)
    obtain ⟨k0, k1, k2, k3, k4, k5⟩ := (HR0.out.fr HFR0.out).cells
    by_cases hlt : j < lo
    · obtain ⟨x, hx⟩ : ∃ x, l[j]? = some x := ⟨_, List.getElem?_eq_getElem (by rw [← HN.out]; exact hlt)⟩
      obtain ⟨b2, off2, e2, hcell⟩ := HOV.out.at_ hx
      subst e2
      have hq := HF0.out.trans HFR0.out
      have e1 := hq.cell hcell.op
      have e2 := hq.cell hcell.n
      have e3 := hq.cell hcell.m
      have htk : l.take (j + 1) = l.take j ++ [x] := by rw [List.take_add_one, hx]; rfl
      have HTK := Lib.hid htk
      have hxw := HW.out.ops x (by rw [← HL.out]; exact List.mem_of_getElem? hx)
      have hw1 : wf64 x.n := hxw.2.1
      obtain ⟨q, hqq⟩ : ∃ y, y = curP 0 (l.take j) := ⟨_, rfl⟩
      obtain ⟨L, hL⟩ : ∃ y, y = cutL p 0 (l.take j) := ⟨_, rfl⟩
      rw [← hL] at HROW
      rw [← hqq]
      have HQ : Hid (curP 0 (l.take (j + 1)) = if x.op = 24 then x.n else q) := Lib.hid (by rw [htk, curP_more, hqq])
      have HCU : Hid (cutL p 0 (l.take (j + 1)) = L ++ (if (if x.op = 24 then x.n else q) = p then [] else [cutO p x])) := Lib.hid (by rw [htk, cutL_more, hL]; congr 1; rw [curP_more, hqq])
      obtain ⟨ra, rc, rfl⟩ := own_val HROW.out
      obtain ⟨rn, hrn⟩ : ∃ y, y = L.length := ⟨_, rfl⟩
      have HRN := Lib.hid hrn
      rw [← hrn] at HROW HDR
      obtain ⟨d0, d1, d2, d3, d4, d5⟩ := HDR.out.cells
      obtain ⟨xo, hxo⟩ : ∃ y, y = x.op := ⟨_, rfl⟩
      obtain ⟨xn, hxn⟩ : ∃ y, y = x.n := ⟨_, rfl⟩
      obtain ⟨xm, hxm⟩ : ∃ y, y = x.m := ⟨_, rfl⟩
      have HXE : Hid (x = ⟨xo, xn, xm⟩) := Lib.hid (by rw [hxo, hxn, hxm])
      rw [← hxo] at e1 HQ HCU
      rw [← hxn] at e2 HQ HCU hw1
      rw [← hxm] at e3
      have HLC := Lib.hid hL
      clear hx hcell hq htk hxw hqq hL hrn hxo hxn hxm
      have pj0 : (0 : Int) ≤ (j : Int) := Int.natCast_nonneg _
      have pj1 : (j : Int) < (lo : Int) := by omega
      by_cases h24 : xo = 24
      · have z1 : (xo == 24) = true := beq_iff_eq.2 h24
        have z11 : (xo == 11) = false := by rw [h24]; rfl
        rw [if_pos h24] at HQ HCU
        have H24 := Lib.hid h24
        clear h24
        by_cases hp1 : xn = p
        · have z2 : (xn == p) = true := beq_iff_eq.2 hp1
          rw [if_pos hp1] at HCU
          clear hp1
          go_wp2_with fail
          go_roundw
          case rel =>
            refine ⟨j + 1, .slice ra rn rc, by omega, by go_num, by rw [HQ.out], Lib.hid (HDR.out.fr ((Fr.refl _).alloc _)), Lib.hid (by rw [HCU.out, List.append_nil, ← HRN.out]; exact Ex.own (X := fun _ => False) (((Fr.refl wr).alloc _).ex) (fun _ _ h => h) HROW.out), Lib.hid (HFR.out.alloc _), Lib.hid (by rw [size_al]; have := HSR.out; omega)⟩
          case measure => simp [intOf]; omega
        · have z2 : (xn == p) = false := nz6 hp1
          rw [if_neg hp1] at HCU
          clear hp1
          by_cases hp2 : p < xn
          · skip
            have z3 : decide (xn > p) = true := decide_eq_true hp2
            have z4 : IntKind.i64.wrap (xn - 1) = xn - 1 := IntWalk.i64_in _ (by unfold wf64 at hw1 hp; omega)
            have HP2 := Lib.hid hp2
            clear hp2
            have HCO : Hid (cutO p x = ⟨xo, (xn - 1), xm⟩) := Lib.hid (by rw [HXE.out]; unfold cutO; exact if_pos ⟨Or.inl H24.out, HP2.out⟩)
            rw [HCO.out] at HCU
            obtain ⟨wB, hwB⟩ : ∃ y, y = wr.alloc (.cells #[.int .i64 xo, .int .i64 (xn - 1), .int .i64 xm] 48) := ⟨_, rfl⟩
            have HFB : Hid (Fr wr wB) := Lib.hid (by rw [hwB]; exact (Fr.refl wr).alloc _)
            have HOB : Hid (OpR wB wr.heap.size (.int .i64 xo) (.int .i64 (xn - 1)) (.int .i64 xm)) := Lib.hid (by rw [hwB]; exact OpR.new _ _ _ _)
            have HDB := Lib.hid (HDR.out.fr HFB.out)
            have HSB : Hid (wB.heap.size = wr.heap.size + 1) := Lib.hid (by rw [hwB, size_al])
            have HWB := Lib.hid hwB
            obtain ⟨q0, q1, q2, q3, q4, q5⟩ := HDB.out.cells
            obtain ⟨o0, o1, o2⟩ := HOB.out.cells
            rw [hwB] at q0 q1 q2 q3 q4 q5 o0 o1 o2
            clear hwB
            go_wp2_with (with_reducible refine stop_append_a ?_)
            rw [← HWB.out, ← HSB.out]
            unfold StopA
            have hlo3 : rn ≤ lo := by rw [HRN.out, HLC.out, HN.out]; exact Nat.le_trans (cutL_lenle p _ _) (by rw [List.length_take]; omega)
            have HROW6 : Hid ((wB.alloc (.cells #[.int .i64 xo, .int .i64 (xn - 1), .int .i64 xm] 48)).ownsRow w2.heap.size 48 3 (.slice ra rn rc) rn (rowN (clO_cs L) rn)) := Lib.hid (Ex.own (X := fun _ => False) ((HFB.out.alloc _).ex) (fun _ _ h => h) HROW.out)
            have hs1 := HSR.out
            have hs2 := HSB.out
            refine wpList_append_own_at _ rfl (.tmp 62) (.tmp 64) 23 rfl w2.heap.size 48 i1 _ 3 24 Try.underlying23 HIO.out.1 HIO.out.2.1 HIO.out.2.2.1 HIO.out.2.2.2 rfl (by omega) _ rn (rowN (clO_cs L) rn) (by rfl) HROW6.out ⟨wB.heap.size, 0, none⟩ 1 1 [.int .i64 xo, .int .i64 (xn - 1), .int .i64 xm] (by rfl) (by rfl) (OpR.new wB _ _ _).news (fun u hu => by simp only [List.mem_cons, List.not_mem_nil, or_false] at hu; rcases hu with rfl | rfl | rfl <;> rfl) (by unfold maxLen; omega) (by omega) (by rw [size_al]; omega) fun v6 w6 hown6 hg6 _ hb6 => ?_
            have HF6 : Hid (Fr w1 w6) := Lib.hid (own_fr6 (w0 := w1) ((HFR.out.trans HFB.out).alloc _) (own_base HROW6.out (by have := HS2.out; omega)) hg6)
            have hdg : ∀ k, (Value.slice ra rn rc).ownBlock = some k → w2.heap.size ≤ k := fun k hk => (HROW.out.lt k hk).1
            have hbk : CdR w6 w1.heap.size (.string nm) (.slice da1 ld dc1) (.slice ra rn rc) (.slice ga1 gn1 gc1) (.int .i64 procs) (.int .i64 labels) := (hg6.block w1.heap.size (by have := HS2.out; rw [size_al]; omega) (fun e => by have := hdg _ e.symm; have := HS2.out; omega)).trans (HDB.out.fr ((Fr.refl wB).alloc _))
            obtain ⟨a6, c6, rfl⟩ := own_val hown6
            have HD6 := Lib.hid hbk
            have HZ6 : Hid (w2.heap.size ≤ w6.heap.size) := Lib.hid (by have := hg6.size; rw [size_al] at this; omega)
            have HX6 := Lib.hid (hbk.set2 (.slice a6 (rn + 1) c6))
            obtain ⟨g0, g1, g2, g3, g4, g5⟩ := hbk.cells
            have gf := hbk.free 2
            have HO6 : Hid (w6.ownsRow w2.heap.size 48 3 (.slice a6 (rn + 1) c6) (L ++ [(⟨xo, (xn - 1), xm⟩ : Op3)]).length (rowN (clO_cs (L ++ [(⟨xo, (xn - 1), xm⟩ : Op3)])) (L ++ [(⟨xo, (xn - 1), xm⟩ : Op3)]).length)) := Lib.hid (by rw [← clO_more L ⟨xo, (xn - 1), xm⟩, show (L ++ [(⟨xo, (xn - 1), xm⟩ : Op3)]).length = L.length + 1 by simp, ← HRN.out]; exact hown6)
            clear hown6 hg6 hb6 hbk hdg q0 q1 q2 q3 q4 q5 o0 o1 o2
            go_wp2_with fail
            go_roundw
            case rel =>
              refine ⟨j + 1, .slice a6 (rn + 1) c6, by omega, by go_num, by rw [HQ.out], HX6, Lib.hid (by rw [HCU.out]; exact Ex.own (Ex.one _ _ _ _) (fun k hk e => by have h3 := (HO6.out.lt k hk).1; have e : k = w1.heap.size := e; have := HS2.out; omega) HO6.out), Lib.hid (HF6.out.setCell (Nat.le_refl _) _), Lib.hid (by simpa [World.setCell] using HZ6.out)⟩
            case measure => simp [intOf]; omega
          · skip
            have z3 : decide (xn > p) = false := decide_eq_false hp2
            have HP2 := Lib.hid hp2
            clear hp2
            have HCO : Hid (cutO p x = ⟨xo, xn, xm⟩) := Lib.hid (by rw [HXE.out]; unfold cutO; rw [if_neg (fun h => HP2.out h.2), if_neg (fun h => by have h1 : xo = 11 := h.1; have := H24.out; omega)])
            rw [HCO.out] at HCU
            obtain ⟨wB, hwB⟩ : ∃ y, y = wr.alloc (.cells #[.int .i64 xo, .int .i64 xn, .int .i64 xm] 48) := ⟨_, rfl⟩
            have HFB : Hid (Fr wr wB) := Lib.hid (by rw [hwB]; exact (Fr.refl wr).alloc _)
            have HOB : Hid (OpR wB wr.heap.size (.int .i64 xo) (.int .i64 xn) (.int .i64 xm)) := Lib.hid (by rw [hwB]; exact OpR.new _ _ _ _)
            have HDB := Lib.hid (HDR.out.fr HFB.out)
            have HSB : Hid (wB.heap.size = wr.heap.size + 1) := Lib.hid (by rw [hwB, size_al])
            have HWB := Lib.hid hwB
            obtain ⟨q0, q1, q2, q3, q4, q5⟩ := HDB.out.cells
            obtain ⟨o0, o1, o2⟩ := HOB.out.cells
            rw [hwB] at q0 q1 q2 q3 q4 q5 o0 o1 o2
            clear hwB
            go_wp2_with (with_reducible refine stop_append_a ?_)
            rw [← HWB.out, ← HSB.out]
            unfold StopA
            have hlo3 : rn ≤ lo := by rw [HRN.out, HLC.out, HN.out]; exact Nat.le_trans (cutL_lenle p _ _) (by rw [List.length_take]; omega)
            have HROW6 : Hid ((wB.alloc (.cells #[.int .i64 xo, .int .i64 xn, .int .i64 xm] 48)).ownsRow w2.heap.size 48 3 (.slice ra rn rc) rn (rowN (clO_cs L) rn)) := Lib.hid (Ex.own (X := fun _ => False) ((HFB.out.alloc _).ex) (fun _ _ h => h) HROW.out)
            have hs1 := HSR.out
            have hs2 := HSB.out
            refine wpList_append_own_at _ rfl (.tmp 62) (.tmp 64) 23 rfl w2.heap.size 48 i1 _ 3 24 Try.underlying23 HIO.out.1 HIO.out.2.1 HIO.out.2.2.1 HIO.out.2.2.2 rfl (by omega) _ rn (rowN (clO_cs L) rn) (by rfl) HROW6.out ⟨wB.heap.size, 0, none⟩ 1 1 [.int .i64 xo, .int .i64 xn, .int .i64 xm] (by rfl) (by rfl) (OpR.new wB _ _ _).news (fun u hu => by simp only [List.mem_cons, List.not_mem_nil, or_false] at hu; rcases hu with rfl | rfl | rfl <;> rfl) (by unfold maxLen; omega) (by omega) (by rw [size_al]; omega) fun v6 w6 hown6 hg6 _ hb6 => ?_
            have HF6 : Hid (Fr w1 w6) := Lib.hid (own_fr6 (w0 := w1) ((HFR.out.trans HFB.out).alloc _) (own_base HROW6.out (by have := HS2.out; omega)) hg6)
            have hdg : ∀ k, (Value.slice ra rn rc).ownBlock = some k → w2.heap.size ≤ k := fun k hk => (HROW.out.lt k hk).1
            have hbk : CdR w6 w1.heap.size (.string nm) (.slice da1 ld dc1) (.slice ra rn rc) (.slice ga1 gn1 gc1) (.int .i64 procs) (.int .i64 labels) := (hg6.block w1.heap.size (by have := HS2.out; rw [size_al]; omega) (fun e => by have := hdg _ e.symm; have := HS2.out; omega)).trans (HDB.out.fr ((Fr.refl wB).alloc _))
            obtain ⟨a6, c6, rfl⟩ := own_val hown6
            have HD6 := Lib.hid hbk
            have HZ6 : Hid (w2.heap.size ≤ w6.heap.size) := Lib.hid (by have := hg6.size; rw [size_al] at this; omega)
            have HX6 := Lib.hid (hbk.set2 (.slice a6 (rn + 1) c6))
            obtain ⟨g0, g1, g2, g3, g4, g5⟩ := hbk.cells
            have gf := hbk.free 2
            have HO6 : Hid (w6.ownsRow w2.heap.size 48 3 (.slice a6 (rn + 1) c6) (L ++ [(⟨xo, xn, xm⟩ : Op3)]).length (rowN (clO_cs (L ++ [(⟨xo, xn, xm⟩ : Op3)])) (L ++ [(⟨xo, xn, xm⟩ : Op3)]).length)) := Lib.hid (by rw [← clO_more L ⟨xo, xn, xm⟩, show (L ++ [(⟨xo, xn, xm⟩ : Op3)]).length = L.length + 1 by simp, ← HRN.out]; exact hown6)
            clear hown6 hg6 hb6 hbk hdg q0 q1 q2 q3 q4 q5 o0 o1 o2
            go_wp2_with fail
            go_roundw
            case rel =>
              refine ⟨j + 1, .slice a6 (rn + 1) c6, by omega, by go_num, by rw [HQ.out], HX6, Lib.hid (by rw [HCU.out]; exact Ex.own (Ex.one _ _ _ _) (fun k hk e => by have h3 := (HO6.out.lt k hk).1; have e : k = w1.heap.size := e; have := HS2.out; omega) HO6.out), Lib.hid (HF6.out.setCell (Nat.le_refl _) _), Lib.hid (by simpa [World.setCell] using HZ6.out)⟩
            case measure => simp [intOf]; omega
      · have z1 : (xo == 24) = false := nz6 h24
        rw [if_neg h24] at HQ HCU
        have H24 := Lib.hid h24
        clear h24
        by_cases hp1 : q = p
        · have z2 : (q == p) = true := beq_iff_eq.2 hp1
          rw [if_pos hp1] at HCU
          clear hp1
          go_wp2_with fail
          go_roundw
          case rel =>
            refine ⟨j + 1, .slice ra rn rc, by omega, by go_num, by rw [HQ.out], Lib.hid (HDR.out.fr ((Fr.refl _).alloc _)), Lib.hid (by rw [HCU.out, List.append_nil, ← HRN.out]; exact Ex.own (X := fun _ => False) (((Fr.refl wr).alloc _).ex) (fun _ _ h => h) HROW.out), Lib.hid (HFR.out.alloc _), Lib.hid (by rw [size_al]; have := HSR.out; omega)⟩
          case measure => simp [intOf]; omega
        · have z2 : (q == p) = false := nz6 hp1
          rw [if_neg hp1] at HCU
          clear hp1
          by_cases h11 : xo = 11
          · have z11 : (xo == 11) = true := beq_iff_eq.2 h11
            have H11 := Lib.hid h11
            clear h11
            by_cases hp2 : p < xn
            · skip
              have z3 : decide (xn > p) = true := decide_eq_true hp2
              have z4 : IntKind.i64.wrap (xn - 1) = xn - 1 := IntWalk.i64_in _ (by unfold wf64 at hw1 hp; omega)
              have HP2 := Lib.hid hp2
              clear hp2
              have HCO : Hid (cutO p x = ⟨xo, (xn - 1), xm⟩) := Lib.hid (by rw [HXE.out]; unfold cutO; exact if_pos ⟨Or.inr H11.out, HP2.out⟩)
              rw [HCO.out] at HCU
              obtain ⟨wB, hwB⟩ : ∃ y, y = wr.alloc (.cells #[.int .i64 xo, .int .i64 (xn - 1), .int .i64 xm] 48) := ⟨_, rfl⟩
              have HFB : Hid (Fr wr wB) := Lib.hid (by rw [hwB]; exact (Fr.refl wr).alloc _)
              have HOB : Hid (OpR wB wr.heap.size (.int .i64 xo) (.int .i64 (xn - 1)) (.int .i64 xm)) := Lib.hid (by rw [hwB]; exact OpR.new _ _ _ _)
              have HDB := Lib.hid (HDR.out.fr HFB.out)
              have HSB : Hid (wB.heap.size = wr.heap.size + 1) := Lib.hid (by rw [hwB, size_al])
              have HWB := Lib.hid hwB
              obtain ⟨q0, q1, q2, q3, q4, q5⟩ := HDB.out.cells
              obtain ⟨o0, o1, o2⟩ := HOB.out.cells
              rw [hwB] at q0 q1 q2 q3 q4 q5 o0 o1 o2
              clear hwB
              go_wp2_with (with_reducible refine stop_append_a ?_)
              rw [← HWB.out, ← HSB.out]
              unfold StopA
              have hlo3 : rn ≤ lo := by rw [HRN.out, HLC.out, HN.out]; exact Nat.le_trans (cutL_lenle p _ _) (by rw [List.length_take]; omega)
              have HROW6 : Hid ((wB.alloc (.cells #[.int .i64 xo, .int .i64 (xn - 1), .int .i64 xm] 48)).ownsRow w2.heap.size 48 3 (.slice ra rn rc) rn (rowN (clO_cs L) rn)) := Lib.hid (Ex.own (X := fun _ => False) ((HFB.out.alloc _).ex) (fun _ _ h => h) HROW.out)
              have hs1 := HSR.out
              have hs2 := HSB.out
              refine wpList_append_own_at _ rfl (.tmp 62) (.tmp 64) 23 rfl w2.heap.size 48 i1 _ 3 24 Try.underlying23 HIO.out.1 HIO.out.2.1 HIO.out.2.2.1 HIO.out.2.2.2 rfl (by omega) _ rn (rowN (clO_cs L) rn) (by rfl) HROW6.out ⟨wB.heap.size, 0, none⟩ 1 1 [.int .i64 xo, .int .i64 (xn - 1), .int .i64 xm] (by rfl) (by rfl) (OpR.new wB _ _ _).news (fun u hu => by simp only [List.mem_cons, List.not_mem_nil, or_false] at hu; rcases hu with rfl | rfl | rfl <;> rfl) (by unfold maxLen; omega) (by omega) (by rw [size_al]; omega) fun v6 w6 hown6 hg6 _ hb6 => ?_
              have HF6 : Hid (Fr w1 w6) := Lib.hid (own_fr6 (w0 := w1) ((HFR.out.trans HFB.out).alloc _) (own_base HROW6.out (by have := HS2.out; omega)) hg6)
              have hdg : ∀ k, (Value.slice ra rn rc).ownBlock = some k → w2.heap.size ≤ k := fun k hk => (HROW.out.lt k hk).1
              have hbk : CdR w6 w1.heap.size (.string nm) (.slice da1 ld dc1) (.slice ra rn rc) (.slice ga1 gn1 gc1) (.int .i64 procs) (.int .i64 labels) := (hg6.block w1.heap.size (by have := HS2.out; rw [size_al]; omega) (fun e => by have := hdg _ e.symm; have := HS2.out; omega)).trans (HDB.out.fr ((Fr.refl wB).alloc _))
              obtain ⟨a6, c6, rfl⟩ := own_val hown6
              have HD6 := Lib.hid hbk
              have HZ6 : Hid (w2.heap.size ≤ w6.heap.size) := Lib.hid (by have := hg6.size; rw [size_al] at this; omega)
              have HX6 := Lib.hid (hbk.set2 (.slice a6 (rn + 1) c6))
              obtain ⟨g0, g1, g2, g3, g4, g5⟩ := hbk.cells
              have gf := hbk.free 2
              have HO6 : Hid (w6.ownsRow w2.heap.size 48 3 (.slice a6 (rn + 1) c6) (L ++ [(⟨xo, (xn - 1), xm⟩ : Op3)]).length (rowN (clO_cs (L ++ [(⟨xo, (xn - 1), xm⟩ : Op3)])) (L ++ [(⟨xo, (xn - 1), xm⟩ : Op3)]).length)) := Lib.hid (by rw [← clO_more L ⟨xo, (xn - 1), xm⟩, show (L ++ [(⟨xo, (xn - 1), xm⟩ : Op3)]).length = L.length + 1 by simp, ← HRN.out]; exact hown6)
              clear hown6 hg6 hb6 hbk hdg q0 q1 q2 q3 q4 q5 o0 o1 o2
              go_wp2_with fail
              go_roundw
              case rel =>
                refine ⟨j + 1, .slice a6 (rn + 1) c6, by omega, by go_num, by rw [HQ.out], HX6, Lib.hid (by rw [HCU.out]; exact Ex.own (Ex.one _ _ _ _) (fun k hk e => by have h3 := (HO6.out.lt k hk).1; have e : k = w1.heap.size := e; have := HS2.out; omega) HO6.out), Lib.hid (HF6.out.setCell (Nat.le_refl _) _), Lib.hid (by simpa [World.setCell] using HZ6.out)⟩
              case measure => simp [intOf]; omega
            · by_cases hp3 : xn = p
              · have z6 : (xn == p) = true := beq_iff_eq.2 hp3
                have z3 : decide (xn > p) = false := decide_eq_false hp2
                have HP2 := Lib.hid hp2
                clear hp2
                have HP3 := Lib.hid hp3
                clear hp3
                have HCO : Hid (cutO p x = ⟨xo, 1, xm⟩) := Lib.hid (by rw [HXE.out]; unfold cutO; rw [if_neg (fun h => HP2.out h.2)]; exact if_pos ⟨H11.out, HP3.out⟩)
                rw [HCO.out] at HCU
                obtain ⟨wB, hwB⟩ : ∃ y, y = wr.alloc (.cells #[.int .i64 xo, .int .i64 1, .int .i64 xm] 48) := ⟨_, rfl⟩
                have HFB : Hid (Fr wr wB) := Lib.hid (by rw [hwB]; exact (Fr.refl wr).alloc _)
                have HOB : Hid (OpR wB wr.heap.size (.int .i64 xo) (.int .i64 1) (.int .i64 xm)) := Lib.hid (by rw [hwB]; exact OpR.new _ _ _ _)
                have HDB := Lib.hid (HDR.out.fr HFB.out)
                have HSB : Hid (wB.heap.size = wr.heap.size + 1) := Lib.hid (by rw [hwB, size_al])
                have HWB := Lib.hid hwB
                obtain ⟨q0, q1, q2, q3, q4, q5⟩ := HDB.out.cells
                obtain ⟨o0, o1, o2⟩ := HOB.out.cells
                rw [hwB] at q0 q1 q2 q3 q4 q5 o0 o1 o2
                clear hwB
                go_wp2_with (with_reducible refine stop_append_a ?_)
                rw [← HWB.out, ← HSB.out]
                unfold StopA
                have hlo3 : rn ≤ lo := by rw [HRN.out, HLC.out, HN.out]; exact Nat.le_trans (cutL_lenle p _ _) (by rw [List.length_take]; omega)
                have HROW6 : Hid ((wB.alloc (.cells #[.int .i64 xo, .int .i64 1, .int .i64 xm] 48)).ownsRow w2.heap.size 48 3 (.slice ra rn rc) rn (rowN (clO_cs L) rn)) := Lib.hid (Ex.own (X := fun _ => False) ((HFB.out.alloc _).ex) (fun _ _ h => h) HROW.out)
                have hs1 := HSR.out
                have hs2 := HSB.out
                refine wpList_append_own_at _ rfl (.tmp 62) (.tmp 64) 23 rfl w2.heap.size 48 i1 _ 3 24 Try.underlying23 HIO.out.1 HIO.out.2.1 HIO.out.2.2.1 HIO.out.2.2.2 rfl (by omega) _ rn (rowN (clO_cs L) rn) (by rfl) HROW6.out ⟨wB.heap.size, 0, none⟩ 1 1 [.int .i64 xo, .int .i64 1, .int .i64 xm] (by rfl) (by rfl) (OpR.new wB _ _ _).news (fun u hu => by simp only [List.mem_cons, List.not_mem_nil, or_false] at hu; rcases hu with rfl | rfl | rfl <;> rfl) (by unfold maxLen; omega) (by omega) (by rw [size_al]; omega) fun v6 w6 hown6 hg6 _ hb6 => ?_
                have HF6 : Hid (Fr w1 w6) := Lib.hid (own_fr6 (w0 := w1) ((HFR.out.trans HFB.out).alloc _) (own_base HROW6.out (by have := HS2.out; omega)) hg6)
                have hdg : ∀ k, (Value.slice ra rn rc).ownBlock = some k → w2.heap.size ≤ k := fun k hk => (HROW.out.lt k hk).1
                have hbk : CdR w6 w1.heap.size (.string nm) (.slice da1 ld dc1) (.slice ra rn rc) (.slice ga1 gn1 gc1) (.int .i64 procs) (.int .i64 labels) := (hg6.block w1.heap.size (by have := HS2.out; rw [size_al]; omega) (fun e => by have := hdg _ e.symm; have := HS2.out; omega)).trans (HDB.out.fr ((Fr.refl wB).alloc _))
                obtain ⟨a6, c6, rfl⟩ := own_val hown6
                have HD6 := Lib.hid hbk
                have HZ6 : Hid (w2.heap.size ≤ w6.heap.size) := Lib.hid (by have := hg6.size; rw [size_al] at this; omega)
                have HX6 := Lib.hid (hbk.set2 (.slice a6 (rn + 1) c6))
                obtain ⟨g0, g1, g2, g3, g4, g5⟩ := hbk.cells
                have gf := hbk.free 2
                have HO6 : Hid (w6.ownsRow w2.heap.size 48 3 (.slice a6 (rn + 1) c6) (L ++ [(⟨xo, 1, xm⟩ : Op3)]).length (rowN (clO_cs (L ++ [(⟨xo, 1, xm⟩ : Op3)])) (L ++ [(⟨xo, 1, xm⟩ : Op3)]).length)) := Lib.hid (by rw [← clO_more L ⟨xo, 1, xm⟩, show (L ++ [(⟨xo, 1, xm⟩ : Op3)]).length = L.length + 1 by simp, ← HRN.out]; exact hown6)
                clear hown6 hg6 hb6 hbk hdg q0 q1 q2 q3 q4 q5 o0 o1 o2
                go_wp2_with fail
                go_roundw
                case rel =>
                  refine ⟨j + 1, .slice a6 (rn + 1) c6, by omega, by go_num, by rw [HQ.out], HX6, Lib.hid (by rw [HCU.out]; exact Ex.own (Ex.one _ _ _ _) (fun k hk e => by have h3 := (HO6.out.lt k hk).1; have e : k = w1.heap.size := e; have := HS2.out; omega) HO6.out), Lib.hid (HF6.out.setCell (Nat.le_refl _) _), Lib.hid (by simpa [World.setCell] using HZ6.out)⟩
                case measure => simp [intOf]; omega
              · have z6 : (xn == p) = false := nz6 hp3
                have z3 : decide (xn > p) = false := decide_eq_false hp2
                have HP2 := Lib.hid hp2
                clear hp2
                have HP3 := Lib.hid hp3
                clear hp3
                have HCO : Hid (cutO p x = ⟨xo, xn, xm⟩) := Lib.hid (by rw [HXE.out]; unfold cutO; rw [if_neg (fun h => HP2.out h.2), if_neg (fun h => HP3.out h.2)])
                rw [HCO.out] at HCU
                obtain ⟨wB, hwB⟩ : ∃ y, y = wr.alloc (.cells #[.int .i64 xo, .int .i64 xn, .int .i64 xm] 48) := ⟨_, rfl⟩
                have HFB : Hid (Fr wr wB) := Lib.hid (by rw [hwB]; exact (Fr.refl wr).alloc _)
                have HOB : Hid (OpR wB wr.heap.size (.int .i64 xo) (.int .i64 xn) (.int .i64 xm)) := Lib.hid (by rw [hwB]; exact OpR.new _ _ _ _)
                have HDB := Lib.hid (HDR.out.fr HFB.out)
                have HSB : Hid (wB.heap.size = wr.heap.size + 1) := Lib.hid (by rw [hwB, size_al])
                have HWB := Lib.hid hwB
                obtain ⟨q0, q1, q2, q3, q4, q5⟩ := HDB.out.cells
                obtain ⟨o0, o1, o2⟩ := HOB.out.cells
                rw [hwB] at q0 q1 q2 q3 q4 q5 o0 o1 o2
                clear hwB
                go_wp2_with (with_reducible refine stop_append_a ?_)
                rw [← HWB.out, ← HSB.out]
                unfold StopA
                have hlo3 : rn ≤ lo := by rw [HRN.out, HLC.out, HN.out]; exact Nat.le_trans (cutL_lenle p _ _) (by rw [List.length_take]; omega)
                have HROW6 : Hid ((wB.alloc (.cells #[.int .i64 xo, .int .i64 xn, .int .i64 xm] 48)).ownsRow w2.heap.size 48 3 (.slice ra rn rc) rn (rowN (clO_cs L) rn)) := Lib.hid (Ex.own (X := fun _ => False) ((HFB.out.alloc _).ex) (fun _ _ h => h) HROW.out)
                have hs1 := HSR.out
                have hs2 := HSB.out
                refine wpList_append_own_at _ rfl (.tmp 62) (.tmp 64) 23 rfl w2.heap.size 48 i1 _ 3 24 Try.underlying23 HIO.out.1 HIO.out.2.1 HIO.out.2.2.1 HIO.out.2.2.2 rfl (by omega) _ rn (rowN (clO_cs L) rn) (by rfl) HROW6.out ⟨wB.heap.size, 0, none⟩ 1 1 [.int .i64 xo, .int .i64 xn, .int .i64 xm] (by rfl) (by rfl) (OpR.new wB _ _ _).news (fun u hu => by simp only [List.mem_cons, List.not_mem_nil, or_false] at hu; rcases hu with rfl | rfl | rfl <;> rfl) (by unfold maxLen; omega) (by omega) (by rw [size_al]; omega) fun v6 w6 hown6 hg6 _ hb6 => ?_
                have HF6 : Hid (Fr w1 w6) := Lib.hid (own_fr6 (w0 := w1) ((HFR.out.trans HFB.out).alloc _) (own_base HROW6.out (by have := HS2.out; omega)) hg6)
                have hdg : ∀ k, (Value.slice ra rn rc).ownBlock = some k → w2.heap.size ≤ k := fun k hk => (HROW.out.lt k hk).1
                have hbk : CdR w6 w1.heap.size (.string nm) (.slice da1 ld dc1) (.slice ra rn rc) (.slice ga1 gn1 gc1) (.int .i64 procs) (.int .i64 labels) := (hg6.block w1.heap.size (by have := HS2.out; rw [size_al]; omega) (fun e => by have := hdg _ e.symm; have := HS2.out; omega)).trans (HDB.out.fr ((Fr.refl wB).alloc _))
                obtain ⟨a6, c6, rfl⟩ := own_val hown6
                have HD6 := Lib.hid hbk
                have HZ6 : Hid (w2.heap.size ≤ w6.heap.size) := Lib.hid (by have := hg6.size; rw [size_al] at this; omega)
                have HX6 := Lib.hid (hbk.set2 (.slice a6 (rn + 1) c6))
                obtain ⟨g0, g1, g2, g3, g4, g5⟩ := hbk.cells
                have gf := hbk.free 2
                have HO6 : Hid (w6.ownsRow w2.heap.size 48 3 (.slice a6 (rn + 1) c6) (L ++ [(⟨xo, xn, xm⟩ : Op3)]).length (rowN (clO_cs (L ++ [(⟨xo, xn, xm⟩ : Op3)])) (L ++ [(⟨xo, xn, xm⟩ : Op3)]).length)) := Lib.hid (by rw [← clO_more L ⟨xo, xn, xm⟩, show (L ++ [(⟨xo, xn, xm⟩ : Op3)]).length = L.length + 1 by simp, ← HRN.out]; exact hown6)
                clear hown6 hg6 hb6 hbk hdg q0 q1 q2 q3 q4 q5 o0 o1 o2
                go_wp2_with fail
                go_roundw
                case rel =>
                  refine ⟨j + 1, .slice a6 (rn + 1) c6, by omega, by go_num, by rw [HQ.out], HX6, Lib.hid (by rw [HCU.out]; exact Ex.own (Ex.one _ _ _ _) (fun k hk e => by have h3 := (HO6.out.lt k hk).1; have e : k = w1.heap.size := e; have := HS2.out; omega) HO6.out), Lib.hid (HF6.out.setCell (Nat.le_refl _) _), Lib.hid (by simpa [World.setCell] using HZ6.out)⟩
                case measure => simp [intOf]; omega
          · have z11 : (xo == 11) = false := nz6 h11
            have H11 := Lib.hid h11
            clear h11
            have HCO : Hid (cutO p x = ⟨xo, xn, xm⟩) := Lib.hid (by rw [HXE.out]; unfold cutO; rw [if_neg (fun h => h.1.elim H24.out H11.out), if_neg (fun h => H11.out h.1)])
            rw [HCO.out] at HCU
            obtain ⟨wB, hwB⟩ : ∃ y, y = wr.alloc (.cells #[.int .i64 xo, .int .i64 xn, .int .i64 xm] 48) := ⟨_, rfl⟩
            have HFB : Hid (Fr wr wB) := Lib.hid (by rw [hwB]; exact (Fr.refl wr).alloc _)
            have HOB : Hid (OpR wB wr.heap.size (.int .i64 xo) (.int .i64 xn) (.int .i64 xm)) := Lib.hid (by rw [hwB]; exact OpR.new _ _ _ _)
            have HDB := Lib.hid (HDR.out.fr HFB.out)
            have HSB : Hid (wB.heap.size = wr.heap.size + 1) := Lib.hid (by rw [hwB, size_al])
            have HWB := Lib.hid hwB
            obtain ⟨q0, q1, q2, q3, q4, q5⟩ := HDB.out.cells
            obtain ⟨o0, o1, o2⟩ := HOB.out.cells
            rw [hwB] at q0 q1 q2 q3 q4 q5 o0 o1 o2
            clear hwB
            go_wp2_with (with_reducible refine stop_append_a ?_)
            rw [← HWB.out, ← HSB.out]
            unfold StopA
            have hlo3 : rn ≤ lo := by rw [HRN.out, HLC.out, HN.out]; exact Nat.le_trans (cutL_lenle p _ _) (by rw [List.length_take]; omega)
            have HROW6 : Hid ((wB.alloc (.cells #[.int .i64 xo, .int .i64 xn, .int .i64 xm] 48)).ownsRow w2.heap.size 48 3 (.slice ra rn rc) rn (rowN (clO_cs L) rn)) := Lib.hid (Ex.own (X := fun _ => False) ((HFB.out.alloc _).ex) (fun _ _ h => h) HROW.out)
            have hs1 := HSR.out
            have hs2 := HSB.out
            refine wpList_append_own_at _ rfl (.tmp 62) (.tmp 64) 23 rfl w2.heap.size 48 i1 _ 3 24 Try.underlying23 HIO.out.1 HIO.out.2.1 HIO.out.2.2.1 HIO.out.2.2.2 rfl (by omega) _ rn (rowN (clO_cs L) rn) (by rfl) HROW6.out ⟨wB.heap.size, 0, none⟩ 1 1 [.int .i64 xo, .int .i64 xn, .int .i64 xm] (by rfl) (by rfl) (OpR.new wB _ _ _).news (fun u hu => by simp only [List.mem_cons, List.not_mem_nil, or_false] at hu; rcases hu with rfl | rfl | rfl <;> rfl) (by unfold maxLen; omega) (by omega) (by rw [size_al]; omega) fun v6 w6 hown6 hg6 _ hb6 => ?_
            have HF6 : Hid (Fr w1 w6) := Lib.hid (own_fr6 (w0 := w1) ((HFR.out.trans HFB.out).alloc _) (own_base HROW6.out (by have := HS2.out; omega)) hg6)
            have hdg : ∀ k, (Value.slice ra rn rc).ownBlock = some k → w2.heap.size ≤ k := fun k hk => (HROW.out.lt k hk).1
            have hbk : CdR w6 w1.heap.size (.string nm) (.slice da1 ld dc1) (.slice ra rn rc) (.slice ga1 gn1 gc1) (.int .i64 procs) (.int .i64 labels) := (hg6.block w1.heap.size (by have := HS2.out; rw [size_al]; omega) (fun e => by have := hdg _ e.symm; have := HS2.out; omega)).trans (HDB.out.fr ((Fr.refl wB).alloc _))
            obtain ⟨a6, c6, rfl⟩ := own_val hown6
            have HD6 := Lib.hid hbk
            have HZ6 : Hid (w2.heap.size ≤ w6.heap.size) := Lib.hid (by have := hg6.size; rw [size_al] at this; omega)
            have HX6 := Lib.hid (hbk.set2 (.slice a6 (rn + 1) c6))
            obtain ⟨g0, g1, g2, g3, g4, g5⟩ := hbk.cells
            have gf := hbk.free 2
            have HO6 : Hid (w6.ownsRow w2.heap.size 48 3 (.slice a6 (rn + 1) c6) (L ++ [(⟨xo, xn, xm⟩ : Op3)]).length (rowN (clO_cs (L ++ [(⟨xo, xn, xm⟩ : Op3)])) (L ++ [(⟨xo, xn, xm⟩ : Op3)]).length)) := Lib.hid (by rw [← clO_more L ⟨xo, xn, xm⟩, show (L ++ [(⟨xo, xn, xm⟩ : Op3)]).length = L.length + 1 by simp, ← HRN.out]; exact hown6)
            clear hown6 hg6 hb6 hbk hdg q0 q1 q2 q3 q4 q5 o0 o1 o2
            go_wp2_with fail
            go_roundw
            case rel =>
              refine ⟨j + 1, .slice a6 (rn + 1) c6, by omega, by go_num, by rw [HQ.out], HX6, Lib.hid (by rw [HCU.out]; exact Ex.own (Ex.one _ _ _ _) (fun k hk e => by have h3 := (HO6.out.lt k hk).1; have e : k = w1.heap.size := e; have := HS2.out; omega) HO6.out), Lib.hid (HF6.out.setCell (Nat.le_refl _) _), Lib.hid (by simpa [World.setCell] using HZ6.out)⟩
            case measure => simp [intOf]; omega
    · obtain rfl : j = lo := by omega
      obtain ⟨L, hL⟩ : ∃ y, y = cutL p 0 l := ⟨_, rfl⟩
      have htk : l.take j = l := by rw [HN.out]; exact List.take_length
      rw [htk, ← hL] at HROW
      obtain ⟨ra, rc, rfl⟩ := own_val HROW.out
      obtain ⟨rn, hrn⟩ : ∃ y, y = L.length := ⟨_, rfl⟩
      have HRN := Lib.hid hrn
      have HSL : Hid (OpsV wr (.slice ra rn rc) L) := Lib.hid (by have h := clO_sl HROW.out; rw [← hrn] at h; exact h)
      rw [← hrn] at HROW HDR
      have HLL := Lib.hid hL
      have hpw := HPW.out
      have hp0 := hpw.2
      have hpp2 : IntKind.i64.wrap (procs - 1) = procs - 1 := IntWalk.i64_in _ (by have := hpw.1; unfold wf64 at this; omega)
      obtain ⟨d0, d1, d2, d3, d4, d5⟩ := HDR.out.cells
      have f3 := HDR.out.free 3
      have f4 := HDR.out.free 4
      have f5 := HDR.out.free 5
      obtain ⟨w7, hw7⟩ : ∃ y, y = ((wr.setCell ⟨w1.heap.size, 4, none⟩ (.int .i64 (procs - 1))).setCell ⟨w1.heap.size, 3, none⟩ (.slice none 0 0)).setCell ⟨w1.heap.size, 5, none⟩ (.int .i64 0) := ⟨_, rfl⟩
      have HD7 : Hid (CdR w7 w1.heap.size (.string nm) (.slice da1 ld dc1) (.slice ra rn rc) (.slice none 0 0) (.int .i64 (procs - 1)) (.int .i64 0)) := Lib.hid (by
        have h := HDR.out
        rw [hw7]
        unfold CdR at h ⊢
        simp [World.setCell, Array.getElem?_modify, h])
      have HE7 : Hid (Ex (fun b => b = w1.heap.size) wr w7) := Lib.hid (by rw [hw7]; exact ((Ex.one _ _ _ _).trans (Ex.one _ _ _ _)).trans (Ex.one _ _ _ _))
      have HF7 : Hid (Fr w1 w7) := Lib.hid (by rw [hw7]; exact ((HFR.out.setCell (Nat.le_refl _) _).setCell (Nat.le_refl _) _).setCell (Nat.le_refl _) _)
      have HW7 := Lib.hid hw7
      clear hw7 hL htk hrn hpw hp0 hlt hj
      go_wp2_with fail
      rw [← HW7.out]
      clear d0 d1 d2 d3 d4 d5 f3 f4 f5 k0 k1 k2 k3 k4 k5
      have hrn2 : rn ≤ 2000000 := by rw [HRN.out, HLL.out]; exact Nat.le_trans (cutL_lenle p _ _) (by rw [← HN.out]; omega)
      go_loopw [9] (fun i wq => ∃ (k : Nat), k ≤ rn ∧ i = .int .i64 k ∧ Hid (CdR wq w1.heap.size (.string nm) (.slice da1 ld dc1) (.slice ra rn rc) (.slice none 0 0) (.int .i64 (procs - 1)) (.int .i64 (greatI (L.take k) 19))) ∧ Hid (Ex (fun b => b = w1.heap.size) wr wq) ∧ Hid (Fr w1 wq)) (fun i _ => rn - (intOf i).toNat)
      case atStart => exact ⟨0, Nat.zero_le _, rfl, HD7, HE7, HF7⟩
      case round =>
        obtain ⟨k, hk, rfl, HDQ, HEQ, HFQ⟩ := hrel
        obtain ⟨d0, d1, d2, d3, d4, d5⟩ := HDQ.out.cells
        by_cases hlt : k < rn
        · obtain ⟨y, hy⟩ : ∃ y, L[k]? = some y := ⟨_, List.getElem?_eq_getElem (by rw [← HRN.out]; exact hlt)⟩
          obtain ⟨b3, off3, e3, hcell⟩ := HSL.out.at_ hy
          subst e3
          have hb3 : b3 ≠ w1.heap.size := fun e => by have := (HROW.out.lt b3 rfl).1; have := HS2.out; omega
          have c1 := HEQ.out.cell hb3 hcell.op
          have c2 := HEQ.out.cell hb3 hcell.n
          have f5 := HDQ.out.free 5
          have hgr : greatI (L.take (k + 1)) 19 = if y.op = 19 then max (greatI (L.take k) 19) y.n else greatI (L.take k) 19 := by
            rw [List.take_add_one, hy]; unfold greatI; rw [Option.toList_some, List.foldl_append]; rfl
          have HGR := Lib.hid hgr
          obtain ⟨gr, hg⟩ : ∃ z, z = greatI (L.take k) 19 := ⟨_, rfl⟩
          rw [← hg] at d5 HDQ HGR
          obtain ⟨yo, hyo⟩ : ∃ z, z = y.op := ⟨_, rfl⟩
          obtain ⟨yn, hyn⟩ : ∃ z, z = y.n := ⟨_, rfl⟩
          rw [← hyo] at c1 HGR
          rw [← hyn] at c2 HGR
          clear hy hcell hgr hg hyo hyn
          have pj0 : (0 : Int) ≤ (k : Int) := Int.natCast_nonneg _
          have pj1 : (k : Int) < (rn : Int) := by omega
          by_cases h19 : yo = 19
          · have z1 : (yo == 19) = true := beq_iff_eq.2 h19
            rw [if_pos h19] at HGR
            clear h19
            go_wp2_with fail
            go_region
            all_goals
              go_wp2_with fail
              go_roundw
              case rel => exact ⟨k + 1, by omega, by go_num, Lib.hid (by rw [HGR.out, show max gr yn = if gr < yn then yn else gr by omega]; exact (HDQ.out.set5 _).fr (Fr.refl _).drew), Lib.hid ((HEQ.out.set (p := ⟨w1.heap.size, 5, none⟩) rfl _).fr (Fr.refl _).drew), Lib.hid ((HFQ.out.setCell (Nat.le_refl _) _).drew)⟩
              case measure => simp [intOf]; omega
          · have z1 : (yo == 19) = false := nz6 h19
            rw [if_neg h19] at HGR
            clear h19
            go_wp2_with fail
            go_roundw
            case rel => exact ⟨k + 1, by omega, by go_num, by rw [HGR.out]; exact HDQ, HEQ, HFQ⟩
            case measure => simp [intOf]; omega
        · obtain rfl : k = rn := by omega
          obtain ⟨gr, hg⟩ : ∃ z, z = greatI (L.take k) 19 := ⟨_, rfl⟩
          have HGI := Lib.hid hg
          rw [← hg] at d5 HDQ
          have HZ3 := Lib.hid (HZ0.out.fr (HF1.out.trans HFQ.out))
          obtain ⟨z0, z1, z2, z3, z4, z5⟩ := HZ3.out.cells
          have f0 := HZ3.out.free 0
          have f1 := HZ3.out.free 1
          have f2 := HZ3.out.free 2
          have f3 := HZ3.out.free 3
          have f4 := HZ3.out.free 4
          have f5 := HZ3.out.free 5
          obtain ⟨wf, hwf⟩ : ∃ y, y = ((((((wr.setCell ⟨w.heap.size + 1, 0, none⟩ (.string nm)).setCell ⟨w.heap.size + 1, 1, none⟩ (.slice da1 ld dc1)).setCell ⟨w.heap.size + 1, 2, none⟩ (.slice ra k rc)).setCell ⟨w.heap.size + 1, 3, none⟩ (.slice none 0 0)).setCell ⟨w.heap.size + 1, 4, none⟩ (.int .i64 (procs - 1))).setCell ⟨w.heap.size + 1, 5, none⟩ (.int .i64 gr)) := ⟨_, rfl⟩
          have HRF : Hid (CdR wf (w.heap.size + 1) (.string nm) (.slice da1 ld dc1) (.slice ra k rc) (.slice none 0 0) (.int .i64 (procs - 1)) (.int .i64 gr)) := Lib.hid (by rw [hwf]; exact HZ3.out.all _ _ _ _ _ _)
          have HEF : Hid (Ex (fun b => b = w.heap.size + 1) wr wf) := Lib.hid (by rw [hwf]; exact Ex.all _ _ _ _ _ _ _ _)
          have HFF : Hid (Fr w wf) := Lib.hid (by rw [hwf]; exact (HF0.out.trans (HF1.out.trans HFQ.out)).all (Nat.le_succ _) _ _ _ _ _ _)
          have HWF := Lib.hid hwf
          clear hwf hg hlt hk
          go_wp2_with fail
          rw [← HWF.out]
          clear z0 z1 z2 z3 z4 z5 f0 f1 f2 f3 f4 f5 d0 d1 d2 d3 d4 d5
          obtain ⟨k0, k1, k2, k3, k4, k5⟩ := HRF.out.cells
          refine bodyPost_ret (v := .agg #[.string nm, .slice da1 ld dc1, .slice ra k rc, .slice none 0 0, .int .i64 (procs - 1), .int .i64 gr]) (by simp [results, Try.results31, go_sem, k0, k1, k2, k3, k4, k5]) rfl ?_
          have hLt : L.take k = L := by rw [HRN.out]; exact List.take_length
          refine ⟨.slice da1 ld dc1, .slice ra k rc, ?_, ⟨?_, ?_, ?_⟩, HFF.out⟩
          · rw [HCC.out, HGI.out, hLt, HLL.out, HL.out, HNM.out, HPR.out]; rfl
          · rw [HCC.out]
            have h1 := HD1.out.dts (X := fun b => b = w.heap.size + 1) (fun b hb e => by have hb : w0.heap.size ≤ b := hb; have e : b = w.heap.size + 1 := e; have := HS0.out; omega) ((HFQ.out.ex).trans HEF.out)
            exact h1.dtsV
          · rw [HCC.out]
            have h1 := Ex.own HEQ.out (fun b hb e => by have := (HROW.out.lt b hb).1; have := HS2.out; have e : b = w1.heap.size := e; omega) HROW.out
            have h2 := Ex.own HEF.out (fun b hb e => by have := (HROW.out.lt b hb).1; have h3 := HS2.out; have h4 := HF1.out.size; have h5 := HS0.out; have e : b = w.heap.size + 1 := e; omega) h1
            show OpsV wf _ (cutL p 0 c.ops)
            rw [← HL.out, ← HLL.out]
            rw [HRN.out] at h2 ⊢
            exact clO_sl h2
          · rw [HCC.out]
            exact clE_sl (l := []) (base := 0) (World.ownsRow_nil _ _ _ _)
end Go.Proofs.Ytbhhjbnobcgfeaa
