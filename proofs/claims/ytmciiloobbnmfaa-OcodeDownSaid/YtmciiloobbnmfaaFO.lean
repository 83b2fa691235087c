/- The walk of OcodeDown. -/
import Derived.Test.YtmciiloobbnmfaaFN
import Derived.Deep.RegionHeld3
namespace Go.Proofs.Ytmciiloobbnmfaa
open Go.RowKit
set_option linter.unusedVariables false
set_option linter.unusedSimpArgs false

set_option maxRecDepth 100000 in
set_option maxHeartbeats 20000000 in
theorem down_walk (c : Cod) (dv ov gv : Value) (w : World) (hc : CodW w c dv ov gv) (hw : wfC c) :
    Calls Try.prog 10 #[codV c dv ov gv] w fun e w' => e = .returned (.bool true) ∧ Fr w w' := by
  have CH := Lib.hid (fun W (h : Fr w W) => heavy_any c dv ov gv W (hc.fr h) hw)
  have CD := Lib.hid (fun W (h : Fr w W) (hv : hvC c = false) => Depths_any c dv ov gv W (hc.fr h) hw (by have := (hvC_small hv).1; omega) (fun x hx => by have := (hvC_small hv).2.1 x hx; omega))
  have CR := Lib.hid (fun W (h : Fr w W) (hv : hvC c = false) => Room_any c dv ov gv W (hc.fr h) hw (by have := (hvC_small hv).1; omega) (fun x hx => by have := (hvC_small hv).2.1 x hx; omega))
  have CK := Lib.hid (fun W (h : Fr w W) (hv : hvC c = false) => Check_any c dv ov gv W (hc.fr h) hw (by have := (hvC_small hv).1; omega) (fun x hx => by have := (hvC_small hv).2.1 x hx; omega))
  have HV := Lib.hid hc.o
  obtain ⟨R, hR⟩ : ∃ y, y = hvC c := ⟨_, rfl⟩
  have HRR := Lib.hid hR
  rw [← hR] at CH CD CR CK
  obtain ⟨da, dc, hdv, _, _, _⟩ := hc.d.form
  obtain ⟨oa, oc, hov, hoc, hom, _⟩ := hc.o.form
  obtain ⟨ga, gc, hgv, _, _, _⟩ := hc.g.form
  obtain ⟨l, hl⟩ : ∃ y, y = c.ops := ⟨_, rfl⟩
  obtain ⟨ld, hld⟩ : ∃ y, y = c.data.length := ⟨_, rfl⟩
  obtain ⟨n, hlo⟩ : ∃ y, y = c.ops.length := ⟨_, rfl⟩
  obtain ⟨lg, hlg⟩ : ∃ y, y = c.gl.length := ⟨_, rfl⟩
  have HN : Hid (n = l.length) := Lib.hid (by rw [hlo, hl])
  have HL := Lib.hid hl
  rw [← hld] at hdv
  rw [← hlo] at hov hoc CD
  rw [← hlg] at hgv
  rw [← hl] at HV
  subst hdv hov hgv
  unfold codV at CH CD CR CK ⊢
  obtain ⟨nm, hnm⟩ : ∃ y, y = c.name := ⟨_, rfl⟩
  obtain ⟨procs, hpr⟩ : ∃ y, y = c.procs := ⟨_, rfl⟩
  obtain ⟨labels, hlb⟩ : ∃ y, y = c.labels := ⟨_, rfl⟩
  have HPR := Lib.hid hpr
  rw [← hnm, ← hpr, ← hlb] at CH CD CR CK ⊢
  obtain ⟨w0, hw0⟩ : ∃ w0, w0 = w.alloc (.cells #[.string nm, .slice da ld dc, .slice oa n oc, .slice ga lg gc, .int .i64 procs, .int .i64 labels] 26) := ⟨_, rfl⟩
  have HF0 : Hid (Fr w w0) := Lib.hid (by rw [hw0]; exact (Fr.refl w).alloc _)
  have HCB : Hid (CdB w0 w.heap.size nm (.slice da ld dc) (.slice oa n oc) (.slice ga lg gc) procs labels) := Lib.hid (by rw [hw0]; exact CdB.new w _ _ _ _ _ _)
  have HW0 := Lib.hid hw0
  unfold maxLen at hom
  clear hc hw hl hld hlo hlg hnm hpr hlb hw0 hR
  go_enter Try.func10, Try.ntmps10
  go_wp2_with fail
  try rw [← HW0.out]
  refine (CH.out _ HF0.out).mono ?_
  rintro e w1 ⟨rfl, hf1⟩
  have HF1 : Hid (Fr w w1) := Lib.hid (HF0.out.trans hf1)
  have HC1 := Lib.hid (HCB.out.fr hf1)
  clear hf1
  cases R with
  | true =>
    go_wp2_with fail
    refine (awake_any _).mono ?_
    rintro e w2 ⟨rfl, hf2⟩
    have HF2 : Hid (Fr w w2) := Lib.hid (HF1.out.trans hf2)
    go_wp2_with fail
    go_ret
    exact ⟨rfl, HF2.out⟩
  | false =>
    have CD2 := Lib.hid (fun W h => CD.out W h rfl)
    have CR2 := Lib.hid (fun W h => CR.out W h rfl)
    have CK2 := Lib.hid (fun W h => CK.out W h rfl)
    clear CD CR CK
    obtain ⟨cb0, cb1, cb2, cb3, cb4, cb5⟩ := HC1.out
    go_wp2_with fail
    refine (CD2.out _ HF1.out).mono ?_
    rintro e w2 ⟨hD, hf2⟩
    have HD := Lib.hid hD
    have HF2 : Hid (Fr w w2) := Lib.hid (HF1.out.trans hf2)
    have HC2 := Lib.hid (HC1.out.fr hf2)
    clear hf2 hD cb0 cb1 cb2 cb3 cb4 cb5
    obtain ⟨cb0, cb1, cb2, cb3, cb4, cb5⟩ := HC2.out
    by_cases h0 : exE c = 0
    · obtain ⟨g, rfl, _, hdep⟩ := HD.out.1 h0
      obtain ⟨lp, hlp, hlp2, hvd⟩ := vd_ok h0
      rw [← HL.out] at hvd hdep
      have HVD := Lib.hid hvd
      have h40 : n ≤ 40000 := by have := HN.out; have h20 := lim_ok (ex_lim h0).1; rw [HL.out] at this; omega
      have HLPI : Hid (procs = (lp : Int)) := Lib.hid (HPR.out.trans hlp)
      have HTN : Hid (procs.toNat = lp) := Lib.hid (by rw [HLPI.out]; exact Int.toNat_natCast lp)
      have H0 := Lib.hid h0
      have HDEP := Lib.hid hdep
      clear h0 hdep hvd hlp HD
      go_wp2_with fail
      refine (CR2.out _ HF2.out).mono ?_
      rintro e w3 ⟨hP, hf3⟩
      rw [HTN.out] at hP
      obtain ⟨gr, rfl, _, hroom⟩ := hP.1 H0.out
      rw [← HL.out] at hroom
      have HROOM := Lib.hid hroom
      have HDEP3 := Lib.hid (hf3.row HDEP.out)
      have HF3 : Hid (Fr w w3) := Lib.hid (HF2.out.trans hf3)
      have HC3 := Lib.hid (HC2.out.fr hf3)
      clear hf3 hP hroom cb0 cb1 cb2 cb3 cb4 cb5 CD2 CR2 CK2
      obtain rfl : procs = (lp : Int) := HLPI.out
      obtain ⟨cb0, cb1, cb2, cb3, cb4, cb5⟩ := HC3.out
      have n1 : ((n : Int) != (n : Int)) = false := bne_self_eq_false _
      have n2 : ((lp : Int) != (lp : Int)) = false := bne_self_eq_false _
      go_wp2_with fail
      go_loopw [7, 8, 9] (fun q t i wr => ∃ (j p : Nat) (d tt : Int) (h : Nat → Int), j ≤ n ∧ i = .int .i64 j ∧ q = .int .i64 p ∧ t = .int .i64 tt ∧ Hid (∀ k, 0 ≤ h k ∧ h k ≤ 4000) ∧ Hid (Vd lp p d (l.drop j) ∧ p ≤ lp) ∧ Hid ((depL 0 l).drop j = depL d (l.drop j)) ∧ Hid (rmL l = ((l.drop j).foldl rmF (p, d, h)).2.2) ∧ Hid ((p = 0 → tt = 0) ∧ (∀ k, p = k + 1 → tt = h k)) ∧ Hid (∀ k, p ≤ k → h k = 0) ∧ Fr w3 wr) (fun _ _ i _ => n - (intOf i).toNat)
      case atStart => exact ⟨0, 0, 0, 0, fun _ => 0, Nat.zero_le _, rfl, rfl, rfl, Lib.hid (fun k => ⟨Int.le_refl 0, by simp⟩), Lib.hid ⟨HVD.out, Nat.zero_le _⟩, Lib.hid rfl, Lib.hid rfl, Lib.hid ⟨fun _ => rfl, fun k hk => by omega⟩, Lib.hid (fun _ _ => rfl), Fr.refl _⟩
      case round =>
        obtain ⟨j, p, d, tt, h, hj, rfl, rfl, rfl, HH, HVJ, HDJ, HRJ, HTT, HZ, hfr⟩ := hrel
        have HFR := Lib.hid hfr
        clear cb0 cb1 cb2 cb3 cb4 cb5 n1 n2
        obtain ⟨cb0, cb1, cb2, cb3, cb4, cb5⟩ := HC3.out.fr hfr
        by_cases hlt : j < n
        · obtain ⟨t, ht⟩ : ∃ t, l[j]? = some t := ⟨_, List.getElem?_eq_getElem (by rw [← HN.out]; exact hlt)⟩
          have HT := Lib.hid ht
          obtain ⟨b, off, rfl, hc3⟩ := (HV.out.fr' (HF3.out.trans hfr)).at_ ht
          obtain ⟨x0, x1, x2⟩ := hc3
          obtain ⟨⟨q0, q1, q2⟩, hq⟩ : ∃ y, y = t := ⟨_, rfl⟩
          subst hq
          simp only at x0 x1 x2
          clear ht hfr
          obtain ⟨s24, sn, sbd, saf, svd⟩ := HVJ.out.1.step HT.out
          obtain ⟨sde, sdj⟩ := dep_step HDJ.out HT.out
          have SRJ : rmL l = ((l.drop (j + 1)).foldl rmF (rmF (p, d, h) ⟨q0, q1, q2⟩)).2.2 := by rw [HRJ.out, fold_drop rmF (p, d, h) HT.out]
          simp only [rmF] at s24 sn sbd saf svd sde sdj SRJ
          have SPP := HVJ.out.2
          obtain ⟨w8, hw8⟩ : ∃ y, y = wr.alloc (.cells #[.int .i64 q0, .int .i64 q1, .int .i64 q2] 48) := ⟨_, rfl⟩
          have HW8 := Lib.hid hw8
          have HF8 : Hid (Fr wr w8) := Lib.hid (by rw [hw8]; exact (Fr.refl _).alloc _)
          have HX8 : Hid (w8.cell? ⟨wr.heap.size, 0, none⟩ = some (.int .i64 q0) ∧ w8.cell? ⟨wr.heap.size, 1, none⟩ = some (.int .i64 q1) ∧ w8.cell? ⟨wr.heap.size, 2, none⟩ = some (.int .i64 q2)) := Lib.hid (by rw [hw8]; exact ⟨by simp, by simp, by simp⟩)
          have HD8 := Lib.hid ((HFR.out.trans HF8.out).row HDEP3.out)
          have HR8 := Lib.hid ((HFR.out.trans HF8.out).row HROOM.out)
          clear hw8
          obtain ⟨de, hde⟩ : ∃ y : Int, y = (if q0 = 24 then 0 else d) := ⟨_, rfl⟩
          obtain ⟨p', hp'⟩ : ∃ y : Nat, y = (if q0 = 24 then p + 1 else p) := ⟨_, rfl⟩
          rw [← hde] at saf svd sde sdj SRJ
          rw [← hp'] at svd SRJ
          have hdb : 0 ≤ de ∧ de ≤ 4000 := by
            rw [hde]
            by_cases e24 : q0 = 24
            · rw [if_pos e24]; omega
            · rw [if_neg e24]; have := sn e24; omega
          obtain ⟨aa, haa⟩ : ∃ y, y = afterI ⟨q0, q1, q2⟩ de := ⟨_, rfl⟩
          have CA := Lib.hid (fun W => RAfter_any q0 q1 q2 de W ⟨sbd.1, sbd.2.1⟩ sbd.2.2 (by omega))
          rw [← haa] at saf svd sdj SRJ CA
          have hpp : 1 ≤ p' ∧ p' ≤ lp := by
            rw [hp']
            by_cases e24 : q0 = 24
            · rw [if_pos e24]; have := s24 e24; omega
            · rw [if_neg e24]; have := sn e24; omega
          obtain ⟨k, hkk⟩ : ∃ k : Nat, p' = k + 1 := ⟨p' - 1, by omega⟩
          rw [hkk] at svd SRJ
          rw [show k + 1 - 1 = k from rfl] at SRJ
          obtain ⟨hh, hhh⟩ : ∃ y, y = h k := ⟨_, rfl⟩
          rw [← hhh] at SRJ
          have HHB := HH.out k
          rw [← hhh] at HHB
          obtain ⟨mx, hmx⟩ : ∃ y, y = max (max hh de) aa := ⟨_, rfl⟩
          rw [← hmx] at SRJ
          have HMXB : Hid (0 ≤ mx ∧ mx ≤ 4000) := Lib.hid (by omega)
          have HH2 : Hid (∀ i, 0 ≤ upd h k mx i ∧ upd h k mx i ≤ 4000) := Lib.hid (fun i => by
            unfold upd
            by_cases hik : i = k
            · rw [if_pos hik]; exact HMXB.out
            · rw [if_neg hik]; exact HH.out i)
          have hrm := fun W => run_max3 #[3, 3, 3] 3 hh de aa W
          rw [← hmx] at hrm
          have HSV := Lib.hid (And.intro svd (show k + 1 ≤ lp by omega))
          have HSD := Lib.hid sdj
          have HSR := Lib.hid SRJ
          have HTT2 : Hid ((k + 1 = 0 → mx = 0) ∧ (∀ i, k + 1 = i + 1 → mx = upd h k mx i)) := Lib.hid ⟨fun e => by omega, fun i e => by
            obtain rfl : k = i := by omega
            simp [upd]⟩
          have HZ2 : Hid (∀ i, k + 1 ≤ i → upd h k mx i = 0) := Lib.hid (fun i hi => by
            unfold upd
            rw [if_neg (by omega)]
            exact HZ.out i (by have := hp'; split at this <;> omega))
          have HDEK : Hid (∀ W, Fr w8 W → W.cell? ⟨g, j, none⟩ = some (.int .i64 de)) := Lib.hid (fun W hW => by
            have z3 := (hW.row HD8.out).cell hlt
            try simp only at z3
            rw [sde] at z3
            exact z3)
          have HKQ : Hid (∀ W, Fr w8 W → W.cell? ⟨wr.heap.size, 0, none⟩ = some (.int .i64 q0) ∧ W.cell? ⟨wr.heap.size, 1, none⟩ = some (.int .i64 q1) ∧ W.cell? ⟨wr.heap.size, 2, none⟩ = some (.int .i64 q2) ∧ W.cell? ⟨g, j, none⟩ = some (.int .i64 de)) := Lib.hid (fun W hW => ⟨hW.cell HX8.out.1, hW.cell HX8.out.2.1, hW.cell HX8.out.2.2, HDEK.out W hW⟩)
          -- the next instruction
          have HNX : Hid (∀ r : Op3, l[j + 1]? = some r → ¬ r.op = 24 → ∀ W, Fr w8 W → W.cell? ⟨g, j + 1, none⟩ = some (.int .i64 aa)) := Lib.hid (fun r hr hr24 W hW => by
            have hjn : j + 1 < n := by rw [HN.out]; exact (List.getElem?_eq_some_iff.1 hr).1
            have z3 := (hW.row HD8.out).cell hjn
            try simp only at z3
            rw [(dep_step HSD.out hr).1, if_neg hr24] at z3
            exact z3)
          have w1' : IntKind.i64.wrap ((j : Int) + 1) = (j : Int) + 1 := IntWalk.i64_in _ (by omega)
          have wp1 : IntKind.i64.wrap ((p : Int) + 1) = (p : Int) + 1 := IntWalk.i64_in _ (by omega)
          have HTK : Hid ((q0 = 24 → k = p ∧ hh = 0 ∧ de = 0) ∧ (¬ q0 = 24 → p = k + 1 ∧ hh = tt ∧ 2 ≤ de ∧ de ≤ 4000)) := Lib.hid ⟨fun e => by
            rw [if_pos e] at hp' hde
            have e2 : k = p := by omega
            exact ⟨e2, by rw [hhh, e2]; exact HZ.out p (Nat.le_refl _), hde⟩, fun e => by
            rw [if_neg e] at hp' hde
            have e2 : p = k + 1 := by omega
            have := sn e
            exact ⟨e2, by rw [hhh]; exact (HTT.out.2 k e2).symm, by omega⟩⟩
          have HRK : Hid (q0 = 24 → ∀ i, p = i + 1 → ∀ W, Fr w8 W → W.cell? ⟨gr, i, none⟩ = some (.int .i64 tt)) := Lib.hid (fun e i hi W hW => by
            have z3 := (hW.row HR8.out).cell (show i < lp by omega)
            try simp only at z3
            rw [HRJ.out, rm_enter HT.out e p d h i (by omega), ← HTT.out.2 i hi] at z3
            exact z3)
          have hq0 : Fr w8 w8.drew := (Fr.refl _).drew
          have hqn : Fr w8 w8 := Fr.refl _
          have HB24 : Hid ((if q0 = 24 then True else True) = True) := Lib.hid (by split <;> rfl)
          clear s24 sn sbd saf svd sde sdj SRJ SPP hde hp' haa hhh hmx hpp hkk hdb HHB
          go_wp2_with fail
          try rw [← HW8.out]
          go_region_held3 (fun W' => W'.cell? ⟨wr.heap.size, 0, none⟩ = some (.int .i64 q0) ∧ W'.cell? ⟨wr.heap.size, 1, none⟩ = some (.int .i64 q1) ∧ W'.cell? ⟨wr.heap.size, 2, none⟩ = some (.int .i64 q2) ∧ W'.cell? ⟨g, j, none⟩ = some (.int .i64 de))
            (first | exact HKQ.out _ (by assumption))
            (first | (go_at_call 32; refine (CA.out _).mono ?_; rintro e w9 ⟨rfl, hf9⟩; have hq9 := Fr.trans (by assumption : Fr w8 _) hf9))
          have HF9 := Lib.hid hq9
          obtain ⟨y0, y1, y2, y3⟩ := HKQ.out _ hq9
          clear hq9 hf9 hq0 hqn x0 x1 x2 cb0 cb1 cb2 cb3 cb4 cb5
          have HF39 := Lib.hid ((HFR.out.trans HF8.out).trans HF9.out)
          obtain ⟨cb0, cb1, cb2, cb3, cb4, cb5⟩ := HC3.out.fr HF39.out
          by_cases e24 : q0 = 24
          · obtain ⟨t1, t2, t3⟩ := HTK.out.1 e24
            have hrk := HRK.out e24
            subst e24
            have e0 : ((24 : Int) == 24) = true := rfl
            subst t1
            rw [t2] at hrm
            rw [t3] at hrm y3
            clear t2 t3
            rcases Nat.eq_zero_or_pos k with hp0 | hp0
            · have f1 : decide ((k : Int) > 0) = false := decide_eq_false (by omega)
              have f1' : decide ((0 : Int) < (k : Int)) = false := decide_eq_false (by omega)
              have gp : ¬ 0 < k := by omega
              have gp' : decide (0 < k) = false := decide_eq_false gp
              clear hp0 hrk
              by_cases hjn : j + 1 < n
              · obtain ⟨r, hr⟩ : ∃ r, l[j + 1]? = some r := ⟨_, List.getElem?_eq_getElem (by rw [← HN.out]; exact hjn)⟩
                have hcell := (HV.out.fr' (HF3.out.trans HF39.out)).at_ hr
                obtain ⟨b2, off2, hbo, hc4⟩ := hcell
                obtain ⟨rfl, rfl⟩ : b = b2 ∧ off = off2 := by simpa using hbo
                have v0 := hc4.1
                have g1 : decide ((j : Int) + 1 < (n : Int)) = true := decide_eq_true (by omega)
                by_cases hr24 : r.op = 24
                · rw [hr24] at v0
                  clear hr24 hc4 hbo hr
                  go_wp2_with fail
                  go_roundw
                  case rel => exact ⟨j + 1, k + 1, aa, mx, upd h k mx, by omega, by go_num, by simp, rfl, HH2, HSV, HSD, HSR, HTT2, HZ2, HF39.out⟩
                  case measure => simp [intOf]; omega
                · have g2 : (r.op == 24) = false := by rw [beq_eq_false_iff_ne]; exact hr24
                  have g3 : (r.op != 24) = true := by rw [bne_iff_ne]; exact hr24
                  have v1 := HNX.out r hr hr24 _ HF9.out
                  have g4 : (aa == aa) = true := beq_self_eq_true _
                  have g5 : (aa != aa) = false := bne_self_eq_false _
                  obtain ⟨ro, hro⟩ : ∃ y, y = r.op := ⟨_, rfl⟩
                  rw [← hro] at v0 g2 g3
                  clear hr24 hc4 hbo hr hro
                  go_wp2_with fail
                  go_roundw
                  case rel => exact ⟨j + 1, k + 1, aa, mx, upd h k mx, by omega, by go_num, by simp, rfl, HH2, HSV, HSD, HSR, HTT2, HZ2, HF39.out⟩
                  case measure => simp [intOf]; omega
              · have g1 : decide ((j : Int) + 1 < (n : Int)) = false := decide_eq_false (by omega)
                go_wp2_with fail
                go_roundw
                case rel => exact ⟨j + 1, k + 1, aa, mx, upd h k mx, by omega, by go_num, by simp, rfl, HH2, HSV, HSD, HSR, HTT2, HZ2, HF39.out⟩
                case measure => simp [intOf]; omega
            · obtain ⟨i, hi⟩ : ∃ i, k = i + 1 := ⟨k - 1, by omega⟩
              have z1 := hrk i hi _ HF9.out
              have f1 : decide ((k : Int) > 0) = true := decide_eq_true (by omega)
              have f1' : decide ((0 : Int) < (k : Int)) = true := decide_eq_true (by omega)
              have gp : 0 < k := by omega
              have gp' : decide (0 < k) = true := decide_eq_true gp
              have f2 : (tt == tt) = true := beq_self_eq_true _
              have f3 : (tt != tt) = false := bne_self_eq_false _
              have hil : i < lp := by have := HSV.out.2; omega
              have wk : IntKind.i64.wrap ((k : Int) - 1) = (i : Int) := by rw [show (k : Int) - 1 = (i : Int) by omega]; exact IntWalk.i64_in _ (by omega)
              clear hrk hi
              by_cases hjn : j + 1 < n
              · obtain ⟨r, hr⟩ : ∃ r, l[j + 1]? = some r := ⟨_, List.getElem?_eq_getElem (by rw [← HN.out]; exact hjn)⟩
                have hcell := (HV.out.fr' (HF3.out.trans HF39.out)).at_ hr
                obtain ⟨b2, off2, hbo, hc4⟩ := hcell
                obtain ⟨rfl, rfl⟩ : b = b2 ∧ off = off2 := by simpa using hbo
                have v0 := hc4.1
                have g1 : decide ((j : Int) + 1 < (n : Int)) = true := decide_eq_true (by omega)
                by_cases hr24 : r.op = 24
                · rw [hr24] at v0
                  clear hr24 hc4 hbo hr
                  go_wp2_with fail
                  go_roundw
                  case rel => exact ⟨j + 1, k + 1, aa, mx, upd h k mx, by omega, by go_num, by simp, rfl, HH2, HSV, HSD, HSR, HTT2, HZ2, HF39.out⟩
                  case measure => simp [intOf]; omega
                · have g2 : (r.op == 24) = false := by rw [beq_eq_false_iff_ne]; exact hr24
                  have g3 : (r.op != 24) = true := by rw [bne_iff_ne]; exact hr24
                  have v1 := HNX.out r hr hr24 _ HF9.out
                  have g4 : (aa == aa) = true := beq_self_eq_true _
                  have g5 : (aa != aa) = false := bne_self_eq_false _
                  obtain ⟨ro, hro⟩ : ∃ y, y = r.op := ⟨_, rfl⟩
                  rw [← hro] at v0 g2 g3
                  clear hr24 hc4 hbo hr hro
                  go_wp2_with fail
                  go_roundw
                  case rel => exact ⟨j + 1, k + 1, aa, mx, upd h k mx, by omega, by go_num, by simp, rfl, HH2, HSV, HSD, HSR, HTT2, HZ2, HF39.out⟩
                  case measure => simp [intOf]; omega
              · have g1 : decide ((j : Int) + 1 < (n : Int)) = false := decide_eq_false (by omega)
                go_wp2_with fail
                go_roundw
                case rel => exact ⟨j + 1, k + 1, aa, mx, upd h k mx, by omega, by go_num, by simp, rfl, HH2, HSV, HSD, HSR, HTT2, HZ2, HF39.out⟩
                case measure => simp [intOf]; omega
          · have e0 : (q0 == 24) = false := by rw [beq_eq_false_iff_ne]; exact e24
            obtain ⟨t1, t2, t3, t4⟩ := HTK.out.2 e24
            rw [t2] at hrm
            have f1 : decide (de < 2) = false := decide_eq_false (by omega)
            have f2 : decide (de > 4000) = false := decide_eq_false (by omega)
            have f2' : decide (4000 < de) = false := decide_eq_false (by omega)
            have HT1 := Lib.hid t1
            clear e24 t2 t3 t4 t1
            by_cases hjn : j + 1 < n
            · obtain ⟨r, hr⟩ : ∃ r, l[j + 1]? = some r := ⟨_, List.getElem?_eq_getElem (by rw [← HN.out]; exact hjn)⟩
              have hcell := (HV.out.fr' (HF3.out.trans HF39.out)).at_ hr
              obtain ⟨b2, off2, hbo, hc4⟩ := hcell
              obtain ⟨rfl, rfl⟩ : b = b2 ∧ off = off2 := by simpa using hbo
              have v0 := hc4.1
              have g1 : decide ((j : Int) + 1 < (n : Int)) = true := decide_eq_true (by omega)
              by_cases hr24 : r.op = 24
              · rw [hr24] at v0
                clear hr24 hc4 hbo hr
                go_wp2_with fail
                go_roundw
                case rel => exact ⟨j + 1, k + 1, aa, mx, upd h k mx, by omega, by go_num, by rw [HT1.out], rfl, HH2, HSV, HSD, HSR, HTT2, HZ2, HF39.out⟩
                case measure => simp [intOf]; omega
              · have g2 : (r.op == 24) = false := by rw [beq_eq_false_iff_ne]; exact hr24
                have g3 : (r.op != 24) = true := by rw [bne_iff_ne]; exact hr24
                have v1 := HNX.out r hr hr24 _ HF9.out
                have g4 : (aa == aa) = true := beq_self_eq_true _
                have g5 : (aa != aa) = false := bne_self_eq_false _
                obtain ⟨ro, hro⟩ : ∃ y, y = r.op := ⟨_, rfl⟩
                rw [← hro] at v0 g2 g3
                clear hr24 hc4 hbo hr hro
                go_wp2_with fail
                go_roundw
                case rel => exact ⟨j + 1, k + 1, aa, mx, upd h k mx, by omega, by go_num, by rw [HT1.out], rfl, HH2, HSV, HSD, HSR, HTT2, HZ2, HF39.out⟩
                case measure => simp [intOf]; omega
            · have g1 : decide ((j : Int) + 1 < (n : Int)) = false := decide_eq_false (by omega)
              go_wp2_with fail
              go_roundw
              case rel => exact ⟨j + 1, k + 1, aa, mx, upd h k mx, by omega, by go_num, by rw [HT1.out], rfl, HH2, HSV, HSD, HSR, HTT2, HZ2, HF39.out⟩
              case measure => simp [intOf]; omega
        · obtain rfl : j = n := by omega
          have HF : Hid (rmL l = h) := Lib.hid (by rw [HRJ.out, List.drop_eq_nil_of_le (by rw [← HN.out]; exact Nat.le_refl _)]; rfl)
          clear hfr
          rcases Nat.eq_zero_or_pos p with hp0 | hp0
          · have f1 : ((p : Int) == 0) = true := by rw [beq_iff_eq]; omega
            clear hp0
            obtain ⟨cb0, cb1, cb2, cb3, cb4, cb5⟩ := HC3.out.fr HFR.out
            go_wp2_with fail
            refine (awake_any _).mono ?_
            rintro e w9 ⟨rfl, hf9⟩
            have HF9 : Hid (Fr w w9) := Lib.hid ((HF3.out.trans HFR.out).trans hf9)
            clear hf9
            go_wp2_with fail
            go_ret
            exact ⟨rfl, HF9.out⟩
          · obtain ⟨k, hk⟩ : ∃ k, p = k + 1 := ⟨p - 1, by omega⟩
            have z1 := (HFR.out.row HROOM.out).cell (show k < lp by have := HVJ.out.2; omega)
            try simp only at z1
            rw [HF.out, ← HTT.out.2 k hk] at z1
            have f1 : ((p : Int) == 0) = false := by rw [beq_eq_false_iff_ne]; omega
            have f2 : (tt == tt) = true := beq_self_eq_true _
            have wk : IntKind.i64.wrap ((p : Int) - 1) = (k : Int) := by rw [show (p : Int) - 1 = (k : Int) by omega]; exact IntWalk.i64_in _ (by have := HVJ.out.2; omega)
            have hkm : k < lp := by have := HVJ.out.2; omega
            clear hp0 hk
            obtain ⟨cb0, cb1, cb2, cb3, cb4, cb5⟩ := HC3.out.fr HFR.out
            go_wp2_with fail
            refine (awake_any _).mono ?_
            rintro e w9 ⟨rfl, hf9⟩
            have HF9 : Hid (Fr w w9) := Lib.hid ((HF3.out.trans HFR.out).trans hf9)
            clear hf9
            go_wp2_with fail
            go_ret
            exact ⟨rfl, HF9.out⟩
    · obtain rfl := HD.out.2 h0
      have e1 : ((exE c : Int) != 0) = true := by rw [bne_iff_ne]; omega
      have e2 : ((exE c : Int) == (exE c : Int)) = true := beq_self_eq_true _
      have H0 := Lib.hid h0
      obtain ⟨E, hE⟩ : ∃ y, y = exE c := ⟨_, rfl⟩
      have HE := Lib.hid hE
      rw [← hE] at e1 e2 CK2 ⊢
      clear h0 HD hE
      go_wp2_with fail
      refine (CR2.out _ HF2.out).mono ?_
      rintro e w3 ⟨hP, hf3⟩
      obtain rfl := hP.2 H0.out
      rw [← HE.out]
      have HF3 : Hid (Fr w w3) := Lib.hid (HF2.out.trans hf3)
      have HC3 := Lib.hid (HC2.out.fr hf3)
      clear hf3 hP cb0 cb1 cb2 cb3 cb4 cb5
      obtain ⟨cb0, cb1, cb2, cb3, cb4, cb5⟩ := HC3.out
      go_wp2_with fail
      refine (CK2.out _ HF3.out).mono ?_
      rintro e w4 ⟨rfl, hf4⟩
      have HF4 : Hid (Fr w w4) := Lib.hid (HF3.out.trans hf4)
      clear hf4
      go_wp2_with fail
      refine (awake_any _).mono ?_
      rintro e w5 ⟨rfl, hf5⟩
      have HF5 : Hid (Fr w w5) := Lib.hid (HF4.out.trans hf5)
      go_wp2_with fail
      go_ret
      exact ⟨rfl, HF5.out⟩
end Go.Proofs.Ytmciiloobbnmfaa
