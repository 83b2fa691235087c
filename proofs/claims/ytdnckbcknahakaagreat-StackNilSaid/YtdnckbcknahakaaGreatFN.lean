/- The code's Room. -/
import Derived.Test.YtdnckbcknahakaaGreatFM
import Derived.Deep.RegionHeld3
namespace Go.Proofs.YtdnckbcknahakaaGreat
open Go.RowKit
set_option linter.unusedVariables false
set_option linter.unusedSimpArgs false

/-- What Room hands back. -/
def RmP (c : Cod) (lp : Nat) (w : World) (e : Ending) (w' : World) : Prop :=
  (exE c = 0 → ∃ g : Nat, e = .returned (.tuple #[.slice (some ⟨g, 0, none⟩) lp lp, .int .i64 0]) ∧ w.heap.size ≤ g ∧ w'.rowIs g 3 lp (fun k => .int .i64 (rmL c.ops k))) ∧ (¬ exE c = 0 → e = .returned (.tuple #[.slice none 0 0, .int .i64 (exE c : Nat)]))
theorem max3 (x y z : Int) : (if (if x < y then y else x) < z then z else (if x < y then y else x)) = max (max x y) z := by
  by_cases h1 : x < y
  · rw [if_pos h1]
    by_cases h2 : y < z
    · rw [if_pos h2]; omega
    · rw [if_neg h2]; omega
  · rw [if_neg h1]
    by_cases h2 : x < z
    · rw [if_pos h2]; omega
    · rw [if_neg h2]; omega
theorem run_max3 (ats : Array TypeId) (ty : TypeId) (x y z : Int) (W : World) : (Builtin.max_ ats ty #[.int .i64 x, .int .i64 y, .int .i64 z]).run Tryz.prog W = .ok (.int .i64 (max (max x y) z)) W := by
  rw [← max3]; rfl
set_option maxRecDepth 100000 in
set_option maxHeartbeats 30000000 in
theorem Room_any (c : Cod) (dv ov gv : Value) (w : World) (hc : CodW w c dv ov gv) (hw : wfC c) (hs : c.name.size ≤ 2000000) (ht : ∀ x ∈ c.data, x.t.size ≤ 2000000) :
    Calls Tryz.prog 37 #[codV c dv ov gv] w fun e w' => RmP c c.procs.toNat w e w' ∧ Fr w w' := by
  have CX := Lib.hid (fun W (h : Fr w W) => examine_any c dv ov gv W (hc.fr h) hw hs ht)
  have HV := Lib.hid hc.o
  obtain ⟨da, dc, hdv, _, _, _⟩ := hc.d.form
  obtain ⟨oa, oc, hov, hoc, hom, _⟩ := hc.o.form
  obtain ⟨ga, gc, hgv, _, _, _⟩ := hc.g.form
  obtain ⟨l, hl⟩ : ∃ y, y = c.ops := ⟨_, rfl⟩
  obtain ⟨ld, hld⟩ : ∃ y, y = c.data.length := ⟨_, rfl⟩
  obtain ⟨n, hlo⟩ : ∃ y, y = c.ops.length := ⟨_, rfl⟩
  obtain ⟨lg, hlg⟩ : ∃ y, y = c.gl.length := ⟨_, rfl⟩
  have HN : Hid (n = l.length) := Lib.hid (by rw [hlo, hl])
  have HL := Lib.hid hl
  rw [← hld] at hdv
  rw [← hlo] at hov hoc CX
  rw [← hlg] at hgv
  rw [← hl] at HV
  subst hdv hov hgv
  unfold codV at CX ⊢
  obtain ⟨nm, hnm⟩ : ∃ y, y = c.name := ⟨_, rfl⟩
  obtain ⟨procs, hpr⟩ : ∃ y, y = c.procs := ⟨_, rfl⟩
  obtain ⟨labels, hlb⟩ : ∃ y, y = c.labels := ⟨_, rfl⟩
  have HPR := Lib.hid hpr
  obtain ⟨lt, hlt⟩ : ∃ y, y = c.procs.toNat := ⟨_, rfl⟩
  have HLT := Lib.hid hlt
  rw [← hlt]
  rw [← hnm, ← hpr, ← hlb] at CX ⊢
  obtain ⟨w0, hw0⟩ : ∃ w0, w0 = w.alloc (.cells #[.string nm, .slice da ld dc, .slice oa n oc, .slice ga lg gc, .int .i64 procs, .int .i64 labels] 43) := ⟨_, rfl⟩
  have HF0 : Hid (Fr w w0) := Lib.hid (by rw [hw0]; exact (Fr.refl w).alloc _)
  have HCB : Hid (CdB w0 w.heap.size nm (.slice da ld dc) (.slice oa n oc) (.slice ga lg gc) procs labels) := Lib.hid (by rw [hw0]; exact CdB.new w _ _ _ _ _ _)
  have HW0 := Lib.hid hw0
  unfold maxLen at hom
  clear hc hw hs ht hl hld hlo hlg hnm hpr hlb hlt hw0
  go_enter Tryz.func37, Tryz.ntmps37
  go_wp2_with fail
  try rw [← HW0.out]
  refine (CX.out _ HF0.out).mono ?_
  rintro e w1 ⟨hx, hf1⟩
  have HX := Lib.hid hx
  have HF1 : Hid (Fr w w1) := Lib.hid (HF0.out.trans hf1)
  have HC1 := Lib.hid (HCB.out.fr hf1)
  clear hf1 hx
  by_cases h0 : exE c = 0
  · have H0 : Hid (exE c = 0) := Lib.hid h0
    obtain ⟨g, rfl, hg, hdep⟩ := HX.out.1 h0
    rw [← HL.out] at hdep
    have HDEP := Lib.hid hdep
    obtain ⟨lp, hlp, hlp2, hvd⟩ := vd_ok h0
    rw [← HL.out] at hvd
    have HVD := Lib.hid hvd
    have HLPI : Hid (procs = (lp : Int)) := Lib.hid (HPR.out.trans hlp)
    obtain rfl : procs = (lp : Int) := HLPI.out
    have HTN : Hid (lt = lp) := Lib.hid (by rw [HLT.out, hlp]; exact Int.toNat_natCast lp)
    have hmk := fun W => run_make_ints lp (by omega) W
    have HB1 := Lib.hid (World.rowIs_made w1 (.int .i64 0) lp 3)
    obtain ⟨cb0, cb1, cb2, cb3, cb4, cb5⟩ := HC1.out
    have HF2 : Hid (Fr w1 (w1.alloc (.cells (madeCells #[.int .i64 0] lp) 3))) := Lib.hid ((Fr.refl _).alloc _)
    have cc2 := (HC1.out.fr HF2.out).c2
    clear hlp hvd h0 hg hdep HX
    go_wp2_with fail
    go_loopw [7, 24] (fun q i wr => ∃ (j p : Nat) (d : Int) (h : Nat → Int), j ≤ n ∧ i = .int .i64 j ∧ q = .int .i64 p ∧ Hid (∀ k, 0 ≤ h k ∧ h k ≤ 4000) ∧ Hid (Vd lp p d (l.drop j) ∧ p ≤ lp) ∧ Hid ((depL 0 l).drop j = depL d (l.drop j)) ∧ Hid (rmL l = ((l.drop j).foldl rmF (p, d, h)).2.2) ∧ wr.rowIs w1.heap.size 3 lp (fun k => .int .i64 (h k)) ∧ Fr w1 wr) (fun _ i _ => n - (intOf i).toNat)
    case atStart => exact ⟨0, 0, 0, fun _ => 0, Nat.zero_le _, rfl, rfl, Lib.hid (fun k => ⟨Int.le_refl 0, by simp⟩), Lib.hid ⟨HVD.out, Nat.zero_le _⟩, Lib.hid rfl, Lib.hid rfl, HB1.out, HF2.out⟩
    case round =>
      obtain ⟨j, p, d, h, hj, rfl, rfl, HH, HVJ, HDJ, HRJ, hrow, hfr⟩ := hrel
      have HROW := Lib.hid hrow
      have HFR := Lib.hid hfr
      clear hrow cb0 cb1 cb2 cb3 cb4 cb5 cc2
      by_cases hlt : j < n
      · obtain ⟨t, ht⟩ : ∃ t, l[j]? = some t := ⟨_, List.getElem?_eq_getElem (by rw [← HN.out]; exact hlt)⟩
        have HT := Lib.hid ht
        obtain ⟨b, off, rfl, hc3⟩ := (HV.out.fr' (HF1.out.trans hfr)).at_ ht
        obtain ⟨x0, x1, x2⟩ := hc3
        obtain ⟨⟨q0, q1, q2⟩, hq⟩ : ∃ y, y = t := ⟨_, rfl⟩
        subst hq
        simp only at x0 x1 x2
        clear ht hfr
        obtain ⟨s24, sn, sbd, saf, svd⟩ := HVJ.out.1.step HT.out
        obtain ⟨sde, sdj⟩ := dep_step HDJ.out HT.out
        have SRJ : rmL l = ((l.drop (j + 1)).foldl rmF (rmF (p, d, h) ⟨q0, q1, q2⟩)).2.2 := by rw [HRJ.out, fold_drop rmF (p, d, h) HT.out]
        simp only [rmF] at s24 sn sbd saf svd sde sdj SRJ
        have SPP := HVJ.out.2
        obtain ⟨w8, hw8⟩ : ∃ y, y = wr.alloc (.cells #[.int .i64 q0, .int .i64 q1, .int .i64 q2] 60) := ⟨_, rfl⟩
        have HW8 := Lib.hid hw8
        have HF8 : Hid (Fr wr w8) := Lib.hid (by rw [hw8]; exact (Fr.refl _).alloc _)
        have HX8 : Hid (w8.cell? ⟨wr.heap.size, 0, none⟩ = some (.int .i64 q0) ∧ w8.cell? ⟨wr.heap.size, 1, none⟩ = some (.int .i64 q1) ∧ w8.cell? ⟨wr.heap.size, 2, none⟩ = some (.int .i64 q2)) := Lib.hid (by rw [hw8]; exact ⟨by simp, by simp, by simp⟩)
        have HR8 := Lib.hid (HF8.out.row HROW.out)
        have HD8 := Lib.hid (HF8.out.row (HFR.out.row HDEP.out))
        clear hw8
        by_cases e24 : q0 = 24
        · subst e24
          simp only [if_true] at s24 sn saf svd sde sdj SRJ
          obtain ⟨hq1, hk⟩ := s24 trivial
          obtain ⟨k, hkk⟩ : ∃ k : Nat, k = p := ⟨_, rfl⟩
          rw [← hkk] at svd hq1 hk
          obtain ⟨de, hde⟩ : ∃ y : Int, y = 0 := ⟨0, rfl⟩
          have SRJ2 : rmL l = ((l.drop (j + 1)).foldl rmF (k + 1, afterI ⟨24, q1, q2⟩ 0, upd h k (max (max (h k) de) (afterI ⟨24, q1, q2⟩ 0)))).2.2 := by rw [SRJ, hkk, hde]; rfl
          have sde := sde.trans hde.symm
          obtain ⟨aa, haa⟩ : ∃ y, y = afterI ⟨24, q1, q2⟩ de := ⟨_, rfl⟩
          have hz : afterI ⟨24, q1, q2⟩ 0 = aa := by rw [haa, hde]
          rw [hz] at saf svd sdj SRJ2
          have CA := Lib.hid (fun W => after_any 24 q1 q2 de W ⟨sbd.1, sbd.2.1⟩ sbd.2.2 (by omega))
          obtain ⟨z0, z1, z2⟩ := HX8.out
          have hdb : 0 ≤ de ∧ de ≤ 4000 := by omega
          rw [← haa] at CA
          obtain ⟨hh, hhh⟩ : ∃ y, y = h k := ⟨_, rfl⟩
          have HHH := Lib.hid hhh
          rw [← hhh] at SRJ2
          have HHB := HH.out k
          rw [← hhh] at HHB
          have SVD := Lib.hid svd
          have SDJ := Lib.hid sdj
          have HSDE := Lib.hid sde
          have HKP := Lib.hid hk
          obtain ⟨mx, hmx⟩ : ∃ y, y = max (max hh de) aa := ⟨_, rfl⟩
          rw [← hmx] at SRJ2
          have hrm := fun W => run_max3 #[3, 3, 3] 3 hh de aa W
          rw [← hmx] at hrm
          have HMXB : Hid (0 ≤ mx ∧ mx ≤ 4000) := Lib.hid (by omega)
          have HH2 : Hid (∀ i, 0 ≤ upd h k mx i ∧ upd h k mx i ≤ 4000) := Lib.hid (fun i => by
            unfold upd
            by_cases hik : i = k
            · rw [if_pos hik]; exact HMXB.out
            · rw [if_neg hik]; exact HH.out i)
          have HRJ2 := Lib.hid SRJ2
          have hkm : k < lp := by omega
          have HFACT : Hid (∀ W, Fr w8 W → W.cell? ⟨w1.heap.size, k, none⟩ = some (.int .i64 hh) ∧ W.frozen? ⟨w1.heap.size, k, none⟩ = false ∧ W.cell? ⟨g, j, none⟩ = some (.int .i64 de)) := Lib.hid (fun W hW => by
            have z1 := (hW.row HR8.out).cell hkm
            have z2 := (hW.row HR8.out).frozen k
            have z3 := (hW.row HD8.out).cell hlt
            try simp only at z1
            try simp only at z3
            rw [HSDE.out] at z3
            rw [← HHH.out] at z1
            exact ⟨z1, z2, z3⟩)
          have wk : IntKind.i64.wrap (((k + 1 : Nat) : Int) - 1) = (k : Int) := by rw [show ((k + 1 : Nat) : Int) - 1 = (k : Int) by omega]; exact IntWalk.i64_in _ (by omega)
          obtain ⟨y, hy⟩ : ∃ y : Int, y = ((k + 1 : Nat) : Int) := ⟨_, rfl⟩
          rw [← hy] at wk
          rw [show (k : Int) + 1 = ((k + 1 : Nat) : Int) by omega, ← hy] at hq1
          subst hq1
          have HY := Lib.hid hy
          clear svd sdj SRJ SRJ2 sde sn s24 hhh hde haa SPP hy HRJ HVJ HDJ hk saf sbd hmx
          clear hkk hz
          go_wp2_with fail
          rw [← HW8.out]
          obtain ⟨u0, u1, u2⟩ := HFACT.out _ (Fr.refl w8)
          go_region_with (go_at_call 49; refine (CA.out _).mono ?_; rintro e w3 ⟨rfl, hf3⟩; have hq3 := (Fr.refl w8).drew.trans hf3; obtain ⟨v0, v1, v2⟩ := HFACT.out _ hq3)
          all_goals
            have HF3 := Lib.hid hq3
            clear hq3 hf3 v0 v1 v2 u0 u1 u2
            go_wp2_with fail
            go_roundw
            case rel =>
              refine ⟨j + 1, k + 1, aa, upd h k mx, by omega, by go_num, by rw [HY.out], HH2, Lib.hid ⟨SVD.out, HKP.out⟩, SDJ, HRJ2, ((HF3.out.row HR8.out).set k _).congr (fun i hi => ?_), ((HFR.out.trans HF8.out).trans HF3.out).setCell (Nat.le_refl _) _⟩
              unfold upd
              by_cases hik : i = k
              · rw [if_pos hik, if_pos hik]
              · rw [if_neg hik, if_neg hik]
            case measure => simp [intOf]; omega
        · simp only [if_neg e24] at s24 sn saf svd sde sdj SRJ
          obtain ⟨hp1, hd1, hd2⟩ := sn e24
          obtain ⟨k, hkk⟩ : ∃ k : Nat, p = k + 1 := ⟨p - 1, by omega⟩
          have e0 : (q0 == 24) = false := by rw [beq_eq_false_iff_ne]; exact e24
          subst hkk
          have SRJ2 : rmL l = ((l.drop (j + 1)).foldl rmF (k + 1, afterI ⟨q0, q1, q2⟩ d, upd h k (max (max (h k) d) (afterI ⟨q0, q1, q2⟩ d)))).2.2 := SRJ
          have hk : k + 1 ≤ lp := SPP
          obtain ⟨de, hde⟩ : ∃ y : Int, y = d := ⟨d, rfl⟩
          rw [← hde] at saf svd sde sdj SRJ2
          obtain ⟨aa, haa⟩ : ∃ y, y = afterI ⟨q0, q1, q2⟩ de := ⟨_, rfl⟩
          have CA := Lib.hid (fun W => after_any q0 q1 q2 de W ⟨sbd.1, sbd.2.1⟩ sbd.2.2 (by omega))
          obtain ⟨z0, z1, z2⟩ := HX8.out
          have hdb : 0 ≤ de ∧ de ≤ 4000 := by omega
          rw [← haa] at saf svd sdj SRJ2 CA
          obtain ⟨hh, hhh⟩ : ∃ y, y = h k := ⟨_, rfl⟩
          have HHH := Lib.hid hhh
          rw [← hhh] at SRJ2
          have HHB := HH.out k
          rw [← hhh] at HHB
          have SVD := Lib.hid svd
          have SDJ := Lib.hid sdj
          have HSDE := Lib.hid sde
          have HKP := Lib.hid hk
          obtain ⟨mx, hmx⟩ : ∃ y, y = max (max hh de) aa := ⟨_, rfl⟩
          rw [← hmx] at SRJ2
          have hrm := fun W => run_max3 #[3, 3, 3] 3 hh de aa W
          rw [← hmx] at hrm
          have HMXB : Hid (0 ≤ mx ∧ mx ≤ 4000) := Lib.hid (by omega)
          have HH2 : Hid (∀ i, 0 ≤ upd h k mx i ∧ upd h k mx i ≤ 4000) := Lib.hid (fun i => by
            unfold upd
            by_cases hik : i = k
            · rw [if_pos hik]; exact HMXB.out
            · rw [if_neg hik]; exact HH.out i)
          have HRJ2 := Lib.hid SRJ2
          have hkm : k < lp := by omega
          have HFACT : Hid (∀ W, Fr w8 W → W.cell? ⟨w1.heap.size, k, none⟩ = some (.int .i64 hh) ∧ W.frozen? ⟨w1.heap.size, k, none⟩ = false ∧ W.cell? ⟨g, j, none⟩ = some (.int .i64 de)) := Lib.hid (fun W hW => by
            have z1 := (hW.row HR8.out).cell hkm
            have z2 := (hW.row HR8.out).frozen k
            have z3 := (hW.row HD8.out).cell hlt
            try simp only at z1
            try simp only at z3
            rw [HSDE.out] at z3
            rw [← HHH.out] at z1
            exact ⟨z1, z2, z3⟩)
          have wk : IntKind.i64.wrap (((k + 1 : Nat) : Int) - 1) = (k : Int) := by rw [show ((k + 1 : Nat) : Int) - 1 = (k : Int) by omega]; exact IntWalk.i64_in _ (by omega)
          obtain ⟨y, hy⟩ : ∃ y : Int, y = ((k + 1 : Nat) : Int) := ⟨_, rfl⟩
          rw [← hy] at wk
          rw [← hy]
          have HY := Lib.hid hy
          clear svd sdj SRJ SRJ2 sde sn s24 hhh hde haa SPP hy HRJ HVJ HDJ hk saf sbd hmx
          clear hp1 hd1 hd2
          go_wp2_with fail
          rw [← HW8.out]
          obtain ⟨u0, u1, u2⟩ := HFACT.out _ (Fr.refl w8)
          go_region_with (go_at_call 49; refine (CA.out _).mono ?_; rintro e w3 ⟨rfl, hf3⟩; have hq3 := (Fr.refl w8).drew.trans hf3; obtain ⟨v0, v1, v2⟩ := HFACT.out _ hq3)
          all_goals
            have HF3 := Lib.hid hq3
            clear hq3 hf3 v0 v1 v2 u0 u1 u2
            go_wp2_with fail
            go_roundw
            case rel =>
              refine ⟨j + 1, k + 1, aa, upd h k mx, by omega, by go_num, by rw [HY.out], HH2, Lib.hid ⟨SVD.out, HKP.out⟩, SDJ, HRJ2, ((HF3.out.row HR8.out).set k _).congr (fun i hi => ?_), ((HFR.out.trans HF8.out).trans HF3.out).setCell (Nat.le_refl _) _⟩
              unfold upd
              by_cases hik : i = k
              · rw [if_pos hik, if_pos hik]
              · rw [if_neg hik, if_neg hik]
            case measure => simp [intOf]; omega
      · obtain rfl : j = n := by omega
        have HF : Hid (rmL l = h) := Lib.hid (by rw [HRJ.out, List.drop_eq_nil_of_le (by rw [← HN.out]; exact Nat.le_refl _)]; rfl)
        clear hfr
        go_wp2_with fail
        go_ret2
        rw [HTN.out]
        refine ⟨⟨fun _ => ⟨w1.heap.size, rfl, HF1.out.size, HROW.out.congr (fun k _ => by rw [← HL.out, HF.out])⟩, fun hh => absurd H0.out hh⟩, HF1.out.trans HFR.out⟩
  · obtain rfl := HX.out.2 h0
    have e1 : ((exE c : Int) != 0) = true := by rw [bne_iff_ne]; omega
    have H0 := Lib.hid h0
    obtain ⟨E, hE⟩ : ∃ y, y = exE c := ⟨_, rfl⟩
    have HE := Lib.hid hE
    rw [← hE] at e1 ⊢
    clear h0 HX hE
    go_wp2_with fail
    go_ret2
    refine ⟨⟨fun h => absurd h H0.out, fun _ => ?_⟩, HF1.out⟩
    rw [← HE.out]; rfl
end Go.Proofs.YtdnckbcknahakaaGreat
