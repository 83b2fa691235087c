/- Merged by program: LM. -/
import Derived.Test.YtbaelbafhdjlnaaGreatDoorM8
import Derived.Test.YtbaelbafhdjlnaaGreatDoorM9
import Derived.Test.YtbaelbafhdjlnaaGreatDoorP1
import Derived.Deep.RegionHeld3
/- ParseMeasures: the walk. -/
namespace Go.Proofs.YtbaelbafhdjlnaaGreatDoor
open Go.RowKit
set_option linter.unusedVariables false
set_option linter.unusedSimpArgs false

theorem RNames_any (t : Nd) (lt : Value) (w : World) (hv : LN w lt t.l) (hb : t.bulk ≤ 2000000) :
    Calls Tryz.prog 41 #[ndV t lt] w fun e w' => ∃ v', e = .returned v' ∧ SL w' v' (nmT t []) ∧ Fr w w' := by
  obtain ⟨la, lc, rfl, _, _, _⟩ := hv.form
  have HV := Lib.hid hv
  have HC := Lib.hid (fun W (h : Fr w W) => named_any _ t (Nat.le_refl _) hb _ w W (.slice none 0 0) [] HV.out h (World.ownsRow_nil _ _ _ _) (by simp))
  unfold ndV at HC ⊢
  have HB0 := Lib.hid (Nb.new w (.int .i64 t.op) (.int .i64 t.n) (.string t.s) (.slice la t.l.length lc) (.int .i64 t.a))
  obtain ⟨p0, p1, p2, p3, p4⟩ := HB0.out.cells
  clear hv hb
  go_enter Tryz.func41, Tryz.ntmps41
  go_wp2_with fail
  refine (HC.out _ ((Fr.refl w).alloc _)).mono ?_
  rintro e w1 ⟨v', rfl, hos, hg, _⟩
  have HOS := Lib.hid hos
  have HF : Hid (Fr w w1) := Lib.hid (Below.grown ((Fr.refl w).alloc _) hg ((Fr.refl w).alloc _).size (fun k hk => by simp [Value.ownBlock] at hk))
  obtain ⟨ay, cy, hfy⟩ := own_formS hos
  clear hos hg
  subst hfy
  go_wp2_with fail
  go_ret
  exact ⟨_, rfl, OS.sl HOS.out, HF.out⟩
mutual
theorem eqN_self (p : Bool) : ∀ t : Nd, eqN p t t = true
  | ⟨o, n, s, l, a⟩ => by
    have h := eqL_self p l
    rw [eqN_eq]
    show (decide (o = o) && decide (n = n) && decide (s = s) && (!p || decide (a = a)) && eqL p l l) = true
    rw [h]
    simp
theorem eqL_self (p : Bool) : ∀ l : List Nd, eqL p l l = true
  | [] => by rw [eqL]
  | t :: r => by
    have h1 := eqN_self p t
    have h2 := eqL_self p r
    rw [eqL, h1, h2]
    rfl
end
set_option maxRecDepth 100000 in
set_option maxHeartbeats 8000000 in
theorem pmeasures_walk (s : ByteArray) (l : List Nd) (v : Value) (s1 : ByteArray) (l1 : List Nd) (v1 : Value) (name : ByteArray) (w : World) (hs : s.size ≤ 140737488351232) (hv : LN w v l) (hs1 : s1.size ≤ 140737488351232) (hv1 : LN w v1 l1) (hnm : name.size ≤ 140737488351232) (hev : Ev w) (hov : Ov w) (hnv : Nv w) :
    Calls Tryz.prog 7 #[.agg #[.string s, v], .agg #[.string s1, v1], .string name] w fun e w' => e = .returned (.bool true) ∧ Fr w w' := by
  obtain ⟨va, vc, rfl, hvc, hvm, _⟩ := hv.form
  obtain ⟨ua, uc, rfl, huc, hum, _⟩ := hv1.form
  obtain ⟨D1, hD1⟩ : ∃ d, d = (hvL l 400 || decide (200 < s.size)) := ⟨_, rfl⟩
  obtain ⟨D2, hD2⟩ : ∃ d, d = (hvL l1 400 || decide (200 < s1.size)) := ⟨_, rfl⟩
  have CH := Lib.hid (fun W (h : Fr w W) => heavy_any s l _ W hs (hv.fr h))
  have CG := Lib.hid (fun W (h : Fr w W) => heavy_any s1 l1 _ W hs1 (hv1.fr h))
  rw [← hD1] at CH
  rw [← hD2] at CG
  have HBK : Hid (D1 = false → bulks l ≤ 2000000) := Lib.hid (fun h1 => by
    rw [hD1] at h1
    simp only [Bool.or_eq_false_iff, decide_eq_false_iff_not] at h1
    exact hvL_small h1.1)
  have HV := Lib.hid hv
  have HV1 := Lib.hid hv1
  have CA := Lib.hid (fun W (h : Fr w W) => awake3_any W (hev.fr h) (hov.fr h) (hnv.fr h))
  obtain ⟨ln, hln⟩ : ∃ y, y = l.length := ⟨_, rfl⟩
  obtain ⟨lm, hlm⟩ : ∃ y, y = l1.length := ⟨_, rfl⟩
  have HLN := Lib.hid hln
  have HLM := Lib.hid hlm
  have CZ : Hid (bulks l ≤ 2000000 → ∀ W, Fr w W → Calls Tryz.prog 32 #[.slice va ln vc] W fun e w' => e = .returned (.int .i64 (ndsL l : Nat)) ∧ Fr W w') := Lib.hid (fun hb W h => by rw [hln]; exact Size_any 2000000 (by omega) l hb _ W (HV.out.fr h))
  have CRZ : Hid (bulks l ≤ 2000000 → ∀ W, Fr w W → Calls Tryz.prog 33 #[.slice va ln vc] W fun e w' => e = .returned (.int .i64 (ndsL l : Nat)) ∧ Fr W w') := Lib.hid (fun hb W h => by rw [hln]; exact RSize_any 2000000 (by omega) l hb _ W (HV.out.fr h))
  have CS := Lib.hid (fun W (h : Fr w W) => Same_any s s1 l l1 _ _ W (HV.out.fr h) (HV1.out.fr h))
  have CE := Lib.hid (fun W (h : Fr w W) => EqSection_any false s s1 l l1 _ _ W (HV.out.fr h) (HV1.out.fr h))
  obtain ⟨D3, hD3⟩ : ∃ d, d = (decide (s = s1) && eqL false l l1) := ⟨_, rfl⟩
  rw [← hD3] at CS CE
  obtain ⟨P, hP⟩ : ∃ p, p = procR l name := ⟨_, rfl⟩
  have CP : Hid (bulks l ≤ 2000000 → ∀ W, Fr w W → Calls Tryz.prog 35 #[.agg #[.string s, .slice va ln vc], .string name] W fun e w' => ∃ lv, e = .returned (.tuple #[ndV P.1 lv, .int .i64 P.2]) ∧ LN w' lv P.1.l ∧ Fr W w') := Lib.hid (fun hb W h => by rw [hln, hP]; exact Proc_any s name l _ W (HV.out.fr h) hb)
  have CRP : Hid (bulks l ≤ 2000000 → ∀ W, Fr w W → Calls Tryz.prog 36 #[.agg #[.string s, .slice va ln vc], .string name] W fun e w' => ∃ lv, e = .returned (.tuple #[ndV P.1 lv, .int .i64 P.2]) ∧ LN w' lv P.1.l ∧ Fr W w') := Lib.hid (fun hb W h => by rw [hln, hP]; exact RProc_any s name l _ W (HV.out.fr h) hb)
  rw [← hln] at CH CS CE HV hvc ⊢
  rw [← hlm] at CG CS CE HV1 huc ⊢
  obtain ⟨w0, hw0⟩ : ∃ w0, w0 = (w.alloc (.cells #[.string s, .slice va ln vc] 24)).alloc (.cells #[.string s1, .slice ua lm uc] 24) := ⟨_, rfl⟩
  have HF0 : Hid (Fr w w0) := Lib.hid (by rw [hw0]; exact ((Fr.refl w).alloc _).alloc _)
  have HB0 : Hid (SecB w0 w.heap.size (.string s) (.slice va ln vc)) := Lib.hid (by rw [hw0]; exact (SecB.new w _ _).fr ((Fr.refl _).alloc _))
  have HN0 : Hid (SecB w0 (w.heap.size + 1) (.string s1) (.slice ua lm uc)) := Lib.hid (by
    rw [hw0]
    have h := SecB.new (w.alloc (.cells #[.string s, .slice va ln vc] 24)) (.string s1) (.slice ua lm uc)
    rw [size_alloc'] at h
    exact h)
  have HW0 := Lib.hid hw0
  obtain ⟨b0, b1⟩ := HB0.out.cells
  rw [hw0] at b0 b1
  unfold maxLen at hvm hum
  clear hs hv hs1 hv1 hnm hev hov hnv hD1 hD2 hln hlm hw0 hD3 hP
  cases D1 with
  | true =>
    go_enter Tryz.func7, Tryz.ntmps7
    go_wp2_with fail
    try rw [← HW0.out]
    refine (CH.out _ HF0.out).mono ?_
    rintro e w1 ⟨rfl, hf1⟩
    have HF1 := Lib.hid (HF0.out.trans hf1)
    clear hf1
    go_wp2_with fail
    first | go_ret | skip
    exact ⟨rfl, HF1.out⟩
  | false =>
    cases D2 with
    | true =>
      go_enter Tryz.func7, Tryz.ntmps7
      go_wp2_with fail
      try rw [← HW0.out]
      refine (CH.out _ HF0.out).mono ?_
      rintro e w1 ⟨rfl, hf1⟩
      have HF1 := Lib.hid (HF0.out.trans hf1)
      obtain ⟨t0, t1⟩ := (HN0.out.fr hf1).cells
      clear hf1
      go_wp2_with fail
      refine (CG.out _ HF1.out).mono ?_
      rintro e w2 ⟨rfl, hf2⟩
      have HF2 := Lib.hid (HF1.out.trans hf2)
      clear hf2
      go_wp2_with fail
      first | go_ret | skip
      exact ⟨rfl, HF2.out⟩
    | false =>
      have hbk := HBK.out (by first | rfl | trivial)
      have KZ := Lib.hid (CZ.out hbk)
      have KRZ := Lib.hid (CRZ.out hbk)
      have KP := Lib.hid (CP.out hbk)
      have KRP := Lib.hid (CRP.out hbk)
      have HBB := Lib.hid hbk
      have e1 : ((ndsL l : Int) != (ndsL l : Int)) = false := by simp
      have e2 : (D3 != D3) = false := by simp
      clear hbk
      go_enter Tryz.func7, Tryz.ntmps7
      go_wp2_with fail
      try rw [← HW0.out]
      refine (CH.out _ HF0.out).mono ?_
      rintro e w1 ⟨rfl, hf1⟩
      have HF1 := Lib.hid (HF0.out.trans hf1)
      have HB1 := Lib.hid (HB0.out.fr hf1)
      have HN1 := Lib.hid (HN0.out.fr hf1)
      obtain ⟨t0, t1⟩ := HN1.out.cells
      clear hf1
      go_wp2_with fail
      refine (CG.out _ HF1.out).mono ?_
      rintro e w2 ⟨rfl, hf2⟩
      have HF2 := Lib.hid (HF1.out.trans hf2)
      have HB2 := Lib.hid (HB1.out.fr hf2)
      have HN2 := Lib.hid (HN1.out.fr hf2)
      clear hf2 b0 b1 t0 t1
      have HKP : Hid (∀ W', Fr w2 W' → W'.cell? ⟨w.heap.size, 0, none⟩ = some (.string s) ∧ W'.cell? ⟨w.heap.size, 1, none⟩ = some (.slice va ln vc) ∧ W'.cell? ⟨w.heap.size + 1, 0, none⟩ = some (.string s1) ∧ W'.cell? ⟨w.heap.size + 1, 1, none⟩ = some (.slice ua lm uc)) := Lib.hid (fun W' h => by
        obtain ⟨t0, t1⟩ := HB2.out.cells
        obtain ⟨c0, c1⟩ := HN2.out.cells
        exact ⟨h.cell t0, h.cell t1, h.cell c0, h.cell c1⟩)
      have hq0 : Fr w2 w2.drew := (Fr.refl _).drew
      go_wp2_with fail
      go_region_held3 (fun W' => W'.cell? ⟨w.heap.size, 0, none⟩ = some (.string s) ∧ W'.cell? ⟨w.heap.size, 1, none⟩ = some (.slice va ln vc) ∧ W'.cell? ⟨w.heap.size + 1, 0, none⟩ = some (.string s1) ∧ W'.cell? ⟨w.heap.size + 1, 1, none⟩ = some (.slice ua lm uc))
        (first | exact HKP.out _ (by assumption))
        ((first
        | (go_at_call 32; refine (KZ.out _ (HF2.out.trans (by assumption))).mono ?_; rintro e wx ⟨rfl, hfx⟩; have hqx := Fr.trans (by assumption : Fr w2 _) hfx)
        | (go_at_call 33; refine (KRZ.out _ (HF2.out.trans (by assumption))).mono ?_; rintro e wx ⟨rfl, hfx⟩; have hqx := Fr.trans (by assumption : Fr w2 _) hfx)
        | (go_at_call 34; refine (CS.out _ (HF2.out.trans (by assumption))).mono ?_; rintro e wx ⟨rfl, hfx⟩; have hqx := Fr.trans (by assumption : Fr w2 _) hfx)
        | (go_at_call 13; refine (CE.out _ (HF2.out.trans (by assumption))).mono ?_; rintro e wx ⟨rfl, hfx⟩; have hqx := Fr.trans (by assumption : Fr w2 _) hfx)))
      have HB3 := Lib.hid (HB2.out.fr hqx)
      have HN3 := Lib.hid (HN2.out.fr hqx)
      have HF3 : Hid (Fr w wx) := Lib.hid (HF2.out.trans hqx)
      obtain ⟨p, pe⟩ := P
      have e3 : (pe != pe) = false := by simp
      obtain ⟨b0, b1⟩ := HB3.out.cells
      clear hqx hfx e1 e2
      go_wp2_with fail
      refine (KP.out _ HF3.out).mono ?_
      rintro e w4 ⟨lv4, rfl, hp4, hf4⟩
      obtain ⟨la4, lc4, rfl, _, _, _⟩ := hp4.form
      have HP4 := Lib.hid hp4
      have HF4 := Lib.hid (HF3.out.trans hf4)
      have HB4 := Lib.hid (HB3.out.fr hf4)
      have HN4 := Lib.hid (HN3.out.fr hf4)
      have HAL4 : Hid (∀ o, Fr w4 (w4.alloc o)) := Lib.hid (fun o => (Fr.refl w4).alloc o)
      obtain ⟨b0, b1⟩ := (HB4.out.fr (HAL4.out (.cells #[.int .i64 p.op, .int .i64 p.n, .string p.s, .slice la4 p.l.length lc4, .int .i64 p.a] 32))).cells
      obtain ⟨pl, hpl⟩ : ∃ x, x = p.l.length := ⟨_, rfl⟩
      have HPL := Lib.hid hpl
      clear hp4 hf4
      unfold ndV
      simp only []
      rw [← hpl] at b0 b1 HP4 ⊢
      clear hpl
      go_wp2_with fail
      refine (KRP.out _ (HF4.out.alloc _)).mono ?_
      rintro e w5 ⟨lv5, rfl, hp5, hf5⟩
      obtain ⟨la5, lc5, rfl, _, _, _⟩ := hp5.form
      have HP5 := Lib.hid hp5
      have HF5 := Lib.hid ((HF4.out.alloc _).trans hf5)
      have HB5 := Lib.hid ((HB4.out.fr (HAL4.out _)).fr hf5)
      have HN5 := Lib.hid ((HN4.out.fr (HAL4.out _)).fr hf5)
      have HQ5 := Lib.hid ((Nb.new w4 (.int .i64 p.op) (.int .i64 p.n) (.string p.s) (.slice la4 pl lc4) (.int .i64 p.a)).fr hf5)
      have HP45 : Hid (LN w5 (.slice la4 pl lc4) p.l) := Lib.hid (HP4.out.fr ((HAL4.out _).trans hf5))
      clear hp5 hf5 b0 b1
      unfold ndV
      simp only []
      rw [← HPL.out] at HP5 ⊢
      obtain ⟨q0, q1, q2, q3, q4⟩ := (HQ5.out.fr ((Fr.refl w5).alloc (.cells #[.int .i64 p.op, .int .i64 p.n, .string p.s, .slice la5 pl lc5, .int .i64 p.a] 32))).cells
      have CN : Hid (Calls Tryz.prog 17 #[.agg #[.int .i64 p.op, .int .i64 p.n, .string p.s, .slice la4 pl lc4, .int .i64 p.a], .agg #[.int .i64 p.op, .int .i64 p.n, .string p.s, .slice la5 pl lc5, .int .i64 p.a], .bool true] (w5.alloc (.cells #[.int .i64 p.op, .int .i64 p.n, .string p.s, .slice la5 pl lc5, .int .i64 p.a] 32)) fun e w' => e = .returned (.bool true) ∧ Fr (w5.alloc (.cells #[.int .i64 p.op, .int .i64 p.n, .string p.s, .slice la5 pl lc5, .int .i64 p.a] 32)) w') := Lib.hid (by
        have h := EqNode_any true p p _ _ _ (HP45.out.fr ((Fr.refl w5).alloc (.cells #[.int .i64 p.op, .int .i64 p.n, .string p.s, .slice la5 pl lc5, .int .i64 p.a] 32))) (HP5.out.fr ((Fr.refl w5).alloc (.cells #[.int .i64 p.op, .int .i64 p.n, .string p.s, .slice la5 pl lc5, .int .i64 p.a] 32)))
        rw [eqN_self] at h
        exact h)
      go_wp2_with fail
      refine CN.out.mono ?_
      rintro e w6 ⟨rfl, hf6⟩
      have HF6 := Lib.hid ((HF5.out.alloc _).trans hf6)
      have HB6 := Lib.hid ((HB5.out.fr ((Fr.refl w5).alloc _)).fr hf6)
      have HN6 := Lib.hid ((HN5.out.fr ((Fr.refl w5).alloc _)).fr hf6)
      clear hf6 q0 q1 q2 q3 q4 e3
      go_wp2_with fail
      go_loopw [11] (fun i wr => ∃ j : Nat, j ≤ ln ∧ i = .int .i64 j ∧ Fr w6 wr) (fun i _ => ln - (intOf i).toNat)
      case atStart => exact ⟨0, Nat.zero_le _, rfl, Fr.refl _⟩
      case round =>
        obtain ⟨j, hj, rfl, hfr⟩ := hrel
        obtain ⟨b0, b1⟩ := (HB6.out.fr hfr).cells
        by_cases hlt : j < ln
        · obtain ⟨t, ht⟩ : ∃ t, l[j]? = some t := ⟨_, List.getElem?_eq_getElem (by rw [← HLN.out]; exact hlt)⟩
          obtain ⟨b, off, lv, rfl, hc5, hln2, _⟩ := (HV.out.fr (HF6.out.trans hfr)).at_ ht
          obtain ⟨x0, x1, x2, x3, x4⟩ := hc5
          obtain ⟨la2, lc2, rfl, _, _, _⟩ := hln2.form
          have htb : t.bulk ≤ 2000000 := by have := bulks_mem (List.mem_of_getElem? ht); have := HBB.out; omega
          have HTB := Lib.hid htb
          have HL2 := Lib.hid hln2
          have HFR := Lib.hid hfr
          have KL : Hid (∀ W, Fr wr W → Calls Tryz.prog 37 #[.agg #[.int .i64 t.op, .int .i64 t.n, .string t.s, .slice la2 t.l.length lc2, .int .i64 t.a]] W fun e w' => e = .returned (.int .i64 ((1 + lvlL t.l : Nat) : Int)) ∧ Fr W w') := Lib.hid (fun W h => Levels_any 2000000 (by omega) _ _ _ t.l _ (by have := t.bulk_eq; have := HTB.out; omega) _ W (HL2.out.fr h))
          have KRL : Hid (∀ W, Fr wr W → Calls Tryz.prog 38 #[.agg #[.int .i64 t.op, .int .i64 t.n, .string t.s, .slice la2 t.l.length lc2, .int .i64 t.a]] W fun e w' => e = .returned (.int .i64 ((1 + lvlL t.l : Nat) : Int)) ∧ Fr W w') := Lib.hid (fun W h => RLevels_any 2000000 (by omega) _ _ _ t.l _ (by have := t.bulk_eq; have := HTB.out; omega) _ W (HL2.out.fr h))
          have KN : Hid (∀ W, Fr wr W → Calls Tryz.prog 40 #[.agg #[.int .i64 t.op, .int .i64 t.n, .string t.s, .slice la2 t.l.length lc2, .int .i64 t.a]] W fun e w' => ∃ v', e = .returned v' ∧ SL w' v' (nmT t []) ∧ Fr W w') := Lib.hid (fun W h => Names_any t _ W (HL2.out.fr h) HTB.out)
          have KRN : Hid (∀ W, Fr wr W → Calls Tryz.prog 41 #[.agg #[.int .i64 t.op, .int .i64 t.n, .string t.s, .slice la2 t.l.length lc2, .int .i64 t.a]] W fun e w' => ∃ v', e = .returned v' ∧ SL w' v' (nmT t []) ∧ Fr W w') := Lib.hid (fun W h => RNames_any t _ W (HL2.out.fr h) HTB.out)
          have KSM : Hid (∀ (u : Nd) (lu : Value) W, Fr wr W → LN W lu u.l → Calls Tryz.prog 42 #[.agg #[.int .i64 t.op, .int .i64 t.n, .string t.s, .slice la2 t.l.length lc2, .int .i64 t.a], ndV u lu] W fun e w' => e = .returned (.bool (eqN false t u)) ∧ Fr W w') := Lib.hid (fun u lu W h hu => SameNode_any t u _ lu W (HL2.out.fr h) hu)
          have KEN : Hid (∀ (u : Nd) (lu : Value) W, Fr wr W → LN W lu u.l → Calls Tryz.prog 17 #[.agg #[.int .i64 t.op, .int .i64 t.n, .string t.s, .slice la2 t.l.length lc2, .int .i64 t.a], ndV u lu, .bool false] W fun e w' => e = .returned (.bool (eqN false t u)) ∧ Fr W w') := Lib.hid (fun u lu W h hu => EqNode_any false t u _ lu W (HL2.out.fr h) hu)
          obtain ⟨dl, hdl⟩ : ∃ x : Nat, x = 1 + lvlL t.l := ⟨_, rfl⟩
          obtain ⟨nms, hnms⟩ : ∃ x, x = nmT t [] := ⟨_, rfl⟩
          obtain ⟨tl, htl⟩ : ∃ x, x = t.l.length := ⟨_, rfl⟩
          rw [← hdl] at KL KRL
          rw [← hnms] at KN KRN
          rw [← htl] at x3 KL KRL KN KRN KSM KEN
          have e4 : ((dl : Int) != (dl : Int)) = false := by simp
          obtain ⟨wn, hwn⟩ : ∃ wn, wn = wr.alloc (.cells #[.int .i64 t.op, .int .i64 t.n, .string t.s, .slice la2 tl lc2, .int .i64 t.a] 32) := ⟨_, rfl⟩
          have HFN : Hid (Fr wr wn) := Lib.hid (by rw [hwn]; exact (Fr.refl wr).alloc _)
          have HNB : Hid (Nb wn wr.heap.size (.int .i64 t.op) (.int .i64 t.n) (.string t.s) (.slice la2 tl lc2) (.int .i64 t.a)) := Lib.hid (by rw [hwn]; exact Nb.new wr _ _ _ _ _)
          have HKQ : Hid (∀ W', Fr wn W' → W'.cell? ⟨wr.heap.size, 0, none⟩ = some (.int .i64 t.op) ∧ W'.cell? ⟨wr.heap.size, 1, none⟩ = some (.int .i64 t.n) ∧ W'.cell? ⟨wr.heap.size, 2, none⟩ = some (.string t.s) ∧ W'.cell? ⟨wr.heap.size, 3, none⟩ = some (.slice la2 tl lc2) ∧ W'.cell? ⟨wr.heap.size, 4, none⟩ = some (.int .i64 t.a)) := Lib.hid (fun W' h => (HNB.out.fr h).cells)
          have HWN := Lib.hid hwn
          have hq0 : Fr wn wn.drew := (Fr.refl _).drew
          have hqn : Fr wn wn := Fr.refl _
          clear hwn ht hln2 htb hdl hnms htl hfr
          go_wp2_with fail
          rw [← HWN.out]
          go_region_held3 (fun W' => W'.cell? ⟨wr.heap.size, 0, none⟩ = some (.int .i64 t.op) ∧ W'.cell? ⟨wr.heap.size, 1, none⟩ = some (.int .i64 t.n) ∧ W'.cell? ⟨wr.heap.size, 2, none⟩ = some (.string t.s) ∧ W'.cell? ⟨wr.heap.size, 3, none⟩ = some (.slice la2 tl lc2) ∧ W'.cell? ⟨wr.heap.size, 4, none⟩ = some (.int .i64 t.a))
            (first | exact HKQ.out _ (by assumption))
            ((first
            | (go_at_call 37; refine (KL.out _ (HFN.out.trans (by assumption))).mono ?_; rintro e wx ⟨rfl, hfx⟩; have hqx := Fr.trans (by assumption : Fr wn _) hfx)
            | (go_at_call 38; refine (KRL.out _ (HFN.out.trans (by assumption))).mono ?_; rintro e wx ⟨rfl, hfx⟩; have hqx := Fr.trans (by assumption : Fr wn _) hfx)
            | (go_at_call 40; refine (KN.out _ (HFN.out.trans (by assumption))).mono ?_; rintro e wx ⟨g1, rfl, hsl1, hfx⟩; have hqx := Fr.trans (by assumption : Fr wn _) hfx)
            | (go_at_call 41; refine (KRN.out _ (HFN.out.trans (by assumption))).mono ?_; rintro e wx ⟨g2, rfl, hsl2, hfx⟩; have hqx := Fr.trans (by assumption : Fr wn _) hfx)
            | (go_at_call 39; refine (EqStrings_same nms g1 g2 _ (by first | exact hsl1 | exact hsl1.fr (by assumption)) (by first | exact hsl2 | exact hsl2.fr (by assumption))).mono ?_; rintro e wx ⟨rfl, hfx⟩; have hqx := Fr.trans (by assumption : Fr wn _) hfx)))
          have HXN : Hid (Fr wn wx) := Lib.hid hqx
          have HWX : Hid (Fr wr wx) := Lib.hid (HFN.out.trans hqx)
          have HNX := Lib.hid ((HN6.out.fr (HFR.out.trans HFN.out)).fr hqx)
          obtain ⟨k0, k1, k2, k3, k4⟩ := HKQ.out _ hqx
          obtain ⟨t0, t1⟩ := HNX.out.cells
          clear hqx hfx hq0 hqn e4
          by_cases hlu : j < lm
          · obtain ⟨u, hu⟩ : ∃ u, l1[j]? = some u := ⟨_, List.getElem?_eq_getElem (by rw [← HLM.out]; exact hlu)⟩
            obtain ⟨b2, off2, lu, rfl, hd5, hln3, _⟩ := (HV1.out.fr (HF6.out.trans (HFR.out.trans HWX.out))).at_ hu
            obtain ⟨la3, lc3, rfl, _, _, _⟩ := hln3.form
            have HL3 := Lib.hid hln3
            have KS2 : Hid (∀ W, Fr wx W → Calls Tryz.prog 42 #[.agg #[.int .i64 t.op, .int .i64 t.n, .string t.s, .slice la2 tl lc2, .int .i64 t.a], .agg #[.int .i64 u.op, .int .i64 u.n, .string u.s, .slice la3 u.l.length lc3, .int .i64 u.a]] W fun e w' => e = .returned (.bool (eqN false t u)) ∧ Fr W w') := Lib.hid (fun W h => KSM.out u _ W (HWX.out.trans h) (HL3.out.fr h))
            have KE2 : Hid (∀ W, Fr wx W → Calls Tryz.prog 17 #[.agg #[.int .i64 t.op, .int .i64 t.n, .string t.s, .slice la2 tl lc2, .int .i64 t.a], .agg #[.int .i64 u.op, .int .i64 u.n, .string u.s, .slice la3 u.l.length lc3, .int .i64 u.a], .bool false] W fun e w' => e = .returned (.bool (eqN false t u)) ∧ Fr W w') := Lib.hid (fun W h => KEN.out u _ W (HWX.out.trans h) (HL3.out.fr h))
            obtain ⟨D5, hD5⟩ : ∃ d, d = eqN false t u := ⟨_, rfl⟩
            obtain ⟨ul, hul⟩ : ∃ x : Nat, x = u.l.length := ⟨_, rfl⟩
            rw [← hD5] at KS2 KE2
            rw [← hul] at KS2 KE2 hd5
            have e5 : (D5 != D5) = false := by simp
            have HD5 := Lib.hid hd5
            have HKR : Hid (∀ W', Fr wx W' → W'.cell? ⟨wr.heap.size, 0, none⟩ = some (.int .i64 t.op) ∧ W'.cell? ⟨wr.heap.size, 1, none⟩ = some (.int .i64 t.n) ∧ W'.cell? ⟨wr.heap.size, 2, none⟩ = some (.string t.s) ∧ W'.cell? ⟨wr.heap.size, 3, none⟩ = some (.slice la2 tl lc2) ∧ W'.cell? ⟨wr.heap.size, 4, none⟩ = some (.int .i64 t.a) ∧ W'.cell? ⟨w.heap.size + 1, 1, none⟩ = some (.slice (some ⟨b2, off2, none⟩) lm uc) ∧ W'.cell? ⟨b2, off2 + j * 5, none⟩ = some (.int .i64 u.op) ∧ W'.cell? ⟨b2, off2 + j * 5 + 1, none⟩ = some (.int .i64 u.n) ∧ W'.cell? ⟨b2, off2 + j * 5 + 2, none⟩ = some (.string u.s) ∧ W'.cell? ⟨b2, off2 + j * 5 + 3, none⟩ = some (.slice la3 ul lc3) ∧ W'.cell? ⟨b2, off2 + j * 5 + 4, none⟩ = some (.int .i64 u.a)) := Lib.hid (fun W' h => by
              obtain ⟨y0, y1, y2, y3, y4⟩ := HD5.out.fr h
              obtain ⟨z0, z1, z2, z3, z4⟩ := HKQ.out _ (HXN.out.trans h)
              exact ⟨z0, z1, z2, z3, z4, h.cell HNX.out.cells.2, y0, y1, y2, y3, y4⟩)
            have hq1 : Fr wx wx.drew := (Fr.refl _).drew
            have hq2 : Fr wx wx := Fr.refl _
            clear hu hln3 hd5 hD5 hul
            go_wp2_with fail
            go_region_held3 (fun W' => W'.cell? ⟨wr.heap.size, 0, none⟩ = some (.int .i64 t.op) ∧ W'.cell? ⟨wr.heap.size, 1, none⟩ = some (.int .i64 t.n) ∧ W'.cell? ⟨wr.heap.size, 2, none⟩ = some (.string t.s) ∧ W'.cell? ⟨wr.heap.size, 3, none⟩ = some (.slice la2 tl lc2) ∧ W'.cell? ⟨wr.heap.size, 4, none⟩ = some (.int .i64 t.a) ∧ W'.cell? ⟨w.heap.size + 1, 1, none⟩ = some (.slice (some ⟨b2, off2, none⟩) lm uc) ∧ W'.cell? ⟨b2, off2 + j * 5, none⟩ = some (.int .i64 u.op) ∧ W'.cell? ⟨b2, off2 + j * 5 + 1, none⟩ = some (.int .i64 u.n) ∧ W'.cell? ⟨b2, off2 + j * 5 + 2, none⟩ = some (.string u.s) ∧ W'.cell? ⟨b2, off2 + j * 5 + 3, none⟩ = some (.slice la3 ul lc3) ∧ W'.cell? ⟨b2, off2 + j * 5 + 4, none⟩ = some (.int .i64 u.a))
              (first | exact HKR.out _ (by assumption))
              ((first
              | (go_at_call 42; refine (KS2.out _ (by assumption)).mono ?_; rintro e wy ⟨rfl, hfy⟩; have hqy := Fr.trans (by assumption : Fr wx _) hfy)
              | (go_at_call 17; refine (KE2.out _ (by assumption)).mono ?_; rintro e wy ⟨rfl, hfy⟩; have hqy := Fr.trans (by assumption : Fr wx _) hfy)))
            have hfin : Fr w6 wy := (HFR.out.trans HWX.out).trans hqy
            clear hqy hfy hq1 hq2
            go_wp2_with fail
            go_roundw
            case rel => exact ⟨j + 1, by omega, by go_num, hfin⟩
            case measure => simp [intOf]; omega
          · have hfin : Fr w6 wx := HFR.out.trans HWX.out
            go_wp2_with fail
            go_region
            all_goals (
              go_wp2_with fail
              go_roundw
              case rel => exact ⟨j + 1, by omega, by go_num, hfin.drew⟩
              case measure => simp [intOf]; omega)
        · obtain rfl : j = ln := by omega
          go_wp2_with fail
          refine (CA.out _ (HF6.out.trans hfr)).mono ?_
          rintro e w7 ⟨rfl, hf7⟩
          have HF7 := Lib.hid ((HF6.out.trans hfr).trans hf7)
          clear hf7
          go_wp2_with fail
          go_ret
          exact ⟨rfl, HF7.out⟩
end Go.Proofs.YtbaelbafhdjlnaaGreatDoor
