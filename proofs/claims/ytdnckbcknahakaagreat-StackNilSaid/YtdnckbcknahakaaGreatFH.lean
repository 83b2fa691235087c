/- The code's look at results; the whole of it. -/
import Derived.Test.YtdnckbcknahakaaGreatFG
import Derived.BigQuiet
namespace Go.Proofs.YtdnckbcknahakaaGreat
open Go.RowKit
set_option linter.unusedVariables false
set_option linter.unusedSimpArgs false

theorem tkF_none {tk : Nat → Bool} {on : Bool} {o : Op3} (h : ¬ (on = true ∧ o.op = 28)) (hl : labO o = none) : tkF tk on o = some (if o.op = 19 then on else goOn o.op) := by
  unfold tkF; rw [if_neg h, hl, if_pos rfl]
theorem tkF_some {tk : Nat → Bool} {on : Bool} {o : Op3} {x : Int} (h : ¬ (on = true ∧ o.op = 28)) (hl : labO o = some x) (e : tk x.toNat = decide (o.op = 27)) : tkF tk on o = some (if o.op = 19 then on else goOn o.op) := by
  unfold tkF; rw [if_neg h, hl]; simp only [e]; rw [if_pos (by simp)]
theorem tkF_bad {tk : Nat → Bool} {on : Bool} {o : Op3} {x : Int} (h : ¬ (on = true ∧ o.op = 28)) (hl : labO o = some x) (e : ¬ tk x.toNat = decide (o.op = 27)) : tkF tk on o = none := by
  unfold tkF; rw [if_neg h, hl, if_neg (by simpa using e)]
set_option maxRecDepth 100000 in
set_option maxHeartbeats 8000000 in
theorem takesFit_any (nm : ByteArray) (dv gv : Value) (procs : Int) (lb : Nat) (l : List Op3) (v : Value) (w : World) (hv : OpsV w v l) (hb : l.length ≤ 1000000) (hlb : lb ≤ 100000)
    (h19 : ∀ x ∈ l, x.op = 19 → 1 ≤ x.n ∧ x.n ≤ lb) (hlab : ∀ x ∈ l, ∀ y, labO x = some y → 1 ≤ y ∧ y ≤ lb) :
    Calls Tryz.prog 78 #[.agg #[.string nm, dv, v, gv, .int .i64 procs, .int .i64 (lb : Nat)]] w fun e w' => e = .returned (.bool (takeB l)) ∧ Fr w w' := by
  have HV := Lib.hid hv
  have CL := Lib.hid (fun W (h : Fr w W) => labelsOfTakes_any nm dv gv procs lb l v W (hv.fr' h) hb hlb h19)
  obtain ⟨a, cap, rfl, hc, hm, _⟩ := hv.form
  unfold maxLen at hm
  obtain ⟨n, hn⟩ : ∃ n, n = l.length := ⟨_, rfl⟩
  have HN := Lib.hid hn
  have HLAB := Lib.hid hlab
  rw [← hn] at hc HV CL hb ⊢
  obtain ⟨R, hR⟩ : ∃ r, r = takeB l := ⟨_, rfl⟩
  have HR := Lib.hid hR
  rw [← hR]
  obtain ⟨m, hm2⟩ : ∃ m, m = lb + 1 := ⟨_, rfl⟩
  have HM2 := Lib.hid hm2
  rw [← hm2] at CL
  obtain ⟨w0, hw0⟩ : ∃ w0, w0 = w.alloc (.cells #[.string nm, dv, .slice a n cap, gv, .int .i64 procs, .int .i64 (lb : Nat)] 43) := ⟨_, rfl⟩
  have HF0 : Hid (Fr w w0) := Lib.hid (by rw [hw0]; exact (Fr.refl w).alloc _)
  have HCB : Hid (CdB w0 w.heap.size nm dv (.slice a n cap) gv procs lb) := Lib.hid (by rw [hw0]; exact CdB.new w _ _ _ _ _ _)
  have HW0 := Lib.hid hw0
  obtain ⟨cb0, cb1, cb2, cb3, cb4, cb5⟩ := HCB.out
  clear hn hv hR hw0 h19 hlab hm2
  go_enter Tryz.func78, Tryz.ntmps78
  go_wp2_with fail
  rw [← HW0.out]
  refine (CL.out _ HF0.out).mono ?_
  rintro e w1 ⟨g, rfl, hg, hrow, hf1⟩
  have HF1 := Lib.hid hf1
  have HROW := Lib.hid hrow
  clear cb0 cb1 cb2 cb3 cb4 cb5 hf1 hrow hg
  obtain ⟨cb0, cb1, cb2, cb3, cb4, cb5⟩ := HCB.out.fr HF1.out
  obtain ⟨tk, htk⟩ : ∃ t, t = takesL l := ⟨_, rfl⟩
  have HTK := Lib.hid htk
  rw [← htk] at HROW
  clear htk
  go_wp2_with fail
  go_loopw [4, 13] (fun c i wr => ∃ (j : Nat) (on : Bool), j ≤ n ∧ i = .int .i64 j ∧ c = .bool on ∧ Hid (R = (runS (tkF tk) on (l.drop j)).isSome) ∧ Fr w1 wr) (fun _ i _ => n - (intOf i).toNat)
  case atStart => exact ⟨0, false, Nat.zero_le _, rfl, rfl, Lib.hid (by rw [HR.out, HTK.out]; rfl), Fr.refl _⟩
  case round =>
    obtain ⟨j, on, hj, rfl, rfl, HJ, hfr⟩ := hrel
    clear cb0 cb1 cb2 cb3 cb4 cb5
    by_cases hlt : j < n
    · obtain ⟨t, ht⟩ : ∃ t, l[j]? = some t := ⟨_, List.getElem?_eq_getElem (by rw [← HN.out]; exact hlt)⟩
      have HT := Lib.hid ht
      obtain ⟨b, off, rfl, hc3⟩ := (HV.out.fr' (HF0.out.trans (HF1.out.trans hfr))).at_ ht
      obtain ⟨x0, x1, x2⟩ := hc3
      obtain ⟨⟨q0, q1, q2⟩, hq⟩ : ∃ y, y = t := ⟨_, rfl⟩
      subst hq
      simp only at x0 x1 x2
      clear ht
      have HST := Lib.hid (runS_drop (tkF tk) on HT.out)
      have HX0 : Hid (OpC (wr.alloc (.cells #[.int .i64 q0, .int .i64 q1, .int .i64 q2] 60)) wr.heap.size 0 ⟨q0, q1, q2⟩) := Lib.hid ⟨by simp, by simp, by simp⟩
      have CN := Lib.hid (named_any q0 wr.heap.size (wr.alloc (.cells #[.int .i64 q0, .int .i64 q1, .int .i64 q2] 60)) (by simp))
      have CG := Lib.hid (fun W => goesOn_any q0 q1 q2 W)
      obtain ⟨go, hgo⟩ : ∃ g, g = goOn q0 := ⟨_, rfl⟩
      have HGO := Lib.hid hgo
      rw [← hgo] at CG
      have HRZ := Lib.hid ((hfr.row HROW.out).alloc (.cells #[.int .i64 q0, .int .i64 q1, .int .i64 q2] 60))
      have HFIN := Lib.hid (HF0.out.trans (HF1.out.trans (hfr.alloc (.cells #[.int .i64 q0, .int .i64 q1, .int .i64 q2] 60))))
      have o0 := HX0.out.op
      have o1 := HX0.out.n
      have o2 := HX0.out.m
      simp only [Nat.zero_add] at o0 o1 o2
      clear hgo
      cases on with
      | true =>
        by_cases h28 : q0 = 28
        · have e28 : (q0 == 28) = true := by rw [beq_iff_eq]; exact h28
          have HF : Hid (R = false) := Lib.hid (by rw [HJ.out, HST.out]; simp [tkF, h28])
          clear h28
          go_wp2_with fail
          go_ret
          rw [HF.out]
          exact ⟨rfl, HFIN.out⟩
        · have e28 : (q0 == 28) = false := by rw [beq_eq_false_iff_ne]; exact h28
          have HNB : Hid (¬ (true = true ∧ q0 = 28)) := Lib.hid (fun h => h28 h.2)
          clear h28
          by_cases hA : q0 = 20 ∨ q0 = 21 ∨ q0 = 22 ∨ q0 = 27 ∨ q0 = 29
          · have HLO : Hid (labO ⟨q0, q1, q2⟩ = some q1) := Lib.hid (by simp only [labO]; rw [if_pos hA])
            have HLP : Hid (labP q0 wr.heap.size = some ⟨wr.heap.size, 1, none⟩) := Lib.hid (by unfold labP; rw [if_pos hA])
            clear hA
            obtain ⟨k, hkk⟩ : ∃ k : Nat, q1 = (k : Int) := ⟨(q1).toNat, by have := HLAB.out _ (List.mem_of_getElem? HT.out) _ HLO.out; omega⟩
            have hkm : k < m := by have := HLAB.out _ (List.mem_of_getElem? HT.out) _ HLO.out; have := HM2.out; omega
            subst hkk
            rw [HLP.out] at CN
            have z1 := HRZ.out.cell hkm
            obtain ⟨tb, htb⟩ : ∃ y, y = tk k := ⟨_, rfl⟩
            simp only [← htb] at z1
            obtain ⟨b27, hb27⟩ : ∃ y, y = (q0 == 27) := ⟨_, rfl⟩
            have HB27 : Hid (b27 = decide (q0 = 27)) := Lib.hid (by rw [hb27, Bool.eq_iff_iff]; simp)
            have e27 : (q0 == 27) = b27 := hb27.symm
            clear hb27
            by_cases hz : tb = b27
            · have ez : (tb != b27) = false := by simp [hz]
              have ez2 : (tb == b27) = true := by simp [hz]
              have HSTEP : Hid (tkF tk true ⟨q0, (k : Int), q2⟩ = some (if q0 = 19 then true else goOn q0)) := Lib.hid (tkF_some HNB.out HLO.out (by rw [Int.toNat_natCast, ← htb, hz]; exact HB27.out))
              clear hz htb
              by_cases h19 : q0 = 19
              · have e19 : (q0 != 19) = false := by simp [h19]
                have HJ2 : Hid (R = (runS (tkF tk) true (l.drop (j + 1))).isSome) := Lib.hid (by rw [HJ.out, HST.out, HSTEP.out, if_pos h19])
                clear h19
                go_wp2_with fail
                refine CN.out.mono ?_
                rintro e w3 ⟨rfl, rfl⟩
                go_wp2_with fail
                go_quiet (fail)
                go_wp2_with fail
                go_roundw
                case rel => exact ⟨j + 1, true, by omega, by go_num, rfl, HJ2, by first | exact hfr.alloc _ | exact (hfr.alloc _).drewN _⟩
                case measure => simp [intOf]; omega
              · have e19 : (q0 != 19) = true := by simp [h19]
                have HJ2 : Hid (R = (runS (tkF tk) go (l.drop (j + 1))).isSome) := Lib.hid (by rw [HJ.out, HST.out, HSTEP.out, if_neg h19, ← HGO.out])
                clear h19
                go_wp2_with fail
                refine CN.out.mono ?_
                rintro e w3 ⟨rfl, rfl⟩
                go_wp2_with fail
                go_quiet (fail)
                go_wp2_with fail
                refine (CG.out _).mono ?_
                rintro e w4 ⟨rfl, hf4⟩
                have hfin : Fr w1 w4 := by first | exact ((hfr.alloc _).drewN _).trans hf4 | exact (hfr.alloc _).trans hf4
                go_wp2_with fail
                go_roundw
                case rel => exact ⟨j + 1, go, by omega, by go_num, rfl, HJ2, hfin⟩
                case measure => simp [intOf]; omega
            · have ez : (tb != b27) = true := by simp [hz]
              have ez2 : (tb == b27) = false := by simp [hz]
              have HF : Hid (R = false) := Lib.hid (by rw [HJ.out, HST.out, tkF_bad HNB.out HLO.out (by rw [Int.toNat_natCast, ← htb]; intro e; exact hz (e.trans HB27.out.symm))]; rfl)
              clear hz htb
              go_wp2_with fail
              refine CN.out.mono ?_
              rintro e w3 ⟨rfl, rfl⟩
              go_wp2_with fail
              go_quiet (fail)
              go_wp2_with fail
              go_ret
              rw [HF.out]
              exact ⟨rfl, by first | exact HFIN.out | exact HFIN.out.drewN _ | exact HFIN.out.drew⟩
          · by_cases hB : q0 = 30
            · have HLO : Hid (labO ⟨q0, q1, q2⟩ = some q2) := Lib.hid (by simp only [labO]; rw [if_neg hA, if_pos hB])
              have HLP : Hid (labP q0 wr.heap.size = some ⟨wr.heap.size, 2, none⟩) := Lib.hid (by unfold labP; rw [if_neg hA, if_pos hB])
              clear hA hB
              obtain ⟨k, hkk⟩ : ∃ k : Nat, q2 = (k : Int) := ⟨(q2).toNat, by have := HLAB.out _ (List.mem_of_getElem? HT.out) _ HLO.out; omega⟩
              have hkm : k < m := by have := HLAB.out _ (List.mem_of_getElem? HT.out) _ HLO.out; have := HM2.out; omega
              subst hkk
              rw [HLP.out] at CN
              have z1 := HRZ.out.cell hkm
              obtain ⟨tb, htb⟩ : ∃ y, y = tk k := ⟨_, rfl⟩
              simp only [← htb] at z1
              obtain ⟨b27, hb27⟩ : ∃ y, y = (q0 == 27) := ⟨_, rfl⟩
              have HB27 : Hid (b27 = decide (q0 = 27)) := Lib.hid (by rw [hb27, Bool.eq_iff_iff]; simp)
              have e27 : (q0 == 27) = b27 := hb27.symm
              clear hb27
              by_cases hz : tb = b27
              · have ez : (tb != b27) = false := by simp [hz]
                have ez2 : (tb == b27) = true := by simp [hz]
                have HSTEP : Hid (tkF tk true ⟨q0, q1, (k : Int)⟩ = some (if q0 = 19 then true else goOn q0)) := Lib.hid (tkF_some HNB.out HLO.out (by rw [Int.toNat_natCast, ← htb, hz]; exact HB27.out))
                clear hz htb
                by_cases h19 : q0 = 19
                · have e19 : (q0 != 19) = false := by simp [h19]
                  have HJ2 : Hid (R = (runS (tkF tk) true (l.drop (j + 1))).isSome) := Lib.hid (by rw [HJ.out, HST.out, HSTEP.out, if_pos h19])
                  clear h19
                  go_wp2_with fail
                  refine CN.out.mono ?_
                  rintro e w3 ⟨rfl, rfl⟩
                  go_wp2_with fail
                  go_quiet (fail)
                  go_wp2_with fail
                  go_roundw
                  case rel => exact ⟨j + 1, true, by omega, by go_num, rfl, HJ2, by first | exact hfr.alloc _ | exact (hfr.alloc _).drewN _⟩
                  case measure => simp [intOf]; omega
                · have e19 : (q0 != 19) = true := by simp [h19]
                  have HJ2 : Hid (R = (runS (tkF tk) go (l.drop (j + 1))).isSome) := Lib.hid (by rw [HJ.out, HST.out, HSTEP.out, if_neg h19, ← HGO.out])
                  clear h19
                  go_wp2_with fail
                  refine CN.out.mono ?_
                  rintro e w3 ⟨rfl, rfl⟩
                  go_wp2_with fail
                  go_quiet (fail)
                  go_wp2_with fail
                  refine (CG.out _).mono ?_
                  rintro e w4 ⟨rfl, hf4⟩
                  have hfin : Fr w1 w4 := by first | exact ((hfr.alloc _).drewN _).trans hf4 | exact (hfr.alloc _).trans hf4
                  go_wp2_with fail
                  go_roundw
                  case rel => exact ⟨j + 1, go, by omega, by go_num, rfl, HJ2, hfin⟩
                  case measure => simp [intOf]; omega
              · have ez : (tb != b27) = true := by simp [hz]
                have ez2 : (tb == b27) = false := by simp [hz]
                have HF : Hid (R = false) := Lib.hid (by rw [HJ.out, HST.out, tkF_bad HNB.out HLO.out (by rw [Int.toNat_natCast, ← htb]; intro e; exact hz (e.trans HB27.out.symm))]; rfl)
                clear hz htb
                go_wp2_with fail
                refine CN.out.mono ?_
                rintro e w3 ⟨rfl, rfl⟩
                go_wp2_with fail
                go_quiet (fail)
                go_wp2_with fail
                go_ret
                rw [HF.out]
                exact ⟨rfl, by first | exact HFIN.out | exact HFIN.out.drewN _ | exact HFIN.out.drew⟩
            · have HLO : Hid (labO ⟨q0, q1, q2⟩ = none) := Lib.hid (by simp only [labO]; rw [if_neg hA, if_neg hB])
              have HLP : Hid (labP q0 wr.heap.size = none) := Lib.hid (by unfold labP; rw [if_neg hA, if_neg hB])
              clear hA hB
              rw [HLP.out] at CN
              have HSTEP : Hid (tkF tk true ⟨q0, q1, q2⟩ = some (if q0 = 19 then true else goOn q0)) := Lib.hid (tkF_none HNB.out HLO.out)
              by_cases h19 : q0 = 19
              · have e19 : (q0 != 19) = false := by simp [h19]
                have HJ2 : Hid (R = (runS (tkF tk) true (l.drop (j + 1))).isSome) := Lib.hid (by rw [HJ.out, HST.out, HSTEP.out, if_pos h19])
                clear h19
                go_wp2_with fail
                refine CN.out.mono ?_
                rintro e w3 ⟨rfl, rfl⟩
                go_wp2_with fail
                go_quiet (fail)
                go_wp2_with fail
                go_roundw
                case rel => exact ⟨j + 1, true, by omega, by go_num, rfl, HJ2, by first | exact hfr.alloc _ | exact (hfr.alloc _).drewN _⟩
                case measure => simp [intOf]; omega
              · have e19 : (q0 != 19) = true := by simp [h19]
                have HJ2 : Hid (R = (runS (tkF tk) go (l.drop (j + 1))).isSome) := Lib.hid (by rw [HJ.out, HST.out, HSTEP.out, if_neg h19, ← HGO.out])
                clear h19
                go_wp2_with fail
                refine CN.out.mono ?_
                rintro e w3 ⟨rfl, rfl⟩
                go_wp2_with fail
                go_quiet (fail)
                go_wp2_with fail
                refine (CG.out _).mono ?_
                rintro e w4 ⟨rfl, hf4⟩
                have hfin : Fr w1 w4 := by first | exact ((hfr.alloc _).drewN _).trans hf4 | exact (hfr.alloc _).trans hf4
                go_wp2_with fail
                go_roundw
                case rel => exact ⟨j + 1, go, by omega, by go_num, rfl, HJ2, hfin⟩
                case measure => simp [intOf]; omega
      | false =>
        have HNB : Hid (¬ (false = true ∧ q0 = 28)) := Lib.hid (fun h => absurd h.1 (by decide))
        by_cases hA : q0 = 20 ∨ q0 = 21 ∨ q0 = 22 ∨ q0 = 27 ∨ q0 = 29
        · have HLO : Hid (labO ⟨q0, q1, q2⟩ = some q1) := Lib.hid (by simp only [labO]; rw [if_pos hA])
          have HLP : Hid (labP q0 wr.heap.size = some ⟨wr.heap.size, 1, none⟩) := Lib.hid (by unfold labP; rw [if_pos hA])
          clear hA
          obtain ⟨k, hkk⟩ : ∃ k : Nat, q1 = (k : Int) := ⟨(q1).toNat, by have := HLAB.out _ (List.mem_of_getElem? HT.out) _ HLO.out; omega⟩
          have hkm : k < m := by have := HLAB.out _ (List.mem_of_getElem? HT.out) _ HLO.out; have := HM2.out; omega
          subst hkk
          rw [HLP.out] at CN
          have z1 := HRZ.out.cell hkm
          obtain ⟨tb, htb⟩ : ∃ y, y = tk k := ⟨_, rfl⟩
          simp only [← htb] at z1
          obtain ⟨b27, hb27⟩ : ∃ y, y = (q0 == 27) := ⟨_, rfl⟩
          have HB27 : Hid (b27 = decide (q0 = 27)) := Lib.hid (by rw [hb27, Bool.eq_iff_iff]; simp)
          have e27 : (q0 == 27) = b27 := hb27.symm
          clear hb27
          by_cases hz : tb = b27
          · have ez : (tb != b27) = false := by simp [hz]
            have ez2 : (tb == b27) = true := by simp [hz]
            have HSTEP : Hid (tkF tk false ⟨q0, (k : Int), q2⟩ = some (if q0 = 19 then false else goOn q0)) := Lib.hid (tkF_some HNB.out HLO.out (by rw [Int.toNat_natCast, ← htb, hz]; exact HB27.out))
            clear hz htb
            by_cases h19 : q0 = 19
            · have e19 : (q0 != 19) = false := by simp [h19]
              have HJ2 : Hid (R = (runS (tkF tk) false (l.drop (j + 1))).isSome) := Lib.hid (by rw [HJ.out, HST.out, HSTEP.out, if_pos h19])
              clear h19
              go_wp2_with fail
              refine CN.out.mono ?_
              rintro e w3 ⟨rfl, rfl⟩
              go_wp2_with fail
              go_quiet (fail)
              go_wp2_with fail
              go_roundw
              case rel => exact ⟨j + 1, false, by omega, by go_num, rfl, HJ2, by first | exact hfr.alloc _ | exact (hfr.alloc _).drewN _⟩
              case measure => simp [intOf]; omega
            · have e19 : (q0 != 19) = true := by simp [h19]
              have HJ2 : Hid (R = (runS (tkF tk) go (l.drop (j + 1))).isSome) := Lib.hid (by rw [HJ.out, HST.out, HSTEP.out, if_neg h19, ← HGO.out])
              clear h19
              go_wp2_with fail
              refine CN.out.mono ?_
              rintro e w3 ⟨rfl, rfl⟩
              go_wp2_with fail
              go_quiet (fail)
              go_wp2_with fail
              refine (CG.out _).mono ?_
              rintro e w4 ⟨rfl, hf4⟩
              have hfin : Fr w1 w4 := by first | exact ((hfr.alloc _).drewN _).trans hf4 | exact (hfr.alloc _).trans hf4
              go_wp2_with fail
              go_roundw
              case rel => exact ⟨j + 1, go, by omega, by go_num, rfl, HJ2, hfin⟩
              case measure => simp [intOf]; omega
          · have ez : (tb != b27) = true := by simp [hz]
            have ez2 : (tb == b27) = false := by simp [hz]
            have HF : Hid (R = false) := Lib.hid (by rw [HJ.out, HST.out, tkF_bad HNB.out HLO.out (by rw [Int.toNat_natCast, ← htb]; intro e; exact hz (e.trans HB27.out.symm))]; rfl)
            clear hz htb
            go_wp2_with fail
            refine CN.out.mono ?_
            rintro e w3 ⟨rfl, rfl⟩
            go_wp2_with fail
            go_quiet (fail)
            go_wp2_with fail
            go_ret
            rw [HF.out]
            exact ⟨rfl, by first | exact HFIN.out | exact HFIN.out.drewN _ | exact HFIN.out.drew⟩
        · by_cases hB : q0 = 30
          · have HLO : Hid (labO ⟨q0, q1, q2⟩ = some q2) := Lib.hid (by simp only [labO]; rw [if_neg hA, if_pos hB])
            have HLP : Hid (labP q0 wr.heap.size = some ⟨wr.heap.size, 2, none⟩) := Lib.hid (by unfold labP; rw [if_neg hA, if_pos hB])
            clear hA hB
            obtain ⟨k, hkk⟩ : ∃ k : Nat, q2 = (k : Int) := ⟨(q2).toNat, by have := HLAB.out _ (List.mem_of_getElem? HT.out) _ HLO.out; omega⟩
            have hkm : k < m := by have := HLAB.out _ (List.mem_of_getElem? HT.out) _ HLO.out; have := HM2.out; omega
            subst hkk
            rw [HLP.out] at CN
            have z1 := HRZ.out.cell hkm
            obtain ⟨tb, htb⟩ : ∃ y, y = tk k := ⟨_, rfl⟩
            simp only [← htb] at z1
            obtain ⟨b27, hb27⟩ : ∃ y, y = (q0 == 27) := ⟨_, rfl⟩
            have HB27 : Hid (b27 = decide (q0 = 27)) := Lib.hid (by rw [hb27, Bool.eq_iff_iff]; simp)
            have e27 : (q0 == 27) = b27 := hb27.symm
            clear hb27
            by_cases hz : tb = b27
            · have ez : (tb != b27) = false := by simp [hz]
              have ez2 : (tb == b27) = true := by simp [hz]
              have HSTEP : Hid (tkF tk false ⟨q0, q1, (k : Int)⟩ = some (if q0 = 19 then false else goOn q0)) := Lib.hid (tkF_some HNB.out HLO.out (by rw [Int.toNat_natCast, ← htb, hz]; exact HB27.out))
              clear hz htb
              by_cases h19 : q0 = 19
              · have e19 : (q0 != 19) = false := by simp [h19]
                have HJ2 : Hid (R = (runS (tkF tk) false (l.drop (j + 1))).isSome) := Lib.hid (by rw [HJ.out, HST.out, HSTEP.out, if_pos h19])
                clear h19
                go_wp2_with fail
                refine CN.out.mono ?_
                rintro e w3 ⟨rfl, rfl⟩
                go_wp2_with fail
                go_quiet (fail)
                go_wp2_with fail
                go_roundw
                case rel => exact ⟨j + 1, false, by omega, by go_num, rfl, HJ2, by first | exact hfr.alloc _ | exact (hfr.alloc _).drewN _⟩
                case measure => simp [intOf]; omega
              · have e19 : (q0 != 19) = true := by simp [h19]
                have HJ2 : Hid (R = (runS (tkF tk) go (l.drop (j + 1))).isSome) := Lib.hid (by rw [HJ.out, HST.out, HSTEP.out, if_neg h19, ← HGO.out])
                clear h19
                go_wp2_with fail
                refine CN.out.mono ?_
                rintro e w3 ⟨rfl, rfl⟩
                go_wp2_with fail
                go_quiet (fail)
                go_wp2_with fail
                refine (CG.out _).mono ?_
                rintro e w4 ⟨rfl, hf4⟩
                have hfin : Fr w1 w4 := by first | exact ((hfr.alloc _).drewN _).trans hf4 | exact (hfr.alloc _).trans hf4
                go_wp2_with fail
                go_roundw
                case rel => exact ⟨j + 1, go, by omega, by go_num, rfl, HJ2, hfin⟩
                case measure => simp [intOf]; omega
            · have ez : (tb != b27) = true := by simp [hz]
              have ez2 : (tb == b27) = false := by simp [hz]
              have HF : Hid (R = false) := Lib.hid (by rw [HJ.out, HST.out, tkF_bad HNB.out HLO.out (by rw [Int.toNat_natCast, ← htb]; intro e; exact hz (e.trans HB27.out.symm))]; rfl)
              clear hz htb
              go_wp2_with fail
              refine CN.out.mono ?_
              rintro e w3 ⟨rfl, rfl⟩
              go_wp2_with fail
              go_quiet (fail)
              go_wp2_with fail
              go_ret
              rw [HF.out]
              exact ⟨rfl, by first | exact HFIN.out | exact HFIN.out.drewN _ | exact HFIN.out.drew⟩
          · have HLO : Hid (labO ⟨q0, q1, q2⟩ = none) := Lib.hid (by simp only [labO]; rw [if_neg hA, if_neg hB])
            have HLP : Hid (labP q0 wr.heap.size = none) := Lib.hid (by unfold labP; rw [if_neg hA, if_neg hB])
            clear hA hB
            rw [HLP.out] at CN
            have HSTEP : Hid (tkF tk false ⟨q0, q1, q2⟩ = some (if q0 = 19 then false else goOn q0)) := Lib.hid (tkF_none HNB.out HLO.out)
            by_cases h19 : q0 = 19
            · have e19 : (q0 != 19) = false := by simp [h19]
              have HJ2 : Hid (R = (runS (tkF tk) false (l.drop (j + 1))).isSome) := Lib.hid (by rw [HJ.out, HST.out, HSTEP.out, if_pos h19])
              clear h19
              go_wp2_with fail
              refine CN.out.mono ?_
              rintro e w3 ⟨rfl, rfl⟩
              go_wp2_with fail
              go_quiet (fail)
              go_wp2_with fail
              go_roundw
              case rel => exact ⟨j + 1, false, by omega, by go_num, rfl, HJ2, by first | exact hfr.alloc _ | exact (hfr.alloc _).drewN _⟩
              case measure => simp [intOf]; omega
            · have e19 : (q0 != 19) = true := by simp [h19]
              have HJ2 : Hid (R = (runS (tkF tk) go (l.drop (j + 1))).isSome) := Lib.hid (by rw [HJ.out, HST.out, HSTEP.out, if_neg h19, ← HGO.out])
              clear h19
              go_wp2_with fail
              refine CN.out.mono ?_
              rintro e w3 ⟨rfl, rfl⟩
              go_wp2_with fail
              go_quiet (fail)
              go_wp2_with fail
              refine (CG.out _).mono ?_
              rintro e w4 ⟨rfl, hf4⟩
              have hfin : Fr w1 w4 := by first | exact ((hfr.alloc _).drewN _).trans hf4 | exact (hfr.alloc _).trans hf4
              go_wp2_with fail
              go_roundw
              case rel => exact ⟨j + 1, go, by omega, by go_num, rfl, HJ2, hfin⟩
              case measure => simp [intOf]; omega
    · obtain rfl : j = n := by omega
      have HF : Hid (R = true) := Lib.hid (by rw [HJ.out, List.drop_eq_nil_of_le (by rw [← HN.out]; exact Nat.le_refl _)]; rfl)
      go_wp2_with fail
      go_ret
      rw [HF.out]
      exact ⟨rfl, HF0.out.trans (HF1.out.trans hfr)⟩
end Go.Proofs.YtdnckbcknahakaaGreat
