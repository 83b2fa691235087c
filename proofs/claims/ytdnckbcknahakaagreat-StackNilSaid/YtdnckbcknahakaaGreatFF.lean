/- The code's labels. -/
import Derived.Test.YtdnckbcknahakaaGreatFE
namespace Go.Proofs.YtdnckbcknahakaaGreat
open Go.RowKit
set_option linter.unusedVariables false
set_option linter.unusedSimpArgs false

/-- Where the label is that an instruction names. -/
def labP (op : Int) (B : Nat) : Option Addr := if op = 20 ∨ op = 21 ∨ op = 22 ∨ op = 27 ∨ op = 29 then some ⟨B, 1, none⟩ else if op = 30 then some ⟨B, 2, none⟩ else none
set_option maxHeartbeats 4000000 in
theorem named_any (op : Int) (B : Nat) (w : World) (hc : w.cell? ⟨B, 0, none⟩ = some (.int .i64 op)) : Calls Tryz.prog 115 #[.pointer (some ⟨B, 0, none⟩)] w fun e w' => e = .returned (.pointer (labP op B)) ∧ w = w' := by
  by_cases h : op = 20 ∨ op = 21 ∨ op = 22 ∨ op = 27 ∨ op = 29 ∨ op = 30
  · rcases h with rfl | rfl | rfl | rfl | rfl | rfl
    all_goals
      go_enter Tryz.func115, Tryz.ntmps115
      go_wp2
      first | go_ret | skip
      exact ⟨rfl, rfl⟩
  · have n20 : (op == 20) = false := by rw [beq_eq_false_iff_ne]; omega
    have n21 : (op == 21) = false := by rw [beq_eq_false_iff_ne]; omega
    have n22 : (op == 22) = false := by rw [beq_eq_false_iff_ne]; omega
    have n27 : (op == 27) = false := by rw [beq_eq_false_iff_ne]; omega
    have n29 : (op == 29) = false := by rw [beq_eq_false_iff_ne]; omega
    have n30 : (op == 30) = false := by rw [beq_eq_false_iff_ne]; omega
    have HR : Hid (labP op B = none) := Lib.hid (by simp only [not_or] at h; simp [labP, h])
    clear h
    go_enter Tryz.func115, Tryz.ntmps115
    go_wp2
    first | go_ret | skip
    rw [HR.out]
    exact ⟨rfl, rfl⟩
def nextB (r : List Op3) : Bool := match r with
  | [] => false
  | q :: _ => followB q.op
theorem homeL_drop {l : List Op3} {j : Nat} {x : Op3} (h : Nat → Int) (p : Int) (hx : l[j]? = some x) : homeL h p (l.drop j) = if x.op = 24 then homeL h x.n (l.drop (j + 1)) else if x.op = 19 then (if h x.n.toNat = 0 ∧ nextB (l.drop (j + 1)) = true then homeL (upd h x.n.toNat p) p (l.drop (j + 1)) else none) else homeL h p (l.drop (j + 1)) := by
  obtain ⟨hk, rfl⟩ := List.getElem?_eq_some_iff.1 hx
  rw [List.drop_eq_getElem_cons hk]
  cases hr : l.drop (j + 1) with
  | nil => (conv => lhs; rw [homeL]); rfl
  | cons q r => (conv => lhs; rw [homeL]); rfl
theorem nextB_at {l : List Op3} {j : Nat} {x : Op3} (hx : l[j]? = some x) : nextB (l.drop j) = followB x.op := by
  obtain ⟨hk, rfl⟩ := List.getElem?_eq_some_iff.1 hx
  rw [List.drop_eq_getElem_cons hk]
  rfl
def endL (l : List Op3) (z : Option ((Nat → Int) × Int)) : Bool := match z with
  | none => false
  | some (h, p) => (runS (hmF h) p l).isSome
set_option maxRecDepth 100000 in
set_option maxHeartbeats 8000000 in
theorem labelsFit_any (nm : ByteArray) (dv gv : Value) (procs : Int) (lb : Nat) (l : List Op3) (v : Value) (w : World) (hv : OpsV w v l) (hb : l.length ≤ 140737488351232) (hlb : lb ≤ 100000)
    (h19 : ∀ x ∈ l, x.op = 19 → 1 ≤ x.n ∧ x.n ≤ lb) (hlab : ∀ x ∈ l, ∀ y, labO x = some y → 1 ≤ y ∧ y ≤ lb) (hlast : ∀ (j : Nat) x, l[j]? = some x → x.op = 19 → j + 1 < l.length) :
    Calls Tryz.prog 76 #[.agg #[.string nm, dv, v, gv, .int .i64 procs, .int .i64 (lb : Nat)]] w fun e w' => e = .returned (.bool (endL l (homeL (fun _ => 0) 0 l))) ∧ Fr w w' := by
  have HV := Lib.hid hv
  obtain ⟨a, cap, rfl, hc, hm, _⟩ := hv.form
  unfold maxLen at hm
  obtain ⟨n, hn⟩ : ∃ n, n = l.length := ⟨_, rfl⟩
  have HN := Lib.hid hn
  have H19 := Lib.hid h19
  have HLAB := Lib.hid hlab
  have HLAST := Lib.hid hlast
  rw [← hn] at hc HV hb HLAST ⊢
  obtain ⟨R, hR⟩ : ∃ r, r = endL l (homeL (fun _ => 0) 0 l) := ⟨_, rfl⟩
  have HR := Lib.hid hR
  rw [← hR]
  have w1 : IntKind.i64.wrap ((lb : Int) + 1) = ((lb + 1 : Nat) : Int) := by rw [show ((lb : Int) + 1) = ((lb + 1 : Nat) : Int) by omega]; exact IntWalk.i64_in _ (by omega)
  obtain ⟨m, hm2⟩ : ∃ m, m = lb + 1 := ⟨_, rfl⟩
  have HM2 := Lib.hid hm2
  rw [← hm2] at w1
  have hmk := fun W => run_make_ints m (by omega) W
  obtain ⟨w0, hw0⟩ : ∃ w0, w0 = w.alloc (.cells #[.string nm, dv, .slice a n cap, gv, .int .i64 procs, .int .i64 (lb : Nat)] 43) := ⟨_, rfl⟩
  have HF0 : Hid (Fr w w0) := Lib.hid (by rw [hw0]; exact (Fr.refl w).alloc _)
  have HS0 : Hid (w0.heap.size = w.heap.size + 1) := Lib.hid (by rw [hw0]; simp)
  have HCB : Hid (CdB w0 w.heap.size nm dv (.slice a n cap) gv procs lb) := Lib.hid (by rw [hw0]; exact CdB.new w _ _ _ _ _ _)
  have HW0 := Lib.hid hw0
  have HB1 : Hid ((w0.alloc (.cells (madeCells #[.int .i64 0] m) 3)).rowIs (w.heap.size + 1) 3 m (fun _ => .int .i64 0)) := Lib.hid (by
    rw [← HS0.out]; exact World.rowIs_made w0 (.int .i64 0) m 3)
  clear hn hv hR hw0 h19 hlab hlast hm2
  go_enter Tryz.func76, Tryz.ntmps76
  go_wp2_with fail
  rw [← HW0.out]
  have HF1 : Hid (Fr w0 (w0.alloc (.cells (madeCells #[.int .i64 0] m) 3))) := Lib.hid ((Fr.refl _).alloc _)
  obtain ⟨cb0, cb1, cb2, cb3, cb4, cb5⟩ := HCB.out.fr HF1.out
  go_loopw [4, 17] (fun c i wr => ∃ (j : Nat) (p : Int) (h : Nat → Int), j ≤ n ∧ i = .int .i64 j ∧ c = .int .i64 p ∧ Hid (R = endL l (homeL h p (l.drop j))) ∧ wr.rowIs (w.heap.size + 1) 3 m (fun k => .int .i64 (h k)) ∧ Fr w0 wr) (fun _ i _ => n - (intOf i).toNat)
  case atStart => exact ⟨0, 0, fun _ => 0, Nat.zero_le _, rfl, rfl, Lib.hid (by rw [HR.out]; rfl), HB1.out, HF1.out⟩
  case round =>
    obtain ⟨j, p, h, hj, rfl, rfl, HJ, hrow, hfr⟩ := hrel
    have HROW := Lib.hid hrow
    clear hrow cb0 cb1 cb2 cb3 cb4 cb5
    by_cases hlt : j < n
    · obtain ⟨t, ht⟩ : ∃ t, l[j]? = some t := ⟨_, List.getElem?_eq_getElem (by rw [← HN.out]; exact hlt)⟩
      have HT := Lib.hid ht
      obtain ⟨b, off, rfl, hc3⟩ := (HV.out.fr' (HF0.out.trans hfr)).at_ ht
      obtain ⟨x0, x1, x2⟩ := hc3
      obtain ⟨⟨q0, q1, q2⟩, hq⟩ : ∃ y, y = t := ⟨_, rfl⟩
      subst hq
      simp only at x0 x1 x2
      clear ht
      have HST := Lib.hid (homeL_drop h p HT.out)
      have HRA := Lib.hid (HROW.out.alloc (.cells #[.int .i64 q0, .int .i64 q1, .int .i64 q2] 60))
      by_cases hk : q0 = 24
      · have e24 : (q0 == 24) = true := by rw [beq_iff_eq]; exact hk
        have HJ2 : Hid (R = endL l (homeL h q1 (l.drop (j + 1)))) := Lib.hid (by rw [HJ.out, HST.out, if_pos hk])
        clear hk
        go_wp2_with fail
        go_roundw
        case rel => exact ⟨j + 1, q1, h, by omega, by go_num, rfl, HJ2, HRA.out, hfr.alloc _⟩
        case measure => simp [intOf]; omega
      · have e24 : (q0 == 24) = false := by rw [beq_eq_false_iff_ne]; exact hk
        by_cases hk2 : q0 = 19
        · have e19 : (q0 == 19) = true := by rw [beq_iff_eq]; exact hk2
          obtain ⟨k, hkk⟩ : ∃ k : Nat, q1 = (k : Int) := ⟨q1.toNat, by have := H19.out _ (List.mem_of_getElem? HT.out) hk2; simp only at this; omega⟩
          subst hkk
          have hkm : k < m := by have := H19.out _ (List.mem_of_getElem? HT.out) hk2; have := HM2.out; simp only at *; omega
          have hj1 : j + 1 < n := HLAST.out j _ HT.out hk2
          obtain ⟨t2, ht2⟩ : ∃ t, l[j + 1]? = some t := ⟨_, List.getElem?_eq_getElem (by rw [← HN.out]; exact hj1)⟩
          have HT2 := Lib.hid ht2
          obtain ⟨b', off', e', hc4⟩ := (HV.out.fr' (HF0.out.trans (hfr.alloc (.cells #[.int .i64 q0, .int .i64 (k : Int), .int .i64 q2] 60)))).at_ ht2
          obtain ⟨rfl, rfl⟩ : b = b' ∧ off = off' := by simpa using e'
          obtain ⟨v0, v1, v2⟩ := hc4
          obtain ⟨⟨r0, r1, r2⟩, hr⟩ : ∃ y, y = t2 := ⟨_, rfl⟩
          subst hr
          simp only at v0 v1 v2
          have wj : IntKind.i64.wrap ((j : Int) + 1) = ((j + 1 : Nat) : Int) := by rw [show ((j : Int) + 1) = ((j + 1 : Nat) : Int) by omega]; exact IntWalk.i64_in _ (by omega)
          have wt : (((j + 1 : Nat) : Int)).toNat = j + 1 := by omega
          have y2 := (HCB.out.fr (hfr.alloc (.cells #[.int .i64 q0, .int .i64 (k : Int), .int .i64 q2] 60))).c2
          have z1 := HRA.out.cell hkm
          have z2 := HRA.out.frozen k
          have CF := Lib.hid (fun W => follow_any r0 W)
          obtain ⟨fb, hfb⟩ : ∃ b, b = followB r0 := ⟨_, rfl⟩
          rw [← hfb] at CF
          obtain ⟨hv', hhv⟩ : ∃ y, y = h k := ⟨_, rfl⟩
          simp only [← hhv] at z1
          have HSTEP : Hid (homeL h p (l.drop j) = if hv' = 0 ∧ fb = true then homeL (upd h k p) p (l.drop (j + 1)) else none) := Lib.hid (by rw [HST.out, if_neg hk, if_pos hk2, nextB_at HT2.out]; simp only [Int.toNat_natCast]; rw [← hhv, ← hfb])
          clear hk hk2 hfb hhv ht2 e'
          by_cases hz : hv' = 0
          · have e0 : (hv' != 0) = false := by simp [hz]
            cases fb with
            | false =>
              have HF : Hid (R = false) := Lib.hid (by rw [HJ.out, HSTEP.out]; simp [endL])
              clear hz
              go_wp2_with fail
              refine (CF.out _).mono ?_
              rintro e w2' ⟨rfl, rfl⟩
              go_wp2_with fail
              go_ret
              rw [HF.out]
              exact ⟨rfl, HF0.out.trans (hfr.alloc _)⟩
            | true =>
              have HJ2 : Hid (R = endL l (homeL (upd h k p) p (l.drop (j + 1)))) := Lib.hid (by rw [HJ.out, HSTEP.out, if_pos ⟨hz, rfl⟩])
              clear hz
              go_wp2_with fail
              refine (CF.out _).mono ?_
              rintro e w2' ⟨rfl, rfl⟩
              go_wp2_with fail
              go_roundw
              case rel =>
                refine ⟨j + 1, p, upd h k p, by omega, by go_num, rfl, HJ2, (HRA.out.set k _).congr (fun i hi => ?_), (hfr.alloc _).setCell (by rw [HS0.out]; exact Nat.le_refl _) _⟩
                unfold upd
                by_cases hik : i = k
                · rw [if_pos hik, if_pos hik]
                · rw [if_neg hik, if_neg hik]
              case measure => simp [intOf]; omega
          · have e0 : (hv' != 0) = true := by simp [hz]
            have HF : Hid (R = false) := Lib.hid (by rw [HJ.out, HSTEP.out]; simp [endL, hz])
            clear hz
            go_wp2_with fail
            go_ret
            rw [HF.out]
            exact ⟨rfl, HF0.out.trans (hfr.alloc _)⟩
        · have e19 : (q0 == 19) = false := by rw [beq_eq_false_iff_ne]; exact hk2
          have HJ2 : Hid (R = endL l (homeL h p (l.drop (j + 1)))) := Lib.hid (by rw [HJ.out, HST.out, if_neg hk, if_neg hk2])
          clear hk hk2
          go_wp2_with fail
          go_roundw
          case rel => exact ⟨j + 1, p, h, by omega, by go_num, rfl, HJ2, HRA.out, hfr.alloc _⟩
          case measure => simp [intOf]; omega
    · obtain rfl : j = n := by omega
      rename World => wo
      have HR2 : Hid (R = (runS (hmF h) p l).isSome) := Lib.hid (by rw [HJ.out, List.drop_eq_nil_of_le (by rw [← HN.out]; exact Nat.le_refl _)]; rfl)
      obtain ⟨cb0, cb1, cb2, cb3, cb4, cb5⟩ := HCB.out.fr hfr
      have HFR := Lib.hid hfr
      clear HJ
      go_wp2_with fail
      go_loopw [4, 56] (fun c i wr => ∃ (x : Nat) (p : Int), x ≤ j ∧ i = .int .i64 x ∧ c = .int .i64 p ∧ Hid (R = (runS (hmF h) p (l.drop x)).isSome) ∧ Fr wo wr) (fun _ i _ => j - (intOf i).toNat)
      case atStart => exact ⟨0, p, Nat.zero_le _, rfl, rfl, Lib.hid (by rw [HR2.out]; rfl), Fr.refl _⟩
      case round =>
        obtain ⟨x, p, hx, rfl, rfl, HX, hfz⟩ := hrel
        clear cb0 cb1 cb2 cb3 cb4 cb5
        by_cases hlt2 : x < j
        · obtain ⟨t, ht⟩ : ∃ t, l[x]? = some t := ⟨_, List.getElem?_eq_getElem (by rw [← HN.out]; exact hlt2)⟩
          have HT := Lib.hid ht
          obtain ⟨b, off, rfl, hc3⟩ := (HV.out.fr' (HF0.out.trans (HFR.out.trans hfz))).at_ ht
          obtain ⟨x0, x1, x2⟩ := hc3
          obtain ⟨⟨q0, q1, q2⟩, hq⟩ : ∃ y, y = t := ⟨_, rfl⟩
          subst hq
          simp only at x0 x1 x2
          clear ht
          have HST := Lib.hid (runS_drop (hmF h) p HT.out)
          have HX0 : Hid (OpC (wr.alloc (.cells #[.int .i64 q0, .int .i64 q1, .int .i64 q2] 60)) wr.heap.size 0 ⟨q0, q1, q2⟩) := Lib.hid ⟨by simp, by simp, by simp⟩
          have CN := Lib.hid (named_any q0 wr.heap.size (wr.alloc (.cells #[.int .i64 q0, .int .i64 q1, .int .i64 q2] 60)) (by simp))
          have HRZ := Lib.hid ((hfz.row HROW.out).alloc (.cells #[.int .i64 q0, .int .i64 q1, .int .i64 q2] 60))
          obtain ⟨p', hp'⟩ : ∃ y, y = (if q0 = 24 then q1 else p) := ⟨_, rfl⟩
          have HP := Lib.hid hp'
          have hfin := HF0.out.trans (HFR.out.trans (hfz.alloc (.cells #[.int .i64 q0, .int .i64 q1, .int .i64 q2] 60)))
          have HFIN := Lib.hid hfin
          clear hp' hfin
          by_cases hk : q0 = 24
          · have e24 : (q0 == 24) = true := by rw [beq_iff_eq]; exact hk
            have HLO : Hid (labO ⟨q0, q1, q2⟩ = none) := Lib.hid (by subst hk; rfl)
            have HLP : Hid (labP q0 wr.heap.size = none) := Lib.hid (by subst hk; rfl)
            obtain rfl : p' = q1 := HP.out.trans (if_pos hk)
            clear hk
            have HJ2 : Hid (R = (runS (hmF h) p' (l.drop (x + 1))).isSome) := Lib.hid (by rw [HX.out, HST.out]; simp only [hmF, HLO.out]; rw [← HP.out])
            rw [HLP.out] at CN
            go_wp2_with fail
            refine CN.out.mono ?_
            rintro e w3 ⟨rfl, rfl⟩
            go_wp2_with fail
            go_roundw
            case rel => exact ⟨x + 1, p', by omega, by go_num, rfl, HJ2, hfz.alloc _⟩
            case measure => simp [intOf]; omega
          · have e24 : (q0 == 24) = false := by rw [beq_eq_false_iff_ne]; exact hk
            obtain rfl : p' = p := HP.out.trans (if_neg hk)
            by_cases hA : q0 = 20 ∨ q0 = 21 ∨ q0 = 22 ∨ q0 = 27 ∨ q0 = 29
            · have HLO : Hid (labO ⟨q0, q1, q2⟩ = some q1) := Lib.hid (by simp only [labO]; rw [if_pos hA])
              have HLP : Hid (labP q0 wr.heap.size = some ⟨wr.heap.size, 1, none⟩) := Lib.hid (by unfold labP; rw [if_pos hA])
              clear hk hA
              obtain ⟨k, hkk⟩ : ∃ k : Nat, q1 = (k : Int) := ⟨(q1).toNat, by have := HLAB.out _ (List.mem_of_getElem? HT.out) _ HLO.out; omega⟩
              have hkm : k < m := by have := HLAB.out _ (List.mem_of_getElem? HT.out) _ HLO.out; have := HM2.out; omega
              subst hkk
              rw [HLP.out] at CN
              have z1 := HRZ.out.cell hkm
              obtain ⟨hv', hhv⟩ : ∃ y, y = h k := ⟨_, rfl⟩
              simp only [← hhv] at z1
              have HSTEP : Hid (hmF h p' ⟨q0, (k : Int), q2⟩ = if hv' = p' then some p' else none) := Lib.hid (by simp only [hmF, HLO.out, Int.toNat_natCast]; rw [← hhv, ← HP.out])
              by_cases hz : hv' = p'
              · have e0 : (hv' != p') = false := by simp [hz]
                have HJ2 : Hid (R = (runS (hmF h) p' (l.drop (x + 1))).isSome) := Lib.hid (by rw [HX.out, HST.out, HSTEP.out, if_pos hz])
                clear hz hhv
                go_wp2_with fail
                refine CN.out.mono ?_
                rintro e w3 ⟨rfl, rfl⟩
                go_wp2_with fail
                go_roundw
                case rel => exact ⟨x + 1, p', by omega, by go_num, rfl, HJ2, hfz.alloc _⟩
                case measure => simp [intOf]; omega
              · have e0 : (hv' != p') = true := by simp [hz]
                have HF : Hid (R = false) := Lib.hid (by rw [HX.out, HST.out, HSTEP.out, if_neg hz]; rfl)
                clear hz hhv
                go_wp2_with fail
                refine CN.out.mono ?_
                rintro e w3 ⟨rfl, rfl⟩
                go_wp2_with fail
                go_ret
                rw [HF.out]
                exact ⟨rfl, HFIN.out⟩
            · by_cases hB : q0 = 30
              · have HLO : Hid (labO ⟨q0, q1, q2⟩ = some q2) := Lib.hid (by simp only [labO]; rw [if_neg hA, if_pos hB])
                have HLP : Hid (labP q0 wr.heap.size = some ⟨wr.heap.size, 2, none⟩) := Lib.hid (by unfold labP; rw [if_neg hA, if_pos hB])
                clear hk hA hB
                obtain ⟨k, hkk⟩ : ∃ k : Nat, q2 = (k : Int) := ⟨(q2).toNat, by have := HLAB.out _ (List.mem_of_getElem? HT.out) _ HLO.out; omega⟩
                have hkm : k < m := by have := HLAB.out _ (List.mem_of_getElem? HT.out) _ HLO.out; have := HM2.out; omega
                subst hkk
                rw [HLP.out] at CN
                have z1 := HRZ.out.cell hkm
                obtain ⟨hv', hhv⟩ : ∃ y, y = h k := ⟨_, rfl⟩
                simp only [← hhv] at z1
                have HSTEP : Hid (hmF h p' ⟨q0, q1, (k : Int)⟩ = if hv' = p' then some p' else none) := Lib.hid (by simp only [hmF, HLO.out, Int.toNat_natCast]; rw [← hhv, ← HP.out])
                by_cases hz : hv' = p'
                · have e0 : (hv' != p') = false := by simp [hz]
                  have HJ2 : Hid (R = (runS (hmF h) p' (l.drop (x + 1))).isSome) := Lib.hid (by rw [HX.out, HST.out, HSTEP.out, if_pos hz])
                  clear hz hhv
                  go_wp2_with fail
                  refine CN.out.mono ?_
                  rintro e w3 ⟨rfl, rfl⟩
                  go_wp2_with fail
                  go_roundw
                  case rel => exact ⟨x + 1, p', by omega, by go_num, rfl, HJ2, hfz.alloc _⟩
                  case measure => simp [intOf]; omega
                · have e0 : (hv' != p') = true := by simp [hz]
                  have HF : Hid (R = false) := Lib.hid (by rw [HX.out, HST.out, HSTEP.out, if_neg hz]; rfl)
                  clear hz hhv
                  go_wp2_with fail
                  refine CN.out.mono ?_
                  rintro e w3 ⟨rfl, rfl⟩
                  go_wp2_with fail
                  go_ret
                  rw [HF.out]
                  exact ⟨rfl, HFIN.out⟩
              · have HLO : Hid (labO ⟨q0, q1, q2⟩ = none) := Lib.hid (by simp only [labO]; rw [if_neg hA, if_neg hB])
                have HLP : Hid (labP q0 wr.heap.size = none) := Lib.hid (by unfold labP; rw [if_neg hA, if_neg hB])
                clear hk hA hB
                have HJ2 : Hid (R = (runS (hmF h) p' (l.drop (x + 1))).isSome) := Lib.hid (by rw [HX.out, HST.out]; simp only [hmF, HLO.out]; rw [← HP.out])
                rw [HLP.out] at CN
                go_wp2_with fail
                refine CN.out.mono ?_
                rintro e w3 ⟨rfl, rfl⟩
                go_wp2_with fail
                go_roundw
                case rel => exact ⟨x + 1, p', by omega, by go_num, rfl, HJ2, hfz.alloc _⟩
                case measure => simp [intOf]; omega
        · obtain rfl : x = j := by omega
          have HF : Hid (R = true) := Lib.hid (by rw [HX.out, List.drop_eq_nil_of_le (by rw [← HN.out]; exact Nat.le_refl _)]; rfl)
          go_wp2_with fail
          go_ret
          rw [HF.out]
          exact ⟨rfl, HF0.out.trans (HFR.out.trans hfz)⟩
end Go.Proofs.YtdnckbcknahakaaGreat
