/- The code's loops over instructions, areas and entries. -/
import Derived.Test.YtdnckbcknahakaaGreatFA
import Derived.Test.YtdnckbcknahakaaGreatOC
namespace Go.Proofs.YtdnckbcknahakaaGreat
open Go.RowKit
set_option linter.unusedVariables false
set_option linter.unusedSimpArgs false

theorem mx (x y : Int) : (if x < y then y else x) = max x y := by
  rw [Int.max_def]
  repeat' split
  all_goals omega
def intOf : Value → Int
  | .int _ x => x
  | _ => 0
set_option maxRecDepth 100000 in
set_option maxHeartbeats 4000000 in
theorem count_any (k : Int) (l : List Op3) (v : Value) (w : World) (hv : OpsV w v l) (hb : l.length ≤ 140737488351232) :
    Calls Tryz.prog 104 #[v, .int .i64 k] w fun e w' => e = .returned (.int .i64 (countI l k)) ∧ Fr w w' := by
  have HV := Lib.hid hv
  obtain ⟨a, cap, rfl, hc, hm, _⟩ := hv.form
  unfold maxLen at hm
  obtain ⟨n, hn⟩ : ∃ n, n = l.length := ⟨_, rfl⟩
  have HN := Lib.hid hn
  rw [← hn] at hc HV hb ⊢
  obtain ⟨R, hR⟩ : ∃ r, r = countI l k := ⟨_, rfl⟩
  have HR := Lib.hid hR
  rw [← hR]
  clear hn hv hR
  go_enter Tryz.func104, Tryz.ntmps104
  go_wp2_with fail
  go_loopw [5, 10] (fun c i wr => ∃ (j : Nat) (x : Int), j ≤ n ∧ i = .int .i64 j ∧ c = .int .i64 x ∧ Hid (0 ≤ x ∧ x ≤ j) ∧ Hid (R = (l.drop j).foldl (fun n o => if o.op = k then n + 1 else n) x) ∧ Fr w wr) (fun _ i _ => n - (intOf i).toNat)
  case atStart => exact ⟨0, 0, Nat.zero_le _, rfl, rfl, Lib.hid ⟨by omega, by omega⟩, Lib.hid (by rw [HR.out]; rfl), Fr.refl _⟩
  case round =>
    obtain ⟨j, x, hj, rfl, rfl, HX, HJ, hfr⟩ := hrel
    by_cases hlt : j < n
    · obtain ⟨t, ht⟩ : ∃ t, l[j]? = some t := ⟨_, List.getElem?_eq_getElem (by rw [← HN.out]; exact hlt)⟩
      have HT := Lib.hid ht
      obtain ⟨b, off, rfl, hc3⟩ := (HV.out.fr' hfr).at_ ht
      obtain ⟨x0, x1, x2⟩ := hc3
      obtain ⟨⟨q0, q1, q2⟩, hq⟩ : ∃ y, y = t := ⟨_, rfl⟩
      subst hq
      simp only at x0 x1 x2
      clear ht
      have qx : IntKind.i64.wrap (x + 1) = x + 1 := IntWalk.i64_in _ (by have := HX.out; omega)
      by_cases hk : q0 = k
      · have e0 : (q0 == k) = true := by rw [beq_iff_eq]; exact hk
        have HJ2 : Hid (R = (l.drop (j + 1)).foldl (fun n o => if o.op = k then n + 1 else n) (x + 1)) := Lib.hid (by rw [HJ.out, fold_drop _ _ HT.out, if_pos hk])
        clear hk
        go_wp2_with fail
        go_roundw
        case rel => exact ⟨j + 1, x + 1, by omega, by go_num, rfl, Lib.hid (by have := HX.out; omega), HJ2, hfr.alloc _⟩
        case measure => simp [intOf]; omega
      · have e0 : (q0 == k) = false := by rw [beq_eq_false_iff_ne]; exact hk
        have HJ2 : Hid (R = (l.drop (j + 1)).foldl (fun n o => if o.op = k then n + 1 else n) x) := Lib.hid (by rw [HJ.out, fold_drop _ _ HT.out, if_neg hk])
        clear hk
        go_wp2_with fail
        go_roundw
        case rel => exact ⟨j + 1, x, by omega, by go_num, rfl, Lib.hid (by have := HX.out; omega), HJ2, hfr.alloc _⟩
        case measure => simp [intOf]; omega
    · obtain rfl : j = n := by omega
      have HF : Hid (x = R) := Lib.hid (by rw [HJ.out, List.drop_eq_nil_of_le (by rw [← HN.out]; exact Nat.le_refl _)]; rfl)
      go_wp2_with fail
      go_ret
      rw [HF.out]
      exact ⟨rfl, hfr⟩
set_option maxRecDepth 100000 in
set_option maxHeartbeats 4000000 in
theorem greatest_any (k : Int) (l : List Op3) (v : Value) (w : World) (hv : OpsV w v l) (hb : l.length ≤ 140737488351232) :
    Calls Tryz.prog 109 #[v, .int .i64 k] w fun e w' => e = .returned (.int .i64 (greatI l k)) ∧ Fr w w' := by
  have HV := Lib.hid hv
  obtain ⟨a, cap, rfl, hc, hm, _⟩ := hv.form
  unfold maxLen at hm
  obtain ⟨n, hn⟩ : ∃ n, n = l.length := ⟨_, rfl⟩
  have HN := Lib.hid hn
  rw [← hn] at hc HV hb ⊢
  obtain ⟨R, hR⟩ : ∃ r, r = greatI l k := ⟨_, rfl⟩
  have HR := Lib.hid hR
  rw [← hR]
  clear hn hv hR
  go_enter Tryz.func109, Tryz.ntmps109
  go_wp2_with fail
  go_loopw [5, 10] (fun c i wr => ∃ (j : Nat) (x : Int), j ≤ n ∧ i = .int .i64 j ∧ c = .int .i64 x ∧ Hid (R = (l.drop j).foldl (fun n o => if o.op = k then max n o.n else n) x) ∧ Fr w wr) (fun _ i _ => n - (intOf i).toNat)
  case atStart => exact ⟨0, 0, Nat.zero_le _, rfl, rfl, Lib.hid (by rw [HR.out]; rfl), Fr.refl _⟩
  case round =>
    obtain ⟨j, x, hj, rfl, rfl, HJ, hfr⟩ := hrel
    by_cases hlt : j < n
    · obtain ⟨t, ht⟩ : ∃ t, l[j]? = some t := ⟨_, List.getElem?_eq_getElem (by rw [← HN.out]; exact hlt)⟩
      have HT := Lib.hid ht
      obtain ⟨b, off, rfl, hc3⟩ := (HV.out.fr' hfr).at_ ht
      obtain ⟨x0, x1, x2⟩ := hc3
      obtain ⟨⟨q0, q1, q2⟩, hq⟩ : ∃ y, y = t := ⟨_, rfl⟩
      subst hq
      simp only at x0 x1 x2
      clear ht
      by_cases hk : q0 = k
      · have e0 : (q0 == k) = true := by rw [beq_iff_eq]; exact hk
        have HJ2 : Hid (R = (l.drop (j + 1)).foldl (fun n o => if o.op = k then max n o.n else n) (max x q1)) := Lib.hid (by rw [HJ.out, fold_drop _ _ HT.out, if_pos hk])
        clear hk
        go_wp2_with fail
        go_roundw
        case rel => exact ⟨j + 1, max x q1, by omega, by go_num, by rw [mx], HJ2, hfr.alloc _⟩
        case measure => simp [intOf]; omega
      · have e0 : (q0 == k) = false := by rw [beq_eq_false_iff_ne]; exact hk
        have HJ2 : Hid (R = (l.drop (j + 1)).foldl (fun n o => if o.op = k then max n o.n else n) x) := Lib.hid (by rw [HJ.out, fold_drop _ _ HT.out, if_neg hk])
        clear hk
        go_wp2_with fail
        go_roundw
        case rel => exact ⟨j + 1, x, by omega, by go_num, rfl, HJ2, hfr.alloc _⟩
        case measure => simp [intOf]; omega
    · obtain rfl : j = n := by omega
      have HF : Hid (x = R) := Lib.hid (by rw [HJ.out, List.drop_eq_nil_of_le (by rw [← HN.out]; exact Nat.le_refl _)]; rfl)
      go_wp2_with fail
      go_ret
      rw [HF.out]
      exact ⟨rfl, hfr⟩
theorem greatI_wf (l : List Op3) (k : Int) (h : ∀ x ∈ l, wf64 x.op ∧ wf64 x.n ∧ wf64 x.m) : wf64 (greatI l k) := by
  have : ∀ (l : List Op3) (a : Int), wf64 a → (∀ x ∈ l, wf64 x.n) → wf64 (l.foldl (fun n o => if o.op = k then max n o.n else n) a) := by
    intro l
    induction l with
    | nil => intro a ha _; exact ha
    | cons x r ih =>
      intro a ha hl
      rw [List.foldl_cons]
      refine ih _ ?_ (fun y hy => hl y (List.mem_cons_of_mem _ hy))
      have hx := hl x List.mem_cons_self
      unfold wf64 at ha hx ⊢
      split <;> omega
  exact this l 0 (by unfold wf64; omega) (fun x hx => (h x hx).2.1)
set_option maxRecDepth 100000 in
set_option maxHeartbeats 4000000 in
theorem mostWords_any (l : List Dt) (v : Value) (w : World) (hv : DtsV w v l) (hb : l.length ≤ 140737488351232) (hw : ∀ x ∈ l, okD x) (hlim : l.length ≤ 2000) :
    Calls Tryz.prog 105 #[v] w fun e w' => e = .returned (.int .i64 (wordsI l)) ∧ Fr w w' := by
  have HV := Lib.hid hv
  obtain ⟨a, cap, rfl, hc, hm, _⟩ := hv.form
  unfold maxLen at hm
  obtain ⟨n, hn⟩ : ∃ n, n = l.length := ⟨_, rfl⟩
  have HN := Lib.hid hn
  rw [← hn] at hc HV hb ⊢
  obtain ⟨R, hR⟩ : ∃ r, r = wordsI l := ⟨_, rfl⟩
  have HR := Lib.hid hR
  rw [← hR]
  have HW := Lib.hid hw
  have HLM := Lib.hid hlim
  clear hn hv hR hw hlim
  go_enter Tryz.func105, Tryz.ntmps105
  go_wp2_with fail
  go_loopw [3, 8] (fun c i wr => ∃ (j : Nat) (x : Int), j ≤ n ∧ i = .int .i64 j ∧ c = .int .i64 x ∧ Hid (0 ≤ x ∧ x ≤ 140737488351233 * j) ∧ Hid (R = (l.drop j).foldl (fun n d => n + (if d.b then ((d.t.size : Int) + 2) / 2 else (d.ws.length : Int))) x) ∧ Fr w wr) (fun _ i _ => n - (intOf i).toNat)
  case atStart => exact ⟨0, 0, Nat.zero_le _, rfl, rfl, Lib.hid ⟨by omega, by omega⟩, Lib.hid (by rw [HR.out]; rfl), Fr.refl _⟩
  case round =>
    obtain ⟨j, x, hj, rfl, rfl, HX, HJ, hfr⟩ := hrel
    by_cases hlt : j < n
    · obtain ⟨t, ht⟩ : ∃ t, l[j]? = some t := ⟨_, List.getElem?_eq_getElem (by rw [← HN.out]; exact hlt)⟩
      have HT := Lib.hid ht
      obtain ⟨b, off, rfl, hc3⟩ := (HV.out.fr' hfr).at_ ht
      obtain ⟨x0, x1, lv, x2, hiv⟩ := hc3
      obtain ⟨la, lc, rfl, _, _, _⟩ := hiv.form
      have HI := Lib.hid hiv
      obtain ⟨⟨q0, q1, q2⟩, hq⟩ : ∃ y, y = t := ⟨_, rfl⟩
      subst hq
      simp only at x0 x1 x2 HI
      obtain ⟨ln, hln⟩ : ∃ y, y = q2.length := ⟨_, rfl⟩
      rw [← hln] at x2 HI
      clear hiv
      clear ht
      have HOK : Hid (q0.size ≤ 140737488351232 ∧ ln ≤ 140737488351232) := Lib.hid (by have := HW.out _ (List.mem_of_getElem? HT.out); exact ⟨this.1, by rw [hln]; exact this.2.1⟩)
      have HJN : Hid (j < 2000) := Lib.hid (by have := HLM.out; have := HN.out; omega)
      have HBD := Lib.hid (show j < n ∧ n = l.length from ⟨hlt, HN.out⟩)
      cases q1 with
      | true =>
        have HJ2 : Hid (R = (l.drop (j + 1)).foldl (fun n d => n + (if d.b then ((d.t.size : Int) + 2) / 2 else (d.ws.length : Int))) (x + ((q0.size : Int) + 2) / 2)) := Lib.hid (by rw [HJ.out, fold_drop _ _ HT.out]; rfl)
        have w1 : IntKind.i64.wrap ((q0.size : Int) + 2) = (q0.size : Int) + 2 := IntWalk.i64_in _ (by have := HOK.out; omega)
        have w2 : IntKind.i64.wrap (((q0.size : Int) + 2) / 2) = ((q0.size : Int) + 2) / 2 := IntWalk.i64_in _ (by have := HOK.out; omega)
        have w3 : IntKind.i64.wrap (x + ((q0.size : Int) + 2) / 2) = x + ((q0.size : Int) + 2) / 2 := IntWalk.i64_in _ (by have := HOK.out; have := HX.out; have := HJN.out; omega)
        have t1 : ((q0.size : Int) + 2).tdiv 2 = ((q0.size : Int) + 2) / 2 := Int.tdiv_eq_ediv_of_nonneg (by omega)
        clear hln
        go_wp2_with fail
        go_roundw
        case rel => exact ⟨j + 1, x + ((q0.size : Int) + 2) / 2, by omega, by go_num, rfl, Lib.hid (by have := HX.out; have := HOK.out; omega), HJ2, hfr.alloc _⟩
        case measure => simp [intOf]; omega
      | false =>
        have HJ2 : Hid (R = (l.drop (j + 1)).foldl (fun n d => n + (if d.b then ((d.t.size : Int) + 2) / 2 else (d.ws.length : Int))) (x + (ln : Int))) := Lib.hid (by rw [HJ.out, fold_drop _ _ HT.out, hln]; rfl)
        have w3 : IntKind.i64.wrap (x + (ln : Int)) = x + (ln : Int) := IntWalk.i64_in _ (by have := HOK.out; have := HX.out; have := HJN.out; omega)
        clear hln
        go_wp2_with fail
        go_roundw
        case rel => exact ⟨j + 1, x + (ln : Int), by omega, by go_num, rfl, Lib.hid (by have := HX.out; have := HOK.out; omega), HJ2, hfr.alloc _⟩
        case measure => simp [intOf]; omega
    · obtain rfl : j = n := by omega
      have HF : Hid (x = R) := Lib.hid (by rw [HJ.out, List.drop_eq_nil_of_le (by rw [← HN.out]; exact Nat.le_refl _)]; rfl)
      go_wp2_with fail
      go_ret
      rw [HF.out]
      exact ⟨rfl, hfr⟩
set_option maxRecDepth 100000 in
set_option maxHeartbeats 4000000 in
theorem casesFit_any (l : List Op3) (v : Value) (w : World) (hv : OpsV w v l) (hb : l.length ≤ 140737488351232) (hw : ∀ x ∈ l, -2147483648 ≤ x.m ∧ x.m ≤ 2147483647) :
    Calls Tryz.prog 74 #[v] w fun e w' => e = .returned (.bool (casB l)) ∧ Fr w w' := by
  have HV := Lib.hid hv
  obtain ⟨a, cap, rfl, hc, hm, _⟩ := hv.form
  unfold maxLen at hm
  obtain ⟨n, hn⟩ : ∃ n, n = l.length := ⟨_, rfl⟩
  have HN := Lib.hid hn
  rw [← hn] at hc HV hb ⊢
  obtain ⟨R, hR⟩ : ∃ r, r = casB l := ⟨_, rfl⟩
  have HR := Lib.hid hR
  rw [← hR]
  have HW := Lib.hid hw
  clear hn hv hR hw
  go_enter Tryz.func74, Tryz.ntmps74
  go_wp2_with fail
  go_loopw [3, 8] (fun c i wr => ∃ (j : Nat) (x : Int), j ≤ n ∧ i = .int .i64 j ∧ c = .int .i64 x ∧ Hid (-2147483648 ≤ x ∧ x ≤ 2147483647) ∧ Hid (R = decide (runS casF x (l.drop j) = some 0)) ∧ Fr w wr) (fun _ i _ => n - (intOf i).toNat)
  case atStart => exact ⟨0, 0, Nat.zero_le _, rfl, rfl, Lib.hid (by omega), Lib.hid (by rw [HR.out]; rfl), Fr.refl _⟩
  case round =>
    obtain ⟨j, x, hj, rfl, rfl, HX, HJ, hfr⟩ := hrel
    by_cases hlt : j < n
    · obtain ⟨t, ht⟩ : ∃ t, l[j]? = some t := ⟨_, List.getElem?_eq_getElem (by rw [← HN.out]; exact hlt)⟩
      have HT := Lib.hid ht
      obtain ⟨b, off, rfl, hc3⟩ := (HV.out.fr' hfr).at_ ht
      obtain ⟨x0, x1, x2⟩ := hc3
      obtain ⟨⟨q0, q1, q2⟩, hq⟩ : ∃ y, y = t := ⟨_, rfl⟩
      subst hq
      simp only at x0 x1 x2
      clear ht
      have HM : Hid (-2147483648 ≤ q2 ∧ q2 ≤ 2147483647) := Lib.hid (HW.out _ (List.mem_of_getElem? HT.out))
      have HST := Lib.hid (runS_drop casF x HT.out)
      obtain ⟨p1, hp1⟩ : ∃ p, p = decide (0 < x) := ⟨_, rfl⟩
      have HP1 := Lib.hid hp1
      have f1 : decide (x > 0) = p1 := hp1.symm
      have f2 : decide (0 < x) = p1 := hp1.symm
      clear hp1
      by_cases hk : q0 = 30
      · subst hk
        cases p1 with
        | true =>
          have HJ2 : Hid (R = decide (runS casF (x - 1) (l.drop (j + 1)) = some 0)) := Lib.hid (by rw [HJ.out, HST.out]; simp [casF, ← HP1.out])
          have w1 : IntKind.i64.wrap (x - 1) = x - 1 := IntWalk.i64_in _ (by have := HX.out; omega)
          go_wp2_with fail
          go_roundw
          case rel => exact ⟨j + 1, x - 1, by omega, by go_num, rfl, Lib.hid (by have := HX.out; have := of_decide_eq_true HP1.out.symm; omega), HJ2, hfr.alloc _⟩
          case measure => simp [intOf]; omega
        | false =>
          have HF : Hid (R = false) := Lib.hid (by rw [HJ.out, HST.out]; simp [casF, ← HP1.out])
          go_wp2_with fail
          go_ret
          rw [HF.out]
          exact ⟨rfl, hfr.alloc _⟩
      · have e30 : (q0 == 30) = false := by rw [beq_eq_false_iff_ne]; exact hk
        cases p1 with
        | true =>
          have HF : Hid (R = false) := Lib.hid (by rw [HJ.out, HST.out]; simp [casF, ← HP1.out, hk])
          clear hk
          go_wp2_with fail
          go_ret
          rw [HF.out]
          exact ⟨rfl, hfr.alloc _⟩
        | false =>
          by_cases h29 : q0 = 29
          · subst h29
            have HJ2 : Hid (R = decide (runS casF q2 (l.drop (j + 1)) = some 0)) := Lib.hid (by rw [HJ.out, HST.out]; simp [casF, ← HP1.out])
            clear hk
            go_wp2_with fail
            go_roundw
            case rel => exact ⟨j + 1, q2, by omega, by go_num, rfl, HM, HJ2, hfr.alloc _⟩
            case measure => simp [intOf]; omega
          · have e29 : (q0 == 29) = false := by rw [beq_eq_false_iff_ne]; exact h29
            have HJ2 : Hid (R = decide (runS casF x (l.drop (j + 1)) = some 0)) := Lib.hid (by rw [HJ.out, HST.out]; simp [casF, ← HP1.out, hk, h29])
            clear hk h29
            go_wp2_with fail
            go_roundw
            case rel => exact ⟨j + 1, x, by omega, by go_num, rfl, HX, HJ2, hfr.alloc _⟩
            case measure => simp [intOf]; omega
    · obtain rfl : j = n := by omega
      have HF : Hid (R = (x == 0)) := Lib.hid (by rw [HJ.out, List.drop_eq_nil_of_le (by rw [← HN.out]; exact Nat.le_refl _)]; rw [Bool.eq_iff_iff]; simp [runS])
      go_wp2_with fail
      go_ret
      rw [HF.out]
      exact ⟨rfl, hfr⟩
set_option maxRecDepth 100000 in
set_option maxHeartbeats 4000000 in
theorem proceduresFit_any (l : List Op3) (v : Value) (w : World) (hv : OpsV w v l) (hb : l.length ≤ 140737488351232) :
    Calls Tryz.prog 75 #[v] w fun e w' => e = .returned (.bool (procB l)) ∧ Fr w w' := by
  have HV := Lib.hid hv
  obtain ⟨a, cap, rfl, hc, hm, _⟩ := hv.form
  unfold maxLen at hm
  obtain ⟨n, hn⟩ : ∃ n, n = l.length := ⟨_, rfl⟩
  have HN := Lib.hid hn
  rw [← hn] at hc HV hb ⊢
  obtain ⟨R, hR⟩ : ∃ r, r = procB l := ⟨_, rfl⟩
  have HR := Lib.hid hR
  rw [← hR]
  clear hn hv hR
  go_enter Tryz.func75, Tryz.ntmps75
  go_wp2_with fail
  go_loopw [3, 4, 9] (fun c d i wr => ∃ (j x : Nat) (on : Bool), j ≤ n ∧ i = .int .i64 j ∧ c = .int .i64 x ∧ d = .bool on ∧ Hid (x ≤ j) ∧ Hid (R = (match runS prF ((x : Int), on) (l.drop j) with | some (_, false) => true | _ => false)) ∧ Fr w wr) (fun _ _ i _ => n - (intOf i).toNat)
  case atStart => exact ⟨0, 0, false, Nat.zero_le _, rfl, rfl, rfl, Lib.hid (by omega), Lib.hid (by rw [HR.out]; rfl), Fr.refl _⟩
  case round =>
    obtain ⟨j, x, on, hj, rfl, rfl, rfl, HX, HJ, hfr⟩ := hrel
    by_cases hlt : j < n
    · obtain ⟨t, ht⟩ : ∃ t, l[j]? = some t := ⟨_, List.getElem?_eq_getElem (by rw [← HN.out]; exact hlt)⟩
      have HT := Lib.hid ht
      obtain ⟨b, off, rfl, hc3⟩ := (HV.out.fr' hfr).at_ ht
      obtain ⟨x0, x1, x2⟩ := hc3
      obtain ⟨⟨q0, q1, q2⟩, hq⟩ : ∃ y, y = t := ⟨_, rfl⟩
      subst hq
      simp only at x0 x1 x2
      clear ht
      have HST := Lib.hid (runS_drop prF ((x : Int), on) HT.out)
      have CG := Lib.hid (fun W => goesOn_any q0 q1 q2 W)
      by_cases hk : q0 = 24
      · subst hk
        by_cases h1 : q1 = (x : Int) + 1
        · have e1 : (q1 != (x : Int) + 1) = false := by simp [h1]
          cases on with
          | true =>
            have HF : Hid (R = false) := Lib.hid (by rw [HJ.out, HST.out]; simp [prF])
            clear h1
            have w1 : IntKind.i64.wrap ((x : Int) + 1) = (x : Int) + 1 := IntWalk.i64_in _ (by have := HX.out; omega)
            go_wp2_with fail
            go_ret
            rw [HF.out]
            exact ⟨rfl, hfr.alloc _⟩
          | false =>
            have HJ2 : Hid (R = (match runS prF (((x + 1 : Nat) : Int), true) (l.drop (j + 1)) with | some (_, false) => true | _ => false)) := Lib.hid (by rw [HJ.out, HST.out]; simp [prF, h1])
            clear h1
            have w1 : IntKind.i64.wrap ((x : Int) + 1) = (x : Int) + 1 := IntWalk.i64_in _ (by have := HX.out; omega)
            have w2 : ((x : Int) + 1 == 0) = false := by rw [beq_eq_false_iff_ne]; omega
            rw [show goOn 24 = true from rfl] at CG
            go_wp2_with fail
            refine (CG.out _).mono ?_
            rintro e w1' ⟨rfl, hf1⟩
            have hfin := (hfr.alloc _).trans hf1
            go_wp2_with fail
            go_roundw
            case rel => exact ⟨j + 1, x + 1, true, by omega, by go_num, by simp, rfl, Lib.hid (by have := HX.out; omega), HJ2, hfin⟩
            case measure => simp [intOf]; omega
        · have e1 : (q1 != (x : Int) + 1) = true := by simp [h1]
          have HF : Hid (R = false) := Lib.hid (by rw [HJ.out, HST.out]; simp [prF, h1])
          clear h1
          have w1 : IntKind.i64.wrap ((x : Int) + 1) = (x : Int) + 1 := IntWalk.i64_in _ (by have := HX.out; omega)
          go_wp2_with fail
          go_ret
          rw [HF.out]
          exact ⟨rfl, hfr.alloc _⟩
      · have e24 : (q0 == 24) = false := by rw [beq_eq_false_iff_ne]; exact hk
        by_cases h0 : x = 0
        · subst h0
          have HF : Hid (R = false) := Lib.hid (by rw [HJ.out, HST.out]; simp [prF, hk])
          clear hk
          go_wp2_with fail
          go_ret
          rw [HF.out]
          exact ⟨rfl, hfr.alloc _⟩
        · have e0 : ((x : Int) == 0) = false := by rw [beq_eq_false_iff_ne]; omega
          obtain ⟨g, hg⟩ : ∃ g, g = goOn q0 := ⟨_, rfl⟩
          rw [← hg] at CG
          have HJ2 : Hid (R = (match runS prF ((x : Int), g) (l.drop (j + 1)) with | some (_, false) => true | _ => false)) := Lib.hid (by rw [HJ.out, HST.out, hg]; simp [prF, hk, h0])
          clear hk h0 hg
          go_wp2_with fail
          refine (CG.out _).mono ?_
          rintro e w1' ⟨rfl, hf1⟩
          have hfin := (hfr.alloc _).trans hf1
          go_wp2_with fail
          go_roundw
          case rel => exact ⟨j + 1, x, g, by omega, by go_num, rfl, rfl, Lib.hid (by have := HX.out; omega), HJ2, hfin⟩
          case measure => simp [intOf]; omega
    · obtain rfl : j = n := by omega
      have HF : Hid (R = !on) := Lib.hid (by rw [HJ.out, List.drop_eq_nil_of_le (by rw [← HN.out]; exact Nat.le_refl _)]; cases on <;> rfl)
      go_wp2_with fail
      go_ret
      rw [HF.out]
      exact ⟨rfl, hfr⟩
set_option maxRecDepth 100000 in
theorem isQuotable_any (s : ByteArray) (hs : s.size ≤ 2000000) (w : World) : Calls Tryz.prog 70 #[.string s] w fun e w' => e = .returned (.bool (qtb s)) ∧ Fr w w' := by
  have CQ := Lib.hid (Quote_any s hs w)
  have HR : Hid (qtb s = ((quo s).e == 0)) := Lib.hid (by unfold qtb; rw [Bool.eq_iff_iff]; simp)
  have HC : Hid ((((quo s).e : Int) == 0) = ((quo s).e == 0)) := Lib.hid (by rw [Bool.eq_iff_iff]; simp)
  clear hs
  go_enter Tryz.func70, Tryz.ntmps70
  go_wp2_with fail
  refine CQ.out.mono ?_
  rintro e w1 ⟨rfl, hf1⟩
  go_wp2_with fail
  go_ret
  rw [HR.out]
  exact ⟨by first | rfl | (rw [HC.out]; rfl), hf1⟩
set_option maxRecDepth 100000 in
set_option maxHeartbeats 4000000 in
theorem IndexBeyond_any (l : List Int) (v : Value) (w : World) (hv : IntsV w v l) (hb : l.length ≤ 140737488351232) :
    Calls Tryz.prog 145 #[v, .func (.func 110) #[] #[]] w fun e w' => ∃ x : Int, e = .returned (.int .i64 x) ∧ decide (x ≥ 0) = l.any beyond ∧ Fr w w' := by
  have HV := Lib.hid hv
  obtain ⟨a, cap, rfl, hc, hm, _⟩ := hv.form
  unfold maxLen at hm
  obtain ⟨n, hn⟩ : ∃ n, n = l.length := ⟨_, rfl⟩
  have HN := Lib.hid hn
  rw [← hn] at hc HV hb ⊢
  obtain ⟨R, hR⟩ : ∃ r, r = l.any beyond := ⟨_, rfl⟩
  have HR := Lib.hid hR
  rw [← hR]
  clear hn hv hR
  go_enter Tryz.func145, Tryz.ntmps145
  go_wp2_with fail
  go_loopw [8] (fun i wr => ∃ (j : Nat), j ≤ n ∧ i = .int .i64 j ∧ Hid (R = (l.drop j).any beyond) ∧ Fr w wr) (fun i _ => n - (intOf i).toNat)
  case atStart => exact ⟨0, Nat.zero_le _, rfl, Lib.hid (by rw [HR.out]; rfl), Fr.refl _⟩
  case round =>
    obtain ⟨j, hj, rfl, HJ, hfr⟩ := hrel
    by_cases hlt : j < n
    · obtain ⟨t, ht⟩ : ∃ t, l[j]? = some t := ⟨_, List.getElem?_eq_getElem (by rw [← HN.out]; exact hlt)⟩
      have HT := Lib.hid ht
      obtain ⟨b, off, rfl, hc3⟩ := (HV.out.fr' hfr).at_ ht
      have x0 := hc3
      unfold InC at x0
      simp only [Nat.mul_one] at x0
      clear hc3
      clear ht
      have HST : Hid ((l.drop j).any beyond = (beyond t || (l.drop (j + 1)).any beyond)) := Lib.hid (by
        obtain ⟨hk, he⟩ := List.getElem?_eq_some_iff.1 HT.out
        rw [List.drop_eq_getElem_cons hk, List.any_cons, he])
      have CB := Lib.hid (fun W => isBeyond_any t W)
      have hent : ∀ args w, (callFunc 110 args).run Tryz.prog w = .ok (.enter 110 args) w := by intro args w; kernel_rfl
      obtain ⟨g, hg⟩ : ∃ g, g = beyond t := ⟨_, rfl⟩
      rw [← hg] at CB HST
      clear hg
      cases g with
      | true =>
        have HF : Hid (R = true) := Lib.hid (by rw [HJ.out, HST.out, Bool.true_or])
        go_wp2_with fail
        refine (CB.out _).mono ?_
        rintro e w1 ⟨rfl, rfl⟩
        go_wp2_with fail
        go_ret
        rw [HF.out]
        exact ⟨_, rfl, by simp, hfr⟩
      | false =>
        have HJ2 : Hid (R = (l.drop (j + 1)).any beyond) := Lib.hid (by rw [HJ.out, HST.out, Bool.false_or])
        go_wp2_with fail
        refine (CB.out _).mono ?_
        rintro e w1 ⟨rfl, rfl⟩
        go_wp2_with fail
        go_roundw
        case rel => exact ⟨j + 1, by omega, by go_num, HJ2, hfr⟩
        case measure => simp [intOf]; omega
    · obtain rfl : j = n := by omega
      have HF : Hid (R = false) := Lib.hid (by rw [HJ.out, List.drop_eq_nil_of_le (by rw [← HN.out]; exact Nat.le_refl _)]; rfl)
      go_wp2_with fail
      go_ret
      rw [HF.out]
      exact ⟨_, rfl, by simp, hfr⟩
set_option maxRecDepth 100000 in
theorem ContainsBeyond_any (l : List Int) (v : Value) (w : World) (hv : IntsV w v l) (hb : l.length ≤ 140737488351232) :
    Calls Tryz.prog 135 #[v, .func (.func 110) #[] #[]] w fun e w' => e = .returned (.bool (l.any beyond)) ∧ Fr w w' := by
  have CI := Lib.hid (IndexBeyond_any l v w hv hb)
  obtain ⟨a, cap, rfl, hc, hm, _⟩ := hv.form
  obtain ⟨n, hn⟩ : ∃ n, n = l.length := ⟨_, rfl⟩
  rw [← hn] at CI hc ⊢
  obtain ⟨R, hR⟩ : ∃ r, r = l.any beyond := ⟨_, rfl⟩
  rw [← hR] at CI ⊢
  clear hn hR hv hb hc hm
  go_enter Tryz.func135, Tryz.ntmps135
  go_wp2_with fail
  refine CI.out.mono ?_
  rintro e w1 ⟨x, rfl, hx, hf1⟩
  have HX := Lib.hid hx
  clear hx
  go_wp2_with fail
  go_ret
  refine ⟨?_, hf1⟩
  rw [← HX.out]
  rfl
end Go.Proofs.YtdnckbcknahakaaGreat
