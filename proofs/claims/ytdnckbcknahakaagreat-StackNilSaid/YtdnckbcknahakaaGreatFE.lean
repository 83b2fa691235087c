/- The code's depths and labels. -/
import Derived.Test.YtdnckbcknahakaaGreatFD
namespace Go.Proofs.YtdnckbcknahakaaGreat
open Go.RowKit
set_option linter.unusedVariables false
set_option linter.unusedSimpArgs false

theorem run_make_ints (n : Nat) (hn : n ≤ 1000000) (w : World) : (Instr.makeSlice 22 (.int .i64 (n : Int)) (.int .i64 (n : Int))).run Tryz.prog w = .ok (.slice (some ⟨w.heap.size, 0, none⟩) n n) (w.alloc (.cells (madeCells #[.int .i64 0] n) 3)) :=
  run_make_row' _ _ _ 8 Tryz.underlying22 (by kernel_rfl) rfl _ _ n (by omega) (by omega) w
/-- What depthsOf hands back. -/
def DepP (l : List Op3) (n : Nat) (R : Bool) (w : World) (e : Ending) (w' : World) : Prop :=
  (R = true → ∃ g : Nat, e = .returned (.tuple #[.slice (some ⟨g, 0, none⟩) n n, .bool true]) ∧ w.heap.size ≤ g ∧ w'.rowIs g 3 n (fun j => .int .i64 ((depL 0 l)[j]?.getD 0))) ∧ (R = false → e = .returned (.tuple #[.slice none 0 0, .bool false]))
set_option maxRecDepth 100000 in
set_option maxHeartbeats 4000000 in
theorem depthsOf_any (l : List Op3) (v : Value) (w : World) (hv : OpsV w v l) (hb : l.length ≤ 140737488351232) (hw : ∀ x ∈ l, -2147483648 ≤ x.n ∧ x.n ≤ 2147483647 ∧ -2147483648 ≤ x.m ∧ x.m ≤ 2147483647) (h40 : l.length ≤ 40000) :
    Calls Tryz.prog 77 #[v] w fun e w' => DepP l l.length (depB l) w e w' ∧ Fr w w' := by
  have HV := Lib.hid hv
  obtain ⟨a, cap, rfl, hc, hm, _⟩ := hv.form
  unfold maxLen at hm
  obtain ⟨n, hn⟩ : ∃ n, n = l.length := ⟨_, rfl⟩
  have HN := Lib.hid hn
  rw [← hn] at hc HV hb h40 ⊢
  obtain ⟨R, hR⟩ : ∃ r, r = depB l := ⟨_, rfl⟩
  have HR := Lib.hid hR
  rw [← hR]
  have HW := Lib.hid hw
  have HLM := Lib.hid h40
  clear hn hv hR hw h40
  have hmk := fun W => run_make_ints n (by have := HLM.out; omega) W
  have HM0 := Lib.hid (World.rowIs_made w (.int .i64 0) n 3)
  obtain ⟨w0, hw0⟩ : ∃ w0, w0 = w.alloc (.cells (madeCells #[.int .i64 0] n) 3) := ⟨_, rfl⟩
  rw [← hw0] at HM0
  have HW0 := Lib.hid hw0
  have HF0 : Hid (Fr w w0) := Lib.hid (by rw [hw0]; exact (Fr.refl w).alloc _)
  clear hw0
  go_enter Tryz.func77, Tryz.ntmps77
  go_wp2_with fail
  rw [← HW0.out]
  go_loopw [5, 6, 14] (fun c d i wr => ∃ (j : Nat) (x : Int) (b : Bool), j ≤ n ∧ i = .int .i64 j ∧ c = .int .i64 x ∧ d = .bool b ∧ Hid (0 ≤ x ∧ x ≤ 4000) ∧ Hid (R = (runS dpF (x, b) (l.drop j)).isSome) ∧ Hid ((depL 0 l).drop j = depL x (l.drop j)) ∧ wr.rowIs w.heap.size 3 n (fun k => .int .i64 (if k < j then (depL 0 l)[k]?.getD 0 else 0)) ∧ Fr w wr) (fun _ _ i _ => n - (intOf i).toNat)
  case atStart => exact ⟨0, 0, false, Nat.zero_le _, rfl, rfl, rfl, Lib.hid (by omega), Lib.hid (by rw [HR.out]; rfl), Lib.hid rfl, HM0.out.congr (fun k _ => by simp), HF0.out⟩
  case round =>
    obtain ⟨j, x, lb, hj, rfl, rfl, rfl, HX, HJ, HD, hrow, hfr⟩ := hrel
    have HROW := Lib.hid hrow
    clear hrow
    by_cases hlt : j < n
    · obtain ⟨t, ht⟩ : ∃ t, l[j]? = some t := ⟨_, List.getElem?_eq_getElem (by rw [← HN.out]; exact hlt)⟩
      have HT := Lib.hid ht
      obtain ⟨b, off, rfl, hc3⟩ := (HV.out.fr' hfr).at_ ht
      obtain ⟨x0, x1, x2⟩ := hc3
      obtain ⟨⟨q0, q1, q2⟩, hq⟩ : ∃ y, y = t := ⟨_, rfl⟩
      subst hq
      simp only at x0 x1 x2
      clear ht
      have HWX : Hid (-2147483648 ≤ q1 ∧ q1 ≤ 2147483647 ∧ -2147483648 ≤ q2 ∧ q2 ≤ 2147483647) := Lib.hid (HW.out _ (List.mem_of_getElem? HT.out))
      have HST := Lib.hid (runS_drop dpF (x, lb) HT.out)
      obtain ⟨d, hd⟩ : ∃ d, d = (if q0 = 24 then 0 else x) := ⟨_, rfl⟩
      have HDD := Lib.hid hd
      have HDB : Hid (0 ≤ d ∧ d ≤ 4000) := Lib.hid (by rw [hd]; have := HX.out; split <;> omega)
      have HDJ : Hid ((depL 0 l)[j]? = some d ∧ (depL 0 l).drop (j + 1) = depL (afterI ⟨q0, q1, q2⟩ d) (l.drop (j + 1))) := Lib.hid (by
        obtain ⟨hk, he⟩ := List.getElem?_eq_some_iff.1 HT.out
        have h1 := HD.out
        rw [List.drop_eq_getElem_cons hk, he, depL] at h1
        constructor
        · rw [hd, ← List.head?_drop, h1]; rfl
        · rw [← List.drop_drop, h1, hd]; rfl)
      have CF := Lib.hid (fun W => finds_any q0 q1 q2 d W (by have := HDB.out; omega))
      have CA := Lib.hid (fun W => after_any q0 q1 q2 d W ⟨HWX.out.1, HWX.out.2.1⟩ ⟨HWX.out.2.2.1, HWX.out.2.2.2⟩ (by have := HDB.out; omega))
      have HROW2 := Lib.hid (HROW.out.alloc (.cells #[.int .i64 q0, .int .i64 q1, .int .i64 q2] 60))
      have z1 := HROW2.out.cell hlt
      have z2 := HROW2.out.frozen j
      have HROW3 : Hid (((wr.alloc (.cells #[.int .i64 q0, .int .i64 q1, .int .i64 q2] 60)).setCell ⟨w.heap.size, j, none⟩ (.int .i64 d)).rowIs w.heap.size 3 n (fun k => .int .i64 (if k < j + 1 then (depL 0 l)[k]?.getD 0 else 0))) := Lib.hid ((HROW2.out.set j _).congr (fun k hk => by
        by_cases h : k = j
        · subst h; rw [if_pos rfl, if_pos (by omega), HDJ.out.1]; rfl
        · rw [if_neg h]; congr 2; simp only [eq_iff_iff]; omega))
      have HF3 : Hid (Fr w ((wr.alloc (.cells #[.int .i64 q0, .int .i64 q1, .int .i64 q2] 60)).setCell ⟨w.heap.size, j, none⟩ (.int .i64 d))) := Lib.hid ((hfr.alloc _).setCell (Nat.le_refl _) _)
      have HO3 : Hid (OpC ((wr.alloc (.cells #[.int .i64 q0, .int .i64 q1, .int .i64 q2] 60)).setCell ⟨w.heap.size, j, none⟩ (.int .i64 d)) wr.heap.size 0 ⟨q0, q1, q2⟩) := Lib.hid (by
        have hne : w.heap.size ≠ wr.heap.size := by have := HROW.out.lt; omega
        constructor <;> (rw [World.cell?_setCell_far _ _ _ _ hne]; simp))
      have o0 := HO3.out.op
      have o1 := HO3.out.n
      have o2 := HO3.out.m
      simp only [Nat.zero_add] at o0 o1 o2
      obtain ⟨bf, hbf⟩ : ∃ b, b = findsB ⟨q0, q1, q2⟩ d := ⟨_, rfl⟩
      have HBF := Lib.hid hbf
      rw [← hbf] at CF
      obtain ⟨y, hy⟩ : ∃ y, y = afterI ⟨q0, q1, q2⟩ d := ⟨_, rfl⟩
      have HY := Lib.hid hy
      rw [← hy] at CA
      have CW := Lib.hid (fun W => within_any y 2 4000 W)
      obtain ⟨bw, hbw⟩ : ∃ b, b = inI y 2 4000 := ⟨_, rfl⟩
      have HBW := Lib.hid hbw
      rw [← hbw] at CW
      have HSTEP : Hid (dpF (x, lb) ⟨q0, q1, q2⟩ = if bf = true ∧ ¬ (q0 = 18 ∧ lb = false ∧ d + 2002 < q1) ∧ bw = true then some (y, decide (q0 = 19)) else none) := Lib.hid (by unfold dpF; simp only; rw [← HDD.out, ← hbf, ← hy, ← hbw])
      clear hbf hy hbw hd
      by_cases hk : q0 = 24
      · have e24 : (q0 == 24) = true := by rw [beq_iff_eq]; exact hk
        have e18 : (q0 == 18) = false := by rw [beq_eq_false_iff_ne]; omega
        obtain rfl : d = 0 := HDD.out.trans (if_pos hk)
        have HK := Lib.hid hk
        clear hk
        cases bf with
        | false =>
          have HF : Hid (R = false) := Lib.hid (by rw [HJ.out, HST.out, HSTEP.out]; simp)
          go_wp2_with fail
          refine (CF.out _).mono ?_
          rintro e w4 ⟨rfl, hf4⟩
          have hfin := HF3.out.trans hf4
          go_wp2_with fail
          go_ret2
          exact ⟨⟨fun h => absurd (HF.out.symm.trans h) (by decide), fun _ => rfl⟩, hfin⟩
        | true =>
          have HOK : Hid (¬ (q0 = 18 ∧ lb = false ∧ (0 : Int) + 2002 < q1)) := Lib.hid (by rintro ⟨h, _⟩; have := HK.out; omega)
          cases bw with
          | false =>
            have HF : Hid (R = false) := Lib.hid (by rw [HJ.out, HST.out, HSTEP.out]; simp)
            go_wp2_with fail
            refine (CF.out _).mono ?_
            rintro e w4 ⟨rfl, hf4⟩
            have HF4 := Lib.hid hf4
            have p0 := (HO3.out.fr (hf4)).op
            have p1 := (HO3.out.fr (hf4)).n
            have p2 := (HO3.out.fr (hf4)).m
            simp only [Nat.zero_add] at p0 p1 p2
            clear o0 o1 o2 hf4 z1 z2 x0 x1 x2
            go_wp2_with fail
            refine (CA.out _).mono ?_
            rintro e w5 ⟨rfl, hf5⟩
            have HF5 := Lib.hid (HF4.out.trans hf5)
            clear p0 p1 p2 hf5
            have p0 := (HO3.out.fr (HF5.out)).op
            have p1 := (HO3.out.fr (HF5.out)).n
            have p2 := (HO3.out.fr (HF5.out)).m
            simp only [Nat.zero_add] at p0 p1 p2
            go_wp2_with fail
            refine (CW.out _).mono ?_
            rintro e w6 ⟨rfl, rfl⟩
            go_wp2_with fail
            go_ret2
            exact ⟨⟨fun h => absurd (HF.out.symm.trans h) (by decide), fun _ => rfl⟩, HF3.out.trans HF5.out⟩
          | true =>
            have HJ2 : Hid (R = (runS dpF (y, decide (q0 = 19)) (l.drop (j + 1))).isSome) := Lib.hid (by rw [HJ.out, HST.out, HSTEP.out, if_pos ⟨rfl, HOK.out, rfl⟩])
            have HX2 : Hid (0 ≤ y ∧ y ≤ 4000) := Lib.hid (by have := HBW.out; simp only [inI, Bool.true_eq, Bool.and_eq_true, decide_eq_true_eq] at this; omega)
            have HD2 : Hid ((depL 0 l).drop (j + 1) = depL y (l.drop (j + 1))) := Lib.hid (by rw [HY.out]; exact HDJ.out.2)
            go_wp2_with fail
            refine (CF.out _).mono ?_
            rintro e w4 ⟨rfl, hf4⟩
            have HF4 := Lib.hid hf4
            have p0 := (HO3.out.fr (hf4)).op
            have p1 := (HO3.out.fr (hf4)).n
            have p2 := (HO3.out.fr (hf4)).m
            simp only [Nat.zero_add] at p0 p1 p2
            clear o0 o1 o2 hf4 z1 z2 x0 x1 x2
            go_wp2_with fail
            refine (CA.out _).mono ?_
            rintro e w5 ⟨rfl, hf5⟩
            have HF5 := Lib.hid (HF4.out.trans hf5)
            clear p0 p1 p2 hf5
            have p0 := (HO3.out.fr (HF5.out)).op
            have p1 := (HO3.out.fr (HF5.out)).n
            have p2 := (HO3.out.fr (HF5.out)).m
            simp only [Nat.zero_add] at p0 p1 p2
            go_wp2_with fail
            refine (CW.out _).mono ?_
            rintro e w6 ⟨rfl, rfl⟩
            go_wp2_with fail
            go_roundw
            case rel => exact ⟨j + 1, y, decide (q0 = 19), by omega, by go_num, rfl, by first | rfl | exact congrArg Value.bool (by rw [Bool.eq_iff_iff]; simp), HX2, HJ2, HD2, HF5.out.row HROW3.out, HF3.out.trans HF5.out⟩
            case measure => simp [intOf]; omega
      · have e24 : (q0 == 24) = false := by rw [beq_eq_false_iff_ne]; exact hk
        obtain rfl : d = x := HDD.out.trans (if_neg hk)
        cases bf with
        | false =>
          clear hk
          have HF : Hid (R = false) := Lib.hid (by rw [HJ.out, HST.out, HSTEP.out]; simp)
          go_wp2_with fail
          refine (CF.out _).mono ?_
          rintro e w4 ⟨rfl, hf4⟩
          have hfin := HF3.out.trans hf4
          go_wp2_with fail
          go_ret2
          exact ⟨⟨fun h => absurd (HF.out.symm.trans h) (by decide), fun _ => rfl⟩, hfin⟩
        | true =>
          by_cases h18 : q0 = 18
          · have e18 : (q0 == 18) = true := by rw [beq_iff_eq]; exact h18
            have H18 := Lib.hid h18
            clear h18
            cases lb with
            | true =>
              have HOK : Hid (¬ (q0 = 18 ∧ true = false ∧ d + 2002 < q1)) := Lib.hid (by rintro ⟨_, h, _⟩; exact absurd h (by decide))
              clear hk
              cases bw with
              | false =>
                have HF : Hid (R = false) := Lib.hid (by rw [HJ.out, HST.out, HSTEP.out]; simp)
                go_wp2_with fail
                refine (CF.out _).mono ?_
                rintro e w4 ⟨rfl, hf4⟩
                have HF4 := Lib.hid hf4
                have p0 := (HO3.out.fr (hf4)).op
                have p1 := (HO3.out.fr (hf4)).n
                have p2 := (HO3.out.fr (hf4)).m
                simp only [Nat.zero_add] at p0 p1 p2
                clear o0 o1 o2 hf4 z1 z2 x0 x1 x2
                go_wp2_with fail
                refine (CA.out _).mono ?_
                rintro e w5 ⟨rfl, hf5⟩
                have HF5 := Lib.hid (HF4.out.trans hf5)
                clear p0 p1 p2 hf5
                have p0 := (HO3.out.fr (HF5.out)).op
                have p1 := (HO3.out.fr (HF5.out)).n
                have p2 := (HO3.out.fr (HF5.out)).m
                simp only [Nat.zero_add] at p0 p1 p2
                go_wp2_with fail
                refine (CW.out _).mono ?_
                rintro e w6 ⟨rfl, rfl⟩
                go_wp2_with fail
                go_ret2
                exact ⟨⟨fun h => absurd (HF.out.symm.trans h) (by decide), fun _ => rfl⟩, HF3.out.trans HF5.out⟩
              | true =>
                have HJ2 : Hid (R = (runS dpF (y, decide (q0 = 19)) (l.drop (j + 1))).isSome) := Lib.hid (by rw [HJ.out, HST.out, HSTEP.out, if_pos ⟨rfl, HOK.out, rfl⟩])
                have HX2 : Hid (0 ≤ y ∧ y ≤ 4000) := Lib.hid (by have := HBW.out; simp only [inI, Bool.true_eq, Bool.and_eq_true, decide_eq_true_eq] at this; omega)
                have HD2 : Hid ((depL 0 l).drop (j + 1) = depL y (l.drop (j + 1))) := Lib.hid (by rw [HY.out]; exact HDJ.out.2)
                go_wp2_with fail
                refine (CF.out _).mono ?_
                rintro e w4 ⟨rfl, hf4⟩
                have HF4 := Lib.hid hf4
                have p0 := (HO3.out.fr (hf4)).op
                have p1 := (HO3.out.fr (hf4)).n
                have p2 := (HO3.out.fr (hf4)).m
                simp only [Nat.zero_add] at p0 p1 p2
                clear o0 o1 o2 hf4 z1 z2 x0 x1 x2
                go_wp2_with fail
                refine (CA.out _).mono ?_
                rintro e w5 ⟨rfl, hf5⟩
                have HF5 := Lib.hid (HF4.out.trans hf5)
                clear p0 p1 p2 hf5
                have p0 := (HO3.out.fr (HF5.out)).op
                have p1 := (HO3.out.fr (HF5.out)).n
                have p2 := (HO3.out.fr (HF5.out)).m
                simp only [Nat.zero_add] at p0 p1 p2
                go_wp2_with fail
                refine (CW.out _).mono ?_
                rintro e w6 ⟨rfl, rfl⟩
                go_wp2_with fail
                go_roundw
                case rel => exact ⟨j + 1, y, decide (q0 = 19), by omega, by go_num, rfl, by first | rfl | exact congrArg Value.bool (by rw [Bool.eq_iff_iff]; simp), HX2, HJ2, HD2, HF5.out.row HROW3.out, HF3.out.trans HF5.out⟩
                case measure => simp [intOf]; omega
            | false =>
              have w1 : IntKind.i64.wrap (d + 2000) = d + 2000 := IntWalk.i64_in _ (by have := HX.out; omega)
              have w2 : IntKind.i64.wrap (d + 2000 + 2) = d + 2000 + 2 := IntWalk.i64_in _ (by have := HX.out; omega)
              by_cases hb2 : d + 2002 < q1
              · have f1 : decide (q1 > d + 2000 + 2) = true := decide_eq_true (by omega)
                have f2 : decide (d + 2000 + 2 < q1) = true := decide_eq_true (by omega)
                have HF : Hid (R = false) := Lib.hid (by rw [HJ.out, HST.out, HSTEP.out]; simp [H18.out, hb2])
                clear hk hb2
                go_wp2_with fail
                refine (CF.out _).mono ?_
                rintro e w4 ⟨rfl, hf4⟩
                have HF4 := Lib.hid hf4
                have p0 := (HO3.out.fr (hf4)).op
                have p1 := (HO3.out.fr (hf4)).n
                have p2 := (HO3.out.fr (hf4)).m
                simp only [Nat.zero_add] at p0 p1 p2
                clear o0 o1 o2 hf4 z1 z2 x0 x1 x2
                go_wp2_with fail
                go_ret2
                exact ⟨⟨fun h => absurd (HF.out.symm.trans h) (by decide), fun _ => rfl⟩, HF3.out.trans HF4.out⟩
              · have f1 : decide (q1 > d + 2000 + 2) = false := decide_eq_false (by omega)
                have f2 : decide (d + 2000 + 2 < q1) = false := decide_eq_false (by omega)
                have HOK : Hid (¬ (q0 = 18 ∧ false = false ∧ d + 2002 < q1)) := Lib.hid (by rintro ⟨_, _, h⟩; exact hb2 h)
                clear hk hb2
                cases bw with
                | false =>
                  have HF : Hid (R = false) := Lib.hid (by rw [HJ.out, HST.out, HSTEP.out]; simp)
                  go_wp2_with fail
                  refine (CF.out _).mono ?_
                  rintro e w4 ⟨rfl, hf4⟩
                  have HF4 := Lib.hid hf4
                  have p0 := (HO3.out.fr (hf4)).op
                  have p1 := (HO3.out.fr (hf4)).n
                  have p2 := (HO3.out.fr (hf4)).m
                  simp only [Nat.zero_add] at p0 p1 p2
                  clear o0 o1 o2 hf4 z1 z2 x0 x1 x2
                  go_wp2_with fail
                  refine (CA.out _).mono ?_
                  rintro e w5 ⟨rfl, hf5⟩
                  have HF5 := Lib.hid (HF4.out.trans hf5)
                  clear p0 p1 p2 hf5
                  have p0 := (HO3.out.fr (HF5.out)).op
                  have p1 := (HO3.out.fr (HF5.out)).n
                  have p2 := (HO3.out.fr (HF5.out)).m
                  simp only [Nat.zero_add] at p0 p1 p2
                  go_wp2_with fail
                  refine (CW.out _).mono ?_
                  rintro e w6 ⟨rfl, rfl⟩
                  go_wp2_with fail
                  go_ret2
                  exact ⟨⟨fun h => absurd (HF.out.symm.trans h) (by decide), fun _ => rfl⟩, HF3.out.trans HF5.out⟩
                | true =>
                  have HJ2 : Hid (R = (runS dpF (y, decide (q0 = 19)) (l.drop (j + 1))).isSome) := Lib.hid (by rw [HJ.out, HST.out, HSTEP.out, if_pos ⟨rfl, HOK.out, rfl⟩])
                  have HX2 : Hid (0 ≤ y ∧ y ≤ 4000) := Lib.hid (by have := HBW.out; simp only [inI, Bool.true_eq, Bool.and_eq_true, decide_eq_true_eq] at this; omega)
                  have HD2 : Hid ((depL 0 l).drop (j + 1) = depL y (l.drop (j + 1))) := Lib.hid (by rw [HY.out]; exact HDJ.out.2)
                  go_wp2_with fail
                  refine (CF.out _).mono ?_
                  rintro e w4 ⟨rfl, hf4⟩
                  have HF4 := Lib.hid hf4
                  have p0 := (HO3.out.fr (hf4)).op
                  have p1 := (HO3.out.fr (hf4)).n
                  have p2 := (HO3.out.fr (hf4)).m
                  simp only [Nat.zero_add] at p0 p1 p2
                  clear o0 o1 o2 hf4 z1 z2 x0 x1 x2
                  go_wp2_with fail
                  refine (CA.out _).mono ?_
                  rintro e w5 ⟨rfl, hf5⟩
                  have HF5 := Lib.hid (HF4.out.trans hf5)
                  clear p0 p1 p2 hf5
                  have p0 := (HO3.out.fr (HF5.out)).op
                  have p1 := (HO3.out.fr (HF5.out)).n
                  have p2 := (HO3.out.fr (HF5.out)).m
                  simp only [Nat.zero_add] at p0 p1 p2
                  go_wp2_with fail
                  refine (CW.out _).mono ?_
                  rintro e w6 ⟨rfl, rfl⟩
                  go_wp2_with fail
                  go_roundw
                  case rel => exact ⟨j + 1, y, decide (q0 = 19), by omega, by go_num, rfl, by first | rfl | exact congrArg Value.bool (by rw [Bool.eq_iff_iff]; simp), HX2, HJ2, HD2, HF5.out.row HROW3.out, HF3.out.trans HF5.out⟩
                  case measure => simp [intOf]; omega
          · have e18 : (q0 == 18) = false := by rw [beq_eq_false_iff_ne]; exact h18
            have HOK : Hid (¬ (q0 = 18 ∧ lb = false ∧ d + 2002 < q1)) := Lib.hid (by rintro ⟨h, _⟩; exact h18 h)
            clear hk h18
            cases bw with
            | false =>
              have HF : Hid (R = false) := Lib.hid (by rw [HJ.out, HST.out, HSTEP.out]; simp)
              go_wp2_with fail
              refine (CF.out _).mono ?_
              rintro e w4 ⟨rfl, hf4⟩
              have HF4 := Lib.hid hf4
              have p0 := (HO3.out.fr (hf4)).op
              have p1 := (HO3.out.fr (hf4)).n
              have p2 := (HO3.out.fr (hf4)).m
              simp only [Nat.zero_add] at p0 p1 p2
              clear o0 o1 o2 hf4 z1 z2 x0 x1 x2
              go_wp2_with fail
              refine (CA.out _).mono ?_
              rintro e w5 ⟨rfl, hf5⟩
              have HF5 := Lib.hid (HF4.out.trans hf5)
              clear p0 p1 p2 hf5
              have p0 := (HO3.out.fr (HF5.out)).op
              have p1 := (HO3.out.fr (HF5.out)).n
              have p2 := (HO3.out.fr (HF5.out)).m
              simp only [Nat.zero_add] at p0 p1 p2
              go_wp2_with fail
              refine (CW.out _).mono ?_
              rintro e w6 ⟨rfl, rfl⟩
              go_wp2_with fail
              go_ret2
              exact ⟨⟨fun h => absurd (HF.out.symm.trans h) (by decide), fun _ => rfl⟩, HF3.out.trans HF5.out⟩
            | true =>
              have HJ2 : Hid (R = (runS dpF (y, decide (q0 = 19)) (l.drop (j + 1))).isSome) := Lib.hid (by rw [HJ.out, HST.out, HSTEP.out, if_pos ⟨rfl, HOK.out, rfl⟩])
              have HX2 : Hid (0 ≤ y ∧ y ≤ 4000) := Lib.hid (by have := HBW.out; simp only [inI, Bool.true_eq, Bool.and_eq_true, decide_eq_true_eq] at this; omega)
              have HD2 : Hid ((depL 0 l).drop (j + 1) = depL y (l.drop (j + 1))) := Lib.hid (by rw [HY.out]; exact HDJ.out.2)
              go_wp2_with fail
              refine (CF.out _).mono ?_
              rintro e w4 ⟨rfl, hf4⟩
              have HF4 := Lib.hid hf4
              have p0 := (HO3.out.fr (hf4)).op
              have p1 := (HO3.out.fr (hf4)).n
              have p2 := (HO3.out.fr (hf4)).m
              simp only [Nat.zero_add] at p0 p1 p2
              clear o0 o1 o2 hf4 z1 z2 x0 x1 x2
              go_wp2_with fail
              refine (CA.out _).mono ?_
              rintro e w5 ⟨rfl, hf5⟩
              have HF5 := Lib.hid (HF4.out.trans hf5)
              clear p0 p1 p2 hf5
              have p0 := (HO3.out.fr (HF5.out)).op
              have p1 := (HO3.out.fr (HF5.out)).n
              have p2 := (HO3.out.fr (HF5.out)).m
              simp only [Nat.zero_add] at p0 p1 p2
              go_wp2_with fail
              refine (CW.out _).mono ?_
              rintro e w6 ⟨rfl, rfl⟩
              go_wp2_with fail
              go_roundw
              case rel => exact ⟨j + 1, y, decide (q0 = 19), by omega, by go_num, rfl, by first | rfl | exact congrArg Value.bool (by rw [Bool.eq_iff_iff]; simp), HX2, HJ2, HD2, HF5.out.row HROW3.out, HF3.out.trans HF5.out⟩
              case measure => simp [intOf]; omega
    · obtain rfl : j = n := by omega
      have HF : Hid (R = true) := Lib.hid (by rw [HJ.out, List.drop_eq_nil_of_le (by rw [← HN.out]; exact Nat.le_refl _)]; rfl)
      go_wp2_with fail
      go_ret2
      exact ⟨⟨fun _ => ⟨w.heap.size, rfl, Nat.le_refl _, HROW.out.congr (fun k hk => by rw [if_pos hk])⟩, fun h => absurd (HF.out.symm.trans h) (by decide)⟩, hfr⟩
end Go.Proofs.YtdnckbcknahakaaGreat
