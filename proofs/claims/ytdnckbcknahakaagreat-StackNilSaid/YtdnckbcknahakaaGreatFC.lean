/- The code's looks at areas, entries, instructions. -/
import Derived.Test.YtdnckbcknahakaaGreatFB
import Derived.Deep.RegionHeld3
namespace Go.Proofs.YtdnckbcknahakaaGreat
open Go.RowKit
set_option linter.unusedVariables false
set_option linter.unusedSimpArgs false

theorem s_yes {a b : ByteArray} (h : a = b) : (a.toList == b.toList) = true := by subst h; simp
theorem s_no {a b : ByteArray} (h : a ≠ b) : (a.toList == b.toList) = false := by
  rw [beq_eq_false_iff_ne]
  intro e
  apply h
  rw [ByteArray.toList_eq, ByteArray.toList_eq] at e
  apply ByteArray.ext
  exact Array.toList_inj.1 e
theorem e_yes {s : ByteArray} (h : s.size = 0) : s = ⟨#[]⟩ := by
  apply ByteArray.ext
  exact Array.eq_empty_of_size_eq_zero h
theorem emp_yes {s : ByteArray} (h : s.size = 0) : s.toList.isEmpty = true := by
  rw [ByteArray.toList_eq, List.isEmpty_iff_length_eq_zero]; simpa using h
theorem emp_no {s : ByteArray} (h : 0 < s.size) : s.toList.isEmpty = false := by
  rw [Bool.eq_false_iff]
  intro e
  rw [ByteArray.toList_eq, List.isEmpty_iff_length_eq_zero] at e
  have : s.size = 0 := by simpa using e
  omega
set_option maxRecDepth 100000 in
set_option maxHeartbeats 4000000 in
theorem areaFits_any (d : Dt) (lv : Value) (w : World) (hv : IntsV w lv d.ws) (ht : d.t.size ≤ 2000000) (hb : d.ws.length ≤ 140737488351232) :
    Calls Tryz.prog 107 #[.agg #[.string d.t, .bool d.b, lv]] w fun e w' => e = .returned (.bool (areaB d)) ∧ Fr w w' := by
  obtain ⟨s, b, l⟩ := d
  simp only at hv ht hb ⊢
  have HV := Lib.hid hv
  obtain ⟨la, lc, rfl, _, _, _⟩ := hv.form
  obtain ⟨n, hn⟩ : ∃ n, n = l.length := ⟨_, rfl⟩
  have HN := Lib.hid hn
  have CQ := Lib.hid (fun W => isQuotable_any s ht W)
  have CC := Lib.hid (fun W (h : Fr w W) => ContainsBeyond_any l _ W (HV.out.fr' h) hb)
  rw [← hn] at HV CC hb ⊢
  obtain ⟨w0, hw0⟩ : ∃ w0, w0 = w.alloc (.cells #[.string s, .bool b, .slice la n lc] 102) := ⟨_, rfl⟩
  have HF0 : Hid (Fr w w0) := Lib.hid (by rw [hw0]; exact (Fr.refl w).alloc _)
  have HW0 := Lib.hid hw0
  have hz0 : w0.cell? ⟨w.heap.size, 0, none⟩ = some (.string s) := by rw [hw0]; simp
  have hz1 : w0.cell? ⟨w.heap.size, 1, none⟩ = some (.bool b) := by rw [hw0]; simp
  have hz2 : w0.cell? ⟨w.heap.size, 2, none⟩ = some (.slice la n lc) := by rw [hw0]; simp
  have HZ := Lib.hid (And.intro hz0 (And.intro hz1 hz2))
  clear hv ht hn hw0 hz0 hz1 hz2
  cases b with
  | true =>
    obtain ⟨g, hg⟩ : ∃ g, g = qtb s := ⟨_, rfl⟩
    have HG := Lib.hid hg
    rw [← hg] at CQ
    clear hg
    cases g with
    | false =>
      have HF : Hid (areaB ⟨s, true, l⟩ = false) := Lib.hid (by simp [areaB, ← HG.out])
      go_enter Tryz.func107, Tryz.ntmps107
      go_wp2_with fail
      rw [← HW0.out]
      refine (CQ.out _).mono ?_
      rintro e w1 ⟨rfl, hf1⟩
      have hfin := HF0.out.trans hf1
      go_wp2_with fail
      go_ret
      rw [HF.out]
      exact ⟨rfl, hfin⟩
    | true =>
      by_cases h0 : n = 0
      · have e0 : ((n : Int) == 0) = true := by rw [beq_iff_eq]; omega
        have HF : Hid (areaB ⟨s, true, l⟩ = true) := Lib.hid (by simp [areaB, ← HG.out]; exact List.eq_nil_of_length_eq_zero (HN.out.symm.trans h0))
        clear h0
        go_enter Tryz.func107, Tryz.ntmps107
        go_wp2_with fail
        rw [← HW0.out]
        refine (CQ.out _).mono ?_
        rintro e w1 ⟨rfl, hf1⟩
        have hfin := HF0.out.trans hf1
        have hk := hf1.cell HZ.out.2.2
        go_wp2_with fail
        go_ret
        rw [HF.out]
        exact ⟨rfl, hfin⟩
      · have e0 : ((n : Int) == 0) = false := by rw [beq_eq_false_iff_ne]; omega
        have HF : Hid (areaB ⟨s, true, l⟩ = false) := Lib.hid (by simp [areaB, ← HG.out]; intro h; rw [h] at HN; exact h0 HN.out)
        clear h0
        go_enter Tryz.func107, Tryz.ntmps107
        go_wp2_with fail
        rw [← HW0.out]
        refine (CQ.out _).mono ?_
        rintro e w1 ⟨rfl, hf1⟩
        have hfin := HF0.out.trans hf1
        have hk := hf1.cell HZ.out.2.2
        go_wp2_with fail
        go_ret
        rw [HF.out]
        exact ⟨rfl, hfin⟩
  | false =>
    by_cases hs : s.size = 0
    · have em := emp_yes hs
      by_cases h0 : 0 < n
      · have e0 : decide ((n : Int) > 0) = true := decide_eq_true (by omega)
        have e0' : decide ((0 : Int) < (n : Int)) = true := decide_eq_true (by omega)
        obtain ⟨g, hg⟩ : ∃ g, g = l.any beyond := ⟨_, rfl⟩
        rw [← hg] at CC
        have HF : Hid (areaB ⟨s, false, l⟩ = !g) := Lib.hid (by have := HN.out; simp [areaB, hs, hg]; omega)
        clear hg hs
        obtain ⟨z0, z1, z2⟩ := HZ.out
        cases g with
        | true =>
          go_enter Tryz.func107, Tryz.ntmps107
          go_wp2_with fail
          try rw [← HW0.out]
          refine (CC.out _ HF0.out).mono ?_
          rintro e w1 ⟨rfl, hf1⟩
          have hfin := HF0.out.trans hf1
          go_wp2_with fail
          go_ret
          rw [HF.out]
          exact ⟨rfl, hfin⟩
        | false =>
          go_enter Tryz.func107, Tryz.ntmps107
          go_wp2_with fail
          try rw [← HW0.out]
          refine (CC.out _ HF0.out).mono ?_
          rintro e w1 ⟨rfl, hf1⟩
          have hfin := HF0.out.trans hf1
          go_wp2_with fail
          go_ret
          rw [HF.out]
          exact ⟨rfl, hfin⟩
      · obtain rfl : n = 0 := by omega
        have HF : Hid (areaB ⟨s, false, l⟩ = false) := Lib.hid (by have := HN.out; simp [areaB, hs, ← this])
        clear h0
        go_enter Tryz.func107, Tryz.ntmps107
        go_wp2_with fail
        go_ret
        rw [HF.out]
        exact ⟨rfl, by rw [← HW0.out]; exact HF0.out⟩
    · have em := emp_no (s := s) (by omega)
      have HF : Hid (areaB ⟨s, false, l⟩ = false) := Lib.hid (by simp [areaB, hs])
      clear hs
      go_enter Tryz.func107, Tryz.ntmps107
      go_wp2_with fail
      go_ret
      rw [HF.out]
      exact ⟨rfl, by rw [← HW0.out]; exact HF0.out⟩
set_option maxRecDepth 100000 in
set_option maxHeartbeats 4000000 in
theorem areasFit_any (l : List Dt) (v : Value) (w : World) (hv : DtsV w v l) (hb : l.length ≤ 140737488351232) (hw : ∀ x ∈ l, okD x) (ht : ∀ x ∈ l, x.t.size ≤ 2000000) :
    Calls Tryz.prog 71 #[v] w fun e w' => e = .returned (.bool (areasB l)) ∧ Fr w w' := by
  have HV := Lib.hid hv
  obtain ⟨a, cap, rfl, hc, hm, _⟩ := hv.form
  unfold maxLen at hm
  obtain ⟨n, hn⟩ : ∃ n, n = l.length := ⟨_, rfl⟩
  have HN := Lib.hid hn
  rw [← hn] at hc HV hb ⊢
  obtain ⟨R, hR⟩ : ∃ r, r = areasB l := ⟨_, rfl⟩
  have HR := Lib.hid hR
  rw [← hR]
  have HW := Lib.hid hw
  have HTS := Lib.hid ht
  clear hn hv hR hw ht
  go_enter Tryz.func71, Tryz.ntmps71
  go_wp2_with fail
  go_loopw [7] (fun i wr => ∃ (j : Nat), j ≤ n ∧ i = .int .i64 j ∧ Hid (R = (l.drop j).all areaB) ∧ Fr w wr) (fun i _ => n - (intOf i).toNat)
  case atStart => exact ⟨0, Nat.zero_le _, rfl, Lib.hid (by rw [HR.out]; rfl), Fr.refl _⟩
  case round =>
    obtain ⟨j, hj, rfl, HJ, hfr⟩ := hrel
    by_cases hlt : j < n
    · obtain ⟨t, ht⟩ : ∃ t, l[j]? = some t := ⟨_, List.getElem?_eq_getElem (by rw [← HN.out]; exact hlt)⟩
      have HT := Lib.hid ht
      obtain ⟨b, off, rfl, hc3⟩ := (HV.out.fr' hfr).at_ ht
      obtain ⟨x0, x1, lv, x2, hiv⟩ := hc3
      obtain ⟨la, lc, rfl, _, _, _⟩ := hiv.form
      have HI := Lib.hid hiv
      obtain ⟨⟨q0, q1, q2⟩, hq⟩ : ∃ y, y = t := ⟨_, rfl⟩
      subst hq
      simp only at x0 x1 x2 HI
      obtain ⟨ln, hln⟩ : ∃ y, y = q2.length := ⟨_, rfl⟩
      rw [← hln] at x2 HI
      clear hiv
      clear ht
      have HST := Lib.hid (all_drop areaB HT.out)
      have CA : Hid (∀ W, Fr wr W → Calls Tryz.prog 107 #[.agg #[.string q0, .bool q1, .slice la ln lc]] W fun e w' => e = .returned (.bool (areaB ⟨q0, q1, q2⟩)) ∧ Fr W w') := Lib.hid (fun W h => areaFits_any ⟨q0, q1, q2⟩ _ W (HI.out.fr' h) (HTS.out _ (List.mem_of_getElem? HT.out)) (HW.out _ (List.mem_of_getElem? HT.out)).2.1)
      obtain ⟨g, hg⟩ : ∃ g, g = areaB ⟨q0, q1, q2⟩ := ⟨_, rfl⟩
      rw [← hg] at CA HST
      clear hg hln
      cases g with
      | true =>
        have HJ2 : Hid (R = (l.drop (j + 1)).all areaB) := Lib.hid (by rw [HJ.out, HST.out, Bool.true_and])
        go_wp2_with fail
        refine (CA.out _ ((Fr.refl _).alloc _)).mono ?_
        rintro e w1 ⟨rfl, hf1⟩
        have hfin := hfr.trans (((Fr.refl _).alloc _).trans hf1)
        go_wp2_with fail
        go_roundw
        case rel => exact ⟨j + 1, by omega, by go_num, HJ2, hfin⟩
        case measure => simp [intOf]; omega
      | false =>
        have HF : Hid (R = false) := Lib.hid (by rw [HJ.out, HST.out, Bool.false_and])
        go_wp2_with fail
        refine (CA.out _ ((Fr.refl _).alloc _)).mono ?_
        rintro e w1 ⟨rfl, hf1⟩
        have hfin := hfr.trans (((Fr.refl _).alloc _).trans hf1)
        go_wp2_with fail
        go_ret
        rw [HF.out]
        exact ⟨rfl, hfin⟩
    · obtain rfl : j = n := by omega
      have HF : Hid (R = true) := Lib.hid (by rw [HJ.out, List.drop_eq_nil_of_le (by rw [← HN.out]; exact Nat.le_refl _)]; rfl)
      go_wp2_with fail
      go_ret
      rw [HF.out]
      exact ⟨rfl, hfr⟩
/-- Code's six cells. -/
structure CdB (w : World) (b : Nat) (nm : ByteArray) (dv ov gv : Value) (procs labels : Int) : Prop where
  c0 : w.cell? ⟨b, 0, none⟩ = some (.string nm)
  c1 : w.cell? ⟨b, 1, none⟩ = some dv
  c2 : w.cell? ⟨b, 2, none⟩ = some ov
  c3 : w.cell? ⟨b, 3, none⟩ = some gv
  c4 : w.cell? ⟨b, 4, none⟩ = some (.int .i64 procs)
  c5 : w.cell? ⟨b, 5, none⟩ = some (.int .i64 labels)
theorem CdB.fr {w w' : World} {b : Nat} {nm : ByteArray} {dv ov gv : Value} {procs labels : Int} (h : CdB w b nm dv ov gv procs labels) (k : Fr w w') : CdB w' b nm dv ov gv procs labels :=
  ⟨k.cell h.c0, k.cell h.c1, k.cell h.c2, k.cell h.c3, k.cell h.c4, k.cell h.c5⟩
theorem CdB.new (w : World) (nm : ByteArray) (dv ov gv : Value) (procs labels : Int) : CdB (w.alloc (.cells #[.string nm, dv, ov, gv, .int .i64 procs, .int .i64 labels] 43)) w.heap.size nm dv ov gv procs labels := by
  constructor <;> simp
theorem keepI {w W : World} {B : Nat} {nm : ByteArray} {dv ov gv : Value} {procs labels : Int} (h : CdB w B nm dv ov gv procs labels) (k : Fr w W) :
    W.cell? ⟨B, 1, none⟩ = some dv ∧ W.cell? ⟨B, 2, none⟩ = some ov ∧ W.cell? ⟨B, 4, none⟩ = some (.int .i64 procs) ∧ W.cell? ⟨B, 5, none⟩ = some (.int .i64 labels) ∧ Fr w W := ⟨k.cell h.c1, k.cell h.c2, k.cell h.c4, k.cell h.c5, k⟩
set_option maxRecDepth 100000 in
set_option maxHeartbeats 4000000 in
theorem instructionsFit_any (nm : ByteArray) (da : Option Addr) (nd dc : Nat) (gv : Value) (procs labels : Int) (l : List Op3) (v : Value) (w : World) (hv : OpsV w v l) (hb : l.length ≤ 140737488351232) (hnd : nd ≤ 140737488351232) :
    Calls Tryz.prog 73 #[.agg #[.string nm, .slice da nd dc, v, gv, .int .i64 procs, .int .i64 labels]] w fun e w' => e = .returned (.bool (decide (procs = greatI l 24) && decide (labels = greatI l 19) && l.all (insB nd procs labels))) ∧ Fr w w' := by
  have HV := Lib.hid hv
  have CG := Lib.hid (fun k W (h : Fr w W) => greatest_any k l v W (hv.fr' h) hb)
  obtain ⟨a, cap, rfl, hc, hm, _⟩ := hv.form
  unfold maxLen at hm
  obtain ⟨n, hn⟩ : ∃ n, n = l.length := ⟨_, rfl⟩
  have HN := Lib.hid hn
  rw [← hn] at hc HV CG hb ⊢
  obtain ⟨g24, hg24⟩ : ∃ g, g = greatI l 24 := ⟨_, rfl⟩
  obtain ⟨g19, hg19⟩ : ∃ g, g = greatI l 19 := ⟨_, rfl⟩
  have CG24 := Lib.hid (CG.out 24)
  have CG19 := Lib.hid (CG.out 19)
  rw [← hg24] at CG24 ⊢
  rw [← hg19] at CG19 ⊢
  have HND := Lib.hid hnd
  obtain ⟨w0, hw0⟩ : ∃ w0, w0 = w.alloc (.cells #[.string nm, .slice da nd dc, .slice a n cap, gv, .int .i64 procs, .int .i64 labels] 43) := ⟨_, rfl⟩
  have HF0 : Hid (Fr w w0) := Lib.hid (by rw [hw0]; exact (Fr.refl w).alloc _)
  have HCB : Hid (CdB w0 w.heap.size nm (.slice da nd dc) (.slice a n cap) gv procs labels) := Lib.hid (by rw [hw0]; exact CdB.new w _ _ _ _ _ _)
  have HW0 := Lib.hid hw0
  have hq0 : Fr w0 w0.drew := (Fr.refl w0).drew
  have hq0' : Fr w0 (w.alloc (.cells #[.string nm, .slice da nd dc, .slice a n cap, gv, .int .i64 procs, .int .i64 labels] 43)).drew := by rw [← hw0]; exact hq0
  clear hn hv hg24 hg19 hnd hw0
  by_cases h24 : procs = g24
  · have e24 : (procs != g24) = false := by simp [h24]
    by_cases h19 : labels = g19
    · have e19 : (labels != g19) = false := by simp [h19]
      have HR0 : Hid ((decide (procs = g24) && decide (labels = g19) && l.all (insB nd procs labels)) = l.all (insB nd procs labels)) := Lib.hid (by simp [h24, h19])
      rw [HR0.out]
      obtain ⟨R, hR⟩ : ∃ r, r = l.all (insB nd procs labels) := ⟨_, rfl⟩
      have HR := Lib.hid hR
      rw [← hR]
      clear hR h24 h19
      go_enter Tryz.func73, Tryz.ntmps73
      go_wp2_with fail
      try rw [← HW0.out]
      refine wp_region_held_drew (S := fun W' => W'.cell? ⟨w.heap.size, 1, none⟩ = some (.slice da nd dc) ∧ W'.cell? ⟨w.heap.size, 2, none⟩ = some (.slice a n cap) ∧ W'.cell? ⟨w.heap.size, 4, none⟩ = some (.int .i64 procs) ∧ W'.cell? ⟨w.heap.size, 5, none⟩ = some (.int .i64 labels) ∧ Fr w0 W') (by kernel_rfl) (by first | exact keepI HCB.out hq0 | exact keepI HCB.out hq0') (fun hHeld => ?_)
      refine wpAnyH_take (i := 0) (v := ?_) rfl (by kernel_rfl) (by kernel_rfl) (by kernel_rfl) (fun _ _ _ h => h) (Or.inl ⟨by rfl, ?_⟩) (by assumption) ?_
      rotate_left
      · intro W' hSw
        obtain ⟨s1, s2, s3, s4, s5⟩ := hSw
        go_simp
        try with_reducible rfl
      try simp only [Act.put, List.getElem_toArray, List.getElem_cons_zero, List.getElem_cons_succ, List.setIfInBounds_toArray, List.set_cons_zero, List.set_cons_succ]
      refine wpAnyH_take (i := 1) (v := ?_) rfl (by kernel_rfl) (by kernel_rfl) (by kernel_rfl) (fun _ _ _ h => h) (Or.inl ⟨by rfl, ?_⟩) (by assumption) ?_
      rotate_left
      · intro W' hSw
        obtain ⟨s1, s2, s3, s4, s5⟩ := hSw
        go_simp
        try with_reducible rfl
      try simp only [Act.put, List.getElem_toArray, List.getElem_cons_zero, List.getElem_cons_succ, List.setIfInBounds_toArray, List.set_cons_zero, List.set_cons_succ]
      refine wpAnyH_take (i := 2) (v := ?_) rfl (by kernel_rfl) (by kernel_rfl) (by kernel_rfl) (fun _ _ _ h => h) (Or.inl ⟨by rfl, ?_⟩) (by assumption) ?_
      rotate_left
      · intro W' hSw
        obtain ⟨s1, s2, s3, s4, s5⟩ := hSw
        go_simp
        try with_reducible rfl
      try simp only [Act.put, List.getElem_toArray, List.getElem_cons_zero, List.getElem_cons_succ, List.setIfInBounds_toArray, List.set_cons_zero, List.set_cons_succ]
      refine wpAnyH_take (i := 3) (v := ?_) rfl (by kernel_rfl) (by kernel_rfl) (by kernel_rfl) (fun _ _ _ h => h) (Or.inl ⟨by rfl, ?_⟩) (by assumption) ?_
      rotate_left
      · intro W' hSw
        obtain ⟨s1, s2, s3, s4, s5⟩ := hSw
        go_simp
        try with_reducible rfl
      try simp only [Act.put, List.getElem_toArray, List.getElem_cons_zero, List.getElem_cons_succ, List.setIfInBounds_toArray, List.set_cons_zero, List.set_cons_succ]
      refine wpAnyH_ready (rs := [4]) (by kernel_rfl) (by simp) (AllReadyH.cons rfl (fun K hK => ?_) AllReadyH.nil)
      go_simp
      (go_at_call 109; refine (CG24.out _ (HF0.out.trans (by first | exact hq0 | exact hq0'))).mono ?_; rintro e w1 ⟨rfl, hf1⟩; have hq1 : Fr w0 w1 := Fr.trans (by first | exact hq0 | exact hq0') hf1)
      refine hK.out _ _ (keepI HCB.out hq1) (fun hHeld => ?_)
      clear hK K
      try simp only [Act.put, List.getElem_toArray, List.getElem_cons_zero, List.getElem_cons_succ, List.setIfInBounds_toArray, List.set_cons_zero, List.set_cons_succ]
      refine wpAnyH_take (i := 5) (v := ?_) rfl (by kernel_rfl) (by kernel_rfl) (by kernel_rfl) (fun _ _ _ h => h) (Or.inl ⟨by rfl, ?_⟩) (by assumption) ?_
      rotate_left
      · intro W' hSw
        obtain ⟨s1, s2, s3, s4, s5⟩ := hSw
        go_simp
        try with_reducible rfl
      try simp only [Act.put, List.getElem_toArray, List.getElem_cons_zero, List.getElem_cons_succ, List.setIfInBounds_toArray, List.set_cons_zero, List.set_cons_succ]
      refine wpAnyH_take (i := 6) (v := ?_) rfl (by kernel_rfl) (by kernel_rfl) (by kernel_rfl) (fun _ _ _ h => h) (Or.inl ⟨by rfl, ?_⟩) (by assumption) ?_
      rotate_left
      · intro W' hSw
        obtain ⟨s1, s2, s3, s4, s5⟩ := hSw
        go_simp
        try with_reducible rfl
      try simp only [Act.put, List.getElem_toArray, List.getElem_cons_zero, List.getElem_cons_succ, List.setIfInBounds_toArray, List.set_cons_zero, List.set_cons_succ]
      refine wpAnyH_take (i := 7) (v := ?_) rfl (by kernel_rfl) (by kernel_rfl) (by kernel_rfl) (fun _ _ _ h => h) (Or.inl ⟨by rfl, ?_⟩) (by assumption) ?_
      rotate_left
      · intro W' hSw
        obtain ⟨s1, s2, s3, s4, s5⟩ := hSw
        go_simp
        try with_reducible rfl
      try simp only [Act.put, List.getElem_toArray, List.getElem_cons_zero, List.getElem_cons_succ, List.setIfInBounds_toArray, List.set_cons_zero, List.set_cons_succ]
      refine wpAnyH_take (i := 8) (v := ?_) rfl (by kernel_rfl) (by kernel_rfl) (by kernel_rfl) (fun _ _ _ h => h) (Or.inl ⟨by rfl, ?_⟩) (by assumption) ?_
      rotate_left
      · intro W' hSw
        obtain ⟨s1, s2, s3, s4, s5⟩ := hSw
        go_simp
        try with_reducible rfl
      try simp only [Act.put, List.getElem_toArray, List.getElem_cons_zero, List.getElem_cons_succ, List.setIfInBounds_toArray, List.set_cons_zero, List.set_cons_succ]
      refine wpAnyH_take (i := 9) (v := ?_) rfl (by kernel_rfl) (by kernel_rfl) (by kernel_rfl) (fun _ _ _ h => h) (Or.inl ⟨by rfl, ?_⟩) (by assumption) ?_
      rotate_left
      · intro W' hSw
        obtain ⟨s1, s2, s3, s4, s5⟩ := hSw
        go_simp
        try with_reducible rfl
      try simp only [Act.put, List.getElem_toArray, List.getElem_cons_zero, List.getElem_cons_succ, List.setIfInBounds_toArray, List.set_cons_zero, List.set_cons_succ]
      refine wpAnyH_take (i := 10) (v := ?_) rfl (by kernel_rfl) (by kernel_rfl) (by kernel_rfl) (fun _ _ _ h => h) (Or.inl ⟨by rfl, ?_⟩) (by assumption) ?_
      rotate_left
      · intro W' hSw
        obtain ⟨s1, s2, s3, s4, s5⟩ := hSw
        go_simp
        try with_reducible rfl
      try simp only [Act.put, List.getElem_toArray, List.getElem_cons_zero, List.getElem_cons_succ, List.setIfInBounds_toArray, List.set_cons_zero, List.set_cons_succ]
      refine wpAnyH_ready (rs := [11]) (by kernel_rfl) (by simp) (AllReadyH.cons rfl (fun K hK => ?_) AllReadyH.nil)
      go_simp
      (go_at_call 109; refine (CG19.out _ (HF0.out.trans hq1)).mono ?_; rintro e w2 ⟨rfl, hf2⟩; have hq2 : Fr w0 w2 := Fr.trans hq1 hf2)
      refine hK.out _ _ (keepI HCB.out hq2) (fun hHeld => ?_)
      clear hK K
      try simp only [Act.put, List.getElem_toArray, List.getElem_cons_zero, List.getElem_cons_succ, List.setIfInBounds_toArray, List.set_cons_zero, List.set_cons_succ]
      refine wpAnyH_take (i := 12) (v := ?_) rfl (by kernel_rfl) (by kernel_rfl) (by kernel_rfl) (fun _ _ _ h => h) (Or.inl ⟨by rfl, ?_⟩) (by assumption) ?_
      rotate_left
      · intro W' hSw
        obtain ⟨s1, s2, s3, s4, s5⟩ := hSw
        go_simp
        try with_reducible rfl
      try simp only [Act.put, List.getElem_toArray, List.getElem_cons_zero, List.getElem_cons_succ, List.setIfInBounds_toArray, List.set_cons_zero, List.set_cons_succ]
      refine wpAnyH_take (i := 13) (v := ?_) rfl (by kernel_rfl) (by kernel_rfl) (by kernel_rfl) (fun _ _ _ h => h) (Or.inl ⟨by rfl, ?_⟩) (by assumption) ?_
      rotate_left
      · intro W' hSw
        obtain ⟨s1, s2, s3, s4, s5⟩ := hSw
        go_simp
        try with_reducible rfl
      try simp only [Act.put, List.getElem_toArray, List.getElem_cons_zero, List.getElem_cons_succ, List.setIfInBounds_toArray, List.set_cons_zero, List.set_cons_succ]
      refine wpAnyH_done (by kernel_rfl) ?_ _
      have HF2 : Hid (Fr w0 w2) := Lib.hid hq2
      obtain ⟨d1, d2, d4, d5, _⟩ := keepI HCB.out hq2
      clear hq0 hq0' hq1 hq2 hf1 hf2 hHeld
      go_wp2_with fail
      go_loopw [22] (fun i wr => ∃ (j : Nat), j ≤ n ∧ i = .int .i64 j ∧ Hid (R = (l.drop j).all (insB nd procs labels)) ∧ Fr w0 wr) (fun i _ => n - (intOf i).toNat)
      case atStart => exact ⟨0, Nat.zero_le _, rfl, Lib.hid (by rw [HR.out]; rfl), HF2.out⟩
      case round =>
        obtain ⟨j, hj, rfl, HJ, hfr⟩ := hrel
        by_cases hlt : j < n
        · obtain ⟨t, ht⟩ : ∃ t, l[j]? = some t := ⟨_, List.getElem?_eq_getElem (by rw [← HN.out]; exact hlt)⟩
          have HT := Lib.hid ht
          obtain ⟨b, off, rfl, hc3⟩ := (HV.out.fr' (HF0.out.trans hfr)).at_ ht
          obtain ⟨x0, x1, x2⟩ := hc3
          obtain ⟨⟨q0, q1, q2⟩, hq⟩ : ∃ y, y = t := ⟨_, rfl⟩
          subst hq
          simp only at x0 x1 x2
          clear ht
          have HST : Hid ((l.drop j).all (insB nd procs labels) = (insB nd procs labels ⟨q0, q1, q2⟩ && (l.drop (j + 1)).all (insB nd procs labels))) := Lib.hid (all_drop _ HT.out)
          have HCR := Lib.hid (HCB.out.fr hfr)
          obtain ⟨y0, y1, y2, y3, y4, y5⟩ := (HCR.out.fr ((Fr.refl wr).alloc (.cells #[.int .i64 q0, .int .i64 q1, .int .i64 q2] 60)))
          have CB1 := Lib.hid (fun W => isBeyond_any q1 W)
          have CB2 := Lib.hid (fun W => isBeyond_any q2 W)
          have CF := Lib.hid (fun W => firstFits_any q0 (w := W) (hnl := HND.out) (nd := nd) (n := q1) (m := q2) (nm := nm) (da := da) (dc := dc) (ov := .slice (some ⟨b, off, none⟩) n cap) (gv := gv) (procs := procs) (labels := labels))
          have CS := Lib.hid (fun W => secondFits_any q0 W (n := q1) (m := q2) (nm := nm) (dv := .slice da nd dc) (ov := .slice (some ⟨b, off, none⟩) n cap) (gv := gv) (procs := procs) (labels := labels))
          obtain ⟨b1, hb1⟩ : ∃ x, x = beyond q1 := ⟨_, rfl⟩
          obtain ⟨b2, hb2⟩ : ∃ x, x = beyond q2 := ⟨_, rfl⟩
          obtain ⟨b3, hb3⟩ : ∃ x, x = firstB ⟨q0, q1, q2⟩ nd procs labels := ⟨_, rfl⟩
          obtain ⟨b4, hb4⟩ : ∃ x, x = secondB ⟨q0, q1, q2⟩ labels := ⟨_, rfl⟩
          rw [← hb1] at CB1
          rw [← hb2] at CB2
          rw [← hb3] at CF
          rw [← hb4] at CS
          have HI : Hid (insB nd procs labels ⟨q0, q1, q2⟩ = (!b1 && !b2 && b3 && b4)) := Lib.hid (by unfold insB; rw [← hb1, ← hb2, ← hb3, ← hb4])
          clear hb1 hb2 hb3 hb4
          cases b1 with
          | true =>
            have HF : Hid (R = false) := Lib.hid (by rw [HJ.out, HST.out, HI.out]; rfl)
            go_wp2_with fail
            refine (CB1.out _).mono ?_
            rintro e w1' ⟨rfl, rfl⟩
            go_wp2_with fail
            go_ret
            rw [HF.out]
            exact ⟨rfl, HF0.out.trans (hfr.alloc _)⟩
          | false =>
            cases b2 with
            | true =>
              have HF : Hid (R = false) := Lib.hid (by rw [HJ.out, HST.out, HI.out]; rfl)
              go_wp2_with fail
              refine (CB1.out _).mono ?_
              rintro e w1' ⟨rfl, rfl⟩
              go_wp2_with fail
              refine (CB2.out _).mono ?_
              rintro e w1' ⟨rfl, rfl⟩
              go_wp2_with fail
              go_ret
              rw [HF.out]
              exact ⟨rfl, HF0.out.trans (hfr.alloc _)⟩
            | false =>
              have HX0 : Hid (OpC (wr.alloc (.cells #[.int .i64 q0, .int .i64 q1, .int .i64 q2] 60)) wr.heap.size 0 ⟨q0, q1, q2⟩) := Lib.hid ⟨by simp, by simp, by simp⟩
              cases b3 with
              | false =>
                have HF : Hid (R = false) := Lib.hid (by rw [HJ.out, HST.out, HI.out]; rfl)
                go_wp2_with fail
                refine (CB1.out _).mono ?_
                rintro e w1' ⟨rfl, rfl⟩
                go_wp2_with fail
                refine (CB2.out _).mono ?_
                rintro e w1' ⟨rfl, rfl⟩
                go_wp2_with fail
                refine (CF.out _).mono ?_
                rintro e w3 ⟨rfl, hf3⟩
                have hfin := HF0.out.trans ((hfr.alloc _).trans hf3)
                go_wp2_with fail
                go_ret
                rw [HF.out]
                exact ⟨rfl, hfin⟩
              | true =>
                cases b4 with
                | false =>
                  have HF : Hid (R = false) := Lib.hid (by rw [HJ.out, HST.out, HI.out]; rfl)
                  go_wp2_with fail
                  refine (CB1.out _).mono ?_
                  rintro e w1' ⟨rfl, rfl⟩
                  go_wp2_with fail
                  refine (CB2.out _).mono ?_
                  rintro e w1' ⟨rfl, rfl⟩
                  go_wp2_with fail
                  refine (CF.out _).mono ?_
                  rintro e w3 ⟨rfl, hf3⟩
                  have HF3 : Hid (Fr w0 w3) := Lib.hid ((hfr.alloc _).trans hf3)
                  obtain ⟨o0, o1, o2⟩ := HX0.out.fr hf3
                  simp only [Nat.zero_add] at o0 o1 o2
                  obtain ⟨p0, p1, p2, p3, p4, p5⟩ := HCB.out.fr HF3.out
                  clear y0 y1 y2 y3 y4 y5 x0 x1 x2
                  go_wp2_with fail
                  refine (CS.out _).mono ?_
                  rintro e w4 ⟨rfl, hf4⟩
                  have hfin := HF0.out.trans (HF3.out.trans hf4)
                  go_wp2_with fail
                  go_ret
                  rw [HF.out]
                  exact ⟨rfl, hfin⟩
                | true =>
                  have HJ2 : Hid (R = (l.drop (j + 1)).all (insB nd procs labels)) := Lib.hid (by rw [HJ.out, HST.out, HI.out]; simp)
                  go_wp2_with fail
                  refine (CB1.out _).mono ?_
                  rintro e w1' ⟨rfl, rfl⟩
                  go_wp2_with fail
                  refine (CB2.out _).mono ?_
                  rintro e w1' ⟨rfl, rfl⟩
                  go_wp2_with fail
                  refine (CF.out _).mono ?_
                  rintro e w3 ⟨rfl, hf3⟩
                  have HF3 : Hid (Fr w0 w3) := Lib.hid ((hfr.alloc _).trans hf3)
                  obtain ⟨o0, o1, o2⟩ := HX0.out.fr hf3
                  simp only [Nat.zero_add] at o0 o1 o2
                  obtain ⟨p0, p1, p2, p3, p4, p5⟩ := HCB.out.fr HF3.out
                  clear y0 y1 y2 y3 y4 y5 x0 x1 x2
                  go_wp2_with fail
                  refine (CS.out _).mono ?_
                  rintro e w4 ⟨rfl, hf4⟩
                  have hfin := HF3.out.trans hf4
                  go_wp2_with fail
                  go_roundw
                  case rel => exact ⟨j + 1, by omega, by go_num, HJ2, hfin⟩
                  case measure => simp [intOf]; omega
        · obtain rfl : j = n := by omega
          have HF : Hid (R = true) := Lib.hid (by rw [HJ.out, List.drop_eq_nil_of_le (by rw [← HN.out]; exact Nat.le_refl _)]; rfl)
          go_wp2_with fail
          go_ret
          rw [HF.out]
          exact ⟨rfl, HF0.out.trans hfr⟩
    · have e19 : (labels != g19) = true := by simp [h19]
      have HR0 : Hid ((decide (procs = g24) && decide (labels = g19) && l.all (insB nd procs labels)) = false) := Lib.hid (by simp [h19])
      rw [HR0.out]
      clear h24 h19
      go_enter Tryz.func73, Tryz.ntmps73
      go_wp2_with fail
      try rw [← HW0.out]
      refine wp_region_held_drew (S := fun W' => W'.cell? ⟨w.heap.size, 1, none⟩ = some (.slice da nd dc) ∧ W'.cell? ⟨w.heap.size, 2, none⟩ = some (.slice a n cap) ∧ W'.cell? ⟨w.heap.size, 4, none⟩ = some (.int .i64 procs) ∧ W'.cell? ⟨w.heap.size, 5, none⟩ = some (.int .i64 labels) ∧ Fr w0 W') (by kernel_rfl) (by first | exact keepI HCB.out hq0 | exact keepI HCB.out hq0') (fun hHeld => ?_)
      refine wpAnyH_take (i := 0) (v := ?_) rfl (by kernel_rfl) (by kernel_rfl) (by kernel_rfl) (fun _ _ _ h => h) (Or.inl ⟨by rfl, ?_⟩) (by assumption) ?_
      rotate_left
      · intro W' hSw
        obtain ⟨s1, s2, s3, s4, s5⟩ := hSw
        go_simp
        try with_reducible rfl
      try simp only [Act.put, List.getElem_toArray, List.getElem_cons_zero, List.getElem_cons_succ, List.setIfInBounds_toArray, List.set_cons_zero, List.set_cons_succ]
      refine wpAnyH_take (i := 1) (v := ?_) rfl (by kernel_rfl) (by kernel_rfl) (by kernel_rfl) (fun _ _ _ h => h) (Or.inl ⟨by rfl, ?_⟩) (by assumption) ?_
      rotate_left
      · intro W' hSw
        obtain ⟨s1, s2, s3, s4, s5⟩ := hSw
        go_simp
        try with_reducible rfl
      try simp only [Act.put, List.getElem_toArray, List.getElem_cons_zero, List.getElem_cons_succ, List.setIfInBounds_toArray, List.set_cons_zero, List.set_cons_succ]
      refine wpAnyH_take (i := 2) (v := ?_) rfl (by kernel_rfl) (by kernel_rfl) (by kernel_rfl) (fun _ _ _ h => h) (Or.inl ⟨by rfl, ?_⟩) (by assumption) ?_
      rotate_left
      · intro W' hSw
        obtain ⟨s1, s2, s3, s4, s5⟩ := hSw
        go_simp
        try with_reducible rfl
      try simp only [Act.put, List.getElem_toArray, List.getElem_cons_zero, List.getElem_cons_succ, List.setIfInBounds_toArray, List.set_cons_zero, List.set_cons_succ]
      refine wpAnyH_take (i := 3) (v := ?_) rfl (by kernel_rfl) (by kernel_rfl) (by kernel_rfl) (fun _ _ _ h => h) (Or.inl ⟨by rfl, ?_⟩) (by assumption) ?_
      rotate_left
      · intro W' hSw
        obtain ⟨s1, s2, s3, s4, s5⟩ := hSw
        go_simp
        try with_reducible rfl
      try simp only [Act.put, List.getElem_toArray, List.getElem_cons_zero, List.getElem_cons_succ, List.setIfInBounds_toArray, List.set_cons_zero, List.set_cons_succ]
      refine wpAnyH_ready (rs := [4]) (by kernel_rfl) (by simp) (AllReadyH.cons rfl (fun K hK => ?_) AllReadyH.nil)
      go_simp
      (go_at_call 109; refine (CG24.out _ (HF0.out.trans (by first | exact hq0 | exact hq0'))).mono ?_; rintro e w1 ⟨rfl, hf1⟩; have hq1 : Fr w0 w1 := Fr.trans (by first | exact hq0 | exact hq0') hf1)
      refine hK.out _ _ (keepI HCB.out hq1) (fun hHeld => ?_)
      clear hK K
      try simp only [Act.put, List.getElem_toArray, List.getElem_cons_zero, List.getElem_cons_succ, List.setIfInBounds_toArray, List.set_cons_zero, List.set_cons_succ]
      refine wpAnyH_take (i := 5) (v := ?_) rfl (by kernel_rfl) (by kernel_rfl) (by kernel_rfl) (fun _ _ _ h => h) (Or.inl ⟨by rfl, ?_⟩) (by assumption) ?_
      rotate_left
      · intro W' hSw
        obtain ⟨s1, s2, s3, s4, s5⟩ := hSw
        go_simp
        try with_reducible rfl
      try simp only [Act.put, List.getElem_toArray, List.getElem_cons_zero, List.getElem_cons_succ, List.setIfInBounds_toArray, List.set_cons_zero, List.set_cons_succ]
      refine wpAnyH_take (i := 6) (v := ?_) rfl (by kernel_rfl) (by kernel_rfl) (by kernel_rfl) (fun _ _ _ h => h) (Or.inl ⟨by rfl, ?_⟩) (by assumption) ?_
      rotate_left
      · intro W' hSw
        obtain ⟨s1, s2, s3, s4, s5⟩ := hSw
        go_simp
        try with_reducible rfl
      try simp only [Act.put, List.getElem_toArray, List.getElem_cons_zero, List.getElem_cons_succ, List.setIfInBounds_toArray, List.set_cons_zero, List.set_cons_succ]
      refine wpAnyH_take (i := 7) (v := ?_) rfl (by kernel_rfl) (by kernel_rfl) (by kernel_rfl) (fun _ _ _ h => h) (Or.inl ⟨by rfl, ?_⟩) (by assumption) ?_
      rotate_left
      · intro W' hSw
        obtain ⟨s1, s2, s3, s4, s5⟩ := hSw
        go_simp
        try with_reducible rfl
      try simp only [Act.put, List.getElem_toArray, List.getElem_cons_zero, List.getElem_cons_succ, List.setIfInBounds_toArray, List.set_cons_zero, List.set_cons_succ]
      refine wpAnyH_take (i := 8) (v := ?_) rfl (by kernel_rfl) (by kernel_rfl) (by kernel_rfl) (fun _ _ _ h => h) (Or.inl ⟨by rfl, ?_⟩) (by assumption) ?_
      rotate_left
      · intro W' hSw
        obtain ⟨s1, s2, s3, s4, s5⟩ := hSw
        go_simp
        try with_reducible rfl
      try simp only [Act.put, List.getElem_toArray, List.getElem_cons_zero, List.getElem_cons_succ, List.setIfInBounds_toArray, List.set_cons_zero, List.set_cons_succ]
      refine wpAnyH_take (i := 9) (v := ?_) rfl (by kernel_rfl) (by kernel_rfl) (by kernel_rfl) (fun _ _ _ h => h) (Or.inl ⟨by rfl, ?_⟩) (by assumption) ?_
      rotate_left
      · intro W' hSw
        obtain ⟨s1, s2, s3, s4, s5⟩ := hSw
        go_simp
        try with_reducible rfl
      try simp only [Act.put, List.getElem_toArray, List.getElem_cons_zero, List.getElem_cons_succ, List.setIfInBounds_toArray, List.set_cons_zero, List.set_cons_succ]
      refine wpAnyH_take (i := 10) (v := ?_) rfl (by kernel_rfl) (by kernel_rfl) (by kernel_rfl) (fun _ _ _ h => h) (Or.inl ⟨by rfl, ?_⟩) (by assumption) ?_
      rotate_left
      · intro W' hSw
        obtain ⟨s1, s2, s3, s4, s5⟩ := hSw
        go_simp
        try with_reducible rfl
      try simp only [Act.put, List.getElem_toArray, List.getElem_cons_zero, List.getElem_cons_succ, List.setIfInBounds_toArray, List.set_cons_zero, List.set_cons_succ]
      refine wpAnyH_ready (rs := [11]) (by kernel_rfl) (by simp) (AllReadyH.cons rfl (fun K hK => ?_) AllReadyH.nil)
      go_simp
      (go_at_call 109; refine (CG19.out _ (HF0.out.trans hq1)).mono ?_; rintro e w2 ⟨rfl, hf2⟩; have hq2 : Fr w0 w2 := Fr.trans hq1 hf2)
      refine hK.out _ _ (keepI HCB.out hq2) (fun hHeld => ?_)
      clear hK K
      try simp only [Act.put, List.getElem_toArray, List.getElem_cons_zero, List.getElem_cons_succ, List.setIfInBounds_toArray, List.set_cons_zero, List.set_cons_succ]
      refine wpAnyH_take (i := 12) (v := ?_) rfl (by kernel_rfl) (by kernel_rfl) (by kernel_rfl) (fun _ _ _ h => h) (Or.inl ⟨by rfl, ?_⟩) (by assumption) ?_
      rotate_left
      · intro W' hSw
        obtain ⟨s1, s2, s3, s4, s5⟩ := hSw
        go_simp
        try with_reducible rfl
      try simp only [Act.put, List.getElem_toArray, List.getElem_cons_zero, List.getElem_cons_succ, List.setIfInBounds_toArray, List.set_cons_zero, List.set_cons_succ]
      refine wpAnyH_take (i := 13) (v := ?_) rfl (by kernel_rfl) (by kernel_rfl) (by kernel_rfl) (fun _ _ _ h => h) (Or.inl ⟨by rfl, ?_⟩) (by assumption) ?_
      rotate_left
      · intro W' hSw
        obtain ⟨s1, s2, s3, s4, s5⟩ := hSw
        go_simp
        try with_reducible rfl
      try simp only [Act.put, List.getElem_toArray, List.getElem_cons_zero, List.getElem_cons_succ, List.setIfInBounds_toArray, List.set_cons_zero, List.set_cons_succ]
      refine wpAnyH_done (by kernel_rfl) ?_ _
      have hfin := HF0.out.trans hq2
      go_wp2_with fail
      go_ret
      exact ⟨rfl, hfin⟩
  · have e24 : (procs != g24) = true := by simp [h24]
    have HR0 : Hid ((decide (procs = g24) && decide (labels = g19) && l.all (insB nd procs labels)) = false) := Lib.hid (by simp [h24])
    rw [HR0.out]
    clear h24
    go_enter Tryz.func73, Tryz.ntmps73
    go_wp2_with fail
    try rw [← HW0.out]
    refine wp_region_held_drew (S := fun W' => W'.cell? ⟨w.heap.size, 1, none⟩ = some (.slice da nd dc) ∧ W'.cell? ⟨w.heap.size, 2, none⟩ = some (.slice a n cap) ∧ W'.cell? ⟨w.heap.size, 4, none⟩ = some (.int .i64 procs) ∧ W'.cell? ⟨w.heap.size, 5, none⟩ = some (.int .i64 labels) ∧ Fr w0 W') (by kernel_rfl) (by first | exact keepI HCB.out hq0 | exact keepI HCB.out hq0') (fun hHeld => ?_)
    refine wpAnyH_take (i := 0) (v := ?_) rfl (by kernel_rfl) (by kernel_rfl) (by kernel_rfl) (fun _ _ _ h => h) (Or.inl ⟨by rfl, ?_⟩) (by assumption) ?_
    rotate_left
    · intro W' hSw
      obtain ⟨s1, s2, s3, s4, s5⟩ := hSw
      go_simp
      try with_reducible rfl
    try simp only [Act.put, List.getElem_toArray, List.getElem_cons_zero, List.getElem_cons_succ, List.setIfInBounds_toArray, List.set_cons_zero, List.set_cons_succ]
    refine wpAnyH_take (i := 1) (v := ?_) rfl (by kernel_rfl) (by kernel_rfl) (by kernel_rfl) (fun _ _ _ h => h) (Or.inl ⟨by rfl, ?_⟩) (by assumption) ?_
    rotate_left
    · intro W' hSw
      obtain ⟨s1, s2, s3, s4, s5⟩ := hSw
      go_simp
      try with_reducible rfl
    try simp only [Act.put, List.getElem_toArray, List.getElem_cons_zero, List.getElem_cons_succ, List.setIfInBounds_toArray, List.set_cons_zero, List.set_cons_succ]
    refine wpAnyH_take (i := 2) (v := ?_) rfl (by kernel_rfl) (by kernel_rfl) (by kernel_rfl) (fun _ _ _ h => h) (Or.inl ⟨by rfl, ?_⟩) (by assumption) ?_
    rotate_left
    · intro W' hSw
      obtain ⟨s1, s2, s3, s4, s5⟩ := hSw
      go_simp
      try with_reducible rfl
    try simp only [Act.put, List.getElem_toArray, List.getElem_cons_zero, List.getElem_cons_succ, List.setIfInBounds_toArray, List.set_cons_zero, List.set_cons_succ]
    refine wpAnyH_take (i := 3) (v := ?_) rfl (by kernel_rfl) (by kernel_rfl) (by kernel_rfl) (fun _ _ _ h => h) (Or.inl ⟨by rfl, ?_⟩) (by assumption) ?_
    rotate_left
    · intro W' hSw
      obtain ⟨s1, s2, s3, s4, s5⟩ := hSw
      go_simp
      try with_reducible rfl
    try simp only [Act.put, List.getElem_toArray, List.getElem_cons_zero, List.getElem_cons_succ, List.setIfInBounds_toArray, List.set_cons_zero, List.set_cons_succ]
    refine wpAnyH_ready (rs := [4]) (by kernel_rfl) (by simp) (AllReadyH.cons rfl (fun K hK => ?_) AllReadyH.nil)
    go_simp
    (go_at_call 109; refine (CG24.out _ (HF0.out.trans (by first | exact hq0 | exact hq0'))).mono ?_; rintro e w1 ⟨rfl, hf1⟩; have hq1 : Fr w0 w1 := Fr.trans (by first | exact hq0 | exact hq0') hf1)
    refine hK.out _ _ (keepI HCB.out hq1) (fun hHeld => ?_)
    clear hK K
    try simp only [Act.put, List.getElem_toArray, List.getElem_cons_zero, List.getElem_cons_succ, List.setIfInBounds_toArray, List.set_cons_zero, List.set_cons_succ]
    refine wpAnyH_take (i := 5) (v := ?_) rfl (by kernel_rfl) (by kernel_rfl) (by kernel_rfl) (fun _ _ _ h => h) (Or.inl ⟨by rfl, ?_⟩) (by assumption) ?_
    rotate_left
    · intro W' hSw
      obtain ⟨s1, s2, s3, s4, s5⟩ := hSw
      go_simp
      try with_reducible rfl
    try simp only [Act.put, List.getElem_toArray, List.getElem_cons_zero, List.getElem_cons_succ, List.setIfInBounds_toArray, List.set_cons_zero, List.set_cons_succ]
    refine wpAnyH_take (i := 6) (v := ?_) rfl (by kernel_rfl) (by kernel_rfl) (by kernel_rfl) (fun _ _ _ h => h) (Or.inl ⟨by rfl, ?_⟩) (by assumption) ?_
    rotate_left
    · intro W' hSw
      obtain ⟨s1, s2, s3, s4, s5⟩ := hSw
      go_simp
      try with_reducible rfl
    try simp only [Act.put, List.getElem_toArray, List.getElem_cons_zero, List.getElem_cons_succ, List.setIfInBounds_toArray, List.set_cons_zero, List.set_cons_succ]
    refine wpAnyH_take (i := 7) (v := undef) rfl (by kernel_rfl) (by kernel_rfl) (by kernel_rfl) (fun _ _ _ h => h) (Or.inr ⟨by rfl, rfl⟩) (by assumption) ?_
    try simp only [Act.put, List.getElem_toArray, List.getElem_cons_zero, List.getElem_cons_succ, List.setIfInBounds_toArray, List.set_cons_zero, List.set_cons_succ]
    refine wpAnyH_take (i := 8) (v := undef) rfl (by kernel_rfl) (by kernel_rfl) (by kernel_rfl) (fun _ _ _ h => h) (Or.inr ⟨by rfl, rfl⟩) (by assumption) ?_
    try simp only [Act.put, List.getElem_toArray, List.getElem_cons_zero, List.getElem_cons_succ, List.setIfInBounds_toArray, List.set_cons_zero, List.set_cons_succ]
    refine wpAnyH_take (i := 9) (v := undef) rfl (by kernel_rfl) (by kernel_rfl) (by kernel_rfl) (fun _ _ _ h => h) (Or.inr ⟨by rfl, rfl⟩) (by assumption) ?_
    try simp only [Act.put, List.getElem_toArray, List.getElem_cons_zero, List.getElem_cons_succ, List.setIfInBounds_toArray, List.set_cons_zero, List.set_cons_succ]
    refine wpAnyH_take (i := 10) (v := undef) rfl (by kernel_rfl) (by kernel_rfl) (by kernel_rfl) (fun _ _ _ h => h) (Or.inr ⟨by rfl, rfl⟩) (by assumption) ?_
    try simp only [Act.put, List.getElem_toArray, List.getElem_cons_zero, List.getElem_cons_succ, List.setIfInBounds_toArray, List.set_cons_zero, List.set_cons_succ]
    refine wpAnyH_take (i := 11) (v := undef) rfl (by kernel_rfl) (by kernel_rfl) (by kernel_rfl) (fun _ _ _ h => h) (Or.inr ⟨by rfl, rfl⟩) (by assumption) ?_
    try simp only [Act.put, List.getElem_toArray, List.getElem_cons_zero, List.getElem_cons_succ, List.setIfInBounds_toArray, List.set_cons_zero, List.set_cons_succ]
    refine wpAnyH_take (i := 12) (v := undef) rfl (by kernel_rfl) (by kernel_rfl) (by kernel_rfl) (fun _ _ _ h => h) (Or.inr ⟨by rfl, rfl⟩) (by assumption) ?_
    try simp only [Act.put, List.getElem_toArray, List.getElem_cons_zero, List.getElem_cons_succ, List.setIfInBounds_toArray, List.set_cons_zero, List.set_cons_succ]
    refine wpAnyH_take (i := 13) (v := ?_) rfl (by kernel_rfl) (by kernel_rfl) (by kernel_rfl) (fun _ _ _ h => h) (Or.inl ⟨by rfl, ?_⟩) (by assumption) ?_
    rotate_left
    · intro W' hSw
      obtain ⟨s1, s2, s3, s4, s5⟩ := hSw
      go_simp
      try with_reducible rfl
    try simp only [Act.put, List.getElem_toArray, List.getElem_cons_zero, List.getElem_cons_succ, List.setIfInBounds_toArray, List.set_cons_zero, List.set_cons_succ]
    refine wpAnyH_done (by kernel_rfl) ?_ _
    have hfin := HF0.out.trans hq1
    go_wp2_with fail
    go_ret
    exact ⟨rfl, hfin⟩
end Go.Proofs.YtdnckbcknahakaaGreat
