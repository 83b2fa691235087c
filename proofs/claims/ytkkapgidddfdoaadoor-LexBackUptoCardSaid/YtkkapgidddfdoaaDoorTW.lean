/- How a token is written: the contracts of both functions. -/
import Derived.Test.YtkkapgidddfdoaaDoorTO
import Derived.Test.YtkkapgidddfdoaaDoorIN
import Derived.Test.YtkkapgidddfdoaaDoorRN
import Derived.Deep.RegionHeld3
namespace Go.Proofs.YtkkapgidddfdoaaDoor
open Go.RowKit
set_option linter.unusedVariables false
set_option linter.unusedSimpArgs false

structure Wr where
  t : ByteArray
  ok : Bool
/-- How a token is written, the end aside. -/
noncomputable def wr (t : Tg) : Wr :=
  if t.k = 2 then ⟨(num t.n).t, decide ((num t.n).e = 0) && decide (t.t.size = 0)⟩
  else if t.k = 3 then ⟨(quo t.t).t, decide ((quo t.t).e = 0) && decide (t.n = 0)⟩
  else if t.k = 1 then ⟨t.t, isNm t.t && decide (t.n = 0)⟩
  else if t.k = 4 then ⟨t.t, hasB 43 keyB t.t && decide (t.n = 0)⟩
  else if t.k = 5 then ⟨t.t, hasB 28 sgnB t.t && decide (t.n = 0)⟩
  else ⟨nul, false⟩
/-- The end too. -/
noncomputable def wrE (t : Tg) : Wr := if t.k = 0 then ⟨nul, decide (t.t.size = 0) && decide (t.n = 0)⟩ else wr t
theorem isSign_any (w : World) (s : ByteArray) : Calls Tryd.prog 71 #[.string s] w fun e w' => e = .returned (.bool (hasB 28 sgnB s)) ∧ Fr w w' := by
  go_enter Tryd.func71, Tryd.ntmps71
  go_wp2_with fail
  refine (Signs_any _).mono ?_
  rintro e w1 ⟨g, rfl, hr, hf⟩
  have HR := Lib.hid hr
  clear hr
  go_wp2_with fail
  refine (Contains_any _ g 0 28 28 (by omega) s sgnB (fun i hi => by rw [Nat.zero_add]; exact HR.out.cell hi)).mono ?_
  rintro e w2 ⟨rfl, rfl⟩
  go_wp2
  go_ret
  exact ⟨rfl, hf⟩
theorem keepS {w W : World} {B : Nat} {x0 x1 x2 x3 : Value} (h : Tb w B x0 x1 x2 x3) (k : Fr w W) : W.cell? ⟨B, 1, none⟩ = some x1 ∧ W.cell? ⟨B, 2, none⟩ = some x2 ∧ Fr w W := by
  obtain ⟨_, h1, h2, _⟩ := (h.fr k).cells
  exact ⟨h1, h2, k⟩
theorem emp_nul {s : ByteArray} (h : s.size = 0) : s = nul := by
  apply ByteArray.ext
  exact Array.eq_empty_of_size_eq_zero h
theorem num_e' (n : Int) : (num n).e = 0 ∨ (num n).e = 1 := by
  unfold num
  repeat' split
  all_goals simp
theorem quo_e' (s : ByteArray) : (quo s).e = 0 ∨ (quo s).e = 2 ∨ (quo s).e = 3 := by
  unfold quo
  repeat' split
  all_goals simp
set_option maxRecDepth 100000 in
set_option maxHeartbeats 4000000 in
theorem written_any (t : Tg) (hs : t.t.size ≤ 2000000) (hn : wfT t.n) (w : World) (hnv : Nv w) :
    Calls Tryd.prog 39 #[.agg #[.int .i64 t.k, .string t.t, .int .i64 t.n, .int .i64 t.a]] w fun e w' => e = .returned (.tuple #[.string (wrE t).t, .bool (wrE t).ok]) ∧ Fr w w' := by
  obtain ⟨k, x, n, a⟩ := t
  simp only at hs hn ⊢
  obtain ⟨r, hr⟩ : ∃ r, r = wrE ⟨k, x, n, a⟩ := ⟨_, rfl⟩
  rw [← hr]
  obtain ⟨w0, hw0⟩ : ∃ w0, w0 = w.alloc (.cells #[.int .i64 k, .string x, .int .i64 n, .int .i64 a] 38) := ⟨_, rfl⟩
  have hf0 : Fr w w0 := by rw [hw0]; exact (Fr.refl w).alloc _
  have hTB : Tb w0 w.heap.size (.int .i64 k) (.string x) (.int .i64 n) (.int .i64 a) := by rw [hw0]; exact Tb.new w _ _ _ _
  have HTB := Lib.hid hTB
  have HW0 := Lib.hid hw0
  have HNV := Lib.hid (hnv.fr hf0)
  obtain ⟨t0, t1, t2, t3⟩ := hTB.cells
  have HF0 := Lib.hid hf0
  clear hnv hTB hf0
  by_cases k2 : k = 2
  · subst k2
    have hr : r = ⟨(num n).t, decide ((num n).e = 0) && decide (x.size = 0)⟩ := hr
    have hN := fun w h => Number_any n hn.1 hn.2 w h
    obtain ⟨⟨nt, ne⟩, hnn⟩ : ∃ q, q = num n := ⟨_, rfl⟩
    have hne := num_e' n
    rw [← hnn] at hN hne hr
    simp only at hN hne hr
    rcases hne with rfl | rfl
    · by_cases hz : x.size = 0
      · have em := emp_yes hz
        have HR : Hid (r = ⟨nt, true⟩) := Lib.hid (by rw [hr]; simp [hz])
        clear hnn hr hz hs
        go_enter Tryd.func39, Tryd.ntmps39
        rw [hw0] at t0 t1 t2 t3
        go_wp2_with fail
        rw [← hw0] at t0 t1 t2 t3
        try rw [← hw0]
        refine (hN _ HNV.out).mono ?_
        rintro e w1 ⟨rfl, hf1⟩
        obtain ⟨t0', t1', t2', t3'⟩ := (HTB.out.fr hf1).cells
        clear t0 t1 t2 t3
        have hfin := HF0.out.trans hf1
        go_wp2_with fail
        go_quiet (fail)
        go_wp2_with fail
        go_ret2
        rw [HR.out]
        exact ⟨rfl, hfin.drewN _⟩
      · have em := emp_no (show 0 < x.size by omega)
        have HR : Hid (r = ⟨nt, false⟩) := Lib.hid (by rw [hr]; simp [hz])
        clear hnn hr hz hs
        go_enter Tryd.func39, Tryd.ntmps39
        rw [hw0] at t0 t1 t2 t3
        go_wp2_with fail
        rw [← hw0] at t0 t1 t2 t3
        try rw [← hw0]
        refine (hN _ HNV.out).mono ?_
        rintro e w1 ⟨rfl, hf1⟩
        obtain ⟨t0', t1', t2', t3'⟩ := (HTB.out.fr hf1).cells
        clear t0 t1 t2 t3
        have hfin := HF0.out.trans hf1
        go_wp2_with fail
        go_quiet (fail)
        go_wp2_with fail
        go_ret2
        rw [HR.out]
        exact ⟨rfl, hfin.drewN _⟩
    · have HR : Hid (r = ⟨nt, false⟩) := Lib.hid (by rw [hr]; simp)
      clear hnn hr hs
      go_enter Tryd.func39, Tryd.ntmps39
      rw [hw0] at t0 t1 t2 t3
      go_wp2_with fail
      rw [← hw0] at t0 t1 t2 t3
      try rw [← hw0]
      refine (hN _ HNV.out).mono ?_
      rintro e w1 ⟨rfl, hf1⟩
      obtain ⟨t0', t1', t2', t3'⟩ := (HTB.out.fr hf1).cells
      clear t0 t1 t2 t3
      have hfin := HF0.out.trans hf1
      go_wp2_with fail
      go_quiet (fail)
      go_wp2_with fail
      go_ret2
      rw [HR.out]
      exact ⟨rfl, hfin.drewN _⟩
  have n2 : (k == 2) = false := by rw [beq_eq_false_iff_ne]; omega
  by_cases k3 : k = 3
  · subst k3
    have hr : r = ⟨(quo x).t, decide ((quo x).e = 0) && decide (n = 0)⟩ := hr
    have hQ := Quote_any x hs
    obtain ⟨⟨qt, qe⟩, hqq⟩ : ∃ q, q = quo x := ⟨_, rfl⟩
    have hqe := quo_e' x
    rw [← hqq] at hQ hqe hr
    simp only at hQ hqe hr
    rcases hqe with rfl | rfl | rfl
    · by_cases hz : n = 0
      · have z0 : (n == 0) = true := by rw [beq_iff_eq]; exact hz
        have HR : Hid (r = ⟨qt, true⟩) := Lib.hid (by rw [hr]; simp [hz])
        clear hqq hr hz hs
        go_enter Tryd.func39, Tryd.ntmps39
        rw [hw0] at t0 t1 t2 t3
        go_wp2_with fail
        rw [← hw0] at t0 t1 t2 t3
        try rw [← hw0]
        refine (hQ _).mono ?_
        rintro e w1 ⟨rfl, hf1⟩
        obtain ⟨t0', t1', t2', t3'⟩ := (HTB.out.fr hf1).cells
        clear t0 t1 t2 t3
        have hfin := HF0.out.trans hf1
        go_wp2_with fail
        go_quiet (fail)
        go_wp2_with fail
        go_ret2
        rw [HR.out]
        exact ⟨rfl, hfin.drewN _⟩
      · have z0 : (n == 0) = false := by rw [beq_eq_false_iff_ne]; exact hz
        have HR : Hid (r = ⟨qt, false⟩) := Lib.hid (by rw [hr]; simp [hz])
        clear hqq hr hz hs
        go_enter Tryd.func39, Tryd.ntmps39
        rw [hw0] at t0 t1 t2 t3
        go_wp2_with fail
        rw [← hw0] at t0 t1 t2 t3
        try rw [← hw0]
        refine (hQ _).mono ?_
        rintro e w1 ⟨rfl, hf1⟩
        obtain ⟨t0', t1', t2', t3'⟩ := (HTB.out.fr hf1).cells
        clear t0 t1 t2 t3
        have hfin := HF0.out.trans hf1
        go_wp2_with fail
        go_quiet (fail)
        go_wp2_with fail
        go_ret2
        rw [HR.out]
        exact ⟨rfl, hfin.drewN _⟩
    · have HR : Hid (r = ⟨qt, false⟩) := Lib.hid (by rw [hr]; simp)
      clear hqq hr hs
      go_enter Tryd.func39, Tryd.ntmps39
      rw [hw0] at t0 t1 t2 t3
      go_wp2_with fail
      rw [← hw0] at t0 t1 t2 t3
      try rw [← hw0]
      refine (hQ _).mono ?_
      rintro e w1 ⟨rfl, hf1⟩
      obtain ⟨t0', t1', t2', t3'⟩ := (HTB.out.fr hf1).cells
      clear t0 t1 t2 t3
      have hfin := HF0.out.trans hf1
      go_wp2_with fail
      go_quiet (fail)
      go_wp2_with fail
      go_ret2
      rw [HR.out]
      exact ⟨rfl, hfin.drewN _⟩
    · have HR : Hid (r = ⟨qt, false⟩) := Lib.hid (by rw [hr]; simp)
      clear hqq hr hs
      go_enter Tryd.func39, Tryd.ntmps39
      rw [hw0] at t0 t1 t2 t3
      go_wp2_with fail
      rw [← hw0] at t0 t1 t2 t3
      try rw [← hw0]
      refine (hQ _).mono ?_
      rintro e w1 ⟨rfl, hf1⟩
      obtain ⟨t0', t1', t2', t3'⟩ := (HTB.out.fr hf1).cells
      clear t0 t1 t2 t3
      have hfin := HF0.out.trans hf1
      go_wp2_with fail
      go_quiet (fail)
      go_wp2_with fail
      go_ret2
      rw [HR.out]
      exact ⟨rfl, hfin.drewN _⟩
  have n3 : (k == 3) = false := by rw [beq_eq_false_iff_ne]; omega
  by_cases k1 : k = 1
  · subst k1
    have hr : r = ⟨x, isNm x && decide (n = 0)⟩ := hr
    cases hp : isNm x with
    | true =>
      by_cases hz : n = 0
      · have z0 : (n == 0) = true := by rw [beq_iff_eq]; exact hz
        have HR : Hid (r = ⟨x, true⟩) := Lib.hid (by rw [hr, hp]; simp [hz])
        clear hz
        have HP := Lib.hid hp
        have hq0 : Fr w0 w0.drew := (Fr.refl w0).drew
        have hq0' : Fr w0 (w.alloc (.cells #[.int .i64 1, .string x, .int .i64 n, .int .i64 a] 38)).drew := by rw [← hw0]; exact hq0
        clear hr hp hs
        go_enter Tryd.func39, Tryd.ntmps39
        rw [hw0] at t0 t1 t2 t3
        go_wp2_with fail
        rw [← hw0] at t0 t1 t2 t3
        try rw [← hw0]
        go_region_held3 (fun W' => W'.cell? ⟨w.heap.size, 1, none⟩ = some (.string x) ∧ W'.cell? ⟨w.heap.size, 2, none⟩ = some (.int .i64 n) ∧ Fr w0 W')
          (first | exact keepS HTB.out (by assumption) | exact keepS HTB.out hq0 | exact keepS HTB.out hq0')
          ((first | (go_at_call 69; refine (IsName_any _ _).mono ?_; rintro e w1 ⟨rfl, hf1⟩; rw [HP.out]; have hq1 := Fr.trans (by assumption : Fr w0 _) hf1)))
        have hfin := HF0.out.trans hq1
        go_wp2_with fail
        go_ret2
        rw [HR.out]
        exact ⟨rfl, hfin⟩
      · have z0 : (n == 0) = false := by rw [beq_eq_false_iff_ne]; exact hz
        have HR : Hid (r = ⟨x, false⟩) := Lib.hid (by rw [hr, hp]; simp [hz])
        clear hz
        have HP := Lib.hid hp
        have hq0 : Fr w0 w0.drew := (Fr.refl w0).drew
        have hq0' : Fr w0 (w.alloc (.cells #[.int .i64 1, .string x, .int .i64 n, .int .i64 a] 38)).drew := by rw [← hw0]; exact hq0
        clear hr hp hs
        go_enter Tryd.func39, Tryd.ntmps39
        rw [hw0] at t0 t1 t2 t3
        go_wp2_with fail
        rw [← hw0] at t0 t1 t2 t3
        try rw [← hw0]
        go_region_held3 (fun W' => W'.cell? ⟨w.heap.size, 1, none⟩ = some (.string x) ∧ W'.cell? ⟨w.heap.size, 2, none⟩ = some (.int .i64 n) ∧ Fr w0 W')
          (first | exact keepS HTB.out (by assumption) | exact keepS HTB.out hq0 | exact keepS HTB.out hq0')
          ((first | (go_at_call 69; refine (IsName_any _ _).mono ?_; rintro e w1 ⟨rfl, hf1⟩; rw [HP.out]; have hq1 := Fr.trans (by assumption : Fr w0 _) hf1)))
        have hfin := HF0.out.trans hq1
        go_wp2_with fail
        go_ret2
        rw [HR.out]
        exact ⟨rfl, hfin⟩
    | false =>
      have HR : Hid (r = ⟨x, false⟩) := Lib.hid (by rw [hr, hp]; simp)
      have HP := Lib.hid hp
      have hq0 : Fr w0 w0.drew := (Fr.refl w0).drew
      have hq0' : Fr w0 (w.alloc (.cells #[.int .i64 1, .string x, .int .i64 n, .int .i64 a] 38)).drew := by rw [← hw0]; exact hq0
      clear hr hp hs
      go_enter Tryd.func39, Tryd.ntmps39
      rw [hw0] at t0 t1 t2 t3
      go_wp2_with fail
      rw [← hw0] at t0 t1 t2 t3
      try rw [← hw0]
      refine wp_region_held_drew (S := fun W' => W'.cell? ⟨w.heap.size, 1, none⟩ = some (.string x) ∧ W'.cell? ⟨w.heap.size, 2, none⟩ = some (.int .i64 n) ∧ Fr w0 W') (by kernel_rfl) (by first | exact keepS HTB.out hq0 | exact keepS HTB.out hq0') (fun hHeld => ?_)
      refine wpAnyH_take (i := 0) (v := ?_) rfl (by kernel_rfl) (by kernel_rfl) (by kernel_rfl) (fun _ _ _ h => h) (Or.inl ⟨by rfl, ?_⟩) (by assumption) ?_
      rotate_left
      · intro W' hSw
        obtain ⟨s1, s2, s3⟩ := hSw
        go_simp
        try with_reducible rfl
      try simp only [Act.put, List.getElem_toArray, List.getElem_cons_zero, List.getElem_cons_succ, List.setIfInBounds_toArray, List.set_cons_zero, List.set_cons_succ]
      refine wpAnyH_take (i := 1) (v := ?_) rfl (by kernel_rfl) (by kernel_rfl) (by kernel_rfl) (fun _ _ _ h => h) (Or.inl ⟨by rfl, ?_⟩) (by assumption) ?_
      rotate_left
      · intro W' hSw
        obtain ⟨s1, s2, s3⟩ := hSw
        go_simp
        try with_reducible rfl
      try simp only [Act.put, List.getElem_toArray, List.getElem_cons_zero, List.getElem_cons_succ, List.setIfInBounds_toArray, List.set_cons_zero, List.set_cons_succ]
      refine wpAnyH_take (i := 2) (v := ?_) rfl (by kernel_rfl) (by kernel_rfl) (by kernel_rfl) (fun _ _ _ h => h) (Or.inl ⟨by rfl, ?_⟩) (by assumption) ?_
      rotate_left
      · intro W' hSw
        obtain ⟨s1, s2, s3⟩ := hSw
        go_simp
        try with_reducible rfl
      try simp only [Act.put, List.getElem_toArray, List.getElem_cons_zero, List.getElem_cons_succ, List.setIfInBounds_toArray, List.set_cons_zero, List.set_cons_succ]
      refine wpAnyH_take (i := 3) (v := ?_) rfl (by kernel_rfl) (by kernel_rfl) (by kernel_rfl) (fun _ _ _ h => h) (Or.inl ⟨by rfl, ?_⟩) (by assumption) ?_
      rotate_left
      · intro W' hSw
        obtain ⟨s1, s2, s3⟩ := hSw
        go_simp
        try with_reducible rfl
      try simp only [Act.put, List.getElem_toArray, List.getElem_cons_zero, List.getElem_cons_succ, List.setIfInBounds_toArray, List.set_cons_zero, List.set_cons_succ]
      refine wpAnyH_ready (rs := [4]) (by kernel_rfl) (by simp) (AllReadyH.cons rfl (fun K hK => ?_) AllReadyH.nil)
      go_simp
      (go_at_call 69; refine (IsName_any _ _).mono ?_; rintro e w1 ⟨rfl, hf1⟩; rw [HP.out]; have hq1 := Fr.trans (by first | exact hq0 | exact hq0') hf1)
      refine hK.out _ _ (keepS HTB.out hq1) (fun hHeld => ?_)
      clear hK K
      try simp only [Act.put, List.getElem_toArray, List.getElem_cons_zero, List.getElem_cons_succ, List.setIfInBounds_toArray, List.set_cons_zero, List.set_cons_succ]
      refine wpAnyH_take (i := 5) (v := ?_) rfl (by kernel_rfl) (by kernel_rfl) (by kernel_rfl) (fun _ _ _ h => h) (Or.inl ⟨by rfl, ?_⟩) (by assumption) ?_
      rotate_left
      · intro W' hSw
        obtain ⟨s1, s2, s3⟩ := hSw
        go_simp
        try with_reducible rfl
      try simp only [Act.put, List.getElem_toArray, List.getElem_cons_zero, List.getElem_cons_succ, List.setIfInBounds_toArray, List.set_cons_zero, List.set_cons_succ]
      refine wpAnyH_take (i := 6) (v := undef) rfl (by kernel_rfl) (by kernel_rfl) (by kernel_rfl) (fun _ _ _ h => h) (Or.inr ⟨by rfl, rfl⟩) (by assumption) ?_
      try simp only [Act.put, List.getElem_toArray, List.getElem_cons_zero, List.getElem_cons_succ, List.setIfInBounds_toArray, List.set_cons_zero, List.set_cons_succ]
      refine wpAnyH_take (i := 7) (v := undef) rfl (by kernel_rfl) (by kernel_rfl) (by kernel_rfl) (fun _ _ _ h => h) (Or.inr ⟨by rfl, rfl⟩) (by assumption) ?_
      try simp only [Act.put, List.getElem_toArray, List.getElem_cons_zero, List.getElem_cons_succ, List.setIfInBounds_toArray, List.set_cons_zero, List.set_cons_succ]
      refine wpAnyH_take (i := 8) (v := undef) rfl (by kernel_rfl) (by kernel_rfl) (by kernel_rfl) (fun _ _ _ h => h) (Or.inr ⟨by rfl, rfl⟩) (by assumption) ?_
      try simp only [Act.put, List.getElem_toArray, List.getElem_cons_zero, List.getElem_cons_succ, List.setIfInBounds_toArray, List.set_cons_zero, List.set_cons_succ]
      refine wpAnyH_take (i := 9) (v := ?_) rfl (by kernel_rfl) (by kernel_rfl) (by kernel_rfl) (fun _ _ _ h => h) (Or.inl ⟨by rfl, ?_⟩) (by assumption) ?_
      rotate_left
      · intro W' hSw
        obtain ⟨s1, s2, s3⟩ := hSw
        go_simp
        try with_reducible rfl
      try simp only [Act.put, List.getElem_toArray, List.getElem_cons_zero, List.getElem_cons_succ, List.setIfInBounds_toArray, List.set_cons_zero, List.set_cons_succ]
      refine wpAnyH_take (i := 10) (v := ?_) rfl (by kernel_rfl) (by kernel_rfl) (by kernel_rfl) (fun _ _ _ h => h) (Or.inl ⟨by rfl, ?_⟩) (by assumption) ?_
      rotate_left
      · intro W' hSw
        obtain ⟨s1, s2, s3⟩ := hSw
        go_simp
        try with_reducible rfl
      try simp only [Act.put, List.getElem_toArray, List.getElem_cons_zero, List.getElem_cons_succ, List.setIfInBounds_toArray, List.set_cons_zero, List.set_cons_succ]
      refine wpAnyH_take (i := 11) (v := ?_) rfl (by kernel_rfl) (by kernel_rfl) (by kernel_rfl) (fun _ _ _ h => h) (Or.inl ⟨by rfl, ?_⟩) (by assumption) ?_
      rotate_left
      · intro W' hSw
        obtain ⟨s1, s2, s3⟩ := hSw
        go_simp
        try with_reducible rfl
      try simp only [Act.put, List.getElem_toArray, List.getElem_cons_zero, List.getElem_cons_succ, List.setIfInBounds_toArray, List.set_cons_zero, List.set_cons_succ]
      refine wpAnyH_done (by kernel_rfl) ?_ _
      have hfin := HF0.out.trans hq1
      go_wp2_with fail
      go_ret2
      rw [HR.out]
      exact ⟨rfl, hfin⟩
  have n1 : (k == 1) = false := by rw [beq_eq_false_iff_ne]; omega
  by_cases k4 : k = 4
  · subst k4
    have hr : r = ⟨x, hasB 43 keyB x && decide (n = 0)⟩ := hr
    cases hp : hasB 43 keyB x with
    | true =>
      by_cases hz : n = 0
      · have z0 : (n == 0) = true := by rw [beq_iff_eq]; exact hz
        have HR : Hid (r = ⟨x, true⟩) := Lib.hid (by rw [hr, hp]; simp [hz])
        clear hz
        have HP := Lib.hid hp
        have hq0 : Fr w0 w0.drew := (Fr.refl w0).drew
        have hq0' : Fr w0 (w.alloc (.cells #[.int .i64 4, .string x, .int .i64 n, .int .i64 a] 38)).drew := by rw [← hw0]; exact hq0
        clear hr hp hs
        go_enter Tryd.func39, Tryd.ntmps39
        rw [hw0] at t0 t1 t2 t3
        go_wp2_with fail
        rw [← hw0] at t0 t1 t2 t3
        try rw [← hw0]
        go_region_held3 (fun W' => W'.cell? ⟨w.heap.size, 1, none⟩ = some (.string x) ∧ W'.cell? ⟨w.heap.size, 2, none⟩ = some (.int .i64 n) ∧ Fr w0 W')
          (first | exact keepS HTB.out (by assumption) | exact keepS HTB.out hq0 | exact keepS HTB.out hq0')
          ((first | (go_at_call 70; refine (isKey_any _ _).mono ?_; rintro e w1 ⟨rfl, hf1⟩; rw [HP.out]; have hq1 := Fr.trans (by assumption : Fr w0 _) hf1)))
        have hfin := HF0.out.trans hq1
        go_wp2_with fail
        go_ret2
        rw [HR.out]
        exact ⟨rfl, hfin⟩
      · have z0 : (n == 0) = false := by rw [beq_eq_false_iff_ne]; exact hz
        have HR : Hid (r = ⟨x, false⟩) := Lib.hid (by rw [hr, hp]; simp [hz])
        clear hz
        have HP := Lib.hid hp
        have hq0 : Fr w0 w0.drew := (Fr.refl w0).drew
        have hq0' : Fr w0 (w.alloc (.cells #[.int .i64 4, .string x, .int .i64 n, .int .i64 a] 38)).drew := by rw [← hw0]; exact hq0
        clear hr hp hs
        go_enter Tryd.func39, Tryd.ntmps39
        rw [hw0] at t0 t1 t2 t3
        go_wp2_with fail
        rw [← hw0] at t0 t1 t2 t3
        try rw [← hw0]
        go_region_held3 (fun W' => W'.cell? ⟨w.heap.size, 1, none⟩ = some (.string x) ∧ W'.cell? ⟨w.heap.size, 2, none⟩ = some (.int .i64 n) ∧ Fr w0 W')
          (first | exact keepS HTB.out (by assumption) | exact keepS HTB.out hq0 | exact keepS HTB.out hq0')
          ((first | (go_at_call 70; refine (isKey_any _ _).mono ?_; rintro e w1 ⟨rfl, hf1⟩; rw [HP.out]; have hq1 := Fr.trans (by assumption : Fr w0 _) hf1)))
        have hfin := HF0.out.trans hq1
        go_wp2_with fail
        go_ret2
        rw [HR.out]
        exact ⟨rfl, hfin⟩
    | false =>
      have HR : Hid (r = ⟨x, false⟩) := Lib.hid (by rw [hr, hp]; simp)
      have HP := Lib.hid hp
      have hq0 : Fr w0 w0.drew := (Fr.refl w0).drew
      have hq0' : Fr w0 (w.alloc (.cells #[.int .i64 4, .string x, .int .i64 n, .int .i64 a] 38)).drew := by rw [← hw0]; exact hq0
      clear hr hp hs
      go_enter Tryd.func39, Tryd.ntmps39
      rw [hw0] at t0 t1 t2 t3
      go_wp2_with fail
      rw [← hw0] at t0 t1 t2 t3
      try rw [← hw0]
      refine wp_region_held_drew (S := fun W' => W'.cell? ⟨w.heap.size, 1, none⟩ = some (.string x) ∧ W'.cell? ⟨w.heap.size, 2, none⟩ = some (.int .i64 n) ∧ Fr w0 W') (by kernel_rfl) (by first | exact keepS HTB.out hq0 | exact keepS HTB.out hq0') (fun hHeld => ?_)
      refine wpAnyH_take (i := 0) (v := ?_) rfl (by kernel_rfl) (by kernel_rfl) (by kernel_rfl) (fun _ _ _ h => h) (Or.inl ⟨by rfl, ?_⟩) (by assumption) ?_
      rotate_left
      · intro W' hSw
        obtain ⟨s1, s2, s3⟩ := hSw
        go_simp
        try with_reducible rfl
      try simp only [Act.put, List.getElem_toArray, List.getElem_cons_zero, List.getElem_cons_succ, List.setIfInBounds_toArray, List.set_cons_zero, List.set_cons_succ]
      refine wpAnyH_take (i := 1) (v := ?_) rfl (by kernel_rfl) (by kernel_rfl) (by kernel_rfl) (fun _ _ _ h => h) (Or.inl ⟨by rfl, ?_⟩) (by assumption) ?_
      rotate_left
      · intro W' hSw
        obtain ⟨s1, s2, s3⟩ := hSw
        go_simp
        try with_reducible rfl
      try simp only [Act.put, List.getElem_toArray, List.getElem_cons_zero, List.getElem_cons_succ, List.setIfInBounds_toArray, List.set_cons_zero, List.set_cons_succ]
      refine wpAnyH_take (i := 2) (v := ?_) rfl (by kernel_rfl) (by kernel_rfl) (by kernel_rfl) (fun _ _ _ h => h) (Or.inl ⟨by rfl, ?_⟩) (by assumption) ?_
      rotate_left
      · intro W' hSw
        obtain ⟨s1, s2, s3⟩ := hSw
        go_simp
        try with_reducible rfl
      try simp only [Act.put, List.getElem_toArray, List.getElem_cons_zero, List.getElem_cons_succ, List.setIfInBounds_toArray, List.set_cons_zero, List.set_cons_succ]
      refine wpAnyH_take (i := 3) (v := ?_) rfl (by kernel_rfl) (by kernel_rfl) (by kernel_rfl) (fun _ _ _ h => h) (Or.inl ⟨by rfl, ?_⟩) (by assumption) ?_
      rotate_left
      · intro W' hSw
        obtain ⟨s1, s2, s3⟩ := hSw
        go_simp
        try with_reducible rfl
      try simp only [Act.put, List.getElem_toArray, List.getElem_cons_zero, List.getElem_cons_succ, List.setIfInBounds_toArray, List.set_cons_zero, List.set_cons_succ]
      refine wpAnyH_ready (rs := [4]) (by kernel_rfl) (by simp) (AllReadyH.cons rfl (fun K hK => ?_) AllReadyH.nil)
      go_simp
      (go_at_call 70; refine (isKey_any _ _).mono ?_; rintro e w1 ⟨rfl, hf1⟩; rw [HP.out]; have hq1 := Fr.trans (by first | exact hq0 | exact hq0') hf1)
      refine hK.out _ _ (keepS HTB.out hq1) (fun hHeld => ?_)
      clear hK K
      try simp only [Act.put, List.getElem_toArray, List.getElem_cons_zero, List.getElem_cons_succ, List.setIfInBounds_toArray, List.set_cons_zero, List.set_cons_succ]
      refine wpAnyH_take (i := 5) (v := ?_) rfl (by kernel_rfl) (by kernel_rfl) (by kernel_rfl) (fun _ _ _ h => h) (Or.inl ⟨by rfl, ?_⟩) (by assumption) ?_
      rotate_left
      · intro W' hSw
        obtain ⟨s1, s2, s3⟩ := hSw
        go_simp
        try with_reducible rfl
      try simp only [Act.put, List.getElem_toArray, List.getElem_cons_zero, List.getElem_cons_succ, List.setIfInBounds_toArray, List.set_cons_zero, List.set_cons_succ]
      refine wpAnyH_take (i := 6) (v := undef) rfl (by kernel_rfl) (by kernel_rfl) (by kernel_rfl) (fun _ _ _ h => h) (Or.inr ⟨by rfl, rfl⟩) (by assumption) ?_
      try simp only [Act.put, List.getElem_toArray, List.getElem_cons_zero, List.getElem_cons_succ, List.setIfInBounds_toArray, List.set_cons_zero, List.set_cons_succ]
      refine wpAnyH_take (i := 7) (v := undef) rfl (by kernel_rfl) (by kernel_rfl) (by kernel_rfl) (fun _ _ _ h => h) (Or.inr ⟨by rfl, rfl⟩) (by assumption) ?_
      try simp only [Act.put, List.getElem_toArray, List.getElem_cons_zero, List.getElem_cons_succ, List.setIfInBounds_toArray, List.set_cons_zero, List.set_cons_succ]
      refine wpAnyH_take (i := 8) (v := undef) rfl (by kernel_rfl) (by kernel_rfl) (by kernel_rfl) (fun _ _ _ h => h) (Or.inr ⟨by rfl, rfl⟩) (by assumption) ?_
      try simp only [Act.put, List.getElem_toArray, List.getElem_cons_zero, List.getElem_cons_succ, List.setIfInBounds_toArray, List.set_cons_zero, List.set_cons_succ]
      refine wpAnyH_take (i := 9) (v := ?_) rfl (by kernel_rfl) (by kernel_rfl) (by kernel_rfl) (fun _ _ _ h => h) (Or.inl ⟨by rfl, ?_⟩) (by assumption) ?_
      rotate_left
      · intro W' hSw
        obtain ⟨s1, s2, s3⟩ := hSw
        go_simp
        try with_reducible rfl
      try simp only [Act.put, List.getElem_toArray, List.getElem_cons_zero, List.getElem_cons_succ, List.setIfInBounds_toArray, List.set_cons_zero, List.set_cons_succ]
      refine wpAnyH_take (i := 10) (v := ?_) rfl (by kernel_rfl) (by kernel_rfl) (by kernel_rfl) (fun _ _ _ h => h) (Or.inl ⟨by rfl, ?_⟩) (by assumption) ?_
      rotate_left
      · intro W' hSw
        obtain ⟨s1, s2, s3⟩ := hSw
        go_simp
        try with_reducible rfl
      try simp only [Act.put, List.getElem_toArray, List.getElem_cons_zero, List.getElem_cons_succ, List.setIfInBounds_toArray, List.set_cons_zero, List.set_cons_succ]
      refine wpAnyH_take (i := 11) (v := ?_) rfl (by kernel_rfl) (by kernel_rfl) (by kernel_rfl) (fun _ _ _ h => h) (Or.inl ⟨by rfl, ?_⟩) (by assumption) ?_
      rotate_left
      · intro W' hSw
        obtain ⟨s1, s2, s3⟩ := hSw
        go_simp
        try with_reducible rfl
      try simp only [Act.put, List.getElem_toArray, List.getElem_cons_zero, List.getElem_cons_succ, List.setIfInBounds_toArray, List.set_cons_zero, List.set_cons_succ]
      refine wpAnyH_done (by kernel_rfl) ?_ _
      have hfin := HF0.out.trans hq1
      go_wp2_with fail
      go_ret2
      rw [HR.out]
      exact ⟨rfl, hfin⟩
  have n4 : (k == 4) = false := by rw [beq_eq_false_iff_ne]; omega
  by_cases k5 : k = 5
  · subst k5
    have hr : r = ⟨x, hasB 28 sgnB x && decide (n = 0)⟩ := hr
    cases hp : hasB 28 sgnB x with
    | true =>
      by_cases hz : n = 0
      · have z0 : (n == 0) = true := by rw [beq_iff_eq]; exact hz
        have HR : Hid (r = ⟨x, true⟩) := Lib.hid (by rw [hr, hp]; simp [hz])
        clear hz
        have HP := Lib.hid hp
        have hq0 : Fr w0 w0.drew := (Fr.refl w0).drew
        have hq0' : Fr w0 (w.alloc (.cells #[.int .i64 5, .string x, .int .i64 n, .int .i64 a] 38)).drew := by rw [← hw0]; exact hq0
        clear hr hp hs
        go_enter Tryd.func39, Tryd.ntmps39
        rw [hw0] at t0 t1 t2 t3
        go_wp2_with fail
        rw [← hw0] at t0 t1 t2 t3
        try rw [← hw0]
        go_region_held3 (fun W' => W'.cell? ⟨w.heap.size, 1, none⟩ = some (.string x) ∧ W'.cell? ⟨w.heap.size, 2, none⟩ = some (.int .i64 n) ∧ Fr w0 W')
          (first | exact keepS HTB.out (by assumption) | exact keepS HTB.out hq0 | exact keepS HTB.out hq0')
          ((first | (go_at_call 71; refine (isSign_any _ _).mono ?_; rintro e w1 ⟨rfl, hf1⟩; rw [HP.out]; have hq1 := Fr.trans (by assumption : Fr w0 _) hf1)))
        have hfin := HF0.out.trans hq1
        go_wp2_with fail
        go_ret2
        rw [HR.out]
        exact ⟨rfl, hfin⟩
      · have z0 : (n == 0) = false := by rw [beq_eq_false_iff_ne]; exact hz
        have HR : Hid (r = ⟨x, false⟩) := Lib.hid (by rw [hr, hp]; simp [hz])
        clear hz
        have HP := Lib.hid hp
        have hq0 : Fr w0 w0.drew := (Fr.refl w0).drew
        have hq0' : Fr w0 (w.alloc (.cells #[.int .i64 5, .string x, .int .i64 n, .int .i64 a] 38)).drew := by rw [← hw0]; exact hq0
        clear hr hp hs
        go_enter Tryd.func39, Tryd.ntmps39
        rw [hw0] at t0 t1 t2 t3
        go_wp2_with fail
        rw [← hw0] at t0 t1 t2 t3
        try rw [← hw0]
        go_region_held3 (fun W' => W'.cell? ⟨w.heap.size, 1, none⟩ = some (.string x) ∧ W'.cell? ⟨w.heap.size, 2, none⟩ = some (.int .i64 n) ∧ Fr w0 W')
          (first | exact keepS HTB.out (by assumption) | exact keepS HTB.out hq0 | exact keepS HTB.out hq0')
          ((first | (go_at_call 71; refine (isSign_any _ _).mono ?_; rintro e w1 ⟨rfl, hf1⟩; rw [HP.out]; have hq1 := Fr.trans (by assumption : Fr w0 _) hf1)))
        have hfin := HF0.out.trans hq1
        go_wp2_with fail
        go_ret2
        rw [HR.out]
        exact ⟨rfl, hfin⟩
    | false =>
      have HR : Hid (r = ⟨x, false⟩) := Lib.hid (by rw [hr, hp]; simp)
      have HP := Lib.hid hp
      have hq0 : Fr w0 w0.drew := (Fr.refl w0).drew
      have hq0' : Fr w0 (w.alloc (.cells #[.int .i64 5, .string x, .int .i64 n, .int .i64 a] 38)).drew := by rw [← hw0]; exact hq0
      clear hr hp hs
      go_enter Tryd.func39, Tryd.ntmps39
      rw [hw0] at t0 t1 t2 t3
      go_wp2_with fail
      rw [← hw0] at t0 t1 t2 t3
      try rw [← hw0]
      refine wp_region_held_drew (S := fun W' => W'.cell? ⟨w.heap.size, 1, none⟩ = some (.string x) ∧ W'.cell? ⟨w.heap.size, 2, none⟩ = some (.int .i64 n) ∧ Fr w0 W') (by kernel_rfl) (by first | exact keepS HTB.out hq0 | exact keepS HTB.out hq0') (fun hHeld => ?_)
      refine wpAnyH_take (i := 0) (v := ?_) rfl (by kernel_rfl) (by kernel_rfl) (by kernel_rfl) (fun _ _ _ h => h) (Or.inl ⟨by rfl, ?_⟩) (by assumption) ?_
      rotate_left
      · intro W' hSw
        obtain ⟨s1, s2, s3⟩ := hSw
        go_simp
        try with_reducible rfl
      try simp only [Act.put, List.getElem_toArray, List.getElem_cons_zero, List.getElem_cons_succ, List.setIfInBounds_toArray, List.set_cons_zero, List.set_cons_succ]
      refine wpAnyH_take (i := 1) (v := ?_) rfl (by kernel_rfl) (by kernel_rfl) (by kernel_rfl) (fun _ _ _ h => h) (Or.inl ⟨by rfl, ?_⟩) (by assumption) ?_
      rotate_left
      · intro W' hSw
        obtain ⟨s1, s2, s3⟩ := hSw
        go_simp
        try with_reducible rfl
      try simp only [Act.put, List.getElem_toArray, List.getElem_cons_zero, List.getElem_cons_succ, List.setIfInBounds_toArray, List.set_cons_zero, List.set_cons_succ]
      refine wpAnyH_take (i := 2) (v := ?_) rfl (by kernel_rfl) (by kernel_rfl) (by kernel_rfl) (fun _ _ _ h => h) (Or.inl ⟨by rfl, ?_⟩) (by assumption) ?_
      rotate_left
      · intro W' hSw
        obtain ⟨s1, s2, s3⟩ := hSw
        go_simp
        try with_reducible rfl
      try simp only [Act.put, List.getElem_toArray, List.getElem_cons_zero, List.getElem_cons_succ, List.setIfInBounds_toArray, List.set_cons_zero, List.set_cons_succ]
      refine wpAnyH_take (i := 3) (v := ?_) rfl (by kernel_rfl) (by kernel_rfl) (by kernel_rfl) (fun _ _ _ h => h) (Or.inl ⟨by rfl, ?_⟩) (by assumption) ?_
      rotate_left
      · intro W' hSw
        obtain ⟨s1, s2, s3⟩ := hSw
        go_simp
        try with_reducible rfl
      try simp only [Act.put, List.getElem_toArray, List.getElem_cons_zero, List.getElem_cons_succ, List.setIfInBounds_toArray, List.set_cons_zero, List.set_cons_succ]
      refine wpAnyH_ready (rs := [4]) (by kernel_rfl) (by simp) (AllReadyH.cons rfl (fun K hK => ?_) AllReadyH.nil)
      go_simp
      (go_at_call 71; refine (isSign_any _ _).mono ?_; rintro e w1 ⟨rfl, hf1⟩; rw [HP.out]; have hq1 := Fr.trans (by first | exact hq0 | exact hq0') hf1)
      refine hK.out _ _ (keepS HTB.out hq1) (fun hHeld => ?_)
      clear hK K
      try simp only [Act.put, List.getElem_toArray, List.getElem_cons_zero, List.getElem_cons_succ, List.setIfInBounds_toArray, List.set_cons_zero, List.set_cons_succ]
      refine wpAnyH_take (i := 5) (v := ?_) rfl (by kernel_rfl) (by kernel_rfl) (by kernel_rfl) (fun _ _ _ h => h) (Or.inl ⟨by rfl, ?_⟩) (by assumption) ?_
      rotate_left
      · intro W' hSw
        obtain ⟨s1, s2, s3⟩ := hSw
        go_simp
        try with_reducible rfl
      try simp only [Act.put, List.getElem_toArray, List.getElem_cons_zero, List.getElem_cons_succ, List.setIfInBounds_toArray, List.set_cons_zero, List.set_cons_succ]
      refine wpAnyH_take (i := 6) (v := undef) rfl (by kernel_rfl) (by kernel_rfl) (by kernel_rfl) (fun _ _ _ h => h) (Or.inr ⟨by rfl, rfl⟩) (by assumption) ?_
      try simp only [Act.put, List.getElem_toArray, List.getElem_cons_zero, List.getElem_cons_succ, List.setIfInBounds_toArray, List.set_cons_zero, List.set_cons_succ]
      refine wpAnyH_take (i := 7) (v := undef) rfl (by kernel_rfl) (by kernel_rfl) (by kernel_rfl) (fun _ _ _ h => h) (Or.inr ⟨by rfl, rfl⟩) (by assumption) ?_
      try simp only [Act.put, List.getElem_toArray, List.getElem_cons_zero, List.getElem_cons_succ, List.setIfInBounds_toArray, List.set_cons_zero, List.set_cons_succ]
      refine wpAnyH_take (i := 8) (v := undef) rfl (by kernel_rfl) (by kernel_rfl) (by kernel_rfl) (fun _ _ _ h => h) (Or.inr ⟨by rfl, rfl⟩) (by assumption) ?_
      try simp only [Act.put, List.getElem_toArray, List.getElem_cons_zero, List.getElem_cons_succ, List.setIfInBounds_toArray, List.set_cons_zero, List.set_cons_succ]
      refine wpAnyH_take (i := 9) (v := ?_) rfl (by kernel_rfl) (by kernel_rfl) (by kernel_rfl) (fun _ _ _ h => h) (Or.inl ⟨by rfl, ?_⟩) (by assumption) ?_
      rotate_left
      · intro W' hSw
        obtain ⟨s1, s2, s3⟩ := hSw
        go_simp
        try with_reducible rfl
      try simp only [Act.put, List.getElem_toArray, List.getElem_cons_zero, List.getElem_cons_succ, List.setIfInBounds_toArray, List.set_cons_zero, List.set_cons_succ]
      refine wpAnyH_take (i := 10) (v := ?_) rfl (by kernel_rfl) (by kernel_rfl) (by kernel_rfl) (fun _ _ _ h => h) (Or.inl ⟨by rfl, ?_⟩) (by assumption) ?_
      rotate_left
      · intro W' hSw
        obtain ⟨s1, s2, s3⟩ := hSw
        go_simp
        try with_reducible rfl
      try simp only [Act.put, List.getElem_toArray, List.getElem_cons_zero, List.getElem_cons_succ, List.setIfInBounds_toArray, List.set_cons_zero, List.set_cons_succ]
      refine wpAnyH_take (i := 11) (v := ?_) rfl (by kernel_rfl) (by kernel_rfl) (by kernel_rfl) (fun _ _ _ h => h) (Or.inl ⟨by rfl, ?_⟩) (by assumption) ?_
      rotate_left
      · intro W' hSw
        obtain ⟨s1, s2, s3⟩ := hSw
        go_simp
        try with_reducible rfl
      try simp only [Act.put, List.getElem_toArray, List.getElem_cons_zero, List.getElem_cons_succ, List.setIfInBounds_toArray, List.set_cons_zero, List.set_cons_succ]
      refine wpAnyH_done (by kernel_rfl) ?_ _
      have hfin := HF0.out.trans hq1
      go_wp2_with fail
      go_ret2
      rw [HR.out]
      exact ⟨rfl, hfin⟩
  have n5 : (k == 5) = false := by rw [beq_eq_false_iff_ne]; omega
  by_cases k0 : k = 0
  · subst k0
    have hr : r = ⟨nul, decide (x.size = 0) && decide (n = 0)⟩ := hr
    by_cases hz : x.size = 0
    · have em := emp_yes hz
      by_cases hn0 : n = 0
      · have z0 : (n == 0) = true := by rw [beq_iff_eq]; exact hn0
        have HR : Hid (r = ⟨nul, true⟩) := Lib.hid (by rw [hr]; simp [hz, hn0])
        clear hr hz hs hn0
        go_enter Tryd.func39, Tryd.ntmps39
        rw [hw0] at t0 t1 t2 t3
        go_wp2_with fail
        rw [← hw0] at t0 t1 t2 t3
        try rw [← hw0]
        go_quiet (fail)
        go_wp2_with fail
        go_ret2
        rw [HR.out]
        exact ⟨rfl, HF0.out.drewN _⟩
      · have z0 : (n == 0) = false := by rw [beq_eq_false_iff_ne]; exact hn0
        have HR : Hid (r = ⟨nul, false⟩) := Lib.hid (by rw [hr]; simp [hn0])
        clear hr hz hs hn0
        go_enter Tryd.func39, Tryd.ntmps39
        rw [hw0] at t0 t1 t2 t3
        go_wp2_with fail
        rw [← hw0] at t0 t1 t2 t3
        try rw [← hw0]
        go_quiet (fail)
        go_wp2_with fail
        go_ret2
        rw [HR.out]
        exact ⟨rfl, HF0.out.drewN _⟩
    · have em := emp_no (show 0 < x.size by omega)
      have HR : Hid (r = ⟨nul, false⟩) := Lib.hid (by rw [hr]; simp [hz])
      clear hr hz hs
      go_enter Tryd.func39, Tryd.ntmps39
      rw [hw0] at t0 t1 t2 t3
      go_wp2_with fail
      rw [← hw0] at t0 t1 t2 t3
      try rw [← hw0]
      go_quiet (fail)
      go_wp2_with fail
      go_ret2
      rw [HR.out]
      exact ⟨rfl, HF0.out.drewN _⟩
  have n0 : (k == 0) = false := by rw [beq_eq_false_iff_ne]; omega
  have HR : Hid (r = ⟨nul, false⟩) := Lib.hid (by rw [hr]; unfold wrE wr; simp only; rw [if_neg k0, if_neg k2, if_neg k3, if_neg k1, if_neg k4, if_neg k5])
  clear hr hs
  go_enter Tryd.func39, Tryd.ntmps39
  rw [hw0] at t0 t1 t2 t3
  go_wp2_with fail
  rw [← hw0] at t0 t1 t2 t3
  try rw [← hw0]
  go_ret2
  rw [HR.out]
  exact ⟨rfl, HF0.out⟩
end Go.Proofs.YtkkapgidddfdoaaDoor
