/- The document's own scanner: the token at a place. -/
import Derived.Test.YtkkapgidddfdoaaDoorRM
import Derived.Test.YtkkapgidddfdoaaDoorRS
import Derived.Test.YtkkapgidddfdoaaDoorRT
namespace Go.Proofs.YtkkapgidddfdoaaDoor
open Go.RowKit
set_option linter.unusedVariables false

theorem rtok_form (T : Tk) (a : Nat) : ∃ x y : Nat, rtok T a = .tuple #[.agg #[.int .i64 T.k, .string T.t, .int .i64 T.n, .int .i64 x], .int .i64 y, .int .i64 T.er] := ⟨_, _, rfl⟩
theorem hex_none {s : ByteArray} {a : Nat} (h : a + 1 < s.size → hexc (bt s (a + 1)) = false) : hexT s a = bad 20 := by
  unfold hexT
  rw [if_pos]
  by_cases h1 : a + 1 < s.size
  · exact run_out (h h1)
  · exact run_end (by omega)
theorem hex_some {s : ByteArray} {a : Nat} (h1 : a + 1 < s.size) (h2 : hexc (bt s (a + 1)) = true) : hexT s a = if 4294967295 < val 16 s (a + 1) (run hexc s (a + 1) - (a + 1)) then bad 22 else ⟨2, nul, sg (val 16 s (a + 1) (run hexc s (a + 1) - (a + 1))), run hexc s (a + 1), 0⟩ := by
  have hr : a + 1 < run hexc s (a + 1) := by
    rw [run_inside h1 h2]
    have := run_ge hexc s (a + 1 + 1); omega
  unfold hexT
  rw [if_neg (by omega)]
set_option maxRecDepth 100000 in
set_option maxHeartbeats 4000000 in
theorem Rnext_any (s : ByteArray) (hs : s.size ≤ 1000000) (a : Nat) (ha : a < s.size) (w : World) :
    Calls Tryd.prog 31 #[.string s, .int .i64 a] w fun e w' => e = .returned (rtok (tokAt s a) a) ∧ Fr w w' := by
  obtain ⟨w0, hw0⟩ : ∃ w0, w0 = w.alloc (.cells #[.int .i64 0, .string ⟨#[]⟩, .int .i64 0, .int .i64 0] 38) := ⟨_, rfl⟩
  have hf0 : Fr w w0 := by rw [hw0]; exact (Fr.refl w).alloc _
  have HT0 := Lib.hid (show Tb w0 w.heap.size (.int .i64 0) (.string ⟨#[]⟩) (.int .i64 0) (.int .i64 0) by rw [hw0]; exact Tb.new w (.int .i64 0) (.string ⟨#[]⟩) (.int .i64 0) (.int .i64 0))
  have HW0 := Lib.hid hw0
  have hb := bt_at s a ha
  have hbl := bt_lt s a
  have HTOK : Hid (tokAt s a = if small (bt s a) = true then wordT s a else if digit (bt s a) = true then numT s a else if bt s a = 35 then hexT s a
    else if bt s a = 39 then chrT s a else if bt s a = 34 then strT s a else sgnT s a) := Lib.hid rfl
  obtain ⟨c, hc⟩ : ∃ c, c = bt s a := ⟨_, rfl⟩
  rw [← hc] at hb hbl HTOK
  clear hw0 hc
  by_cases h1 : small c = true
  · have HS := Lib.hid h1
    obtain ⟨T, hT⟩ : ∃ T, T = wordT s a := ⟨_, rfl⟩
    have HTT : Hid (tokAt s a = T) := Lib.hid (by rw [hT, HTOK.out, if_pos HS.out])
    have hcall := Rword_any s hs a ha
    rw [← hT] at hcall
    clear HTOK hT h1
    go_enter Tryd.func31, Tryd.ntmps31
    go_wp2_with ((go_at_call 55; refine (RisSmall_any c _).mono ?_; rintro e w' ⟨rfl, rfl⟩; rw [HS.out]))
    try rw [← HW0.out]
    refine (hcall _).mono ?_
    rintro e w1 ⟨rfl, hf1⟩
    have HT1 := Lib.hid (HT0.out.fr hf1)
    have hfin := hf0.trans hf1
    obtain ⟨x, y, hxy⟩ := rtok_form T a
    rw [hxy]
    have HXY := Lib.hid hxy
    obtain ⟨t0, t1, t2, t3⟩ := HT1.out.cells
    have z0 := HT1.out.free 0
    have z1 := HT1.out.free 1
    have z2 := HT1.out.free 2
    have z3 := HT1.out.free 3
    clear hxy
    go_wp2_with fail
    exact bodyPost_ret (v := .tuple #[.agg #[.int .i64 T.k, .string T.t, .int .i64 T.n, .int .i64 x], .int .i64 y, .int .i64 T.er]) (by simp [results, Tryd.results31, go_sem, t0, t1, t2, t3]) rfl ⟨by rw [HTT.out, HXY.out], tok_fr5 hfin _ _ _ _⟩
  have HS := Lib.hid (show small c = false by simpa using h1)
  by_cases h2 : digit c = true
  · have HD := Lib.hid h2
    obtain ⟨T, hT⟩ : ∃ T, T = numT s a := ⟨_, rfl⟩
    have HTT : Hid (tokAt s a = T) := Lib.hid (by rw [hT, HTOK.out, if_neg h1, if_pos HD.out])
    have hcall := fun w => Rnumber10_any s hs a a ha (by omega) (numT s a) rfl w
    rw [← hT] at hcall
    clear HTOK hT h1 h2
    go_enter Tryd.func31, Tryd.ntmps31
    go_wp2_with (first | (go_at_call 55; refine (RisSmall_any c _).mono ?_; rintro e w' ⟨rfl, rfl⟩; rw [HS.out]) | (go_at_call 57; refine (RisDigit_any c _).mono ?_; rintro e w' ⟨rfl, rfl⟩; rw [HD.out]))
    try rw [← HW0.out]
    refine (hcall _).mono ?_
    rintro e w1 ⟨rfl, hf1⟩
    have HT1 := Lib.hid (HT0.out.fr hf1)
    have hfin := hf0.trans hf1
    obtain ⟨x, y, hxy⟩ := rtok_form T a
    rw [hxy]
    have HXY := Lib.hid hxy
    obtain ⟨t0, t1, t2, t3⟩ := HT1.out.cells
    have z0 := HT1.out.free 0
    have z1 := HT1.out.free 1
    have z2 := HT1.out.free 2
    have z3 := HT1.out.free 3
    clear hxy
    go_wp2_with fail
    exact bodyPost_ret (v := .tuple #[.agg #[.int .i64 T.k, .string T.t, .int .i64 T.n, .int .i64 x], .int .i64 y, .int .i64 T.er]) (by simp [results, Tryd.results31, go_sem, t0, t1, t2, t3]) rfl ⟨by rw [HTT.out, HXY.out], tok_fr5 hfin _ _ _ _⟩
  have HD := Lib.hid (show digit c = false by simpa using h2)
  by_cases h35 : c = 35
  · subst h35
    by_cases h3 : a + 1 < s.size ∧ hexc (bt s (a + 1)) = true
    · obtain ⟨h4, h5⟩ := h3
      have hb2 := bt_at s (a + 1) h4
      have hbl2 := bt_lt s (a + 1)
      have hn := (nib_hex h5).1
      have hnb := Rnibble_any (bt s (a + 1)) hbl2
      have d1 : decide ((s.size : Int) ≤ (a : Int) + 1) = false := decide_eq_false (by omega)
      have hx := hex_some h4 h5
      have hcst : ((a + 1 : Nat) : Int) = (a : Int) + 1 := by omega
      have hcall : ∀ w, Calls Tryd.prog 58 #[.string s, .int .i64 a, .int .i64 ((a : Int) + 1), .int .i64 16, .int .i64 4294967295] w fun e w' => e = .returned (rtok (hexT s a) a) ∧ Fr w w' := fun w => by
        rw [← hcst]; exact Rnumber16_any s hs a (a + 1) ha (by omega) (hexT s a) hx w
      obtain ⟨T, hT⟩ : ∃ T, T = hexT s a := ⟨_, rfl⟩
      have HTT : Hid (tokAt s a = T) := Lib.hid (by rw [hT, HTOK.out, if_neg h1, if_neg h2, if_pos rfl])
      rw [← hT] at hcall
      obtain ⟨c2, hc2⟩ : ∃ c, c = bt s (a + 1) := ⟨_, rfl⟩
      rw [← hc2] at hb2 hbl2 hn hnb
      obtain ⟨d, hd⟩ : ∃ d : Nat, nib c2 = (d : Int) := ⟨_, hn⟩
      rw [hd] at hnb
      have d2 : decide ((d : Int) < 0) = false := decide_eq_false (by omega)
      clear HTOK hT h1 h2 hx hn hd hc2 h5 hcst
      go_enter Tryd.func31, Tryd.ntmps31
      go_wp2_with (first | (go_at_call 55; refine (RisSmall_any 35 _).mono ?_; rintro e w' ⟨rfl, rfl⟩; rw [HS.out]) | (go_at_call 57; refine (RisDigit_any 35 _).mono ?_; rintro e w' ⟨rfl, rfl⟩; rw [HD.out]) | (go_at_call 59; refine (hnb _).mono ?_; rintro e w' ⟨rfl, rfl⟩))
      try rw [← HW0.out]
      refine (hcall _).mono ?_
      rintro e w1 ⟨rfl, hf1⟩
      have HT1 := Lib.hid (HT0.out.fr hf1)
      have hfin := hf0.trans hf1
      obtain ⟨x, y, hxy⟩ := rtok_form T a
      rw [hxy]
      have HXY := Lib.hid hxy
      obtain ⟨t0, t1, t2, t3⟩ := HT1.out.cells
      have z0 := HT1.out.free 0
      have z1 := HT1.out.free 1
      have z2 := HT1.out.free 2
      have z3 := HT1.out.free 3
      clear hxy
      go_wp2_with fail
      exact bodyPost_ret (v := .tuple #[.agg #[.int .i64 T.k, .string T.t, .int .i64 T.n, .int .i64 x], .int .i64 y, .int .i64 T.er]) (by simp [results, Tryd.results31, go_sem, t0, t1, t2, t3]) rfl ⟨by rw [HTT.out, HXY.out], tok_fr5 hfin _ _ _ _⟩
    · have HTT : Hid (tokAt s a = bad 20) := Lib.hid (by rw [HTOK.out, if_neg h1, if_neg h2, if_pos rfl]; exact hex_none (fun h => by cases hh : hexc (bt s (a + 1)) with | false => rfl | true => exact absurd ⟨h, hh⟩ h3))
      by_cases h4 : a + 1 < s.size
      · have hb2 := bt_at s (a + 1) h4
        have hbl2 := bt_lt s (a + 1)
        have hno : hexc (bt s (a + 1)) = false := by cases hh : hexc (bt s (a + 1)) with | false => rfl | true => exact absurd ⟨h4, hh⟩ h3
        have hn := nib_nohex hno
        have hnb := Rnibble_any (bt s (a + 1)) hbl2
        have d1 : decide ((s.size : Int) ≤ (a : Int) + 1) = false := decide_eq_false (by omega)
        rw [hn] at hnb
        obtain ⟨c2, hc2⟩ : ∃ c, c = bt s (a + 1) := ⟨_, rfl⟩
        rw [← hc2] at hb2 hbl2 hnb
        clear HTOK h1 h2 hn hc2 hno h3
        obtain ⟨t0, t1, t2, t3⟩ := HT0.out.cells
        have z0 := HT0.out.free 0
        have z1 := HT0.out.free 1
        have z2 := HT0.out.free 2
        have z3 := HT0.out.free 3
        go_enter Tryd.func31, Tryd.ntmps31
        rw [HW0.out] at t0 t1 t2 t3 z0 z1 z2 z3
        go_wp2_with (first | (go_at_call 55; refine (RisSmall_any 35 _).mono ?_; rintro e w' ⟨rfl, rfl⟩; rw [HS.out]) | (go_at_call 57; refine (RisDigit_any 35 _).mono ?_; rintro e w' ⟨rfl, rfl⟩; rw [HD.out]) | (go_at_call 59; refine (hnb _).mono ?_; rintro e w' ⟨rfl, rfl⟩))
        rw [← HW0.out] at t0 t1 t2 t3 z0 z1 z2 z3
        try rw [← HW0.out]
        exact bodyPost_ret (v := .tuple #[.agg #[.int .i64 0, .string ⟨#[]⟩, .int .i64 0, .int .i64 0], .int .i64 a, .int .i64 20]) (by simp [results, Tryd.results31, go_sem, t0, t1, t2, t3]) rfl ⟨by rw [HTT.out]; rfl, by first | exact hf0 | exact tok_fr5 hf0 _ _ _ _⟩
      · have d1 : decide ((s.size : Int) ≤ (a : Int) + 1) = true := decide_eq_true (by omega)
        clear HTOK h1 h2 h3
        obtain ⟨t0, t1, t2, t3⟩ := HT0.out.cells
        have z0 := HT0.out.free 0
        have z1 := HT0.out.free 1
        have z2 := HT0.out.free 2
        have z3 := HT0.out.free 3
        go_enter Tryd.func31, Tryd.ntmps31
        rw [HW0.out] at t0 t1 t2 t3 z0 z1 z2 z3
        go_wp2_with (first | (go_at_call 55; refine (RisSmall_any 35 _).mono ?_; rintro e w' ⟨rfl, rfl⟩; rw [HS.out]) | (go_at_call 57; refine (RisDigit_any 35 _).mono ?_; rintro e w' ⟨rfl, rfl⟩; rw [HD.out]))
        rw [← HW0.out] at t0 t1 t2 t3 z0 z1 z2 z3
        try rw [← HW0.out]
        exact bodyPost_ret (v := .tuple #[.agg #[.int .i64 0, .string ⟨#[]⟩, .int .i64 0, .int .i64 0], .int .i64 a, .int .i64 20]) (by simp [results, Tryd.results31, go_sem, t0, t1, t2, t3]) rfl ⟨by rw [HTT.out]; rfl, by first | exact hf0 | exact tok_fr5 hf0 _ _ _ _⟩
  have n35 : ((c : Int) == 35) = false := by rw [beq_eq_false_iff_ne]; omega
  by_cases h34 : c = 34
  · subst h34
    obtain ⟨T, hT⟩ : ∃ T, T = strT s a := ⟨_, rfl⟩
    have HTT : Hid (tokAt s a = T) := Lib.hid (by rw [hT, HTOK.out, if_neg h1, if_neg h2, if_neg h35, if_neg (by decide), if_pos rfl])
    have hcall := Rtext_any s hs a ha
    rw [← hT] at hcall
    clear HTOK hT h1 h2
    go_enter Tryd.func31, Tryd.ntmps31
    go_wp2_with (first | (go_at_call 55; refine (RisSmall_any 34 _).mono ?_; rintro e w' ⟨rfl, rfl⟩; rw [HS.out]) | (go_at_call 57; refine (RisDigit_any 34 _).mono ?_; rintro e w' ⟨rfl, rfl⟩; rw [HD.out]))
    try rw [← HW0.out]
    refine (hcall _).mono ?_
    rintro e w1 ⟨rfl, hf1⟩
    have HT1 := Lib.hid (HT0.out.fr hf1)
    have hfin := hf0.trans hf1
    obtain ⟨x, y, hxy⟩ := rtok_form T a
    rw [hxy]
    have HXY := Lib.hid hxy
    obtain ⟨t0, t1, t2, t3⟩ := HT1.out.cells
    have z0 := HT1.out.free 0
    have z1 := HT1.out.free 1
    have z2 := HT1.out.free 2
    have z3 := HT1.out.free 3
    clear hxy
    go_wp2_with fail
    exact bodyPost_ret (v := .tuple #[.agg #[.int .i64 T.k, .string T.t, .int .i64 T.n, .int .i64 x], .int .i64 y, .int .i64 T.er]) (by simp [results, Tryd.results31, go_sem, t0, t1, t2, t3]) rfl ⟨by rw [HTT.out, HXY.out], tok_fr5 hfin _ _ _ _⟩
  have n34 : ((c : Int) == 34) = false := by rw [beq_eq_false_iff_ne]; omega
  by_cases h39 : c = 39
  · subst h39
    obtain ⟨T, hT⟩ : ∃ T, T = chrT s a := ⟨_, rfl⟩
    have HTT : Hid (tokAt s a = T) := Lib.hid (by rw [hT, HTOK.out, if_neg h1, if_neg h2, if_neg h35, if_pos rfl])
    have hcall := Rchar_any s hs a ha
    rw [← hT] at hcall
    clear HTOK hT h1 h2
    go_enter Tryd.func31, Tryd.ntmps31
    go_wp2_with (first | (go_at_call 55; refine (RisSmall_any 39 _).mono ?_; rintro e w' ⟨rfl, rfl⟩; rw [HS.out]) | (go_at_call 57; refine (RisDigit_any 39 _).mono ?_; rintro e w' ⟨rfl, rfl⟩; rw [HD.out]))
    try rw [← HW0.out]
    refine (hcall _).mono ?_
    rintro e w1 ⟨rfl, hf1⟩
    have HT1 := Lib.hid (HT0.out.fr hf1)
    have hfin := hf0.trans hf1
    obtain ⟨x, y, hxy⟩ := rtok_form T a
    rw [hxy]
    have HXY := Lib.hid hxy
    obtain ⟨t0, t1, t2, t3⟩ := HT1.out.cells
    have z0 := HT1.out.free 0
    have z1 := HT1.out.free 1
    have z2 := HT1.out.free 2
    have z3 := HT1.out.free 3
    clear hxy
    go_wp2_with fail
    exact bodyPost_ret (v := .tuple #[.agg #[.int .i64 T.k, .string T.t, .int .i64 T.n, .int .i64 x], .int .i64 y, .int .i64 T.er]) (by simp [results, Tryd.results31, go_sem, t0, t1, t2, t3]) rfl ⟨by rw [HTT.out, HXY.out], tok_fr5 hfin _ _ _ _⟩
  have n39 : ((c : Int) == 39) = false := by rw [beq_eq_false_iff_ne]; omega
  obtain ⟨T, hT⟩ : ∃ T, T = sgnT s a := ⟨_, rfl⟩
  have HTT : Hid (tokAt s a = T) := Lib.hid (by rw [hT, HTOK.out, if_neg h1, if_neg h2, if_neg h35, if_neg h39, if_neg h34])
  have hcall := Rsign_any s hs a ha
  rw [← hT] at hcall
  clear HTOK hT h1 h2 h35 h39 h34
  go_enter Tryd.func31, Tryd.ntmps31
  go_wp2_with (first | (go_at_call 55; refine (RisSmall_any c _).mono ?_; rintro e w' ⟨rfl, rfl⟩; rw [HS.out]) | (go_at_call 57; refine (RisDigit_any c _).mono ?_; rintro e w' ⟨rfl, rfl⟩; rw [HD.out]))
  try rw [← HW0.out]
  refine (hcall _).mono ?_
  rintro e w1 ⟨rfl, hf1⟩
  have HT1 := Lib.hid (HT0.out.fr hf1)
  have hfin := hf0.trans hf1
  obtain ⟨x, y, hxy⟩ := rtok_form T a
  rw [hxy]
  have HXY := Lib.hid hxy
  obtain ⟨t0, t1, t2, t3⟩ := HT1.out.cells
  have z0 := HT1.out.free 0
  have z1 := HT1.out.free 1
  have z2 := HT1.out.free 2
  have z3 := HT1.out.free 3
  clear hxy
  go_wp2_with fail
  exact bodyPost_ret (v := .tuple #[.agg #[.int .i64 T.k, .string T.t, .int .i64 T.n, .int .i64 x], .int .i64 y, .int .i64 T.er]) (by simp [results, Tryd.results31, go_sem, t0, t1, t2, t3]) rfl ⟨by rw [HTT.out, HXY.out], tok_fr5 hfin _ _ _ _⟩
end Go.Proofs.YtkkapgidddfdoaaDoor
