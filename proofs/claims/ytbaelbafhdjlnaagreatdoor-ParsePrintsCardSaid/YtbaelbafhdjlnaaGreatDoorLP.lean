/- A part of the proof that the law ParsePrints holds for every input. -/
import Derived.Test.YtbaelbafhdjlnaaGreatDoorZK
import Derived.Test.YtbaelbafhdjlnaaGreatDoorM9
namespace Go.Proofs.YtbaelbafhdjlnaaGreatDoor
open Go.RowKit _root_.Go.Proofs.Tryz
set_option linter.unusedVariables false
set_option linter.unusedSimpArgs false
set_option maxRecDepth 100000
set_option maxHeartbeats 8000000
theorem pprints_walk (s : ByteArray) (l : List Nd) (v : Value) (t : Nd) (lt : Value) (w : World) (hs : s.size ≤ 140737488351232) (hv : LN w v l) (hw : wfN t) (hlt : LN w lt t.l) (hev : Ev w) (hov : Ov w) (hnv : Nv w) :
 Calls prog 6 #[.agg #[.string s,v],ndV t lt] w fun e w' => e = .returned (.bool true) ∧ Fr w w' := by
 obtain ⟨va,vc,rfl,_,_,_⟩ := hv.form
 obtain ⟨la,lc,rfl,_,_,_⟩ := hlt.form
 obtain ⟨D1,hD1⟩ : ∃ d,d = (hvL l 400 || decide (200 < s.size)) := ⟨_,rfl⟩
 obtain ⟨D2,hD2⟩ : ∃ d,d = hvL [t] 400 := ⟨_,rfl⟩
 have CH := h_ (fun W (h : Fr w W) => heavy_any s l _ W hs (hv.fr h))
 have CT : Hid (∀ W B,Fr w W → B = W.heap.size → Calls prog 21 #[.slice (some ⟨B,0,none⟩) 1 1,.int .i64 400] (W.alloc (.cells #[.int .i64 t.op,.int .i64 t.n,.string t.s,.slice la t.l.length lc,.int .i64 t.a] 32)) fun e w' => e = .returned (.bool D2) ∧ Fr (W.alloc (.cells #[.int .i64 t.op,.int .i64 t.n,.string t.s,.slice la t.l.length lc,.int .i64 t.a] 32)) w') := h_ (fun W B h hB => by
  rw [hD2]
  exact Heavy_any [t] _ 400 _ (by omega) (LN.one hB hw (hlt.fr h)))
 rw [← hD1] at CH
 have CC : Hid (D1 = false → D2 = false → ∃ R1 c1 R2 c2 R3 c3,Prints 26 #[.agg #[.string s,.slice va l.length vc]] w R1 c1 ∧ Prints 27 #[.agg #[.string s,.slice va l.length vc]] w R1 c1 ∧ Prints 28 #[ndV t (.slice la t.l.length lc)] w R2 c2 ∧ Prints 29 #[ndV t (.slice la t.l.length lc)] w R2 c2 ∧ Prints 30 #[ndV t (.slice la t.l.length lc)] w R3 c3 ∧ Prints 31 #[ndV t (.slice la t.l.length lc)] w R3 c3) := h_ (fun h1 h2 => by
  rw [hD1] at h1
  rw [hD2] at h2
  simp only [Bool.or_eq_false_iff,decide_eq_false_iff_not] at h1
  have hbl := hvL_small h1.1
  have hb2 : t.bulk ≤ 2000000 := by have := hvL_small h2; simp [bulks] at this; omega
  obtain ⟨R1,c1,a1,b1⟩ := print_both s l _ w hov hnv hv (by omega) hbl
  obtain ⟨R2,c2,a2,b2⟩ := expr_both t _ w hov hnv hlt hw hb2
  obtain ⟨R3,c3,a3,b3⟩ := cmd_both t _ w hov hnv hlt hw hb2
  exact ⟨R1,c1,R2,c2,R3,c3,a1,b1,a2,b2,a3,b3⟩)
 have CA := h_ (fun W (h : Fr w W) => awake3_any W (hev.fr h) (hov.fr h) (hnv.fr h))
 rw [ndV_eq] at CC ⊢
 obtain ⟨ln,hln⟩ : ∃ y,y = l.length := ⟨_,rfl⟩
 rw [← hln] at CH CC ⊢
 obtain ⟨w0,hw0⟩ : ∃ w0,w0 = (w.alloc (.cells #[.string s,.slice va ln vc] 24)).alloc (.cells #[.int .i64 t.op,.int .i64 t.n,.string t.s,.slice la t.l.length lc,.int .i64 t.a] 32) := ⟨_,rfl⟩
 have HF0 : Hid (Fr w w0) := h_ (by rw [hw0]; exact ((Fr.refl w).alloc _).alloc _)
 have HB0 : Hid (SecB w0 w.heap.size (.string s) (.slice va ln vc)) := h_ (by rw [hw0]; exact (SecB.new w _ _).al _)
 have HN0 : Hid (Nb w0 (w.heap.size + 1) (.int .i64 t.op) (.int .i64 t.n) (.string t.s) (.slice la t.l.length lc) (.int .i64 t.a)) := h_ (by rw [hw0]; have h := Nb.new (w.alloc (.cells #[.string s,.slice va ln vc] 24)) (.int .i64 t.op) (.int .i64 t.n) (.string t.s) (.slice la t.l.length lc) (.int .i64 t.a); simpa using h)
 have HW0 := h_ hw0
 obtain ⟨s0,s1⟩ := HB0.out.cells
 rw [hw0] at s0 s1
 clear hs hv hw hlt hev hov hnv hD1 hD2 hln hw0
 cases D1 with
 | true =>
  go_enter func6,ntmps6
  go_wp2_with fail
  try rw [← HW0.out]
  refine (CH.out _ HF0.out).mono ?_
  rintro e w1 ⟨rfl,hf1⟩
  have HF1 := h_ (HF0.out.trans hf1)
  clear hf1
  go_wp2_with fail
  first | go_ret | skip
  exact ⟨rfl,HF1.out⟩
 | false =>
  go_enter func6,ntmps6
  go_wp2_with fail
  try rw [← HW0.out]
  refine (CH.out _ HF0.out).mono ?_
  rintro e w1 ⟨rfl,hf1⟩
  have HF1 := h_ (HF0.out.trans hf1)
  obtain ⟨t0,t1⟩ := (HB0.out.fr hf1).cells
  obtain ⟨c0,c1,c2,c3,c4⟩ := (HN0.out.fr hf1).cells
  have HB1 := h_ (HB0.out.fr hf1)
  have HN1 := h_ (HN0.out.fr hf1)
  clear hf1
  go_wp2_with fail
  refine (CT.out _ _ HF1.out (by simp)).mono ?_
  rintro e w2 ⟨rfl,hf2⟩
  have HF2 : Hid (Fr w w2) := h_ ((HF1.out.alloc _).trans hf2)
  have HB2 := h_ ((HB1.out.al _).fr hf2)
  have HN2 := h_ ((HN1.out.fr ((Fr.refl w1).alloc _)).fr hf2)
  clear hf2 s0 s1 t0 t1 c0 c1 c2 c3 c4
  cases D2 with
  | true =>
   go_wp2_with fail
   first | go_ret | skip
   exact ⟨rfl,HF2.out⟩
  | false =>
   obtain ⟨R1,k1,R2,k2,R3,k3,a1,b1,a2,b2,a3,b3⟩ := CC.out (by first | rfl | trivial) (by first | rfl | trivial)
   have A1 := h_ a1
   have B1 := h_ b1
   have A2 := h_ a2
   have B2 := h_ b2
   have A3 := h_ a3
   have B3 := h_ b3
   have e1 : (R1.toList == R1.toList) = true := s_yes rfl
   have e2 : (R2.toList == R2.toList) = true := s_yes rfl
   have e3 : (R3.toList == R3.toList) = true := s_yes rfl
   have f1 : (k1 != k1) = false := by simp
   have f2 : (k2 != k2) = false := by simp
   have f3 : (k3 == k3) = true := by simp
   clear a1 b1 a2 b2 a3 b3
   obtain ⟨t0,t1⟩ := HB2.out.cells
   go_wp2_with fail
   refine (A1.out _ HF2.out).mono ?_
   rintro e w3 ⟨rfl,hf3⟩
   have HF3 : Hid (Fr w w3) := h_ (HF2.out.trans hf3)
   have HB3 := h_ (HB2.out.fr hf3)
   have HN3 := h_ (HN2.out.fr hf3)
   clear hf3
   try clear t0 t1
   try clear c0 c1 c2 c3 c4
   obtain ⟨t0,t1⟩ := HB3.out.cells
   go_wp2_with fail
   refine (B1.out _ HF3.out).mono ?_
   rintro e w4 ⟨rfl,hf4⟩
   have HF4 : Hid (Fr w w4) := h_ (HF3.out.trans hf4)
   have HB4 := h_ (HB3.out.fr hf4)
   have HN4 := h_ (HN3.out.fr hf4)
   clear hf4
   try clear t0 t1
   try clear c0 c1 c2 c3 c4
   obtain ⟨c0,c1,c2,c3,c4⟩ := HN4.out.cells
   go_wp2_with fail
   refine (A2.out _ HF4.out).mono ?_
   rintro e w5 ⟨rfl,hf5⟩
   have HF5 : Hid (Fr w w5) := h_ (HF4.out.trans hf5)
   have HB5 := h_ (HB4.out.fr hf5)
   have HN5 := h_ (HN4.out.fr hf5)
   clear hf5
   try clear t0 t1
   try clear c0 c1 c2 c3 c4
   obtain ⟨c0,c1,c2,c3,c4⟩ := HN5.out.cells
   go_wp2_with fail
   refine (B2.out _ HF5.out).mono ?_
   rintro e w6 ⟨rfl,hf6⟩
   have HF6 : Hid (Fr w w6) := h_ (HF5.out.trans hf6)
   have HB6 := h_ (HB5.out.fr hf6)
   have HN6 := h_ (HN5.out.fr hf6)
   clear hf6
   try clear t0 t1
   try clear c0 c1 c2 c3 c4
   obtain ⟨c0,c1,c2,c3,c4⟩ := HN6.out.cells
   go_wp2_with fail
   refine (A3.out _ HF6.out).mono ?_
   rintro e w7 ⟨rfl,hf7⟩
   have HF7 : Hid (Fr w w7) := h_ (HF6.out.trans hf7)
   have HB7 := h_ (HB6.out.fr hf7)
   have HN7 := h_ (HN6.out.fr hf7)
   clear hf7
   try clear t0 t1
   try clear c0 c1 c2 c3 c4
   obtain ⟨c0,c1,c2,c3,c4⟩ := HN7.out.cells
   go_wp2_with fail
   refine (B3.out _ HF7.out).mono ?_
   rintro e w8 ⟨rfl,hf8⟩
   have HF8 : Hid (Fr w w8) := h_ (HF7.out.trans hf8)
   have HB8 := h_ (HB7.out.fr hf8)
   have HN8 := h_ (HN7.out.fr hf8)
   clear hf8
   try clear t0 t1
   try clear c0 c1 c2 c3 c4
   go_wp2_with fail
   refine (CA.out _ HF8.out).mono ?_
   rintro e wx ⟨rfl,hfx⟩
   have HFX : Hid (Fr w wx) := h_ (HF8.out.trans hfx)
   clear hfx
   go_wp2_with fail
   first | go_ret | skip
   exact ⟨rfl,HFX.out⟩
end Go.Proofs.YtbaelbafhdjlnaaGreatDoor
