/- The small code's machine: its call and its return. -/
import Derived.Test.YtdnckbcknahakaaGreatSG
namespace Go.Proofs.YtdnckbcknahakaaGreat
open Go.RowKit
set_option linter.unusedVariables false
set_option linter.unusedSimpArgs false

set_option maxRecDepth 100000 in
set_option maxHeartbeats 4000000 in
theorem call_d (L : Lay) (F D n : Nat) (pl st : Int) (en : Bool) (f fc fb : Nat → Value) (w : World) (k : LayOk L) (s : Sta w L) (h : Dyn w L (mkS L (F : Int) ((D : Int) + 1) pl (.pointer none) (.slice none 0 0) st en) f fc fb) (t a c : Nat) (ht : F + D = t) (htl : t < 32000) (htv : f t = .int .i64 32503) (ha : F + n = a) (hcc : F + n + 2 = c) (hl : c < 32000) (hv : f c = .int .i64 65) :
    Calls Tryz.prog 131 #[.pointer (some ⟨L.b, 0, none⟩), .int .i64 (n : Int)] w fun e w' => e = .returned (.int .i64 0) ∧ (∃ ob, Dyn w' L (mkS L (F : Int) ((n : Int) + 1) pl (.pointer (some ⟨L.b, 11, none⟩)) ob st en) (upd f a (.int .i64 0)) fc fb ∧ w'.ownsRow w.heap.size 5 1 ob 1 [.int .u8 65]) ∧ Ex (Kd L) w w' := by
  have CP := Lib.hid (pop_d L F D pl (.pointer none) (.slice none 0 0) st en f fc fb w k h t ht htl)
  rw [htv] at CP
  have K := Lib.hid k
  have HS := Lib.hid s
  have CN := Lib.hid (fun W (x : Ex (Kd L) w W) => proc_no L.pb L.eb 2 2 L.qb 2 L.rc _ _ _ _ 503 W (s.ex k x).p (by omega) (by omega) (by omega))
  rw [show ((32000 + 503 : Nat) : Int) = 32503 from rfl] at CN
  have CS := Lib.hid (fun W (hd : Dyn W L (mkS L (F : Int) (D : Int) pl (.pointer none) (.slice none 0 0) st en) f fc fb) => serve_d L F D n pl st en f fc fb W k hd a c ha hcc hl hv)
  have HSZ := Lib.hid h.m.lt
  clear h s k ht htl htv ha hcc hl hv
  go_enter Tryz.func131, Tryz.ntmps131
  go_wp2_with fail
  refine (CP.out).mono ?_
  rintro e w1 ⟨rfl, hd1, hx1⟩
  have HD1 := Lib.hid hd1
  have HX1 := Lib.hid hx1
  obtain ⟨k0, k1, k2, k3, k4, k5, k6, k7⟩ := hd1.m.cells
  simp only [mkS] at k0 k1 k2 k3 k4 k5 k6 k7
  clear hd1 hx1
  go_wp2_with fail
  refine (CN.out w1 HX1.out).mono ?_
  rintro e w2 ⟨rfl, m, hw2⟩
  have HF2 : Hid (Fr w1 w2) := Lib.hid (by rw [hw2]; exact (Fr.refl w1).drewN m)
  have HX2 := Lib.hid (HX1.out.fr HF2.out)
  have HD2 := Lib.hid (HD1.out.fr HF2.out)
  have HS2 := Lib.hid (HS.out.ex K.out HX2.out)
  clear hw2 k0 k1 k2 k3 k4 k5 k6 k7
  obtain ⟨k0, k1, k2, k3, k4, k5, k6, k7⟩ := HD2.out.m.cells
  simp only [mkS] at k0 k1 k2 k3 k4 k5 k6 k7
  have g2 : w2.cell? ⟨L.gb, 2, none⟩ = some (.int .i64 1) := HS2.out.g.cell rfl
  have g3 : w2.cell? ⟨L.gb, 3, none⟩ = some (.func (.func 54) #[] #[]) := HS2.out.g.cell rfl
  go_wp2_with fail
  refine (CS.out w2 HD2.out).mono ?_
  rintro e w3 ⟨rfl, ⟨ob, hd3, ho3⟩, hx3⟩
  have HD3 := Lib.hid hd3
  have HO3 := Lib.hid (own_base8 ho3 HX2.out.size)
  have HX3 := Lib.hid (HX2.out.trans hx3)
  clear hd3 ho3 hx3 g2 g3 k0 k1 k2 k3 k4 k5 k6 k7
  go_wp2_with fail
  go_ret
  exact ⟨rfl, ⟨ob, HD3.out, HO3.out⟩, HX3.out⟩
set_option maxRecDepth 100000 in
set_option maxHeartbeats 4000000 in
theorem link_d (L : Lay) (D pl : Int) (oa ob : Value) (st : Int) (en : Bool) (f fc fb : Nat → Value) (w : World) (k : LayOk L) (s : Sta w L) (h : Dyn w L (mkS L 8000 D pl oa ob st en) f fc fb) (h0 : f 8000 = .int .i64 8000) (h1 : f 8001 = .int .i64 (-1)) :
    Calls Tryz.prog 35 #[.pointer (some ⟨L.b, 0, none⟩), .int .i64 8000, .pointer (some ⟨L.rb, 0, none⟩)] w fun e w' => e = .returned (.tuple #[.agg #[.int .i64 0, .int .i64 0, .int .i64 0], .bool true, .bool true]) ∧ Fr w w' := by
  obtain ⟨w0, hw0⟩ : ∃ y, y = w.alloc (.cells #[.int .i64 0, .int .i64 0, .int .i64 0] 64) := ⟨_, rfl⟩
  have HF0 : Hid (Fr w w0) := Lib.hid (by rw [hw0]; exact (Fr.refl w).alloc _)
  have HP0 : Hid (Blk w0 w.heap.size 64 #[.int .i64 0, .int .i64 0, .int .i64 0]) := Lib.hid (by rw [hw0]; exact Blk.new _ _ _)
  have HD := Lib.hid (h.fr HF0.out)
  have HS := Lib.hid (s.fr HF0.out)
  have HW0 := Lib.hid hw0
  have HH := Lib.hid (And.intro h0 h1)
  obtain ⟨k0, k1, k2, k3, k4, k5, k6, k7⟩ := (HD.out).m.cells
  simp only [mkS] at k0 k1 k2 k3 k4 k5 k6 k7
  have c0 := HD.out.f.cell (show 8000 < 32000 by omega)
  have c1 := HD.out.f.cell (show 8001 < 32000 by omega)
  rw [h0] at c0
  rw [h1] at c1
  have r1 : w0.cell? ⟨L.rb, 1, none⟩ = some (.int .i64 8000) := HS.out.r.cell rfl
  clear h s k h0 h1 hw0
  go_enter Tryz.func35, Tryz.ntmps35
  go_wp2_with fail
  rw [← HW0.out]
  go_quiet (fail)
  rename_i nq
  have HFQ : Hid (Fr w (w0.drewN nq)) := Lib.hid (HF0.out.drewN nq)
  have HPQ := Lib.hid (HP0.out.fr ((Fr.refl w0).drewN nq))
  have HSQ := Lib.hid (HS.out.fr ((Fr.refl w0).drewN nq))
  obtain ⟨wq, hwq⟩ : ∃ y, y = w0.drewN nq := ⟨_, rfl⟩
  rw [← hwq] at HFQ HPQ HSQ ⊢
  clear hwq k0 k1 k2 k3 k4 k5 k6 k7 c0 c1 r1
  have r1 : wq.cell? ⟨L.rb, 1, none⟩ = some (.int .i64 8000) := HSQ.out.r.cell rfl
  have p0 : wq.cell? ⟨w.heap.size, 0, none⟩ = some (.int .i64 0) := HPQ.out.cell rfl
  have p1 : wq.cell? ⟨w.heap.size, 1, none⟩ = some (.int .i64 0) := HPQ.out.cell rfl
  have p2 : wq.cell? ⟨w.heap.size, 2, none⟩ = some (.int .i64 0) := HPQ.out.cell rfl
  have q0 := HPQ.out.free 0
  have q1 := HPQ.out.free 1
  have q2 := HPQ.out.free 2
  go_wp2_with fail
  have HPZ := Lib.hid (((HPQ.out.set 0 (.int .i64 0) rfl).set 1 (.int .i64 0) rfl).set 2 (.int .i64 0) rfl)
  have HFZ : Hid (Fr w _) := Lib.hid (((HFQ.out.setCell (p := ⟨w.heap.size, 0, none⟩) (Nat.le_refl _) (.int .i64 0)).setCell (p := ⟨w.heap.size, 1, none⟩) (Nat.le_refl _) (.int .i64 0)).setCell (p := ⟨w.heap.size, 2, none⟩) (Nat.le_refl _) (.int .i64 0))
  obtain ⟨wz, hwz⟩ : ∃ y, y = ((wq.setCell ⟨w.heap.size, 0, none⟩ (.int .i64 0)).setCell ⟨w.heap.size, 1, none⟩ (.int .i64 0)).setCell ⟨w.heap.size, 2, none⟩ (.int .i64 0) := ⟨_, rfl⟩
  rw [← hwz] at HPZ HFZ ⊢
  clear hwz p0 p1 p2 q0 q1 q2 r1
  have t0 : wz.cell? ⟨w.heap.size, 0, none⟩ = some (.int .i64 0) := HPZ.out.cell rfl
  have t1 : wz.cell? ⟨w.heap.size, 1, none⟩ = some (.int .i64 0) := HPZ.out.cell rfl
  have t2 : wz.cell? ⟨w.heap.size, 2, none⟩ = some (.int .i64 0) := HPZ.out.cell rfl
  exact bodyPost_ret (v := .tuple #[.agg #[.int .i64 0, .int .i64 0, .int .i64 0], .bool true, .bool true]) (by simp [results, Tryz.results35, go_sem, t0, t1, t2]) rfl ⟨rfl, HFZ.out⟩
set_option maxRecDepth 100000 in
set_option maxHeartbeats 4000000 in
theorem end_d (L : Lay) (F D pl : Int) (oa ob : Value) (st : Int) (f fc fb : Nat → Value) (w : World) (k : LayOk L) (h : Dyn w L (mkS L F D pl oa ob st false) f fc fb) :
    Calls Tryz.prog 44 #[.pointer (some ⟨L.b, 0, none⟩), .agg #[.string ⟨#[]⟩, .int .i64 0, .int .i64 0, .int .i64 0, .int .i64 0]] w fun e w' => e = .returned (.tuple #[]) ∧ Dyn w' L (mkS L F D pl oa ob st true) f fc fb ∧ Ex (Kd L) w w' := by
  obtain ⟨w0, hw0⟩ : ∃ y, y = w.alloc (.cells #[.string ⟨#[]⟩, .int .i64 0, .int .i64 0, .int .i64 0, .int .i64 0] 30) := ⟨_, rfl⟩
  have HF0 : Hid (Fr w w0) := Lib.hid (by rw [hw0]; exact (Fr.refl w).alloc _)
  have HP0 : Hid (Blk w0 w.heap.size 30 #[.string ⟨#[]⟩, .int .i64 0, .int .i64 0, .int .i64 0, .int .i64 0]) := Lib.hid (by rw [hw0]; exact Blk.new _ _ _)
  have HD := Lib.hid (h.fr HF0.out)
  have HB : Hid (w.heap.size ≠ L.b) := Lib.hid (by have := h.m.lt; omega)
  have HX0 : Hid (Ex (Kd L) w w0) := Lib.hid (Fr.ex HF0.out)
  have HW0 := Lib.hid hw0
  have K := Lib.hid k
  have g14 := Blk.free HD.out.m 14
  have g15 := Blk.free HD.out.m 15
  have g16 := Blk.free HD.out.m 16
  have g17 := Blk.free HD.out.m 17
  have g18 := Blk.free HD.out.m 18
  have g19 := Blk.free HD.out.m 19
  have c14 : w0.cell? ⟨L.b, 14, none⟩ = some (.bool false) := Blk.cell HD.out.m rfl
  have c15 : w0.cell? ⟨L.b, 15, none⟩ = some (.string ⟨#[]⟩) := Blk.cell HD.out.m rfl
  have c16 : w0.cell? ⟨L.b, 16, none⟩ = some (.int .i64 0) := Blk.cell HD.out.m rfl
  have c17 : w0.cell? ⟨L.b, 17, none⟩ = some (.int .i64 0) := Blk.cell HD.out.m rfl
  have c18 : w0.cell? ⟨L.b, 18, none⟩ = some (.int .i64 0) := Blk.cell HD.out.m rfl
  have c19 : w0.cell? ⟨L.b, 19, none⟩ = some (.int .i64 0) := Blk.cell HD.out.m rfl
  rw [hw0] at g14 g15 g16 g17 g18 g19 c14 c15 c16 c17 c18 c19
  clear h k hw0
  have hne := HB.out
  go_enter Tryz.func44, Tryz.ntmps44
  go_wp2_with fail
  rw [← HW0.out]
  go_end0
  refine ⟨rfl, ⟨?_, ?_, ?_, ?_⟩, ?_⟩
  · exact Blk.set (Blk.set (Blk.set (Blk.set (Blk.set (Blk.set HD.out.m 14 _ rfl) 15 _ rfl) 16 _ rfl) 17 _ rfl) 18 _ rfl) 19 _ rfl
  · exact (((((HD.out.f.far (fun e => K.out.b1 e.symm) _).far (fun e => K.out.b1 e.symm) _).far (fun e => K.out.b1 e.symm) _).far (fun e => K.out.b1 e.symm) _).far (fun e => K.out.b1 e.symm) _).far (fun e => K.out.b1 e.symm) _
  · exact (((((HD.out.c.far (fun e => K.out.b2 e.symm) _).far (fun e => K.out.b2 e.symm) _).far (fun e => K.out.b2 e.symm) _).far (fun e => K.out.b2 e.symm) _).far (fun e => K.out.b2 e.symm) _).far (fun e => K.out.b2 e.symm) _
  · exact (((((HD.out.g.far (fun e => K.out.b3 e.symm) _).far (fun e => K.out.b3 e.symm) _).far (fun e => K.out.b3 e.symm) _).far (fun e => K.out.b3 e.symm) _).far (fun e => K.out.b3 e.symm) _).far (fun e => K.out.b3 e.symm) _
  · exact (((((HX0.out.set (Or.inl rfl) _).set (Or.inl rfl) _).set (Or.inl rfl) _).set (Or.inl rfl) _).set (Or.inl rfl) _).set (Or.inl rfl) _
set_option maxRecDepth 100000 in
set_option maxHeartbeats 4000000 in
theorem leave_d (L : Lay) (F D pl : Int) (oa ob : Value) (st : Int) (f fc fb : Nat → Value) (w : World) (k : LayOk L) (s : Sta w L) (h : Dyn w L (mkS L F D pl oa ob st false) f fc fb) :
    Calls Tryz.prog 144 #[.pointer (some ⟨L.b, 0, none⟩), .int .i64 0] w (RetD L (mkS L F D pl oa ob st true) f fc fb (.int .i64 0) w) := by
  have CE := Lib.hid (end_d L F D pl oa ob st f fc fb w k h)
  obtain ⟨k0, k1, k2, k3, k4, k5, k6, k7⟩ := h.m.cells
  simp only [mkS] at k0 k1 k2 k3 k4 k5 k6 k7
  have r8 : w.cell? ⟨L.rb, 8, none⟩ = some (.pointer none) := s.r.cell rfl
  clear h k s
  go_enter Tryz.func144, Tryz.ntmps144
  go_wp2_with fail
  refine (CE.out).mono ?_
  rintro e w1 ⟨rfl, hd, hx⟩
  have HD := Lib.hid hd
  have HX := Lib.hid hx
  clear hd hx
  go_wp2_with fail
  go_ret
  exact ⟨rfl, HD.out, HX.out⟩
end Go.Proofs.YtdnckbcknahakaaGreat
