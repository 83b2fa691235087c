/- The small code's machine: its steps. -/
import Derived.Test.YtdnckbcknahakaaGreatSL
namespace Go.Proofs.YtdnckbcknahakaaGreat
open Go.RowKit
set_option linter.unusedVariables false
set_option linter.unusedSimpArgs false

set_option maxRecDepth 100000 in
set_option maxHeartbeats 4000000 in
theorem adv_0 (L : Lay) (oa ob : Value) (st : Int) (f fc fb : Nat → Value) (w : World) (k : LayOk L) (s : Sta w L) (h : Dyn w L (mkS L 8000 0 0 oa ob st false) f fc fb) (hb : fb 0 = .int .i64 0) (hst : (st == 0) = false) :
    Calls Tryz.prog 43 #[.pointer (some ⟨L.b, 0, none⟩)] w fun e w' => e = .returned (.int .i64 0) ∧ Dyn w' L (mkS L 8000 2 1 oa ob st false) f fc (upd fb 0 (.int .i64 1)) ∧ Ex (Kd L) w w' := by
  have CD := Lib.hid (fun W (x : Ex (Kd L) w W) (hd : Dyn W L (mkS L 8000 0 1 oa ob st false) f fc (upd fb 0 (.int .i64 1))) => do_enter L 8000 0 1 oa ob st false f fc (upd fb 0 (.int .i64 1)) W k hd)
  have HD := Lib.hid h
  have HS := Lib.hid s
  have K := Lib.hid k
  have HBJ := Lib.hid hb
  have HLW := Lib.hid h.m.lt
  have HNK : Hid (∀ i, w.heap.size ≤ i → ¬ Kd L i) := Lib.hid (fun i hi e => by
    have h1 := h.m.lt; have h2 := h.f.lt; have h3 := h.c.lt; have h4 := h.g.lt
    rcases e with e | e | e | e <;> omega)
  have m13 : w.cell? ⟨L.b, 13, none⟩ = some (.int .i64 st) := Blk.cell h.m rfl
  clear h s k hb 
  go_enter Tryz.func43, Tryz.ntmps43
  go_wp2_with fail
  clear m13
  go_loopw [11] (fun _ wr => Hid (Fr w wr)) (fun _ _ => 0)
  case atStart => exact Lib.hid (Fr.refl _)
  case round =>
    have HFR := hrel
    clear hrel
    have HDR := Lib.hid (HD.out.fr HFR.out)
    have HSR := Lib.hid (HS.out.fr HFR.out)
    obtain ⟨k0, k1, k2, k3, k4, k5, k6, k7⟩ := HDR.out.m.cells
    simp only [mkS] at k0 k1 k2 k3 k4 k5 k6 k7
    have p3 : wr.cell? ⟨L.pb, 3, none⟩ = some (.slice (some ⟨L.op, 0, none⟩) 7 L.oc) := HSR.out.p.cell rfl
    have o0 : wr.cell? ⟨L.op, 0, none⟩ = some (.int .i64 24) := HSR.out.o.cell rfl
    have o1 : wr.cell? ⟨L.op, 1, none⟩ = some (.int .i64 1) := HSR.out.o.cell rfl
    have o2 : wr.cell? ⟨L.op, 2, none⟩ = some (.int .i64 0) := HSR.out.o.cell rfl
    go_wp2_with fail
    go_quiet (fail)
    rename_i nq
    have HF1 : Hid (Fr w (wr.drewN nq)) := Lib.hid (HFR.out.drewN nq)
    obtain ⟨w1, hw1⟩ : ∃ y, y = wr.drewN nq := ⟨_, rfl⟩
    rw [← hw1] at HF1 ⊢
    clear hw1 k0 k1 k2 k3 k4 k5 k6 k7 p3 o0 o1 o2 HDR HSR HFR
    go_wp2_with fail
    have HD1 := Lib.hid (HD.out.fr HF1.out)
    have HS1 := Lib.hid (HS.out.fr HF1.out)
    have hq0 : Fr w1 w1.drew := (Fr.refl w1).drew
    go_region_held3 (fun W' => W'.cell? ⟨L.b, 0, none⟩ = some (.pointer (some ⟨L.pb, 0, none⟩)) ∧ W'.cell? ⟨L.b, 3, none⟩ = some (.int .i64 0) ∧ W'.cell? ⟨L.pb, 3, none⟩ = some (.slice (some ⟨L.op, 0, none⟩) 7 L.oc) ∧ W'.cell? ⟨L.op, 0, none⟩ = some (.int .i64 24) ∧ W'.cell? ⟨L.op, 1, none⟩ = some (.int .i64 1) ∧ W'.cell? ⟨L.op, 2, none⟩ = some (.int .i64 0))
      (first
        | exact ⟨(HD1.out.fr hq0).m.cells.1, (HD1.out.fr hq0).m.cells.2.2.2.1, (HS1.out.fr hq0).p.cell rfl, (HS1.out.fr hq0).o.cell rfl, (HS1.out.fr hq0).o.cell rfl, (HS1.out.fr hq0).o.cell rfl⟩
        | exact ⟨(HD1.out.fr (hq0.alloc _)).m.cells.1, (HD1.out.fr (hq0.alloc _)).m.cells.2.2.2.1, (HS1.out.fr (hq0.alloc _)).p.cell rfl, (HS1.out.fr (hq0.alloc _)).o.cell rfl, (HS1.out.fr (hq0.alloc _)).o.cell rfl, (HS1.out.fr (hq0.alloc _)).o.cell rfl⟩)
      ((fail))
    obtain ⟨w2, hw2⟩ : ∃ y, y = (w1.alloc (.cells #[.int .i64 24, .int .i64 1, .int .i64 0] 60)).drew := ⟨_, rfl⟩
    have HF2 : Hid (Fr w w2) := Lib.hid (by rw [hw2]; exact (HF1.out.alloc _).drew)
    have HB2 : Hid (Blk w2 w1.heap.size 60 #[.int .i64 24, .int .i64 1, .int .i64 0]) := Lib.hid (by rw [hw2]; exact Blk.fr (Blk.new w1 _ _) (Fr.refl _).drew)
    rw [← hw2]
    clear hw2
    have HD2 := Lib.hid (HD.out.fr HF2.out)
    have hb1 : w1.heap.size ≠ L.b := fun e => HNK.out _ HF1.out.size (Or.inl e)
    have hb2 : w1.heap.size ≠ L.bg := fun e => HNK.out _ HF1.out.size (Or.inr (Or.inr (Or.inr e)))
    have hb3 := K.out.b3
    have hb4 : L.bg ≠ L.b := fun e => K.out.b3 e.symm
    go_wp2_with fail
    obtain ⟨k0, k1, k2, k3, k4, k5, k6, k7⟩ := (HD.out.fr HF2.out).m.cells
    simp only [mkS] at k0 k1 k2 k3 k4 k5 k6 k7
    have m20 : w2.cell? ⟨L.b, 20, none⟩ = some (.slice (some ⟨L.bg, 0, none⟩) 7 7) := Blk.cell (HD.out.fr HF2.out).m rfl
    have x0 := (HD.out.fr HF2.out).g.cell (show 0 < 7 by omega)
    rw [HBJ.out] at x0
    have x1 := (HD.out.fr HF2.out).g.free 0
    have y3 := Blk.free (HD.out.fr HF2.out).m 3
    have q0 : w2.cell? ⟨w1.heap.size, 0, none⟩ = some (.int .i64 24) := HB2.out.cell rfl
    have q1 : w2.cell? ⟨w1.heap.size, 1, none⟩ = some (.int .i64 1) := HB2.out.cell rfl
    have q2 : w2.cell? ⟨w1.heap.size, 2, none⟩ = some (.int .i64 0) := HB2.out.cell rfl
    go_still_tail 13, (by kernel_rfl)
    change wpList _ _ _ _ _ w2.drew
    go_wp2_with fail
    obtain ⟨w4, hw4⟩ : ∃ y, y = ((w2.setCell ⟨L.bg, 0, none⟩ (.int .i64 1)).setCell ⟨L.b, 3, none⟩ (.int .i64 1)).drew := ⟨_, rfl⟩
    have HD4 : Hid (Dyn w4 L (mkS L 8000 0 1 oa ob st false) f fc (upd fb 0 (.int .i64 1))) := Lib.hid (by
      rw [hw4]
      refine Dyn.fr ?_ (Fr.refl _).drew
      exact ⟨Blk.set (HD2.out.m.far K.out.b3 _) 3 _ rfl, (HD2.out.f.far (p := ⟨L.bg, 0, none⟩) K.out.b5 _).far (p := ⟨L.b, 3, none⟩) (fun e => K.out.b1 e.symm) _, (HD2.out.c.far (p := ⟨L.bg, 0, none⟩) K.out.b6 _).far (p := ⟨L.b, 3, none⟩) (fun e => K.out.b2 e.symm) _, (HD2.out.g.set (show 0 < 7 by omega) _).far (p := ⟨L.b, 3, none⟩) (fun e => K.out.b3 e.symm) _⟩)
    have HX4 : Hid (Ex (Kd L) w w4) := Lib.hid (by rw [hw4]; exact (((Fr.ex HF2.out).set (p := ⟨L.bg, 0, none⟩) (Or.inr (Or.inr (Or.inr rfl))) _).set (p := ⟨L.b, 3, none⟩) (Or.inl rfl) _).fr (Fr.refl _).drew)
    rw [← hw4]
    clear hw4 k0 k1 k2 k3 k4 k5 k6 k7 m20 x0 x1 y3
    refine (CD.out w4 HX4.out HD4.out).mono ?_
    rintro e w5 ⟨rfl, hd, hx⟩
    have HD5 := Lib.hid hd
    have HX5 := Lib.hid (HX4.out.trans hx)
    clear hd hx q0 q1 q2
    go_wp2_with fail
    go_ret
    exact ⟨rfl, HD5.out, HX5.out⟩
set_option maxRecDepth 100000 in
set_option maxHeartbeats 4000000 in
theorem adv_1 (L : Lay) (oa ob : Value) (st : Int) (f fc fb : Nat → Value) (w : World) (k : LayOk L) (s : Sta w L) (h : Dyn w L (mkS L 8000 2 1 oa ob st false) f fc fb) (hb : fb 1 = .int .i64 0) (hst : (st == 0) = false) :
    Calls Tryz.prog 43 #[.pointer (some ⟨L.b, 0, none⟩)] w fun e w' => e = .returned (.int .i64 0) ∧ Dyn w' L (mkS L 8000 4 2 oa ob st false) f fc (upd fb 1 (.int .i64 1)) ∧ Ex (Kd L) w w' := by
  have CD := Lib.hid (fun W (x : Ex (Kd L) w W) (hd : Dyn W L (mkS L 8000 2 2 oa ob st false) f fc (upd fb 1 (.int .i64 1))) => do_stack4 L 8000 2 2 oa ob st false f fc (upd fb 1 (.int .i64 1)) W k hd)
  have HD := Lib.hid h
  have HS := Lib.hid s
  have K := Lib.hid k
  have HBJ := Lib.hid hb
  have HLW := Lib.hid h.m.lt
  have HNK : Hid (∀ i, w.heap.size ≤ i → ¬ Kd L i) := Lib.hid (fun i hi e => by
    have h1 := h.m.lt; have h2 := h.f.lt; have h3 := h.c.lt; have h4 := h.g.lt
    rcases e with e | e | e | e <;> omega)
  have m13 : w.cell? ⟨L.b, 13, none⟩ = some (.int .i64 st) := Blk.cell h.m rfl
  clear h s k hb 
  go_enter Tryz.func43, Tryz.ntmps43
  go_wp2_with fail
  clear m13
  go_loopw [11] (fun _ wr => Hid (Fr w wr)) (fun _ _ => 0)
  case atStart => exact Lib.hid (Fr.refl _)
  case round =>
    have HFR := hrel
    clear hrel
    have HDR := Lib.hid (HD.out.fr HFR.out)
    have HSR := Lib.hid (HS.out.fr HFR.out)
    obtain ⟨k0, k1, k2, k3, k4, k5, k6, k7⟩ := HDR.out.m.cells
    simp only [mkS] at k0 k1 k2 k3 k4 k5 k6 k7
    have p3 : wr.cell? ⟨L.pb, 3, none⟩ = some (.slice (some ⟨L.op, 0, none⟩) 7 L.oc) := HSR.out.p.cell rfl
    have o0 : wr.cell? ⟨L.op, 3, none⟩ = some (.int .i64 18) := HSR.out.o.cell rfl
    have o1 : wr.cell? ⟨L.op, 4, none⟩ = some (.int .i64 4) := HSR.out.o.cell rfl
    have o2 : wr.cell? ⟨L.op, 5, none⟩ = some (.int .i64 0) := HSR.out.o.cell rfl
    go_wp2_with fail
    go_quiet (fail)
    rename_i nq
    have HF1 : Hid (Fr w (wr.drewN nq)) := Lib.hid (HFR.out.drewN nq)
    obtain ⟨w1, hw1⟩ : ∃ y, y = wr.drewN nq := ⟨_, rfl⟩
    rw [← hw1] at HF1 ⊢
    clear hw1 k0 k1 k2 k3 k4 k5 k6 k7 p3 o0 o1 o2 HDR HSR HFR
    go_wp2_with fail
    have HD1 := Lib.hid (HD.out.fr HF1.out)
    have HS1 := Lib.hid (HS.out.fr HF1.out)
    have hq0 : Fr w1 w1.drew := (Fr.refl w1).drew
    go_region_held3 (fun W' => W'.cell? ⟨L.b, 0, none⟩ = some (.pointer (some ⟨L.pb, 0, none⟩)) ∧ W'.cell? ⟨L.b, 3, none⟩ = some (.int .i64 1) ∧ W'.cell? ⟨L.pb, 3, none⟩ = some (.slice (some ⟨L.op, 0, none⟩) 7 L.oc) ∧ W'.cell? ⟨L.op, 3, none⟩ = some (.int .i64 18) ∧ W'.cell? ⟨L.op, 4, none⟩ = some (.int .i64 4) ∧ W'.cell? ⟨L.op, 5, none⟩ = some (.int .i64 0))
      (first
        | exact ⟨(HD1.out.fr hq0).m.cells.1, (HD1.out.fr hq0).m.cells.2.2.2.1, (HS1.out.fr hq0).p.cell rfl, (HS1.out.fr hq0).o.cell rfl, (HS1.out.fr hq0).o.cell rfl, (HS1.out.fr hq0).o.cell rfl⟩
        | exact ⟨(HD1.out.fr (hq0.alloc _)).m.cells.1, (HD1.out.fr (hq0.alloc _)).m.cells.2.2.2.1, (HS1.out.fr (hq0.alloc _)).p.cell rfl, (HS1.out.fr (hq0.alloc _)).o.cell rfl, (HS1.out.fr (hq0.alloc _)).o.cell rfl, (HS1.out.fr (hq0.alloc _)).o.cell rfl⟩)
      ((fail))
    obtain ⟨w2, hw2⟩ : ∃ y, y = (w1.alloc (.cells #[.int .i64 18, .int .i64 4, .int .i64 0] 60)).drew := ⟨_, rfl⟩
    have HF2 : Hid (Fr w w2) := Lib.hid (by rw [hw2]; exact (HF1.out.alloc _).drew)
    have HB2 : Hid (Blk w2 w1.heap.size 60 #[.int .i64 18, .int .i64 4, .int .i64 0]) := Lib.hid (by rw [hw2]; exact Blk.fr (Blk.new w1 _ _) (Fr.refl _).drew)
    rw [← hw2]
    clear hw2
    have HD2 := Lib.hid (HD.out.fr HF2.out)
    have hb1 : w1.heap.size ≠ L.b := fun e => HNK.out _ HF1.out.size (Or.inl e)
    have hb2 : w1.heap.size ≠ L.bg := fun e => HNK.out _ HF1.out.size (Or.inr (Or.inr (Or.inr e)))
    have hb3 := K.out.b3
    have hb4 : L.bg ≠ L.b := fun e => K.out.b3 e.symm
    go_wp2_with fail
    obtain ⟨k0, k1, k2, k3, k4, k5, k6, k7⟩ := (HD.out.fr HF2.out).m.cells
    simp only [mkS] at k0 k1 k2 k3 k4 k5 k6 k7
    have m20 : w2.cell? ⟨L.b, 20, none⟩ = some (.slice (some ⟨L.bg, 0, none⟩) 7 7) := Blk.cell (HD.out.fr HF2.out).m rfl
    have x0 := (HD.out.fr HF2.out).g.cell (show 1 < 7 by omega)
    rw [HBJ.out] at x0
    have x1 := (HD.out.fr HF2.out).g.free 1
    have y3 := Blk.free (HD.out.fr HF2.out).m 3
    have q0 : w2.cell? ⟨w1.heap.size, 0, none⟩ = some (.int .i64 18) := HB2.out.cell rfl
    have q1 : w2.cell? ⟨w1.heap.size, 1, none⟩ = some (.int .i64 4) := HB2.out.cell rfl
    have q2 : w2.cell? ⟨w1.heap.size, 2, none⟩ = some (.int .i64 0) := HB2.out.cell rfl
    go_still_tail 13, (by kernel_rfl)
    change wpList _ _ _ _ _ w2.drew
    go_wp2_with fail
    obtain ⟨w4, hw4⟩ : ∃ y, y = ((w2.setCell ⟨L.bg, 1, none⟩ (.int .i64 1)).setCell ⟨L.b, 3, none⟩ (.int .i64 2)).drew := ⟨_, rfl⟩
    have HD4 : Hid (Dyn w4 L (mkS L 8000 2 2 oa ob st false) f fc (upd fb 1 (.int .i64 1))) := Lib.hid (by
      rw [hw4]
      refine Dyn.fr ?_ (Fr.refl _).drew
      exact ⟨Blk.set (HD2.out.m.far K.out.b3 _) 3 _ rfl, (HD2.out.f.far (p := ⟨L.bg, 1, none⟩) K.out.b5 _).far (p := ⟨L.b, 3, none⟩) (fun e => K.out.b1 e.symm) _, (HD2.out.c.far (p := ⟨L.bg, 1, none⟩) K.out.b6 _).far (p := ⟨L.b, 3, none⟩) (fun e => K.out.b2 e.symm) _, (HD2.out.g.set (show 1 < 7 by omega) _).far (p := ⟨L.b, 3, none⟩) (fun e => K.out.b3 e.symm) _⟩)
    have HX4 : Hid (Ex (Kd L) w w4) := Lib.hid (by rw [hw4]; exact (((Fr.ex HF2.out).set (p := ⟨L.bg, 1, none⟩) (Or.inr (Or.inr (Or.inr rfl))) _).set (p := ⟨L.b, 3, none⟩) (Or.inl rfl) _).fr (Fr.refl _).drew)
    rw [← hw4]
    clear hw4 k0 k1 k2 k3 k4 k5 k6 k7 m20 x0 x1 y3
    refine (CD.out w4 HX4.out HD4.out).mono ?_
    rintro e w5 ⟨rfl, hd, hx⟩
    have HD5 := Lib.hid hd
    have HX5 := Lib.hid (HX4.out.trans hx)
    clear hd hx q0 q1 q2
    go_wp2_with fail
    go_ret
    exact ⟨rfl, HD5.out, HX5.out⟩
set_option maxRecDepth 100000 in
set_option maxHeartbeats 4000000 in
theorem adv_2 (L : Lay) (oa ob : Value) (st : Int) (f fc fb : Nat → Value) (w : World) (k : LayOk L) (s : Sta w L) (h : Dyn w L (mkS L 8000 4 2 oa ob st false) f fc fb) (hb : fb 2 = .int .i64 0) (hst : (st == 0) = false) :
    Calls Tryz.prog 43 #[.pointer (some ⟨L.b, 0, none⟩)] w fun e w' => e = .returned (.int .i64 0) ∧ Dyn w' L (mkS L 8000 5 3 oa ob st false) (upd f 8004 (.int .i64 65)) fc (upd fb 2 (.int .i64 1)) ∧ Ex (Kd L) w w' := by
  have CD := Lib.hid (fun W (x : Ex (Kd L) w W) (hd : Dyn W L (mkS L 8000 4 3 oa ob st false) f fc (upd fb 2 (.int .i64 1))) => do_num L 8000 4 3 oa ob st false f fc (upd fb 2 (.int .i64 1)) W k hd 8004 (by omega) (by omega))
  have HD := Lib.hid h
  have HS := Lib.hid s
  have K := Lib.hid k
  have HBJ := Lib.hid hb
  have HLW := Lib.hid h.m.lt
  have HNK : Hid (∀ i, w.heap.size ≤ i → ¬ Kd L i) := Lib.hid (fun i hi e => by
    have h1 := h.m.lt; have h2 := h.f.lt; have h3 := h.c.lt; have h4 := h.g.lt
    rcases e with e | e | e | e <;> omega)
  have m13 : w.cell? ⟨L.b, 13, none⟩ = some (.int .i64 st) := Blk.cell h.m rfl
  clear h s k hb 
  go_enter Tryz.func43, Tryz.ntmps43
  go_wp2_with fail
  clear m13
  go_loopw [11] (fun _ wr => Hid (Fr w wr)) (fun _ _ => 0)
  case atStart => exact Lib.hid (Fr.refl _)
  case round =>
    have HFR := hrel
    clear hrel
    have HDR := Lib.hid (HD.out.fr HFR.out)
    have HSR := Lib.hid (HS.out.fr HFR.out)
    obtain ⟨k0, k1, k2, k3, k4, k5, k6, k7⟩ := HDR.out.m.cells
    simp only [mkS] at k0 k1 k2 k3 k4 k5 k6 k7
    have p3 : wr.cell? ⟨L.pb, 3, none⟩ = some (.slice (some ⟨L.op, 0, none⟩) 7 L.oc) := HSR.out.p.cell rfl
    have o0 : wr.cell? ⟨L.op, 6, none⟩ = some (.int .i64 1) := HSR.out.o.cell rfl
    have o1 : wr.cell? ⟨L.op, 7, none⟩ = some (.int .i64 65) := HSR.out.o.cell rfl
    have o2 : wr.cell? ⟨L.op, 8, none⟩ = some (.int .i64 0) := HSR.out.o.cell rfl
    go_wp2_with fail
    go_quiet (fail)
    rename_i nq
    have HF1 : Hid (Fr w (wr.drewN nq)) := Lib.hid (HFR.out.drewN nq)
    obtain ⟨w1, hw1⟩ : ∃ y, y = wr.drewN nq := ⟨_, rfl⟩
    rw [← hw1] at HF1 ⊢
    clear hw1 k0 k1 k2 k3 k4 k5 k6 k7 p3 o0 o1 o2 HDR HSR HFR
    go_wp2_with fail
    have HD1 := Lib.hid (HD.out.fr HF1.out)
    have HS1 := Lib.hid (HS.out.fr HF1.out)
    have hq0 : Fr w1 w1.drew := (Fr.refl w1).drew
    go_region_held3 (fun W' => W'.cell? ⟨L.b, 0, none⟩ = some (.pointer (some ⟨L.pb, 0, none⟩)) ∧ W'.cell? ⟨L.b, 3, none⟩ = some (.int .i64 2) ∧ W'.cell? ⟨L.pb, 3, none⟩ = some (.slice (some ⟨L.op, 0, none⟩) 7 L.oc) ∧ W'.cell? ⟨L.op, 6, none⟩ = some (.int .i64 1) ∧ W'.cell? ⟨L.op, 7, none⟩ = some (.int .i64 65) ∧ W'.cell? ⟨L.op, 8, none⟩ = some (.int .i64 0))
      (first
        | exact ⟨(HD1.out.fr hq0).m.cells.1, (HD1.out.fr hq0).m.cells.2.2.2.1, (HS1.out.fr hq0).p.cell rfl, (HS1.out.fr hq0).o.cell rfl, (HS1.out.fr hq0).o.cell rfl, (HS1.out.fr hq0).o.cell rfl⟩
        | exact ⟨(HD1.out.fr (hq0.alloc _)).m.cells.1, (HD1.out.fr (hq0.alloc _)).m.cells.2.2.2.1, (HS1.out.fr (hq0.alloc _)).p.cell rfl, (HS1.out.fr (hq0.alloc _)).o.cell rfl, (HS1.out.fr (hq0.alloc _)).o.cell rfl, (HS1.out.fr (hq0.alloc _)).o.cell rfl⟩)
      ((fail))
    obtain ⟨w2, hw2⟩ : ∃ y, y = (w1.alloc (.cells #[.int .i64 1, .int .i64 65, .int .i64 0] 60)).drew := ⟨_, rfl⟩
    have HF2 : Hid (Fr w w2) := Lib.hid (by rw [hw2]; exact (HF1.out.alloc _).drew)
    have HB2 : Hid (Blk w2 w1.heap.size 60 #[.int .i64 1, .int .i64 65, .int .i64 0]) := Lib.hid (by rw [hw2]; exact Blk.fr (Blk.new w1 _ _) (Fr.refl _).drew)
    rw [← hw2]
    clear hw2
    have HD2 := Lib.hid (HD.out.fr HF2.out)
    have hb1 : w1.heap.size ≠ L.b := fun e => HNK.out _ HF1.out.size (Or.inl e)
    have hb2 : w1.heap.size ≠ L.bg := fun e => HNK.out _ HF1.out.size (Or.inr (Or.inr (Or.inr e)))
    have hb3 := K.out.b3
    have hb4 : L.bg ≠ L.b := fun e => K.out.b3 e.symm
    go_wp2_with fail
    obtain ⟨k0, k1, k2, k3, k4, k5, k6, k7⟩ := (HD.out.fr HF2.out).m.cells
    simp only [mkS] at k0 k1 k2 k3 k4 k5 k6 k7
    have m20 : w2.cell? ⟨L.b, 20, none⟩ = some (.slice (some ⟨L.bg, 0, none⟩) 7 7) := Blk.cell (HD.out.fr HF2.out).m rfl
    have x0 := (HD.out.fr HF2.out).g.cell (show 2 < 7 by omega)
    rw [HBJ.out] at x0
    have x1 := (HD.out.fr HF2.out).g.free 2
    have y3 := Blk.free (HD.out.fr HF2.out).m 3
    have q0 : w2.cell? ⟨w1.heap.size, 0, none⟩ = some (.int .i64 1) := HB2.out.cell rfl
    have q1 : w2.cell? ⟨w1.heap.size, 1, none⟩ = some (.int .i64 65) := HB2.out.cell rfl
    have q2 : w2.cell? ⟨w1.heap.size, 2, none⟩ = some (.int .i64 0) := HB2.out.cell rfl
    go_still_tail 13, (by kernel_rfl)
    change wpList _ _ _ _ _ w2.drew
    go_wp2_with fail
    obtain ⟨w4, hw4⟩ : ∃ y, y = ((w2.setCell ⟨L.bg, 2, none⟩ (.int .i64 1)).setCell ⟨L.b, 3, none⟩ (.int .i64 3)).drew := ⟨_, rfl⟩
    have HD4 : Hid (Dyn w4 L (mkS L 8000 4 3 oa ob st false) f fc (upd fb 2 (.int .i64 1))) := Lib.hid (by
      rw [hw4]
      refine Dyn.fr ?_ (Fr.refl _).drew
      exact ⟨Blk.set (HD2.out.m.far K.out.b3 _) 3 _ rfl, (HD2.out.f.far (p := ⟨L.bg, 2, none⟩) K.out.b5 _).far (p := ⟨L.b, 3, none⟩) (fun e => K.out.b1 e.symm) _, (HD2.out.c.far (p := ⟨L.bg, 2, none⟩) K.out.b6 _).far (p := ⟨L.b, 3, none⟩) (fun e => K.out.b2 e.symm) _, (HD2.out.g.set (show 2 < 7 by omega) _).far (p := ⟨L.b, 3, none⟩) (fun e => K.out.b3 e.symm) _⟩)
    have HX4 : Hid (Ex (Kd L) w w4) := Lib.hid (by rw [hw4]; exact (((Fr.ex HF2.out).set (p := ⟨L.bg, 2, none⟩) (Or.inr (Or.inr (Or.inr rfl))) _).set (p := ⟨L.b, 3, none⟩) (Or.inl rfl) _).fr (Fr.refl _).drew)
    rw [← hw4]
    clear hw4 k0 k1 k2 k3 k4 k5 k6 k7 m20 x0 x1 y3
    refine (CD.out w4 HX4.out HD4.out).mono ?_
    rintro e w5 ⟨rfl, hd, hx⟩
    have HD5 := Lib.hid hd
    have HX5 := Lib.hid (HX4.out.trans hx)
    clear hd hx q0 q1 q2
    go_wp2_with fail
    go_ret
    exact ⟨rfl, HD5.out, HX5.out⟩
set_option maxRecDepth 100000 in
set_option maxHeartbeats 4000000 in
theorem adv_3 (L : Lay) (oa ob : Value) (st : Int) (f fc fb : Nat → Value) (w : World) (k : LayOk L) (s : Sta w L) (h : Dyn w L (mkS L 8000 5 3 oa ob st false) f fc fb) (hb : fb 3 = .int .i64 0) (hst : (st == 0) = false) (h3 : f 3 = .int .i64 32503) :
    Calls Tryz.prog 43 #[.pointer (some ⟨L.b, 0, none⟩)] w fun e w' => e = .returned (.int .i64 0) ∧ Dyn w' L (mkS L 8000 6 4 oa ob st false) (upd f 8005 (.int .i64 32503)) fc (upd fb 3 (.int .i64 1)) ∧ Ex (Kd L) w w' := by
  have CD := Lib.hid (fun W (x : Ex (Kd L) w W) (hd : Dyn W L (mkS L 8000 5 4 oa ob st false) f fc (upd fb 3 (.int .i64 1))) => do_global L 8000 5 4 oa ob st false f fc (upd fb 3 (.int .i64 1)) W k hd h3 8005 (by omega) (by omega))
  have HD := Lib.hid h
  have HS := Lib.hid s
  have K := Lib.hid k
  have HBJ := Lib.hid hb
  have HLW := Lib.hid h.m.lt
  have HNK : Hid (∀ i, w.heap.size ≤ i → ¬ Kd L i) := Lib.hid (fun i hi e => by
    have h1 := h.m.lt; have h2 := h.f.lt; have h3 := h.c.lt; have h4 := h.g.lt
    rcases e with e | e | e | e <;> omega)
  have m13 : w.cell? ⟨L.b, 13, none⟩ = some (.int .i64 st) := Blk.cell h.m rfl
  clear h s k hb h3
  go_enter Tryz.func43, Tryz.ntmps43
  go_wp2_with fail
  clear m13
  go_loopw [11] (fun _ wr => Hid (Fr w wr)) (fun _ _ => 0)
  case atStart => exact Lib.hid (Fr.refl _)
  case round =>
    have HFR := hrel
    clear hrel
    have HDR := Lib.hid (HD.out.fr HFR.out)
    have HSR := Lib.hid (HS.out.fr HFR.out)
    obtain ⟨k0, k1, k2, k3, k4, k5, k6, k7⟩ := HDR.out.m.cells
    simp only [mkS] at k0 k1 k2 k3 k4 k5 k6 k7
    have p3 : wr.cell? ⟨L.pb, 3, none⟩ = some (.slice (some ⟨L.op, 0, none⟩) 7 L.oc) := HSR.out.p.cell rfl
    have o0 : wr.cell? ⟨L.op, 9, none⟩ = some (.int .i64 5) := HSR.out.o.cell rfl
    have o1 : wr.cell? ⟨L.op, 10, none⟩ = some (.int .i64 3) := HSR.out.o.cell rfl
    have o2 : wr.cell? ⟨L.op, 11, none⟩ = some (.int .i64 0) := HSR.out.o.cell rfl
    go_wp2_with fail
    go_quiet (fail)
    rename_i nq
    have HF1 : Hid (Fr w (wr.drewN nq)) := Lib.hid (HFR.out.drewN nq)
    obtain ⟨w1, hw1⟩ : ∃ y, y = wr.drewN nq := ⟨_, rfl⟩
    rw [← hw1] at HF1 ⊢
    clear hw1 k0 k1 k2 k3 k4 k5 k6 k7 p3 o0 o1 o2 HDR HSR HFR
    go_wp2_with fail
    have HD1 := Lib.hid (HD.out.fr HF1.out)
    have HS1 := Lib.hid (HS.out.fr HF1.out)
    have hq0 : Fr w1 w1.drew := (Fr.refl w1).drew
    go_region_held3 (fun W' => W'.cell? ⟨L.b, 0, none⟩ = some (.pointer (some ⟨L.pb, 0, none⟩)) ∧ W'.cell? ⟨L.b, 3, none⟩ = some (.int .i64 3) ∧ W'.cell? ⟨L.pb, 3, none⟩ = some (.slice (some ⟨L.op, 0, none⟩) 7 L.oc) ∧ W'.cell? ⟨L.op, 9, none⟩ = some (.int .i64 5) ∧ W'.cell? ⟨L.op, 10, none⟩ = some (.int .i64 3) ∧ W'.cell? ⟨L.op, 11, none⟩ = some (.int .i64 0))
      (first
        | exact ⟨(HD1.out.fr hq0).m.cells.1, (HD1.out.fr hq0).m.cells.2.2.2.1, (HS1.out.fr hq0).p.cell rfl, (HS1.out.fr hq0).o.cell rfl, (HS1.out.fr hq0).o.cell rfl, (HS1.out.fr hq0).o.cell rfl⟩
        | exact ⟨(HD1.out.fr (hq0.alloc _)).m.cells.1, (HD1.out.fr (hq0.alloc _)).m.cells.2.2.2.1, (HS1.out.fr (hq0.alloc _)).p.cell rfl, (HS1.out.fr (hq0.alloc _)).o.cell rfl, (HS1.out.fr (hq0.alloc _)).o.cell rfl, (HS1.out.fr (hq0.alloc _)).o.cell rfl⟩)
      ((fail))
    obtain ⟨w2, hw2⟩ : ∃ y, y = (w1.alloc (.cells #[.int .i64 5, .int .i64 3, .int .i64 0] 60)).drew := ⟨_, rfl⟩
    have HF2 : Hid (Fr w w2) := Lib.hid (by rw [hw2]; exact (HF1.out.alloc _).drew)
    have HB2 : Hid (Blk w2 w1.heap.size 60 #[.int .i64 5, .int .i64 3, .int .i64 0]) := Lib.hid (by rw [hw2]; exact Blk.fr (Blk.new w1 _ _) (Fr.refl _).drew)
    rw [← hw2]
    clear hw2
    have HD2 := Lib.hid (HD.out.fr HF2.out)
    have hb1 : w1.heap.size ≠ L.b := fun e => HNK.out _ HF1.out.size (Or.inl e)
    have hb2 : w1.heap.size ≠ L.bg := fun e => HNK.out _ HF1.out.size (Or.inr (Or.inr (Or.inr e)))
    have hb3 := K.out.b3
    have hb4 : L.bg ≠ L.b := fun e => K.out.b3 e.symm
    go_wp2_with fail
    obtain ⟨k0, k1, k2, k3, k4, k5, k6, k7⟩ := (HD.out.fr HF2.out).m.cells
    simp only [mkS] at k0 k1 k2 k3 k4 k5 k6 k7
    have m20 : w2.cell? ⟨L.b, 20, none⟩ = some (.slice (some ⟨L.bg, 0, none⟩) 7 7) := Blk.cell (HD.out.fr HF2.out).m rfl
    have x0 := (HD.out.fr HF2.out).g.cell (show 3 < 7 by omega)
    rw [HBJ.out] at x0
    have x1 := (HD.out.fr HF2.out).g.free 3
    have y3 := Blk.free (HD.out.fr HF2.out).m 3
    have q0 : w2.cell? ⟨w1.heap.size, 0, none⟩ = some (.int .i64 5) := HB2.out.cell rfl
    have q1 : w2.cell? ⟨w1.heap.size, 1, none⟩ = some (.int .i64 3) := HB2.out.cell rfl
    have q2 : w2.cell? ⟨w1.heap.size, 2, none⟩ = some (.int .i64 0) := HB2.out.cell rfl
    go_still_tail 13, (by kernel_rfl)
    change wpList _ _ _ _ _ w2.drew
    go_wp2_with fail
    obtain ⟨w4, hw4⟩ : ∃ y, y = ((w2.setCell ⟨L.bg, 3, none⟩ (.int .i64 1)).setCell ⟨L.b, 3, none⟩ (.int .i64 4)).drew := ⟨_, rfl⟩
    have HD4 : Hid (Dyn w4 L (mkS L 8000 5 4 oa ob st false) f fc (upd fb 3 (.int .i64 1))) := Lib.hid (by
      rw [hw4]
      refine Dyn.fr ?_ (Fr.refl _).drew
      exact ⟨Blk.set (HD2.out.m.far K.out.b3 _) 3 _ rfl, (HD2.out.f.far (p := ⟨L.bg, 3, none⟩) K.out.b5 _).far (p := ⟨L.b, 3, none⟩) (fun e => K.out.b1 e.symm) _, (HD2.out.c.far (p := ⟨L.bg, 3, none⟩) K.out.b6 _).far (p := ⟨L.b, 3, none⟩) (fun e => K.out.b2 e.symm) _, (HD2.out.g.set (show 3 < 7 by omega) _).far (p := ⟨L.b, 3, none⟩) (fun e => K.out.b3 e.symm) _⟩)
    have HX4 : Hid (Ex (Kd L) w w4) := Lib.hid (by rw [hw4]; exact (((Fr.ex HF2.out).set (p := ⟨L.bg, 3, none⟩) (Or.inr (Or.inr (Or.inr rfl))) _).set (p := ⟨L.b, 3, none⟩) (Or.inl rfl) _).fr (Fr.refl _).drew)
    rw [← hw4]
    clear hw4 k0 k1 k2 k3 k4 k5 k6 k7 m20 x0 x1 y3
    refine (CD.out w4 HX4.out HD4.out).mono ?_
    rintro e w5 ⟨rfl, hd, hx⟩
    have HD5 := Lib.hid hd
    have HX5 := Lib.hid (HX4.out.trans hx)
    clear hd hx q0 q1 q2
    go_wp2_with fail
    go_ret
    exact ⟨rfl, HD5.out, HX5.out⟩
set_option maxRecDepth 100000 in
set_option maxHeartbeats 4000000 in
theorem adv_4 (L : Lay) (st : Int) (f fc fb : Nat → Value) (w : World) (k : LayOk L) (s : Sta w L) (h : Dyn w L (mkS L 8000 6 4 (.pointer none) (.slice none 0 0) st false) f fc fb) (hb : fb 4 = .int .i64 0) (hst : (st == 0) = false) (htv : f 8005 = .int .i64 32503) (hv : f 8004 = .int .i64 65) :
    Calls Tryz.prog 43 #[.pointer (some ⟨L.b, 0, none⟩)] w fun e w' => e = .returned (.int .i64 0) ∧ (∃ ob, Dyn w' L (mkS L 8000 3 5 (.pointer (some ⟨L.b, 11, none⟩)) ob st false) (upd f 8002 (.int .i64 0)) fc (upd fb 4 (.int .i64 1)) ∧ w'.ownsRow w.heap.size 5 1 ob 1 [.int .u8 65]) ∧ Ex (Kd L) w w' := by
  have CD := Lib.hid (fun W (x : Ex (Kd L) w W) (hd : Dyn W L (mkS L 8000 6 5 (.pointer none) (.slice none 0 0) st false) f fc (upd fb 4 (.int .i64 1))) => do_call L 8000 5 5 st false f fc (upd fb 4 (.int .i64 1)) W k (s.ex k x) hd 8005 8002 8004 (by omega) (by omega) htv (by omega) (by omega) (by omega) hv)
  have HD := Lib.hid h
  have HS := Lib.hid s
  have K := Lib.hid k
  have HBJ := Lib.hid hb
  have HLW := Lib.hid h.m.lt
  have HNK : Hid (∀ i, w.heap.size ≤ i → ¬ Kd L i) := Lib.hid (fun i hi e => by
    have h1 := h.m.lt; have h2 := h.f.lt; have h3 := h.c.lt; have h4 := h.g.lt
    rcases e with e | e | e | e <;> omega)
  have m13 : w.cell? ⟨L.b, 13, none⟩ = some (.int .i64 st) := Blk.cell h.m rfl
  clear h s k hb htv hv
  go_enter Tryz.func43, Tryz.ntmps43
  go_wp2_with fail
  clear m13
  go_loopw [11] (fun _ wr => Hid (Fr w wr)) (fun _ _ => 0)
  case atStart => exact Lib.hid (Fr.refl _)
  case round =>
    have HFR := hrel
    clear hrel
    have HDR := Lib.hid (HD.out.fr HFR.out)
    have HSR := Lib.hid (HS.out.fr HFR.out)
    obtain ⟨k0, k1, k2, k3, k4, k5, k6, k7⟩ := HDR.out.m.cells
    simp only [mkS] at k0 k1 k2 k3 k4 k5 k6 k7
    have p3 : wr.cell? ⟨L.pb, 3, none⟩ = some (.slice (some ⟨L.op, 0, none⟩) 7 L.oc) := HSR.out.p.cell rfl
    have o0 : wr.cell? ⟨L.op, 12, none⟩ = some (.int .i64 23) := HSR.out.o.cell rfl
    have o1 : wr.cell? ⟨L.op, 13, none⟩ = some (.int .i64 2) := HSR.out.o.cell rfl
    have o2 : wr.cell? ⟨L.op, 14, none⟩ = some (.int .i64 0) := HSR.out.o.cell rfl
    go_wp2_with fail
    go_quiet (fail)
    rename_i nq
    have HF1 : Hid (Fr w (wr.drewN nq)) := Lib.hid (HFR.out.drewN nq)
    obtain ⟨w1, hw1⟩ : ∃ y, y = wr.drewN nq := ⟨_, rfl⟩
    rw [← hw1] at HF1 ⊢
    clear hw1 k0 k1 k2 k3 k4 k5 k6 k7 p3 o0 o1 o2 HDR HSR HFR
    go_wp2_with fail
    have HD1 := Lib.hid (HD.out.fr HF1.out)
    have HS1 := Lib.hid (HS.out.fr HF1.out)
    have hq0 : Fr w1 w1.drew := (Fr.refl w1).drew
    go_region_held3 (fun W' => W'.cell? ⟨L.b, 0, none⟩ = some (.pointer (some ⟨L.pb, 0, none⟩)) ∧ W'.cell? ⟨L.b, 3, none⟩ = some (.int .i64 4) ∧ W'.cell? ⟨L.pb, 3, none⟩ = some (.slice (some ⟨L.op, 0, none⟩) 7 L.oc) ∧ W'.cell? ⟨L.op, 12, none⟩ = some (.int .i64 23) ∧ W'.cell? ⟨L.op, 13, none⟩ = some (.int .i64 2) ∧ W'.cell? ⟨L.op, 14, none⟩ = some (.int .i64 0))
      (first
        | exact ⟨(HD1.out.fr hq0).m.cells.1, (HD1.out.fr hq0).m.cells.2.2.2.1, (HS1.out.fr hq0).p.cell rfl, (HS1.out.fr hq0).o.cell rfl, (HS1.out.fr hq0).o.cell rfl, (HS1.out.fr hq0).o.cell rfl⟩
        | exact ⟨(HD1.out.fr (hq0.alloc _)).m.cells.1, (HD1.out.fr (hq0.alloc _)).m.cells.2.2.2.1, (HS1.out.fr (hq0.alloc _)).p.cell rfl, (HS1.out.fr (hq0.alloc _)).o.cell rfl, (HS1.out.fr (hq0.alloc _)).o.cell rfl, (HS1.out.fr (hq0.alloc _)).o.cell rfl⟩)
      ((fail))
    obtain ⟨w2, hw2⟩ : ∃ y, y = (w1.alloc (.cells #[.int .i64 23, .int .i64 2, .int .i64 0] 60)).drew := ⟨_, rfl⟩
    have HF2 : Hid (Fr w w2) := Lib.hid (by rw [hw2]; exact (HF1.out.alloc _).drew)
    have HB2 : Hid (Blk w2 w1.heap.size 60 #[.int .i64 23, .int .i64 2, .int .i64 0]) := Lib.hid (by rw [hw2]; exact Blk.fr (Blk.new w1 _ _) (Fr.refl _).drew)
    rw [← hw2]
    clear hw2
    have HD2 := Lib.hid (HD.out.fr HF2.out)
    have hb1 : w1.heap.size ≠ L.b := fun e => HNK.out _ HF1.out.size (Or.inl e)
    have hb2 : w1.heap.size ≠ L.bg := fun e => HNK.out _ HF1.out.size (Or.inr (Or.inr (Or.inr e)))
    have hb3 := K.out.b3
    have hb4 : L.bg ≠ L.b := fun e => K.out.b3 e.symm
    go_wp2_with fail
    obtain ⟨k0, k1, k2, k3, k4, k5, k6, k7⟩ := (HD.out.fr HF2.out).m.cells
    simp only [mkS] at k0 k1 k2 k3 k4 k5 k6 k7
    have m20 : w2.cell? ⟨L.b, 20, none⟩ = some (.slice (some ⟨L.bg, 0, none⟩) 7 7) := Blk.cell (HD.out.fr HF2.out).m rfl
    have x0 := (HD.out.fr HF2.out).g.cell (show 4 < 7 by omega)
    rw [HBJ.out] at x0
    have x1 := (HD.out.fr HF2.out).g.free 4
    have y3 := Blk.free (HD.out.fr HF2.out).m 3
    have q0 : w2.cell? ⟨w1.heap.size, 0, none⟩ = some (.int .i64 23) := HB2.out.cell rfl
    have q1 : w2.cell? ⟨w1.heap.size, 1, none⟩ = some (.int .i64 2) := HB2.out.cell rfl
    have q2 : w2.cell? ⟨w1.heap.size, 2, none⟩ = some (.int .i64 0) := HB2.out.cell rfl
    go_still_tail 13, (by kernel_rfl)
    change wpList _ _ _ _ _ w2.drew
    go_wp2_with fail
    obtain ⟨w4, hw4⟩ : ∃ y, y = ((w2.setCell ⟨L.bg, 4, none⟩ (.int .i64 1)).setCell ⟨L.b, 3, none⟩ (.int .i64 5)).drew := ⟨_, rfl⟩
    have HD4 : Hid (Dyn w4 L (mkS L 8000 6 5 (.pointer none) (.slice none 0 0) st false) f fc (upd fb 4 (.int .i64 1))) := Lib.hid (by
      rw [hw4]
      refine Dyn.fr ?_ (Fr.refl _).drew
      exact ⟨Blk.set (HD2.out.m.far K.out.b3 _) 3 _ rfl, (HD2.out.f.far (p := ⟨L.bg, 4, none⟩) K.out.b5 _).far (p := ⟨L.b, 3, none⟩) (fun e => K.out.b1 e.symm) _, (HD2.out.c.far (p := ⟨L.bg, 4, none⟩) K.out.b6 _).far (p := ⟨L.b, 3, none⟩) (fun e => K.out.b2 e.symm) _, (HD2.out.g.set (show 4 < 7 by omega) _).far (p := ⟨L.b, 3, none⟩) (fun e => K.out.b3 e.symm) _⟩)
    have HX4 : Hid (Ex (Kd L) w w4) := Lib.hid (by rw [hw4]; exact (((Fr.ex HF2.out).set (p := ⟨L.bg, 4, none⟩) (Or.inr (Or.inr (Or.inr rfl))) _).set (p := ⟨L.b, 3, none⟩) (Or.inl rfl) _).fr (Fr.refl _).drew)
    rw [← hw4]
    clear hw4 k0 k1 k2 k3 k4 k5 k6 k7 m20 x0 x1 y3
    refine (CD.out w4 HX4.out HD4.out).mono ?_
    rintro e w5 ⟨rfl, ⟨ob, hd, ho⟩, hx⟩
    have HD5 := Lib.hid hd
    have HO5 := Lib.hid (own_base8 ho HX4.out.size)
    have HX5 := Lib.hid (HX4.out.trans hx)
    clear hd ho hx q0 q1 q2
    go_wp2_with fail
    go_ret
    exact ⟨rfl, ⟨ob, HD5.out, HO5.out⟩, HX5.out⟩
set_option maxRecDepth 100000 in
set_option maxHeartbeats 4000000 in
theorem adv_5 (L : Lay) (oa ob : Value) (st : Int) (f fc fb : Nat → Value) (w : World) (k : LayOk L) (s : Sta w L) (h : Dyn w L (mkS L 8000 3 5 oa ob st false) f fc fb) (hb : fb 5 = .int .i64 0) (hst : (st == 0) = false) :
    Calls Tryz.prog 43 #[.pointer (some ⟨L.b, 0, none⟩)] w fun e w' => e = .returned (.int .i64 0) ∧ Dyn w' L (mkS L 8000 2 6 oa ob st false) f fc (upd fb 5 (.int .i64 1)) ∧ Ex (Kd L) w w' := by
  have CD := Lib.hid (fun W (x : Ex (Kd L) w W) (hd : Dyn W L (mkS L 8000 3 6 oa ob st false) f fc (upd fb 5 (.int .i64 1))) => do_stack2 L 8000 3 6 oa ob st false f fc (upd fb 5 (.int .i64 1)) W k hd)
  have HD := Lib.hid h
  have HS := Lib.hid s
  have K := Lib.hid k
  have HBJ := Lib.hid hb
  have HLW := Lib.hid h.m.lt
  have HNK : Hid (∀ i, w.heap.size ≤ i → ¬ Kd L i) := Lib.hid (fun i hi e => by
    have h1 := h.m.lt; have h2 := h.f.lt; have h3 := h.c.lt; have h4 := h.g.lt
    rcases e with e | e | e | e <;> omega)
  have m13 : w.cell? ⟨L.b, 13, none⟩ = some (.int .i64 st) := Blk.cell h.m rfl
  clear h s k hb 
  go_enter Tryz.func43, Tryz.ntmps43
  go_wp2_with fail
  clear m13
  go_loopw [11] (fun _ wr => Hid (Fr w wr)) (fun _ _ => 0)
  case atStart => exact Lib.hid (Fr.refl _)
  case round =>
    have HFR := hrel
    clear hrel
    have HDR := Lib.hid (HD.out.fr HFR.out)
    have HSR := Lib.hid (HS.out.fr HFR.out)
    obtain ⟨k0, k1, k2, k3, k4, k5, k6, k7⟩ := HDR.out.m.cells
    simp only [mkS] at k0 k1 k2 k3 k4 k5 k6 k7
    have p3 : wr.cell? ⟨L.pb, 3, none⟩ = some (.slice (some ⟨L.op, 0, none⟩) 7 L.oc) := HSR.out.p.cell rfl
    have o0 : wr.cell? ⟨L.op, 15, none⟩ = some (.int .i64 18) := HSR.out.o.cell rfl
    have o1 : wr.cell? ⟨L.op, 16, none⟩ = some (.int .i64 2) := HSR.out.o.cell rfl
    have o2 : wr.cell? ⟨L.op, 17, none⟩ = some (.int .i64 0) := HSR.out.o.cell rfl
    go_wp2_with fail
    go_quiet (fail)
    rename_i nq
    have HF1 : Hid (Fr w (wr.drewN nq)) := Lib.hid (HFR.out.drewN nq)
    obtain ⟨w1, hw1⟩ : ∃ y, y = wr.drewN nq := ⟨_, rfl⟩
    rw [← hw1] at HF1 ⊢
    clear hw1 k0 k1 k2 k3 k4 k5 k6 k7 p3 o0 o1 o2 HDR HSR HFR
    go_wp2_with fail
    have HD1 := Lib.hid (HD.out.fr HF1.out)
    have HS1 := Lib.hid (HS.out.fr HF1.out)
    have hq0 : Fr w1 w1.drew := (Fr.refl w1).drew
    go_region_held3 (fun W' => W'.cell? ⟨L.b, 0, none⟩ = some (.pointer (some ⟨L.pb, 0, none⟩)) ∧ W'.cell? ⟨L.b, 3, none⟩ = some (.int .i64 5) ∧ W'.cell? ⟨L.pb, 3, none⟩ = some (.slice (some ⟨L.op, 0, none⟩) 7 L.oc) ∧ W'.cell? ⟨L.op, 15, none⟩ = some (.int .i64 18) ∧ W'.cell? ⟨L.op, 16, none⟩ = some (.int .i64 2) ∧ W'.cell? ⟨L.op, 17, none⟩ = some (.int .i64 0))
      (first
        | exact ⟨(HD1.out.fr hq0).m.cells.1, (HD1.out.fr hq0).m.cells.2.2.2.1, (HS1.out.fr hq0).p.cell rfl, (HS1.out.fr hq0).o.cell rfl, (HS1.out.fr hq0).o.cell rfl, (HS1.out.fr hq0).o.cell rfl⟩
        | exact ⟨(HD1.out.fr (hq0.alloc _)).m.cells.1, (HD1.out.fr (hq0.alloc _)).m.cells.2.2.2.1, (HS1.out.fr (hq0.alloc _)).p.cell rfl, (HS1.out.fr (hq0.alloc _)).o.cell rfl, (HS1.out.fr (hq0.alloc _)).o.cell rfl, (HS1.out.fr (hq0.alloc _)).o.cell rfl⟩)
      ((fail))
    obtain ⟨w2, hw2⟩ : ∃ y, y = (w1.alloc (.cells #[.int .i64 18, .int .i64 2, .int .i64 0] 60)).drew := ⟨_, rfl⟩
    have HF2 : Hid (Fr w w2) := Lib.hid (by rw [hw2]; exact (HF1.out.alloc _).drew)
    have HB2 : Hid (Blk w2 w1.heap.size 60 #[.int .i64 18, .int .i64 2, .int .i64 0]) := Lib.hid (by rw [hw2]; exact Blk.fr (Blk.new w1 _ _) (Fr.refl _).drew)
    rw [← hw2]
    clear hw2
    have HD2 := Lib.hid (HD.out.fr HF2.out)
    have hb1 : w1.heap.size ≠ L.b := fun e => HNK.out _ HF1.out.size (Or.inl e)
    have hb2 : w1.heap.size ≠ L.bg := fun e => HNK.out _ HF1.out.size (Or.inr (Or.inr (Or.inr e)))
    have hb3 := K.out.b3
    have hb4 : L.bg ≠ L.b := fun e => K.out.b3 e.symm
    go_wp2_with fail
    obtain ⟨k0, k1, k2, k3, k4, k5, k6, k7⟩ := (HD.out.fr HF2.out).m.cells
    simp only [mkS] at k0 k1 k2 k3 k4 k5 k6 k7
    have m20 : w2.cell? ⟨L.b, 20, none⟩ = some (.slice (some ⟨L.bg, 0, none⟩) 7 7) := Blk.cell (HD.out.fr HF2.out).m rfl
    have x0 := (HD.out.fr HF2.out).g.cell (show 5 < 7 by omega)
    rw [HBJ.out] at x0
    have x1 := (HD.out.fr HF2.out).g.free 5
    have y3 := Blk.free (HD.out.fr HF2.out).m 3
    have q0 : w2.cell? ⟨w1.heap.size, 0, none⟩ = some (.int .i64 18) := HB2.out.cell rfl
    have q1 : w2.cell? ⟨w1.heap.size, 1, none⟩ = some (.int .i64 2) := HB2.out.cell rfl
    have q2 : w2.cell? ⟨w1.heap.size, 2, none⟩ = some (.int .i64 0) := HB2.out.cell rfl
    go_still_tail 13, (by kernel_rfl)
    change wpList _ _ _ _ _ w2.drew
    go_wp2_with fail
    obtain ⟨w4, hw4⟩ : ∃ y, y = ((w2.setCell ⟨L.bg, 5, none⟩ (.int .i64 1)).setCell ⟨L.b, 3, none⟩ (.int .i64 6)).drew := ⟨_, rfl⟩
    have HD4 : Hid (Dyn w4 L (mkS L 8000 3 6 oa ob st false) f fc (upd fb 5 (.int .i64 1))) := Lib.hid (by
      rw [hw4]
      refine Dyn.fr ?_ (Fr.refl _).drew
      exact ⟨Blk.set (HD2.out.m.far K.out.b3 _) 3 _ rfl, (HD2.out.f.far (p := ⟨L.bg, 5, none⟩) K.out.b5 _).far (p := ⟨L.b, 3, none⟩) (fun e => K.out.b1 e.symm) _, (HD2.out.c.far (p := ⟨L.bg, 5, none⟩) K.out.b6 _).far (p := ⟨L.b, 3, none⟩) (fun e => K.out.b2 e.symm) _, (HD2.out.g.set (show 5 < 7 by omega) _).far (p := ⟨L.b, 3, none⟩) (fun e => K.out.b3 e.symm) _⟩)
    have HX4 : Hid (Ex (Kd L) w w4) := Lib.hid (by rw [hw4]; exact (((Fr.ex HF2.out).set (p := ⟨L.bg, 5, none⟩) (Or.inr (Or.inr (Or.inr rfl))) _).set (p := ⟨L.b, 3, none⟩) (Or.inl rfl) _).fr (Fr.refl _).drew)
    rw [← hw4]
    clear hw4 k0 k1 k2 k3 k4 k5 k6 k7 m20 x0 x1 y3
    refine (CD.out w4 HX4.out HD4.out).mono ?_
    rintro e w5 ⟨rfl, hd, hx⟩
    have HD5 := Lib.hid hd
    have HX5 := Lib.hid (HX4.out.trans hx)
    clear hd hx q0 q1 q2
    go_wp2_with fail
    go_ret
    exact ⟨rfl, HD5.out, HX5.out⟩
set_option maxRecDepth 100000 in
set_option maxHeartbeats 4000000 in
theorem adv_6 (L : Lay) (oa ob : Value) (st : Int) (f fc fb : Nat → Value) (w : World) (k : LayOk L) (s : Sta w L) (h : Dyn w L (mkS L 8000 2 6 oa ob st false) f fc fb) (hb : fb 6 = .int .i64 0) (hst : (st == 0) = false) (h0 : f 8000 = .int .i64 8000) (h1 : f 8001 = .int .i64 (-1)) :
    Calls Tryz.prog 43 #[.pointer (some ⟨L.b, 0, none⟩)] w fun e w' => e = .returned (.int .i64 0) ∧ Dyn w' L (mkS L 8000 2 7 oa ob st true) f fc (upd fb 6 (.int .i64 1)) ∧ Ex (Kd L) w w' := by
  have CD := Lib.hid (fun W (x : Ex (Kd L) w W) (hd : Dyn W L (mkS L 8000 2 7 oa ob st false) f fc (upd fb 6 (.int .i64 1))) => do_back L 2 7 oa ob st f fc (upd fb 6 (.int .i64 1)) W k (s.ex k x) hd h0 h1)
  have HD := Lib.hid h
  have HS := Lib.hid s
  have K := Lib.hid k
  have HBJ := Lib.hid hb
  have HLW := Lib.hid h.m.lt
  have HNK : Hid (∀ i, w.heap.size ≤ i → ¬ Kd L i) := Lib.hid (fun i hi e => by
    have h1 := h.m.lt; have h2 := h.f.lt; have h3 := h.c.lt; have h4 := h.g.lt
    rcases e with e | e | e | e <;> omega)
  have m13 : w.cell? ⟨L.b, 13, none⟩ = some (.int .i64 st) := Blk.cell h.m rfl
  clear h s k hb h0 h1
  go_enter Tryz.func43, Tryz.ntmps43
  go_wp2_with fail
  clear m13
  go_loopw [11] (fun _ wr => Hid (Fr w wr)) (fun _ _ => 0)
  case atStart => exact Lib.hid (Fr.refl _)
  case round =>
    have HFR := hrel
    clear hrel
    have HDR := Lib.hid (HD.out.fr HFR.out)
    have HSR := Lib.hid (HS.out.fr HFR.out)
    obtain ⟨k0, k1, k2, k3, k4, k5, k6, k7⟩ := HDR.out.m.cells
    simp only [mkS] at k0 k1 k2 k3 k4 k5 k6 k7
    have p3 : wr.cell? ⟨L.pb, 3, none⟩ = some (.slice (some ⟨L.op, 0, none⟩) 7 L.oc) := HSR.out.p.cell rfl
    have o0 : wr.cell? ⟨L.op, 18, none⟩ = some (.int .i64 26) := HSR.out.o.cell rfl
    have o1 : wr.cell? ⟨L.op, 19, none⟩ = some (.int .i64 0) := HSR.out.o.cell rfl
    have o2 : wr.cell? ⟨L.op, 20, none⟩ = some (.int .i64 0) := HSR.out.o.cell rfl
    go_wp2_with fail
    go_quiet (fail)
    rename_i nq
    have HF1 : Hid (Fr w (wr.drewN nq)) := Lib.hid (HFR.out.drewN nq)
    obtain ⟨w1, hw1⟩ : ∃ y, y = wr.drewN nq := ⟨_, rfl⟩
    rw [← hw1] at HF1 ⊢
    clear hw1 k0 k1 k2 k3 k4 k5 k6 k7 p3 o0 o1 o2 HDR HSR HFR
    go_wp2_with fail
    have HD1 := Lib.hid (HD.out.fr HF1.out)
    have HS1 := Lib.hid (HS.out.fr HF1.out)
    have hq0 : Fr w1 w1.drew := (Fr.refl w1).drew
    go_region_held3 (fun W' => W'.cell? ⟨L.b, 0, none⟩ = some (.pointer (some ⟨L.pb, 0, none⟩)) ∧ W'.cell? ⟨L.b, 3, none⟩ = some (.int .i64 6) ∧ W'.cell? ⟨L.pb, 3, none⟩ = some (.slice (some ⟨L.op, 0, none⟩) 7 L.oc) ∧ W'.cell? ⟨L.op, 18, none⟩ = some (.int .i64 26) ∧ W'.cell? ⟨L.op, 19, none⟩ = some (.int .i64 0) ∧ W'.cell? ⟨L.op, 20, none⟩ = some (.int .i64 0))
      (first
        | exact ⟨(HD1.out.fr hq0).m.cells.1, (HD1.out.fr hq0).m.cells.2.2.2.1, (HS1.out.fr hq0).p.cell rfl, (HS1.out.fr hq0).o.cell rfl, (HS1.out.fr hq0).o.cell rfl, (HS1.out.fr hq0).o.cell rfl⟩
        | exact ⟨(HD1.out.fr (hq0.alloc _)).m.cells.1, (HD1.out.fr (hq0.alloc _)).m.cells.2.2.2.1, (HS1.out.fr (hq0.alloc _)).p.cell rfl, (HS1.out.fr (hq0.alloc _)).o.cell rfl, (HS1.out.fr (hq0.alloc _)).o.cell rfl, (HS1.out.fr (hq0.alloc _)).o.cell rfl⟩)
      ((fail))
    obtain ⟨w2, hw2⟩ : ∃ y, y = (w1.alloc (.cells #[.int .i64 26, .int .i64 0, .int .i64 0] 60)).drew := ⟨_, rfl⟩
    have HF2 : Hid (Fr w w2) := Lib.hid (by rw [hw2]; exact (HF1.out.alloc _).drew)
    have HB2 : Hid (Blk w2 w1.heap.size 60 #[.int .i64 26, .int .i64 0, .int .i64 0]) := Lib.hid (by rw [hw2]; exact Blk.fr (Blk.new w1 _ _) (Fr.refl _).drew)
    rw [← hw2]
    clear hw2
    have HD2 := Lib.hid (HD.out.fr HF2.out)
    have hb1 : w1.heap.size ≠ L.b := fun e => HNK.out _ HF1.out.size (Or.inl e)
    have hb2 : w1.heap.size ≠ L.bg := fun e => HNK.out _ HF1.out.size (Or.inr (Or.inr (Or.inr e)))
    have hb3 := K.out.b3
    have hb4 : L.bg ≠ L.b := fun e => K.out.b3 e.symm
    go_wp2_with fail
    obtain ⟨k0, k1, k2, k3, k4, k5, k6, k7⟩ := (HD.out.fr HF2.out).m.cells
    simp only [mkS] at k0 k1 k2 k3 k4 k5 k6 k7
    have m20 : w2.cell? ⟨L.b, 20, none⟩ = some (.slice (some ⟨L.bg, 0, none⟩) 7 7) := Blk.cell (HD.out.fr HF2.out).m rfl
    have x0 := (HD.out.fr HF2.out).g.cell (show 6 < 7 by omega)
    rw [HBJ.out] at x0
    have x1 := (HD.out.fr HF2.out).g.free 6
    have y3 := Blk.free (HD.out.fr HF2.out).m 3
    have q0 : w2.cell? ⟨w1.heap.size, 0, none⟩ = some (.int .i64 26) := HB2.out.cell rfl
    have q1 : w2.cell? ⟨w1.heap.size, 1, none⟩ = some (.int .i64 0) := HB2.out.cell rfl
    have q2 : w2.cell? ⟨w1.heap.size, 2, none⟩ = some (.int .i64 0) := HB2.out.cell rfl
    go_still_tail 13, (by kernel_rfl)
    change wpList _ _ _ _ _ w2.drew
    go_wp2_with fail
    obtain ⟨w4, hw4⟩ : ∃ y, y = ((w2.setCell ⟨L.bg, 6, none⟩ (.int .i64 1)).setCell ⟨L.b, 3, none⟩ (.int .i64 7)).drew := ⟨_, rfl⟩
    have HD4 : Hid (Dyn w4 L (mkS L 8000 2 7 oa ob st false) f fc (upd fb 6 (.int .i64 1))) := Lib.hid (by
      rw [hw4]
      refine Dyn.fr ?_ (Fr.refl _).drew
      exact ⟨Blk.set (HD2.out.m.far K.out.b3 _) 3 _ rfl, (HD2.out.f.far (p := ⟨L.bg, 6, none⟩) K.out.b5 _).far (p := ⟨L.b, 3, none⟩) (fun e => K.out.b1 e.symm) _, (HD2.out.c.far (p := ⟨L.bg, 6, none⟩) K.out.b6 _).far (p := ⟨L.b, 3, none⟩) (fun e => K.out.b2 e.symm) _, (HD2.out.g.set (show 6 < 7 by omega) _).far (p := ⟨L.b, 3, none⟩) (fun e => K.out.b3 e.symm) _⟩)
    have HX4 : Hid (Ex (Kd L) w w4) := Lib.hid (by rw [hw4]; exact (((Fr.ex HF2.out).set (p := ⟨L.bg, 6, none⟩) (Or.inr (Or.inr (Or.inr rfl))) _).set (p := ⟨L.b, 3, none⟩) (Or.inl rfl) _).fr (Fr.refl _).drew)
    rw [← hw4]
    clear hw4 k0 k1 k2 k3 k4 k5 k6 k7 m20 x0 x1 y3
    refine (CD.out w4 HX4.out HD4.out).mono ?_
    rintro e w5 ⟨rfl, hd, hx⟩
    have HD5 := Lib.hid hd
    have HX5 := Lib.hid (HX4.out.trans hx)
    clear hd hx q0 q1 q2
    go_wp2_with fail
    go_ret
    exact ⟨rfl, HD5.out, HX5.out⟩
set_option maxRecDepth 100000 in
set_option maxHeartbeats 4000000 in
theorem adv_first (L : Lay) (oa ob : Value) (f fc fb : Nat → Value) (w : World) (k : LayOk L) (s : Sta w L) (h : Dyn w L (mkS L 8000 0 0 oa ob 0 false) f fc fb) (h1 : f 1 = .int .i64 ((32000 + 1 : Nat) : Int)) :
    Calls Tryz.prog 43 #[.pointer (some ⟨L.b, 0, none⟩)] w (RetD L (mkS L 8000 0 0 oa ob 0 false) (upd (upd f 8000 (.int .i64 8000)) 8001 (.int .i64 (-1))) (upd fc 0 (.bool true)) fb (.int .i64 0) w) := by
  have CS := Lib.hid (start_d L oa ob 0 false f fc fb w k s h h1)
  have m13 : w.cell? ⟨L.b, 13, none⟩ = some (.int .i64 0) := Blk.cell h.m rfl
  clear h s k h1
  go_enter Tryz.func43, Tryz.ntmps43
  go_wp2_with fail
  refine (CS.out).mono ?_
  rintro e w1 ⟨rfl, hd, hx⟩
  have HD := Lib.hid hd
  have HX := Lib.hid hx
  clear hd hx
  go_wp2_with fail
  go_ret
  exact ⟨rfl, HD.out, HX.out⟩
set_option maxRecDepth 100000 in
set_option maxHeartbeats 4000000 in
theorem step_first (L : Lay) (oa ob : Value) (f fc fb : Nat → Value) (w : World) (k : LayOk L) (s : Sta w L) (h : Dyn w L (mkS L 8000 0 0 oa ob 0 false) f fc fb) (h1 : f 1 = .int .i64 ((32000 + 1 : Nat) : Int)) :
    Calls Tryz.prog 32 #[.pointer (some ⟨L.b, 0, none⟩)] w fun e w' => e = .returned (.tuple #[]) ∧ Dyn w' L (mkS L 8000 0 0 oa ob 1 false) (upd (upd f 8000 (.int .i64 8000)) 8001 (.int .i64 (-1))) (upd fc 0 (.bool true)) fb ∧ Ex (Kd L) w w' := by
  have CA := Lib.hid (adv_first L oa ob f fc fb w k s h h1)
  have K := Lib.hid k
  have HLW := Lib.hid h.m.lt
  clear h s k
  go_enter Tryz.func32, Tryz.ntmps32
  go_wp2_with fail
  refine (CA.out).mono ?_
  rintro e w1 ⟨rfl, hd, hx⟩
  have HD := Lib.hid hd
  have HX := Lib.hid hx
  have m13 : w1.cell? ⟨L.b, 13, none⟩ = some (.int .i64 0) := Blk.cell hd.m rfl
  have g13 := Blk.free hd.m 13
  clear hd hx
  go_wp2_with fail
  go_end0
  exact ⟨rfl, ⟨Blk.set HD.out.m 13 _ rfl, HD.out.f.far (fun e => K.out.b1 e.symm) _, HD.out.c.far (fun e => K.out.b2 e.symm) _, HD.out.g.far (fun e => K.out.b3 e.symm) _⟩, HX.out.set (Or.inl rfl) _⟩
set_option maxRecDepth 100000 in
set_option maxHeartbeats 4000000 in
theorem step_0 (L : Lay) (oa ob : Value) (f fc fb : Nat → Value) (w : World) (k : LayOk L) (s : Sta w L) (h : Dyn w L (mkS L 8000 0 0 oa ob 1 false) f fc fb) (hb : fb 0 = .int .i64 0)  :
    Calls Tryz.prog 32 #[.pointer (some ⟨L.b, 0, none⟩)] w fun e w' => e = .returned (.tuple #[]) ∧ Dyn w' L (mkS L 8000 2 1 oa ob 2 false) f fc (upd fb 0 (.int .i64 1)) ∧ Ex (Kd L) w w' := by
  have CA := Lib.hid (adv_0 L oa ob 1 f fc fb w k s h hb (by decide))
  have K := Lib.hid k
  have HLW := Lib.hid h.m.lt
  clear h s k
  go_enter Tryz.func32, Tryz.ntmps32
  go_wp2_with fail
  refine (CA.out).mono ?_
  rintro e w1 ⟨rfl, hd, hx⟩
  have HD := Lib.hid hd
  have HX := Lib.hid hx
  have m13 : w1.cell? ⟨L.b, 13, none⟩ = some (.int .i64 1) := Blk.cell hd.m rfl
  have g13 := Blk.free hd.m 13
  clear hd hx
  go_wp2_with fail
  go_end0
  exact ⟨rfl, ⟨Blk.set HD.out.m 13 _ rfl, HD.out.f.far (fun e => K.out.b1 e.symm) _, HD.out.c.far (fun e => K.out.b2 e.symm) _, HD.out.g.far (fun e => K.out.b3 e.symm) _⟩, HX.out.set (Or.inl rfl) _⟩
set_option maxRecDepth 100000 in
set_option maxHeartbeats 4000000 in
theorem step_1 (L : Lay) (oa ob : Value) (f fc fb : Nat → Value) (w : World) (k : LayOk L) (s : Sta w L) (h : Dyn w L (mkS L 8000 2 1 oa ob 2 false) f fc fb) (hb : fb 1 = .int .i64 0)  :
    Calls Tryz.prog 32 #[.pointer (some ⟨L.b, 0, none⟩)] w fun e w' => e = .returned (.tuple #[]) ∧ Dyn w' L (mkS L 8000 4 2 oa ob 3 false) f fc (upd fb 1 (.int .i64 1)) ∧ Ex (Kd L) w w' := by
  have CA := Lib.hid (adv_1 L oa ob 2 f fc fb w k s h hb (by decide))
  have K := Lib.hid k
  have HLW := Lib.hid h.m.lt
  clear h s k
  go_enter Tryz.func32, Tryz.ntmps32
  go_wp2_with fail
  refine (CA.out).mono ?_
  rintro e w1 ⟨rfl, hd, hx⟩
  have HD := Lib.hid hd
  have HX := Lib.hid hx
  have m13 : w1.cell? ⟨L.b, 13, none⟩ = some (.int .i64 2) := Blk.cell hd.m rfl
  have g13 := Blk.free hd.m 13
  clear hd hx
  go_wp2_with fail
  go_end0
  exact ⟨rfl, ⟨Blk.set HD.out.m 13 _ rfl, HD.out.f.far (fun e => K.out.b1 e.symm) _, HD.out.c.far (fun e => K.out.b2 e.symm) _, HD.out.g.far (fun e => K.out.b3 e.symm) _⟩, HX.out.set (Or.inl rfl) _⟩
set_option maxRecDepth 100000 in
set_option maxHeartbeats 4000000 in
theorem step_2 (L : Lay) (oa ob : Value) (f fc fb : Nat → Value) (w : World) (k : LayOk L) (s : Sta w L) (h : Dyn w L (mkS L 8000 4 2 oa ob 3 false) f fc fb) (hb : fb 2 = .int .i64 0)  :
    Calls Tryz.prog 32 #[.pointer (some ⟨L.b, 0, none⟩)] w fun e w' => e = .returned (.tuple #[]) ∧ Dyn w' L (mkS L 8000 5 3 oa ob 4 false) (upd f 8004 (.int .i64 65)) fc (upd fb 2 (.int .i64 1)) ∧ Ex (Kd L) w w' := by
  have CA := Lib.hid (adv_2 L oa ob 3 f fc fb w k s h hb (by decide))
  have K := Lib.hid k
  have HLW := Lib.hid h.m.lt
  clear h s k
  go_enter Tryz.func32, Tryz.ntmps32
  go_wp2_with fail
  refine (CA.out).mono ?_
  rintro e w1 ⟨rfl, hd, hx⟩
  have HD := Lib.hid hd
  have HX := Lib.hid hx
  have m13 : w1.cell? ⟨L.b, 13, none⟩ = some (.int .i64 3) := Blk.cell hd.m rfl
  have g13 := Blk.free hd.m 13
  clear hd hx
  go_wp2_with fail
  go_end0
  exact ⟨rfl, ⟨Blk.set HD.out.m 13 _ rfl, HD.out.f.far (fun e => K.out.b1 e.symm) _, HD.out.c.far (fun e => K.out.b2 e.symm) _, HD.out.g.far (fun e => K.out.b3 e.symm) _⟩, HX.out.set (Or.inl rfl) _⟩
set_option maxRecDepth 100000 in
set_option maxHeartbeats 4000000 in
theorem step_3 (L : Lay) (oa ob : Value) (f fc fb : Nat → Value) (w : World) (k : LayOk L) (s : Sta w L) (h : Dyn w L (mkS L 8000 5 3 oa ob 4 false) f fc fb) (hb : fb 3 = .int .i64 0) (h3 : f 3 = .int .i64 32503)  :
    Calls Tryz.prog 32 #[.pointer (some ⟨L.b, 0, none⟩)] w fun e w' => e = .returned (.tuple #[]) ∧ Dyn w' L (mkS L 8000 6 4 oa ob 5 false) (upd f 8005 (.int .i64 32503)) fc (upd fb 3 (.int .i64 1)) ∧ Ex (Kd L) w w' := by
  have CA := Lib.hid (adv_3 L oa ob 4 f fc fb w k s h hb (by decide) h3)
  have K := Lib.hid k
  have HLW := Lib.hid h.m.lt
  clear h s k
  go_enter Tryz.func32, Tryz.ntmps32
  go_wp2_with fail
  refine (CA.out).mono ?_
  rintro e w1 ⟨rfl, hd, hx⟩
  have HD := Lib.hid hd
  have HX := Lib.hid hx
  have m13 : w1.cell? ⟨L.b, 13, none⟩ = some (.int .i64 4) := Blk.cell hd.m rfl
  have g13 := Blk.free hd.m 13
  clear hd hx
  go_wp2_with fail
  go_end0
  exact ⟨rfl, ⟨Blk.set HD.out.m 13 _ rfl, HD.out.f.far (fun e => K.out.b1 e.symm) _, HD.out.c.far (fun e => K.out.b2 e.symm) _, HD.out.g.far (fun e => K.out.b3 e.symm) _⟩, HX.out.set (Or.inl rfl) _⟩
set_option maxRecDepth 100000 in
set_option maxHeartbeats 4000000 in
theorem step_4 (L : Lay) (f fc fb : Nat → Value) (w : World) (k : LayOk L) (s : Sta w L) (h : Dyn w L (mkS L 8000 6 4 (.pointer none) (.slice none 0 0) 5 false) f fc fb) (hb : fb 4 = .int .i64 0) (htv : f 8005 = .int .i64 32503) (hv : f 8004 = .int .i64 65)  :
    Calls Tryz.prog 32 #[.pointer (some ⟨L.b, 0, none⟩)] w fun e w' => e = .returned (.tuple #[]) ∧ (∃ ob, Dyn w' L (mkS L 8000 3 5 (.pointer (some ⟨L.b, 11, none⟩)) ob 6 false) (upd f 8002 (.int .i64 0)) fc (upd fb 4 (.int .i64 1)) ∧ w'.ownsRow w.heap.size 5 1 ob 1 [.int .u8 65]) ∧ Ex (Kd L) w w' := by
  have CA := Lib.hid (adv_4 L 5 f fc fb w k s h hb (by decide) htv hv)
  have K := Lib.hid k
  have HLW := Lib.hid h.m.lt
  clear h s k
  go_enter Tryz.func32, Tryz.ntmps32
  go_wp2_with fail
  refine (CA.out).mono ?_
  rintro e w1 ⟨rfl, ⟨ob, hd, ho⟩, hx⟩
  have HD := Lib.hid hd
  have HX := Lib.hid hx
  have HO := Lib.hid ho
  have m13 : w1.cell? ⟨L.b, 13, none⟩ = some (.int .i64 5) := Blk.cell hd.m rfl
  have g13 := Blk.free hd.m 13
  clear hd ho hx
  go_wp2_with fail
  go_end0
  refine ⟨rfl, ⟨ob, ⟨Blk.set HD.out.m 13 _ rfl, HD.out.f.far (fun e => K.out.b1 e.symm) _, HD.out.c.far (fun e => K.out.b2 e.symm) _, HD.out.g.far (fun e => K.out.b3 e.symm) _⟩, ?_⟩, HX.out.set (Or.inl rfl) _⟩
  exact Ex.own (X := fun k => k = L.b) ((Ex.refl (fun k => k = L.b) w1).set (p := ⟨L.b, 13, none⟩) rfl _) (fun i hi e => by have h1 := (HO.out.lt i hi).1; have h2 := HLW.out; have e : i = L.b := e; omega) HO.out
set_option maxRecDepth 100000 in
set_option maxHeartbeats 4000000 in
theorem step_5 (L : Lay) (oa ob : Value) (f fc fb : Nat → Value) (w : World) (k : LayOk L) (s : Sta w L) (h : Dyn w L (mkS L 8000 3 5 oa ob 6 false) f fc fb) (hb : fb 5 = .int .i64 0)  :
    Calls Tryz.prog 32 #[.pointer (some ⟨L.b, 0, none⟩)] w fun e w' => e = .returned (.tuple #[]) ∧ Dyn w' L (mkS L 8000 2 6 oa ob 7 false) f fc (upd fb 5 (.int .i64 1)) ∧ Ex (Kd L) w w' := by
  have CA := Lib.hid (adv_5 L oa ob 6 f fc fb w k s h hb (by decide))
  have K := Lib.hid k
  have HLW := Lib.hid h.m.lt
  clear h s k
  go_enter Tryz.func32, Tryz.ntmps32
  go_wp2_with fail
  refine (CA.out).mono ?_
  rintro e w1 ⟨rfl, hd, hx⟩
  have HD := Lib.hid hd
  have HX := Lib.hid hx
  have m13 : w1.cell? ⟨L.b, 13, none⟩ = some (.int .i64 6) := Blk.cell hd.m rfl
  have g13 := Blk.free hd.m 13
  clear hd hx
  go_wp2_with fail
  go_end0
  exact ⟨rfl, ⟨Blk.set HD.out.m 13 _ rfl, HD.out.f.far (fun e => K.out.b1 e.symm) _, HD.out.c.far (fun e => K.out.b2 e.symm) _, HD.out.g.far (fun e => K.out.b3 e.symm) _⟩, HX.out.set (Or.inl rfl) _⟩
set_option maxRecDepth 100000 in
set_option maxHeartbeats 4000000 in
theorem step_6 (L : Lay) (oa ob : Value) (f fc fb : Nat → Value) (w : World) (k : LayOk L) (s : Sta w L) (h : Dyn w L (mkS L 8000 2 6 oa ob 7 false) f fc fb) (hb : fb 6 = .int .i64 0) (h0 : f 8000 = .int .i64 8000) (h1 : f 8001 = .int .i64 (-1))  :
    Calls Tryz.prog 32 #[.pointer (some ⟨L.b, 0, none⟩)] w fun e w' => e = .returned (.tuple #[]) ∧ Dyn w' L (mkS L 8000 2 7 oa ob 8 true) f fc (upd fb 6 (.int .i64 1)) ∧ Ex (Kd L) w w' := by
  have CA := Lib.hid (adv_6 L oa ob 7 f fc fb w k s h hb (by decide) h0 h1)
  have K := Lib.hid k
  have HLW := Lib.hid h.m.lt
  clear h s k
  go_enter Tryz.func32, Tryz.ntmps32
  go_wp2_with fail
  refine (CA.out).mono ?_
  rintro e w1 ⟨rfl, hd, hx⟩
  have HD := Lib.hid hd
  have HX := Lib.hid hx
  have m13 : w1.cell? ⟨L.b, 13, none⟩ = some (.int .i64 7) := Blk.cell hd.m rfl
  have g13 := Blk.free hd.m 13
  clear hd hx
  go_wp2_with fail
  go_end0
  exact ⟨rfl, ⟨Blk.set HD.out.m 13 _ rfl, HD.out.f.far (fun e => K.out.b1 e.symm) _, HD.out.c.far (fun e => K.out.b2 e.symm) _, HD.out.g.far (fun e => K.out.b3 e.symm) _⟩, HX.out.set (Or.inl rfl) _⟩
end Go.Proofs.YtdnckbcknahakaaGreat
