/- The small code's machine: it goes back. -/
import Derived.Test.YtdnckbcknahakaaGreatSJ
namespace Go.Proofs.YtdnckbcknahakaaGreat
open Go.RowKit
set_option linter.unusedVariables false
set_option linter.unusedSimpArgs false

theorem keepG {w w' : World} {L : Lay} {D pl : Int} {oa ob : Value} {st : Int} {en : Bool} {f fc fb : Nat → Value} (h : Dyn w L (mkS L 8000 D pl oa ob st en) f fc fb) (x : Fr w w') : w'.cell? ⟨L.b, 1, none⟩ = some (.int .i64 8000) ∧ w'.cell? ⟨L.b, 7, none⟩ = some (.pointer (some ⟨L.rb, 0, none⟩)) :=
  ⟨(h.fr x).m.cells.2.1, (h.fr x).m.cells.2.2.2.2.2.2.2⟩
set_option maxRecDepth 100000 in
set_option maxHeartbeats 4000000 in
theorem giveBack_d (L : Lay) (D pl : Int) (oa ob : Value) (st : Int) (f fc fb : Nat → Value) (w : World) (k : LayOk L) (s : Sta w L) (h : Dyn w L (mkS L 8000 D pl oa ob st false) f fc fb) (h0 : f 8000 = .int .i64 8000) (h1 : f 8001 = .int .i64 (-1)) :
    Calls Tryz.prog 132 #[.pointer (some ⟨L.b, 0, none⟩), .int .i64 0] w (RetD L (mkS L 8000 D pl oa ob st true) f fc fb (.int .i64 0) w) := by
  have CK := Lib.hid (fun W (x : Fr w W) => link_d L D pl oa ob st false f fc fb W k (s.fr x) (h.fr x) h0 h1)
  have CV := Lib.hid (fun W (x : Fr w W) => leave_d L 8000 D pl oa ob st f fc fb W k (s.fr x) (h.fr x))
  have HD := Lib.hid h
  have hq0 : Fr w w.drew := (Fr.refl w).drew
  obtain ⟨k0, k1, k2, k3, k4, k5, k6, k7⟩ := h.m.cells
  simp only [mkS] at k0 k1 k2 k3 k4 k5 k6 k7
  clear h k s h0 h1
  go_enter Tryz.func132, Tryz.ntmps132
  go_wp2_with fail
  go_region_held3 (fun W' => W'.cell? ⟨L.b, 1, none⟩ = some (.int .i64 8000) ∧ W'.cell? ⟨L.b, 7, none⟩ = some (.pointer (some ⟨L.rb, 0, none⟩)))
    (first | exact keepG HD.out (by assumption) | exact keepG HD.out (hq1.alloc _) | exact keepG HD.out (hq0.alloc _) | exact keepG HD.out (((hq1.setCell (Nat.le_refl _) _).setCell (Nat.le_refl _) _).setCell (Nat.le_refl _) _))
    ((first
      | (go_at_call 35; (with_reducible refine (CK.out _ hq0).mono ?_); rintro e w1 ⟨rfl, hf1⟩; have hq1 := Fr.trans hq0 hf1)
      | (go_at_call 35; refine (CK.out _ (hq0.alloc _)).mono ?_; rintro e w1 ⟨rfl, hf1⟩; have hq1 := Fr.trans (hq0.alloc _) hf1; have hb : Blk w1 w.heap.size 64 #[.int .i64 0, .int .i64 0, .int .i64 0] := Blk.fr (Blk.new w.drew _ _) hf1; have x0 : w1.cell? ⟨w.heap.size, 0, none⟩ = some (.int .i64 0) := hb.cell rfl; have x1 : w1.cell? ⟨w.heap.size, 1, none⟩ = some (.int .i64 0) := hb.cell rfl; have x2 : w1.cell? ⟨w.heap.size, 2, none⟩ = some (.int .i64 0) := hb.cell rfl; have y0 := hb.free 0; have y1 := hb.free 1; have y2 := hb.free 2)))
  · obtain ⟨wz, hwz⟩ : ∃ y, y = w1.alloc (.cells #[.int .i64 0, .int .i64 0, .int .i64 0] 64) := ⟨_, rfl⟩
    have HFZ : Hid (Fr w wz) := Lib.hid (by rw [hwz]; exact hq1.alloc _)
    rw [← hwz]
    clear hwz hq1 hq0 k0 k1 k2 k3 k4 k5 k6 k7
    go_wp2_with fail
    refine (CV.out _ HFZ.out).mono ?_
    rintro e w3 ⟨rfl, hd, hx⟩
    have HD3 := Lib.hid hd
    have HX3 := Lib.hid ((Fr.ex HFZ.out).trans hx)
    clear hd hx
    go_wp2_with fail
    go_ret
    exact ⟨rfl, HD3.out, HX3.out⟩
  · obtain ⟨wz, hwz⟩ : ∃ y, y = ((w1.setCell ⟨w.heap.size, 0, none⟩ (.int .i64 0)).setCell ⟨w.heap.size, 1, none⟩ (.int .i64 0)).setCell ⟨w.heap.size, 2, none⟩ (.int .i64 0) := ⟨_, rfl⟩
    have HFZ : Hid (Fr w wz) := Lib.hid (by rw [hwz]; exact ((hq1.setCell (Nat.le_refl _) _).setCell (Nat.le_refl _) _).setCell (Nat.le_refl _) _)
    rw [← hwz]
    clear hb x0 x1 x2 y0 y1 y2
    clear hwz hq1 hq0 k0 k1 k2 k3 k4 k5 k6 k7
    go_wp2_with fail
    refine (CV.out _ HFZ.out).mono ?_
    rintro e w3 ⟨rfl, hd, hx⟩
    have HD3 := Lib.hid hd
    have HX3 := Lib.hid ((Fr.ex HFZ.out).trans hx)
    clear hd hx
    go_wp2_with fail
    go_ret
    exact ⟨rfl, HD3.out, HX3.out⟩
end Go.Proofs.YtdnckbcknahakaaGreat
