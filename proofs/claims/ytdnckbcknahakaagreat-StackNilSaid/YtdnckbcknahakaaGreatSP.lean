/- What the small code's run hands back. -/
import Derived.Test.YtdnckbcknahakaaGreatSO
namespace Go.Proofs.YtdnckbcknahakaaGreat
open Go.RowKit
set_option linter.unusedVariables false
set_option linter.unusedSimpArgs false

theorem Ex.freeze (w : World) (g n : Nat) : Ex (fun k => k = g) w (w.freeze ⟨g, 0, none⟩ n) := by
  refine ⟨?_, fun k hk hx => ?_, fun m W hm hb hx => Lib.below_freeze hb (p := ⟨g, 0, none⟩) (hx g rfl) n⟩
  · have h := Lib.below_freeze (Below.refl g w) (p := ⟨g, 0, none⟩) (Nat.le_refl _) n
    exact h.size
  · have hne : g ≠ k := fun e => hx e.symm
    unfold World.freeze
    split
    · rfl
    · simp [Array.getElem?_modify, hne]
theorem byt_cells : Tryz.prog.cellsOf 5 = 1 := by kernel_rfl
set_option maxRecDepth 100000 in
set_option maxHeartbeats 4000000 in
theorem bstr_d (b B : Nat) (ob : Value) (w : World) (h12 : w.cell? ⟨b, 12, none⟩ = some ob) (ho : w.ownsRow B 5 1 ob 1 [.int .u8 65]) :
    Calls Tryz.prog 33 #[.pointer (some ⟨b, 11, none⟩)] w fun e w' => e = .returned (.string ⟨#[65]⟩) ∧ ∃ g, ob.ownBlock = some g ∧ Ex (fun k => k = g) w w' := by
  obtain ⟨g, cap, cur, rfl, hbg, hg, hnc, hcm, hcs, htake⟩ : ∃ g cap cur, ob = .slice (some ⟨g, 0, none⟩) 1 cap ∧ B ≤ g ∧ w.heap[g]? = some (.cells cur 5 (0, 0)) ∧ 1 ≤ cap ∧ cap ≤ maxLen ∧ _ ∧ _ := by
    rcases ho.2 with ⟨_, hz⟩ | ⟨g, cap, cur, hv, r⟩
    · exact absurd hz (by omega)
    · exact ⟨g, cap, cur, hv, r⟩
  have c1 : w.drew.cell? ⟨b, 12, none⟩ = some (.slice (some ⟨g, 0, none⟩) 1 cap) := (Fr.refl w).drew.cell h12
  have hSD : (Builtin.unsafeSliceData_ #[70] 113 #[.slice (some ⟨g, 0, none⟩) 1 cap]).run Tryz.prog w.drew = .ok (.pointer (some ⟨g, 0, none⟩)) w.drew :=
    Lib.run_unsafeSliceData_row _ _ _ _ _ _ (by omega)
  have hUS : (Builtin.unsafeString_ #[113, 3] 9 #[.pointer (some ⟨g, 0, none⟩), .int .i64 ([65] : List UInt8).length]).run Tryz.prog w.drew = .ok (.string ⟨([65] : List UInt8).toArray⟩) (w.drew.freeze ⟨g, 0, none⟩ ([65] : List UInt8).length) := by
    refine Lib.run_unsafeString_row w.drew 113 3 9 5 Tryz.underlying113 byt_cells g cur.size (by have hg' : w.drew.heap[g]? = some (.cells cur 5 (0, 0)) := hg; simp [World.shape?, hg']) [65] (by simp) (by show 1 ≤ cur.size; omega) (by show (1 : Nat) ≤ 9223372036854775807; omega) ?_
    intro j x hx
    have hc := ho.cells (g := g) rfl 0 (.int .u8 65) rfl
    match j, hx with
    | 0, hx =>
      obtain rfl : (65 : UInt8) = x := Option.some.inj hx
      exact hc
  have hUT : (Builtin.unsafeString_ #[113, 3] 9 #[.pointer (some ⟨g, 0, none⟩), .int .i64 1]).run Tryz.prog w.drew = .ok (.string ⟨#[65]⟩) (w.drew.freeze ⟨g, 0, none⟩ 1) := hUS
  have mixed : Tryz.prog.follows Departure.mixedOrders = true := by kernel_rfl
  clear hUS
  have HX : Hid (Ex (fun k => k = g) w (w.drew.freeze ⟨g, 0, none⟩ 1)) := Lib.hid ((Fr.ex (Fr.refl w).drew).trans (Ex.freeze _ _ _))
  have HBG := Lib.hid hbg
  clear ho hg hcs htake hcm hnc h12 hbg
  go_enter Tryz.func33, Tryz.ntmps33
  go_wp2
  go_region_o
  all_goals (go_wp2; go_ret; exact ⟨rfl, g, rfl, HX.out⟩)
set_option maxRecDepth 100000 in
set_option maxHeartbeats 4000000 in
theorem sofar_d (L : Lay) (B : Nat) (ob : Value) (f fc fb : Nat → Value) (w w00 : World) (k : LayOk L) (h : Dyn w L (mkS L 8000 2 7 (.pointer (some ⟨L.b, 11, none⟩)) ob 8 true) f fc fb) (ho : w.ownsRow B 5 1 ob 1 [.int .u8 65]) (hB : ∀ i, Kd L i → i < B) (hx : Fr w00 w) (hBB : w00.heap.size ≤ B) :
    Calls Tryz.prog 23 #[.pointer (some ⟨L.b, 0, none⟩)] w fun e w' => e = .returned (.agg #[.string ⟨#[65]⟩, .int .i64 0, .int .i64 0, .int .i64 0, .int .i64 8]) ∧ Fr w00 w' := by
  obtain ⟨w0, hw0⟩ : ∃ y, y = w.alloc (.cells #[.string ⟨#[]⟩, .int .i64 0, .int .i64 0, .int .i64 0, .int .i64 0] 30) := ⟨_, rfl⟩
  have hz0 : w0.heap.size = w.heap.size + 1 := by rw [hw0]; exact size_al w _
  have HF0 : Hid (Fr w w0) := Lib.hid (by rw [hw0]; exact (Fr.refl w).alloc _)
  have HA0 : Hid (Blk w0 w.heap.size 30 #[.string ⟨#[]⟩, .int .i64 0, .int .i64 0, .int .i64 0, .int .i64 0]) := Lib.hid (by rw [hw0]; exact Blk.new _ _ _)
  obtain ⟨w1, hw1⟩ : ∃ y, y = w0.alloc (.cells #[.string ⟨#[]⟩, .int .i64 2, .int .i64 0, .int .i64 0, .int .i64 0] 30) := ⟨_, rfl⟩
  have HF1 : Hid (Fr w w1) := Lib.hid (by rw [hw1]; exact HF0.out.alloc _)
  have HD1 := Lib.hid (h.fr HF1.out)
  have m14 : w1.cell? ⟨L.b, 14, none⟩ = some (.bool true) := Blk.cell HD1.out.m rfl
  have m15 : w1.cell? ⟨L.b, 15, none⟩ = some (.string ⟨#[]⟩) := Blk.cell HD1.out.m rfl
  have m16 : w1.cell? ⟨L.b, 16, none⟩ = some (.int .i64 0) := Blk.cell HD1.out.m rfl
  have m17 : w1.cell? ⟨L.b, 17, none⟩ = some (.int .i64 0) := Blk.cell HD1.out.m rfl
  have m18 : w1.cell? ⟨L.b, 18, none⟩ = some (.int .i64 0) := Blk.cell HD1.out.m rfl
  have m19 : w1.cell? ⟨L.b, 19, none⟩ = some (.int .i64 0) := Blk.cell HD1.out.m rfl
  have HW0 := Lib.hid hw0
  have HW1 := Lib.hid hw1
  have HH := Lib.hid h
  have HO := Lib.hid ho
  have HX := Lib.hid hx
  have HB := Lib.hid (And.intro hB hBB)
  have HLT := Lib.hid h.m.lt
  rw [hw1, hw0] at m14 m15 m16 m17 m18 m19
  clear h ho hx hB hBB k hw0 hw1 hz0
  go_enter Tryz.func23, Tryz.ntmps23
  go_wp2_with fail
  obtain ⟨w2, hw2⟩ : ∃ y, y = (w.alloc (.cells #[.string ⟨#[]⟩, .int .i64 0, .int .i64 0, .int .i64 0, .int .i64 0] 30)).alloc (.cells #[.string ⟨#[]⟩, .int .i64 0, .int .i64 0, .int .i64 0, .int .i64 0] 30) := ⟨_, rfl⟩
  have HF2 : Hid (Fr w w2) := Lib.hid (by rw [hw2]; exact ((Fr.refl w).alloc _).alloc _)
  have HR2 : Hid (Blk w2 (w.heap.size + 1) 30 #[.string ⟨#[]⟩, .int .i64 0, .int .i64 0, .int .i64 0, .int .i64 0]) := Lib.hid (by rw [hw2, ← size_al w (.cells #[.string ⟨#[]⟩, .int .i64 0, .int .i64 0, .int .i64 0, .int .i64 0] 30)]; exact Blk.new _ _ _)
  have HA2 : Hid (Blk w2 w.heap.size 30 #[.string ⟨#[]⟩, .int .i64 0, .int .i64 0, .int .i64 0, .int .i64 0]) := Lib.hid (by rw [hw2]; exact Blk.fr (Blk.new w _ _) ((Fr.refl _).alloc _))
  rw [← hw2]
  clear hw2 m14 m15 m16 m17 m18 m19
  have HD2 := Lib.hid (HH.out.fr HF2.out)
  have hq0 : Fr w2 w2.drew := (Fr.refl w2).drew
  have kq0 : w2.drew.cell? ⟨L.b, 13, none⟩ = some (.int .i64 8) := Blk.cell (HD2.out.fr hq0).m rfl
  have CB := Lib.hid (fun W (x : Fr w2 W) => bstr_d L.b B ob W (Blk.cell (HD2.out.fr x).m rfl) (Ex.own (X := fun _ => False) (Fr.ex (HF2.out.trans x)) (fun _ _ h => h) HO.out))
  have hn1 : L.b ≠ w.heap.size + 1 := by have := HLT.out; omega
  go_region_held3 (fun W' => W'.cell? ⟨L.b, 13, none⟩ = some (.int .i64 8))
    (first | exact kq0 | exact kq1 | exact kq2 _ | exact kq3 _ _)
    ((go_at_call 33; refine (CB.out _ hq0).mono ?_; rintro e w3 ⟨rfl, g, hg, hx3⟩; have hgl := HO.out.lt g hg; have HM3 : Hid (MaR w3 L.b _) := Lib.hid ((HD2.out.fr hq0).m.ex hx3 (fun e => by have h1 := HB.out.1 L.b (Or.inl rfl); omega)); have HR3 : Hid (Blk w3 (w.heap.size + 1) 30 _) := Lib.hid ((HR2.out.fr hq0).ex hx3 (fun e => by omega)); have HA3 : Hid (Blk w3 w.heap.size 30 _) := Lib.hid ((HA2.out.fr hq0).ex hx3 (fun e => by omega)); have HX3 : Hid (Ex (fun k => B ≤ k) w w3) := Lib.hid ((Fr.ex (HF2.out.trans hq0)).trans (hx3.mono (fun i hi => by have hi : i = g := hi; omega))); have kq1 : w3.cell? ⟨L.b, 13, none⟩ = some (.int .i64 8) := Blk.cell HM3.out rfl; have kq2 : ∀ v, (w3.setCell ⟨w.heap.size + 1, 0, none⟩ v).cell? ⟨L.b, 13, none⟩ = some (.int .i64 8) := fun v => Blk.cell (Blk.far HM3.out (p := ⟨w.heap.size + 1, 0, none⟩) hn1 v) rfl; have kq3 : ∀ v u, ((w3.setCell ⟨w.heap.size + 1, 0, none⟩ v).setCell ⟨w.heap.size + 1, 4, none⟩ u).cell? ⟨L.b, 13, none⟩ = some (.int .i64 8) := fun v u => Blk.cell (Blk.far (Blk.far HM3.out (p := ⟨w.heap.size + 1, 0, none⟩) hn1 v) (p := ⟨w.heap.size + 1, 4, none⟩) hn1 u) rfl; have x0 : w3.cell? ⟨w.heap.size + 1, 0, none⟩ = some (.string ⟨#[]⟩) := HR3.out.cell rfl; have x4 : w3.cell? ⟨w.heap.size + 1, 4, none⟩ = some (.int .i64 0) := HR3.out.cell rfl; have y0 := HR3.out.free 0; have y4 := HR3.out.free 4; clear hx3))
  obtain ⟨w4, hw4⟩ : ∃ y, y = (w3.setCell ⟨w.heap.size + 1, 0, none⟩ (.string ⟨#[65]⟩)).setCell ⟨w.heap.size + 1, 4, none⟩ (.int .i64 8) := ⟨_, rfl⟩
  have hn0 : w.heap.size ≠ w.heap.size + 1 := by omega
  have HR4 : Hid (Blk w4 (w.heap.size + 1) 30 #[.string ⟨#[65]⟩, .int .i64 0, .int .i64 0, .int .i64 0, .int .i64 8]) := Lib.hid (by rw [hw4]; exact (HR3.out.set 0 _ rfl).set 4 _ rfl)
  have HA4 : Hid (Blk w4 w.heap.size 30 #[.string ⟨#[]⟩, .int .i64 0, .int .i64 0, .int .i64 0, .int .i64 0]) := Lib.hid (by rw [hw4]; exact (HA3.out.far (p := ⟨w.heap.size + 1, 0, none⟩) hn0 _).far (p := ⟨w.heap.size + 1, 4, none⟩) hn0 _)
  have hbw : B ≤ w.heap.size := by omega
  have HX4 : Hid (Ex (fun k => B ≤ k) w w4) := Lib.hid (by rw [hw4]; exact (HX3.out.set (p := ⟨w.heap.size + 1, 0, none⟩) (show B ≤ w.heap.size + 1 by omega) _).set (p := ⟨w.heap.size + 1, 4, none⟩) (show B ≤ w.heap.size + 1 by omega) _)
  have HBW := Lib.hid hbw
  rw [← hw4]
  clear hw4 x0 x4 y0 y4 kq0 kq1 kq2 kq3 hq0 hn1 hbw
  have x0 : w4.cell? ⟨w.heap.size + 1, 0, none⟩ = some (.string ⟨#[65]⟩) := HR4.out.cell rfl
  have u0' : w4.cell? ⟨w.heap.size, 0, none⟩ = some (.string ⟨#[]⟩) := HA4.out.cell rfl
  have y0 := HA4.out.free 0
  have x1 : w4.cell? ⟨w.heap.size + 1, 1, none⟩ = some (.int .i64 0) := HR4.out.cell rfl
  have u1' : w4.cell? ⟨w.heap.size, 1, none⟩ = some (.int .i64 0) := HA4.out.cell rfl
  have y1 := HA4.out.free 1
  have x2 : w4.cell? ⟨w.heap.size + 1, 2, none⟩ = some (.int .i64 0) := HR4.out.cell rfl
  have u2' : w4.cell? ⟨w.heap.size, 2, none⟩ = some (.int .i64 0) := HA4.out.cell rfl
  have y2 := HA4.out.free 2
  have x3 : w4.cell? ⟨w.heap.size + 1, 3, none⟩ = some (.int .i64 0) := HR4.out.cell rfl
  have u3' : w4.cell? ⟨w.heap.size, 3, none⟩ = some (.int .i64 0) := HA4.out.cell rfl
  have y3 := HA4.out.free 3
  have x4 : w4.cell? ⟨w.heap.size + 1, 4, none⟩ = some (.int .i64 8) := HR4.out.cell rfl
  have u4' : w4.cell? ⟨w.heap.size, 4, none⟩ = some (.int .i64 0) := HA4.out.cell rfl
  have y4 := HA4.out.free 4
  go_wp2_with fail
  obtain ⟨wz, hwz⟩ : ∃ y, y = (((((w4.setCell ⟨w.heap.size, 0, none⟩ (.string ⟨#[65]⟩)).setCell ⟨w.heap.size, 1, none⟩ (.int .i64 0)).setCell ⟨w.heap.size, 2, none⟩ (.int .i64 0)).setCell ⟨w.heap.size, 3, none⟩ (.int .i64 0)).setCell ⟨w.heap.size, 4, none⟩ (.int .i64 8)) := ⟨_, rfl⟩
  have HZ : Hid (Blk wz w.heap.size 30 #[.string ⟨#[65]⟩, .int .i64 0, .int .i64 0, .int .i64 0, .int .i64 8]) := Lib.hid (by rw [hwz]; exact (((((HA4.out.set 0 (.string ⟨#[65]⟩) rfl).set 1 (.int .i64 0) rfl).set 2 (.int .i64 0) rfl).set 3 (.int .i64 0) rfl).set 4 (.int .i64 8) rfl))
  have HXZ : Hid (Ex (fun k => B ≤ k) w wz) := Lib.hid (by rw [hwz]; exact (((((HX4.out.set (p := ⟨w.heap.size, 0, none⟩) HBW.out _).set (p := ⟨w.heap.size, 1, none⟩) HBW.out _).set (p := ⟨w.heap.size, 2, none⟩) HBW.out _).set (p := ⟨w.heap.size, 3, none⟩) HBW.out _).set (p := ⟨w.heap.size, 4, none⟩) HBW.out _))
  rw [← hwz]
  clear hwz x0 x1 x2 x3 x4 u0' u1' u2' u3' u4' y0 y1 y2 y3 y4
  have t0 : wz.cell? ⟨w.heap.size, 0, none⟩ = some (.string ⟨#[65]⟩) := HZ.out.cell rfl
  have t1 : wz.cell? ⟨w.heap.size, 1, none⟩ = some (.int .i64 0) := HZ.out.cell rfl
  have t2 : wz.cell? ⟨w.heap.size, 2, none⟩ = some (.int .i64 0) := HZ.out.cell rfl
  have t3 : wz.cell? ⟨w.heap.size, 3, none⟩ = some (.int .i64 0) := HZ.out.cell rfl
  have t4 : wz.cell? ⟨w.heap.size, 4, none⟩ = some (.int .i64 8) := HZ.out.cell rfl
  exact bodyPost_ret (v := .agg #[.string ⟨#[65]⟩, .int .i64 0, .int .i64 0, .int .i64 0, .int .i64 8]) (by simp [results, Tryz.results23, go_sem, t0, t1, t2, t3, t4]) rfl ⟨rfl, HXZ.out.below HX.out (fun i hi => Nat.le_trans HB.out.2 hi)⟩
end Go.Proofs.YtdnckbcknahakaaGreat
