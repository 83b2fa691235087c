/- The small code run from outside; the law's own test. -/
import Derived.Test.YtdnckbcknahakaaGreatSY
import Derived.Test.YtdnckbcknahakaaGreatSP
namespace Go.Proofs.YtdnckbcknahakaaGreat
open Go.RowKit
set_option linter.unusedVariables false
set_option linter.unusedSimpArgs false

/-- The machine after its run. -/
structure EnP (w w' : World) (L : Lay) (ob : Value) (f fc fb : Nat → Value) (B : Nat) : Prop where
  ok : LayOk L
  d : Dyn w' L (mkS L 8000 2 7 (.pointer (some ⟨L.b, 11, none⟩)) ob 8 true) f fc fb
  own : w'.ownsRow B 5 1 ob 1 [.int .u8 65]
  kd : ∀ i, Kd L i → i < B
  fr : Fr w w'
  lo : w.heap.size ≤ B
set_option maxRecDepth 100000 in
set_option maxHeartbeats 40000000 in
theorem ran_8 (ib gb : Nat) (w : World) (h : C8 w ib gb) : Calls Tryz.prog 28 #[cv8 ib gb, (.agg #[.int .i64 16, .bool false]), .string ⟨#[]⟩, .int .i64 100] w fun e w' => ∃ L ob f fc fb B, e = .returned (.tuple #[.pointer (some ⟨L.b, 0, none⟩), .int .i64 0]) ∧ EnP w w' L ob f fc fb B := by
  have CN := Lib.hid (fun W (x : Fr w W) => New_8 ib gb W (h.fr x))
  clear h
  unfold cv8 at CN ⊢
  go_enter Tryz.func28, Tryz.ntmps28
  go_wp2_with (first
    | (go_at_call 16; refine (CN.out _ (((Fr.refl w).alloc _).alloc _)).mono ?_; rintro e w1 ⟨nb, L, f, fc, rfl, hn⟩; have HN := Lib.hid hn; have HF1 : Hid (Fr w w1) := Lib.hid ((((Fr.refl w).alloc _).alloc _).trans hn.fr); have n0 := hn.np; clear hn)
    | (go_at_call 22; refine (run_d L w1.heap.size f fc w1 HN.out.ok HN.out.st HN.out.d HN.out.f1 HN.out.f3 HN.out.kd (Nat.le_refl _)).mono ?_; rintro e w2 ⟨rfl, hq, hx⟩; have HQ := Lib.hid hq; have HX := Lib.hid hx; have n1 := hx.cell HN.out.nk n0; clear hq hx)
    | fail)
  go_ret2
  obtain ⟨ob, hd, ho⟩ := HQ.out
  refine ⟨L, ob, _, _, _, w1.heap.size, rfl, HN.out.ok, hd, ho, HN.out.kd, HX.out.below HF1.out (fun k hk => ?_), HF1.out.size⟩
  have h1 := HN.out.lo k hk
  have h2 := (((Fr.refl w).alloc (.cells #[.string ⟨#[]⟩, .slice none 0 0, .slice (some ⟨ib, 0, none⟩) 7 7, .slice (some ⟨gb, 0, none⟩) 1 1, .int .i64 1, .int .i64 0] 43)).alloc (.cells #[.int .i64 16, .bool false] 45)).size
  exact Nat.le_trans h2 h1
set_option maxRecDepth 100000 in
set_option maxHeartbeats 40000000 in
theorem Run_8 (ib gb : Nat) (w : World) (h : C8 w ib gb) : Calls Tryz.prog 15 #[cv8 ib gb, (.agg #[.int .i64 16, .bool false]), .string ⟨#[]⟩, .int .i64 100] w fun e w' => e = .returned (.tuple #[.agg #[.string ⟨#[65]⟩, .int .i64 0, .int .i64 0, .int .i64 0, .int .i64 8], .int .i64 0]) ∧ Fr w w' := by
  have CN := Lib.hid (fun W (x : Fr w W) => ran_8 ib gb W (h.fr x))
  clear h
  unfold cv8 at CN ⊢
  go_enter Tryz.func15, Tryz.ntmps15
  go_wp2_with (first
    | (go_at_call 28; refine (CN.out _ ((((Fr.refl w).alloc _).alloc _).alloc _)).mono ?_; rintro e w1 ⟨L, ob, f, fc, fb, B, rfl, he⟩; have HE := Lib.hid he; clear he)
    | (go_at_call 23; refine (sofar_d L B ob f fc fb w1 _ HE.out.ok HE.out.d HE.out.own HE.out.kd HE.out.fr HE.out.lo).mono ?_; rintro e w2 ⟨rfl, hf2⟩; have HF2 : Hid (Fr w w2) := Lib.hid (((((Fr.refl w).alloc _).alloc _).alloc _).trans hf2); have HR : Hid (Blk w2 (w.heap.size + 1 + 1) 30 #[.string ⟨#[]⟩, .int .i64 0, .int .i64 0, .int .i64 0, .int .i64 0]) := Lib.hid (Blk.fr (Blk.at_ (by simp)) hf2); clear hf2; have y0 : w2.cell? ⟨w.heap.size + 1 + 1, 0, none⟩ = some (.string ⟨#[]⟩) := HR.out.cell rfl; have f0 := HR.out.free 0; have y1 : w2.cell? ⟨w.heap.size + 1 + 1, 1, none⟩ = some (.int .i64 0) := HR.out.cell rfl; have f1 := HR.out.free 1; have y2 : w2.cell? ⟨w.heap.size + 1 + 1, 2, none⟩ = some (.int .i64 0) := HR.out.cell rfl; have f2 := HR.out.free 2; have y3 : w2.cell? ⟨w.heap.size + 1 + 1, 3, none⟩ = some (.int .i64 0) := HR.out.cell rfl; have f3 := HR.out.free 3; have y4 : w2.cell? ⟨w.heap.size + 1 + 1, 4, none⟩ = some (.int .i64 0) := HR.out.cell rfl; have f4 := HR.out.free 4; skip)
    | fail)
  obtain ⟨wz, hwz⟩ : ∃ y, y = (((((w2.setCell ⟨w.heap.size + 1 + 1, 0, none⟩ (.string ⟨#[65]⟩)).setCell ⟨w.heap.size + 1 + 1, 1, none⟩ (.int .i64 0)).setCell ⟨w.heap.size + 1 + 1, 2, none⟩ (.int .i64 0)).setCell ⟨w.heap.size + 1 + 1, 3, none⟩ (.int .i64 0)).setCell ⟨w.heap.size + 1 + 1, 4, none⟩ (.int .i64 8)) := ⟨_, rfl⟩
  have HZ : Hid (Blk wz (w.heap.size + 1 + 1) 30 #[.string ⟨#[65]⟩, .int .i64 0, .int .i64 0, .int .i64 0, .int .i64 8]) := Lib.hid (by rw [hwz]; exact (((((HR.out.set 0 (.string ⟨#[65]⟩) rfl).set 1 (.int .i64 0) rfl).set 2 (.int .i64 0) rfl).set 3 (.int .i64 0) rfl).set 4 (.int .i64 8) rfl))
  have hle : w.heap.size ≤ w.heap.size + 1 + 1 := by omega
  have HFZ : Hid (Fr w wz) := Lib.hid (by rw [hwz]; exact (((((HF2.out.setCell (p := ⟨w.heap.size + 1 + 1, 0, none⟩) hle _).setCell (p := ⟨w.heap.size + 1 + 1, 1, none⟩) hle _).setCell (p := ⟨w.heap.size + 1 + 1, 2, none⟩) hle _).setCell (p := ⟨w.heap.size + 1 + 1, 3, none⟩) hle _).setCell (p := ⟨w.heap.size + 1 + 1, 4, none⟩) hle _))
  rw [← hwz]
  clear hwz y0 f0 y1 f1 y2 f2 y3 f3 y4 f4
  have t0 : wz.cell? ⟨w.heap.size + 1 + 1, 0, none⟩ = some (.string ⟨#[65]⟩) := HZ.out.cell rfl
  have t1 : wz.cell? ⟨w.heap.size + 1 + 1, 1, none⟩ = some (.int .i64 0) := HZ.out.cell rfl
  have t2 : wz.cell? ⟨w.heap.size + 1 + 1, 2, none⟩ = some (.int .i64 0) := HZ.out.cell rfl
  have t3 : wz.cell? ⟨w.heap.size + 1 + 1, 3, none⟩ = some (.int .i64 0) := HZ.out.cell rfl
  have t4 : wz.cell? ⟨w.heap.size + 1 + 1, 4, none⟩ = some (.int .i64 8) := HZ.out.cell rfl
  exact bodyPost_ret (v := .tuple #[.agg #[.string ⟨#[65]⟩, .int .i64 0, .int .i64 0, .int .i64 0, .int .i64 8], .int .i64 0]) (by simp [results, Tryz.results15, go_sem, t0, t1, t2, t3, t4]) rfl ⟨rfl, HFZ.out⟩
end Go.Proofs.YtdnckbcknahakaaGreat
