/- The small code's layout; its settled instructions. -/
import Derived.Test.YtdnckbcknahakaaGreatSU
import Derived.Test.YtdnckbcknahakaaGreatSC
import Derived.Test.YtdnckbcknahakaaGreatFI
import Derived.Laws.MakeOwn
import Derived.LoopN
namespace Go.Proofs.YtdnckbcknahakaaGreat
open Go.RowKit
set_option linter.unusedVariables false
set_option linter.unusedSimpArgs false

set_option maxRecDepth 100000 in
set_option maxHeartbeats 4000000 in
theorem Valid_16 (w : World) : Calls Tryz.prog 47 #[(.agg #[.int .i64 16, .bool false])] w fun e w' => e = .returned (.bool true) ∧ Fr w w' := by
  go_enter Tryz.func47, Tryz.ntmps47
  go_wp2
  go_ret
  exact ⟨rfl, (Fr.refl w).alloc _⟩
theorem ck8 {w : World} {ib gb : Nat} (h : C8 w ib gb) : Calls Tryz.prog 46 #[cv8 ib gb] w fun e w' => e = .returned (.int .i64 0) ∧ Fr w w' := by
  refine (Check_any cod8 _ _ _ w h.cod wf8 (by decide) (fun x hx => by cases hx)).mono ?_
  rintro e w' ⟨rfl, hf⟩
  rw [ex8]
  exact ⟨rfl, hf⟩
set_option maxRecDepth 100000 in
set_option maxHeartbeats 4000000 in
theorem Layout_8 (ib gb : Nat) (w : World) (h : C8 w ib gb) : Calls Tryz.prog 36 #[cv8 ib gb, (.agg #[.int .i64 16, .bool false])] w fun e w' => ∃ ab, e = .returned (.tuple #[.slice (some ⟨ab, 0, none⟩) 0 0, .int .i64 200, .int .i64 0]) ∧ Fr w w' := by
  have CK := Lib.hid (fun W (x : Fr w W) => ck8 (h.fr x))
  have hm0 : ∀ W, (Instr.makeSlice 22 (.int .i64 0) (.int .i64 0)).run Tryz.prog W = .ok (.slice (some ⟨W.heap.size, 0, none⟩) 0 0) (W.alloc (.cells (madeCells #[.int .i64 0] 0) 3)) := by
    intro W
    have h := run_makeSlice (P := Tryz.prog) W 22 3 _ _ rfl rfl rfl .i64 .i64 0 0 (by decide) (by decide)
    refine (h ?_ ?_ ?_).trans rfl <;> decide
  clear h
  unfold cv8 at CK ⊢
  go_enter Tryz.func36, Tryz.ntmps36
  go_wp2_with (first
    | (go_at_call 46; refine (CK.out _ (((Fr.refl w).alloc _).alloc _)).mono ?_; rintro e w1 ⟨rfl, hf1⟩; have HF1 : Hid (Fr w w1) := Lib.hid ((((Fr.refl w).alloc _).alloc _).trans hf1); have t0 : w1.cell? ⟨w.heap.size + 1, 0, none⟩ = some (.int .i64 16) := hf1.cell (by simp); have t1 : w1.cell? ⟨w.heap.size + 1, 1, none⟩ = some (.bool false) := hf1.cell (by simp); have s1 : w1.cell? ⟨w.heap.size, 1, none⟩ = some (.slice none 0 0) := hf1.cell (by simp); clear hf1)
    | (go_at_call 47; refine (Valid_16 _).mono ?_; rintro e w2 ⟨rfl, hf2⟩; have HF2 : Hid (Fr w w2) := Lib.hid (HF1.out.trans hf2); replace s1 := hf2.cell s1; have s2 : (w2.alloc (.cells (madeCells #[.int .i64 0] 0) 3)).cell? ⟨w.heap.size, 1, none⟩ = some (.slice none 0 0) := ((Fr.refl w2).alloc _).cell s1; clear hf2))
  first
    | (refine wp_loop_rounds 1 ?_; rw [rounds_succ])
    | skip
  go_wp2_with fail
  exact bodyPost_ret (v := .tuple #[.slice (some ⟨w2.heap.size, 0, none⟩) 0 0, .int .i64 200, .int .i64 0]) (by simp [results, Tryz.results36, go_sem]) rfl ⟨_, rfl, HF2.out.alloc _⟩
set_option maxRecDepth 100000 in
set_option maxHeartbeats 4000000 in
theorem settled_24 (pb eb L ec qb NR rc : Nat) (arv opv pav lv : Value) (w : World) (hp : Blk w pb 92 #[.int .i64 16, .bool false, arv, opv, pav, .slice (some ⟨eb, 0, none⟩) L ec, .slice (some ⟨qb, 0, none⟩) NR rc]) : Calls Tryz.prog 40 #[.pointer (some ⟨pb, 0, none⟩), (.agg #[.int .i64 24, .int .i64 1, .int .i64 0]), lv] w fun e w' => e = .returned (.agg #[.int .i64 24, .int .i64 1, .int .i64 0]) ∧ Fr w w' := by
  clear hp
  go_enter Tryz.func40, Tryz.ntmps40
  go_wp2
  obtain ⟨wz, hwz⟩ : ∃ y, y = ((w.alloc (.cells  #[.int .i64 24, .int .i64 1, .int .i64 0] 60)).alloc (.cells  #[.int .i64 24, .int .i64 1, .int .i64 0] 60)) := ⟨_, rfl⟩
  have HFZ : Hid (Fr w wz) := Lib.hid (by rw [hwz]; exact ((Fr.refl w).alloc _).alloc _)
  have HZ : Hid (Blk wz (w.heap.size + 1) 60  #[.int .i64 24, .int .i64 1, .int .i64 0]) := Lib.hid (by rw [hwz]; exact Blk.at_ (by simp))
  rw [← hwz]
  have t0 : wz.cell? ⟨w.heap.size + 1, 0, none⟩ = some (.int .i64 24) := HZ.out.cell rfl
  have t1 : wz.cell? ⟨w.heap.size + 1, 1, none⟩ = some (.int .i64 1) := HZ.out.cell rfl
  have t2 : wz.cell? ⟨w.heap.size + 1, 2, none⟩ = some (.int .i64 0) := HZ.out.cell rfl
  clear hwz
  exact bodyPost_ret (v := (.agg #[.int .i64 24, .int .i64 1, .int .i64 0])) (by simp [results, Tryz.results40, go_sem, t0, t1, t2]) rfl ⟨rfl, HFZ.out⟩
set_option maxRecDepth 100000 in
set_option maxHeartbeats 4000000 in
theorem settled_18a (pb eb L ec qb NR rc : Nat) (arv opv pav lv : Value) (w : World) (hp : Blk w pb 92 #[.int .i64 16, .bool false, arv, opv, pav, .slice (some ⟨eb, 0, none⟩) L ec, .slice (some ⟨qb, 0, none⟩) NR rc]) : Calls Tryz.prog 40 #[.pointer (some ⟨pb, 0, none⟩), (.agg #[.int .i64 18, .int .i64 4, .int .i64 0]), lv] w fun e w' => e = .returned (.agg #[.int .i64 18, .int .i64 4, .int .i64 0]) ∧ Fr w w' := by
  clear hp
  go_enter Tryz.func40, Tryz.ntmps40
  go_wp2
  obtain ⟨wz, hwz⟩ : ∃ y, y = ((w.alloc (.cells  #[.int .i64 18, .int .i64 4, .int .i64 0] 60)).alloc (.cells  #[.int .i64 18, .int .i64 4, .int .i64 0] 60)) := ⟨_, rfl⟩
  have HFZ : Hid (Fr w wz) := Lib.hid (by rw [hwz]; exact ((Fr.refl w).alloc _).alloc _)
  have HZ : Hid (Blk wz (w.heap.size + 1) 60  #[.int .i64 18, .int .i64 4, .int .i64 0]) := Lib.hid (by rw [hwz]; exact Blk.at_ (by simp))
  rw [← hwz]
  have t0 : wz.cell? ⟨w.heap.size + 1, 0, none⟩ = some (.int .i64 18) := HZ.out.cell rfl
  have t1 : wz.cell? ⟨w.heap.size + 1, 1, none⟩ = some (.int .i64 4) := HZ.out.cell rfl
  have t2 : wz.cell? ⟨w.heap.size + 1, 2, none⟩ = some (.int .i64 0) := HZ.out.cell rfl
  clear hwz
  exact bodyPost_ret (v := (.agg #[.int .i64 18, .int .i64 4, .int .i64 0])) (by simp [results, Tryz.results40, go_sem, t0, t1, t2]) rfl ⟨rfl, HFZ.out⟩
set_option maxRecDepth 100000 in
set_option maxHeartbeats 4000000 in
theorem settled_1 (pb eb L ec qb NR rc : Nat) (arv opv pav lv : Value) (w : World) (hp : Blk w pb 92 #[.int .i64 16, .bool false, arv, opv, pav, .slice (some ⟨eb, 0, none⟩) L ec, .slice (some ⟨qb, 0, none⟩) NR rc]) : Calls Tryz.prog 40 #[.pointer (some ⟨pb, 0, none⟩), (.agg #[.int .i64 1, .int .i64 65, .int .i64 0]), lv] w fun e w' => e = .returned (.agg #[.int .i64 1, .int .i64 65, .int .i64 0]) ∧ Fr w w' := by
  have CN := Lib.hid (fun W (x : Fr w W) => pnorm_65 pb eb L ec qb NR rc _ arv opv pav W (hp.fr x))
  clear hp
  go_enter Tryz.func40, Tryz.ntmps40
  go_wp2_with (go_at_call 52; refine (CN.out _ ((((Fr.refl w).alloc _).alloc _))).mono ?_; rintro e w1 ⟨rfl, rfl⟩)
  obtain ⟨wz, hwz⟩ : ∃ y, y = ((w.alloc (.cells  #[.int .i64 1, .int .i64 65, .int .i64 0] 60)).alloc (.cells  #[.int .i64 1, .int .i64 65, .int .i64 0] 60)) := ⟨_, rfl⟩
  have HFZ : Hid (Fr w wz) := Lib.hid (by rw [hwz]; exact ((Fr.refl w).alloc _).alloc _)
  have HZ : Hid (Blk wz (w.heap.size + 1) 60  #[.int .i64 1, .int .i64 65, .int .i64 0]) := Lib.hid (by rw [hwz]; exact Blk.at_ (by simp))
  rw [← hwz]
  have t0 : wz.cell? ⟨w.heap.size + 1, 0, none⟩ = some (.int .i64 1) := HZ.out.cell rfl
  have t1 : wz.cell? ⟨w.heap.size + 1, 1, none⟩ = some (.int .i64 65) := HZ.out.cell rfl
  have t2 : wz.cell? ⟨w.heap.size + 1, 2, none⟩ = some (.int .i64 0) := HZ.out.cell rfl
  clear hwz
  exact bodyPost_ret (v := (.agg #[.int .i64 1, .int .i64 65, .int .i64 0])) (by simp [results, Tryz.results40, go_sem, t0, t1, t2]) rfl ⟨rfl, HFZ.out⟩
set_option maxRecDepth 100000 in
set_option maxHeartbeats 4000000 in
theorem settled_5 (pb eb L ec qb NR rc : Nat) (arv opv pav lv : Value) (w : World) (hp : Blk w pb 92 #[.int .i64 16, .bool false, arv, opv, pav, .slice (some ⟨eb, 0, none⟩) L ec, .slice (some ⟨qb, 0, none⟩) NR rc]) : Calls Tryz.prog 40 #[.pointer (some ⟨pb, 0, none⟩), (.agg #[.int .i64 5, .int .i64 3, .int .i64 0]), lv] w fun e w' => e = .returned (.agg #[.int .i64 5, .int .i64 3, .int .i64 0]) ∧ Fr w w' := by
  clear hp
  go_enter Tryz.func40, Tryz.ntmps40
  go_wp2
  obtain ⟨wz, hwz⟩ : ∃ y, y = ((w.alloc (.cells  #[.int .i64 5, .int .i64 3, .int .i64 0] 60)).alloc (.cells  #[.int .i64 5, .int .i64 3, .int .i64 0] 60)) := ⟨_, rfl⟩
  have HFZ : Hid (Fr w wz) := Lib.hid (by rw [hwz]; exact ((Fr.refl w).alloc _).alloc _)
  have HZ : Hid (Blk wz (w.heap.size + 1) 60  #[.int .i64 5, .int .i64 3, .int .i64 0]) := Lib.hid (by rw [hwz]; exact Blk.at_ (by simp))
  rw [← hwz]
  have t0 : wz.cell? ⟨w.heap.size + 1, 0, none⟩ = some (.int .i64 5) := HZ.out.cell rfl
  have t1 : wz.cell? ⟨w.heap.size + 1, 1, none⟩ = some (.int .i64 3) := HZ.out.cell rfl
  have t2 : wz.cell? ⟨w.heap.size + 1, 2, none⟩ = some (.int .i64 0) := HZ.out.cell rfl
  clear hwz
  exact bodyPost_ret (v := (.agg #[.int .i64 5, .int .i64 3, .int .i64 0])) (by simp [results, Tryz.results40, go_sem, t0, t1, t2]) rfl ⟨rfl, HFZ.out⟩
set_option maxRecDepth 100000 in
set_option maxHeartbeats 4000000 in
theorem settled_23 (pb eb L ec qb NR rc : Nat) (arv opv pav lv : Value) (w : World) (hp : Blk w pb 92 #[.int .i64 16, .bool false, arv, opv, pav, .slice (some ⟨eb, 0, none⟩) L ec, .slice (some ⟨qb, 0, none⟩) NR rc]) : Calls Tryz.prog 40 #[.pointer (some ⟨pb, 0, none⟩), (.agg #[.int .i64 23, .int .i64 2, .int .i64 0]), lv] w fun e w' => e = .returned (.agg #[.int .i64 23, .int .i64 2, .int .i64 0]) ∧ Fr w w' := by
  clear hp
  go_enter Tryz.func40, Tryz.ntmps40
  go_wp2
  obtain ⟨wz, hwz⟩ : ∃ y, y = ((w.alloc (.cells  #[.int .i64 23, .int .i64 2, .int .i64 0] 60)).alloc (.cells  #[.int .i64 23, .int .i64 2, .int .i64 0] 60)) := ⟨_, rfl⟩
  have HFZ : Hid (Fr w wz) := Lib.hid (by rw [hwz]; exact ((Fr.refl w).alloc _).alloc _)
  have HZ : Hid (Blk wz (w.heap.size + 1) 60  #[.int .i64 23, .int .i64 2, .int .i64 0]) := Lib.hid (by rw [hwz]; exact Blk.at_ (by simp))
  rw [← hwz]
  have t0 : wz.cell? ⟨w.heap.size + 1, 0, none⟩ = some (.int .i64 23) := HZ.out.cell rfl
  have t1 : wz.cell? ⟨w.heap.size + 1, 1, none⟩ = some (.int .i64 2) := HZ.out.cell rfl
  have t2 : wz.cell? ⟨w.heap.size + 1, 2, none⟩ = some (.int .i64 0) := HZ.out.cell rfl
  clear hwz
  exact bodyPost_ret (v := (.agg #[.int .i64 23, .int .i64 2, .int .i64 0])) (by simp [results, Tryz.results40, go_sem, t0, t1, t2]) rfl ⟨rfl, HFZ.out⟩
set_option maxRecDepth 100000 in
set_option maxHeartbeats 4000000 in
theorem settled_18b (pb eb L ec qb NR rc : Nat) (arv opv pav lv : Value) (w : World) (hp : Blk w pb 92 #[.int .i64 16, .bool false, arv, opv, pav, .slice (some ⟨eb, 0, none⟩) L ec, .slice (some ⟨qb, 0, none⟩) NR rc]) : Calls Tryz.prog 40 #[.pointer (some ⟨pb, 0, none⟩), (.agg #[.int .i64 18, .int .i64 2, .int .i64 0]), lv] w fun e w' => e = .returned (.agg #[.int .i64 18, .int .i64 2, .int .i64 0]) ∧ Fr w w' := by
  clear hp
  go_enter Tryz.func40, Tryz.ntmps40
  go_wp2
  obtain ⟨wz, hwz⟩ : ∃ y, y = ((w.alloc (.cells  #[.int .i64 18, .int .i64 2, .int .i64 0] 60)).alloc (.cells  #[.int .i64 18, .int .i64 2, .int .i64 0] 60)) := ⟨_, rfl⟩
  have HFZ : Hid (Fr w wz) := Lib.hid (by rw [hwz]; exact ((Fr.refl w).alloc _).alloc _)
  have HZ : Hid (Blk wz (w.heap.size + 1) 60  #[.int .i64 18, .int .i64 2, .int .i64 0]) := Lib.hid (by rw [hwz]; exact Blk.at_ (by simp))
  rw [← hwz]
  have t0 : wz.cell? ⟨w.heap.size + 1, 0, none⟩ = some (.int .i64 18) := HZ.out.cell rfl
  have t1 : wz.cell? ⟨w.heap.size + 1, 1, none⟩ = some (.int .i64 2) := HZ.out.cell rfl
  have t2 : wz.cell? ⟨w.heap.size + 1, 2, none⟩ = some (.int .i64 0) := HZ.out.cell rfl
  clear hwz
  exact bodyPost_ret (v := (.agg #[.int .i64 18, .int .i64 2, .int .i64 0])) (by simp [results, Tryz.results40, go_sem, t0, t1, t2]) rfl ⟨rfl, HFZ.out⟩
set_option maxRecDepth 100000 in
set_option maxHeartbeats 4000000 in
theorem settled_26 (pb eb L ec qb NR rc : Nat) (arv opv pav lv : Value) (w : World) (hp : Blk w pb 92 #[.int .i64 16, .bool false, arv, opv, pav, .slice (some ⟨eb, 0, none⟩) L ec, .slice (some ⟨qb, 0, none⟩) NR rc]) : Calls Tryz.prog 40 #[.pointer (some ⟨pb, 0, none⟩), (.agg #[.int .i64 26, .int .i64 0, .int .i64 0]), lv] w fun e w' => e = .returned (.agg #[.int .i64 26, .int .i64 0, .int .i64 0]) ∧ Fr w w' := by
  clear hp
  go_enter Tryz.func40, Tryz.ntmps40
  go_wp2
  obtain ⟨wz, hwz⟩ : ∃ y, y = ((w.alloc (.cells  #[.int .i64 26, .int .i64 0, .int .i64 0] 60)).alloc (.cells  #[.int .i64 26, .int .i64 0, .int .i64 0] 60)) := ⟨_, rfl⟩
  have HFZ : Hid (Fr w wz) := Lib.hid (by rw [hwz]; exact ((Fr.refl w).alloc _).alloc _)
  have HZ : Hid (Blk wz (w.heap.size + 1) 60  #[.int .i64 26, .int .i64 0, .int .i64 0]) := Lib.hid (by rw [hwz]; exact Blk.at_ (by simp))
  rw [← hwz]
  have t0 : wz.cell? ⟨w.heap.size + 1, 0, none⟩ = some (.int .i64 26) := HZ.out.cell rfl
  have t1 : wz.cell? ⟨w.heap.size + 1, 1, none⟩ = some (.int .i64 0) := HZ.out.cell rfl
  have t2 : wz.cell? ⟨w.heap.size + 1, 2, none⟩ = some (.int .i64 0) := HZ.out.cell rfl
  clear hwz
  exact bodyPost_ret (v := (.agg #[.int .i64 26, .int .i64 0, .int .i64 0])) (by simp [results, Tryz.results40, go_sem, t0, t1, t2]) rfl ⟨rfl, HFZ.out⟩
end Go.Proofs.YtdnckbcknahakaaGreat
