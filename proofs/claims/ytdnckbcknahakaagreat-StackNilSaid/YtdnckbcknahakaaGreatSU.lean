/- The small code made and laid out. -/
import Derived.Test.YtdnckbcknahakaaGreatST
namespace Go.Proofs.YtdnckbcknahakaaGreat
open Go.RowKit
set_option linter.unusedVariables false
set_option linter.unusedSimpArgs false

theorem Blk.at_ {W : World} {k : Nat} {cs : Array Value} {T : TypeId} (hk : k = W.heap.size) : Blk (W.alloc (.cells cs T)) k T cs := by rw [hk]; exact Blk.new _ _ _
def cv8 (ib gb : Nat) : Value := .agg #[.string ⟨#[]⟩, .slice none 0 0, .slice (some ⟨ib, 0, none⟩) 7 7, .slice (some ⟨gb, 0, none⟩) 1 1, .int .i64 1, .int .i64 0]
set_option maxRecDepth 100000 in
set_option maxHeartbeats 4000000 in
theorem bytes_any (w : World) : Calls Tryz.prog 26 #[] w fun e w' => ∃ ib gb, e = .returned (cv8 ib gb) ∧ C8 w' ib gb ∧ Fr w w' := by
  go_enter Tryz.func26, Tryz.ntmps26
  go_wp2
  obtain ⟨wz, hwz⟩ : ∃ y, y = ((w.alloc (.cells #[.string ⟨#[]⟩, .slice none 0 0, .slice (some ⟨w.heap.size + 1, 0, none⟩) 7 7, .slice (some ⟨w.heap.size + 1 + 1, 0, none⟩) 1 1, .int .i64 1, .int .i64 0] 43)).alloc (.cells #[.int .i64 24, .int .i64 1, .int .i64 0, .int .i64 18, .int .i64 4, .int .i64 0, .int .i64 1, .int .i64 65, .int .i64 0, .int .i64 5, .int .i64 3, .int .i64 0, .int .i64 23, .int .i64 2, .int .i64 0, .int .i64 18, .int .i64 2, .int .i64 0, .int .i64 26, .int .i64 0, .int .i64 0] 60)).alloc (.cells #[.int .i64 1, .int .i64 1] 100) := ⟨_, rfl⟩
  have HFZ : Hid (Fr w wz) := Lib.hid (by rw [hwz]; exact (((Fr.refl w).alloc _).alloc _).alloc _)
  have HC : Hid (C8 wz (w.heap.size + 1) (w.heap.size + 1 + 1)) := Lib.hid (by rw [hwz]; exact ⟨Blk.fr (Blk.at_ (by simp)) ((Fr.refl _).alloc _), Blk.at_ (by simp)⟩)
  have HZ : Hid (Blk wz w.heap.size 43 _) := Lib.hid (by rw [hwz]; exact Blk.fr (Blk.fr (Blk.new w _ _) ((Fr.refl _).alloc _)) ((Fr.refl _).alloc _))
  rw [← hwz]
  have t0 : wz.cell? ⟨w.heap.size, 0, none⟩ = some (.string ⟨#[]⟩) := HZ.out.cell rfl
  have t1 : wz.cell? ⟨w.heap.size, 1, none⟩ = some (.slice none 0 0) := HZ.out.cell rfl
  have t2 : wz.cell? ⟨w.heap.size, 2, none⟩ = some (.slice (some ⟨w.heap.size + 1, 0, none⟩) 7 7) := HZ.out.cell rfl
  have t3 : wz.cell? ⟨w.heap.size, 3, none⟩ = some (.slice (some ⟨w.heap.size + 1 + 1, 0, none⟩) 1 1) := HZ.out.cell rfl
  have t4 : wz.cell? ⟨w.heap.size, 4, none⟩ = some (.int .i64 1) := HZ.out.cell rfl
  have t5 : wz.cell? ⟨w.heap.size, 5, none⟩ = some (.int .i64 0) := HZ.out.cell rfl
  clear hwz
  exact bodyPost_ret (v := cv8 (w.heap.size + 1) (w.heap.size + 1 + 1)) (by simp [results, Tryz.results26, go_sem, t0, t1, t2, t3, t4, t5, cv8]) rfl ⟨_, _, rfl, HC.out, HFZ.out⟩
end Go.Proofs.YtdnckbcknahakaaGreat
