/- The law's own test; StackNil's walk. -/
import Derived.Test.YtdnckbcknahakaaGreatSZ
namespace Go.Proofs.YtdnckbcknahakaaGreat
open Go.RowKit
set_option linter.unusedVariables false
set_option linter.unusedSimpArgs false

set_option maxRecDepth 100000 in
set_option maxHeartbeats 40000000 in
theorem awake_8 (w : World) : Calls Tryz.prog 13 #[] w fun e w' => e = .returned (.bool true) ∧ Fr w w' := by
  go_enter Tryz.func13, Tryz.ntmps13
  go_wp2_with (first
    | (go_at_call 26; refine (bytes_any _).mono ?_; rintro e w1 ⟨ib, gb, rfl, hc, hf⟩; have HC := Lib.hid hc; have HF := Lib.hid hf; clear hc hf)
    | (go_at_call 15; refine (Run_8 ib gb _ HC.out).mono ?_; rintro e w2 ⟨rfl, hf2⟩; have HF2 := Lib.hid (HF.out.trans hf2); clear hf2)
    | fail)
  go_ret
  exact ⟨rfl, HF2.out.alloc _⟩
set_option maxRecDepth 100000 in
set_option maxHeartbeats 40000000 in
theorem peek_nil (n : Int) (w : World) : Calls Tryz.prog 7 #[.pointer none, .int .i64 n] w fun e w' => e = .returned (.tuple #[.int .i64 0, .int .i64 3]) ∧ Fr w w' := by
  go_enter Tryz.func7, Tryz.ntmps7
  go_wp2
  go_ret2
  exact ⟨rfl, by first | exact Fr.refl _ | exact (Fr.refl _).alloc _ | exact ((Fr.refl _).alloc _).alloc _⟩
set_option maxRecDepth 100000 in
set_option maxHeartbeats 40000000 in
theorem until_nil (pv : Value) (n : Int) (w : World) : Calls Tryz.prog 8 #[.pointer none, pv, .int .i64 n] w fun e w' => e = .returned (.tuple #[.int .i64 0, .int .i64 3]) ∧ Fr w w' := by
  go_enter Tryz.func8, Tryz.ntmps8
  go_wp2
  go_ret2
  exact ⟨rfl, by first | exact Fr.refl _ | exact (Fr.refl _).alloc _ | exact ((Fr.refl _).alloc _).alloc _⟩
set_option maxRecDepth 100000 in
set_option maxHeartbeats 40000000 in
theorem step_nil (n : Int) (w : World) : Calls Tryz.prog 10 #[.pointer none, .int .i64 n] w fun e w' => e = .returned (.agg #[.string ⟨#[]⟩, .int .i64 0, .int .i64 0, .int .i64 0, .int .i64 0]) ∧ Fr w w' := by
  go_enter Tryz.func10, Tryz.ntmps10
  go_wp2
  have t0 : (w.alloc (.cells #[.string ⟨#[]⟩, .int .i64 0, .int .i64 0, .int .i64 0, .int .i64 0] 30)).cell? ⟨w.heap.size, 0, none⟩ = some (.string ⟨#[]⟩) := (Blk.new _ _ _).cell rfl
  have t1 : (w.alloc (.cells #[.string ⟨#[]⟩, .int .i64 0, .int .i64 0, .int .i64 0, .int .i64 0] 30)).cell? ⟨w.heap.size, 1, none⟩ = some (.int .i64 0) := (Blk.new _ _ _).cell rfl
  have t2 : (w.alloc (.cells #[.string ⟨#[]⟩, .int .i64 0, .int .i64 0, .int .i64 0, .int .i64 0] 30)).cell? ⟨w.heap.size, 2, none⟩ = some (.int .i64 0) := (Blk.new _ _ _).cell rfl
  have t3 : (w.alloc (.cells #[.string ⟨#[]⟩, .int .i64 0, .int .i64 0, .int .i64 0, .int .i64 0] 30)).cell? ⟨w.heap.size, 3, none⟩ = some (.int .i64 0) := (Blk.new _ _ _).cell rfl
  have t4 : (w.alloc (.cells #[.string ⟨#[]⟩, .int .i64 0, .int .i64 0, .int .i64 0, .int .i64 0] 30)).cell? ⟨w.heap.size, 4, none⟩ = some (.int .i64 0) := (Blk.new _ _ _).cell rfl
  exact bodyPost_ret (v := .agg #[.string ⟨#[]⟩, .int .i64 0, .int .i64 0, .int .i64 0, .int .i64 0]) (by simp [results, Tryz.results10, go_sem, t0, t1, t2, t3, t4]) rfl ⟨rfl, (Fr.refl _).alloc _⟩
set_option maxRecDepth 100000 in
set_option maxHeartbeats 40000000 in
theorem state_nil  (w : World) : Calls Tryz.prog 11 #[.pointer none] w fun e w' => e = .returned (.agg #[.int .i64 0, .int .i64 0, .int .i64 0, .int .i64 0, .int .i64 0, .bool false]) ∧ Fr w w' := by
  go_enter Tryz.func11, Tryz.ntmps11
  go_wp2
  have t0 : (w.alloc (.cells #[.int .i64 0, .int .i64 0, .int .i64 0, .int .i64 0, .int .i64 0, .bool false] 33)).cell? ⟨w.heap.size, 0, none⟩ = some (.int .i64 0) := (Blk.new _ _ _).cell rfl
  have t1 : (w.alloc (.cells #[.int .i64 0, .int .i64 0, .int .i64 0, .int .i64 0, .int .i64 0, .bool false] 33)).cell? ⟨w.heap.size, 1, none⟩ = some (.int .i64 0) := (Blk.new _ _ _).cell rfl
  have t2 : (w.alloc (.cells #[.int .i64 0, .int .i64 0, .int .i64 0, .int .i64 0, .int .i64 0, .bool false] 33)).cell? ⟨w.heap.size, 2, none⟩ = some (.int .i64 0) := (Blk.new _ _ _).cell rfl
  have t3 : (w.alloc (.cells #[.int .i64 0, .int .i64 0, .int .i64 0, .int .i64 0, .int .i64 0, .bool false] 33)).cell? ⟨w.heap.size, 3, none⟩ = some (.int .i64 0) := (Blk.new _ _ _).cell rfl
  have t4 : (w.alloc (.cells #[.int .i64 0, .int .i64 0, .int .i64 0, .int .i64 0, .int .i64 0, .bool false] 33)).cell? ⟨w.heap.size, 4, none⟩ = some (.int .i64 0) := (Blk.new _ _ _).cell rfl
  have t5 : (w.alloc (.cells #[.int .i64 0, .int .i64 0, .int .i64 0, .int .i64 0, .int .i64 0, .bool false] 33)).cell? ⟨w.heap.size, 5, none⟩ = some (.bool false) := (Blk.new _ _ _).cell rfl
  exact bodyPost_ret (v := .agg #[.int .i64 0, .int .i64 0, .int .i64 0, .int .i64 0, .int .i64 0, .bool false]) (by simp [results, Tryz.results11, go_sem, t0, t1, t2, t3, t4, t5]) rfl ⟨rfl, (Fr.refl _).alloc _⟩
set_option maxRecDepth 100000 in
set_option maxHeartbeats 40000000 in
theorem walk_nil  (w : World) : Calls Tryz.prog 12 #[.pointer none] w fun e w' => e = .returned (.slice none 0 0) ∧ Fr w w' := by
  go_enter Tryz.func12, Tryz.ntmps12
  go_wp2
  go_ret
  exact ⟨rfl, by first | exact Fr.refl _ | exact (Fr.refl _).alloc _ | exact ((Fr.refl _).alloc _).alloc _⟩
set_option maxRecDepth 100000 in
set_option maxHeartbeats 40000000 in
theorem eqres_0  (w : World) : Calls Tryz.prog 9 #[.agg #[.string ⟨#[]⟩, .int .i64 0, .int .i64 0, .int .i64 0, .int .i64 0], .agg #[.string ⟨#[]⟩, .int .i64 0, .int .i64 0, .int .i64 0, .int .i64 0]] w fun e w' => e = .returned (.bool true) ∧ Fr w w' := by
  go_enter Tryz.func9, Tryz.ntmps9
  go_wp2
  go_ret
  exact ⟨rfl, by first | exact Fr.refl _ | exact (Fr.refl _).alloc _ | exact ((Fr.refl _).alloc _).alloc _⟩
set_option maxRecDepth 100000 in
set_option maxHeartbeats 40000000 in
theorem nil_walk (pv : Value) (n : Int) (w : World) : Calls Tryz.prog 3 #[pv, .int .i64 n] w fun e w' => e = .returned (.bool true) ∧ Fr w w' := by
  go_enter Tryz.func3, Tryz.ntmps3
  have HF0 : Hid (Fr w w) := Lib.hid (Fr.refl w)
  go_wp2_with (first
    | (go_at_call 7; refine (peek_nil _ _).mono ?_; rintro e w1 ⟨rfl, hf⟩; have HF1 : Hid (Fr w w1) := Lib.hid (HF0.out.trans hf); clear hf)
    | (go_at_call 8; refine (until_nil _ _ _).mono ?_; rintro e w2 ⟨rfl, hf⟩; have HF2 : Hid (Fr w w2) := Lib.hid (HF1.out.trans hf); clear hf)
    | (go_at_call 10; refine (step_nil _ _).mono ?_; rintro e w3 ⟨rfl, hf⟩; have HF3 : Hid (Fr w w3) := Lib.hid (HF2.out.trans hf); clear hf)
    | (go_at_call 9; refine (eqres_0 _).mono ?_; rintro e w4 ⟨rfl, hf⟩; have HF4 : Hid (Fr w w4) := Lib.hid (HF3.out.trans hf); clear hf)
    | (go_at_call 11; refine (state_nil _).mono ?_; rintro e w5 ⟨rfl, hf⟩; have HF5 : Hid (Fr w w5) := Lib.hid (HF4.out.trans hf); clear hf)
    | (go_at_call 12; refine (walk_nil _).mono ?_; rintro e w6 ⟨rfl, hf⟩; have HF6 : Hid (Fr w w6) := Lib.hid (HF5.out.trans hf); clear hf)
    | (go_at_call 13; refine (awake_8 _).mono ?_; rintro e w7 ⟨rfl, hf⟩; have HF7 : Hid (Fr w w7) := Lib.hid (HF6.out.trans hf); clear hf)
    | fail)
  go_ret
  exact ⟨rfl, HF7.out⟩
end Go.Proofs.YtdnckbcknahakaaGreat
