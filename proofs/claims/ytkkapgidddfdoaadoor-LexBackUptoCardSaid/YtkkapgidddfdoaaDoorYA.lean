/- The laws' own small source: the law's test holds. -/
import Derived.Test.YtkkapgidddfdoaaDoorY
namespace Go.Proofs.YtkkapgidddfdoaaDoor
open Go.RowKit
set_option linter.unusedVariables false

set_option maxRecDepth 100000 in
set_option maxHeartbeats 2000000 in
theorem awake_any (w : World) (hev : Ev w) : Calls Tryd.prog 16 #[] w fun e w' => e = .returned (.bool true) ∧ Fr w w' := by
  go_enter Tryd.func16, Tryd.ntmps16
  go_wp2_with fail
  refine (Scan_any aw (by decide) _ hev).mono ?_
  rintro e w1 ⟨v, rfl, hv, hf⟩
  rw [aw_scan] at hv ⊢
  obtain ⟨a, cap, rfl, _, hr⟩ := hv
  obtain ⟨b, off, rfl, hc⟩ := hr (by decide)
  have c0 : w1.cell? ⟨b, off, none⟩ = some (.int .i64 1) := hc 0 _ rfl
  have c1 : w1.cell? ⟨b, off + 1, none⟩ = some (.string ⟨#[120]⟩) := hc 1 _ rfl
  have c2 : w1.cell? ⟨b, off + 2, none⟩ = some (.int .i64 0) := hc 2 _ rfl
  have c3 : w1.cell? ⟨b, off + 3, none⟩ = some (.int .i64 0) := hc 3 _ rfl
  have c4 : w1.cell? ⟨b, off + 4, none⟩ = some (.int .i64 5) := hc 4 _ rfl
  have c5 : w1.cell? ⟨b, off + 5, none⟩ = some (.string ⟨#[58, 61]⟩) := hc 5 _ rfl
  have c6 : w1.cell? ⟨b, off + 6, none⟩ = some (.int .i64 0) := hc 6 _ rfl
  have c7 : w1.cell? ⟨b, off + 7, none⟩ = some (.int .i64 1) := hc 7 _ rfl
  have c8 : w1.cell? ⟨b, off + 8, none⟩ = some (.int .i64 2) := hc 8 _ rfl
  have c9 : w1.cell? ⟨b, off + 9, none⟩ = some (.string ⟨#[]⟩) := hc 9 _ rfl
  have c10 : w1.cell? ⟨b, off + 10, none⟩ = some (.int .i64 255) := hc 10 _ rfl
  have c11 : w1.cell? ⟨b, off + 11, none⟩ = some (.int .i64 3) := hc 11 _ rfl
  clear hc hr
  simp only [List.length_cons, List.length_nil, Nat.reduceAdd]
  go_wp2_with fail
  go_ret
  exact ⟨rfl, hf⟩
end Go.Proofs.YtkkapgidddfdoaaDoor
