/- The small code: it is valid; its layout; memory filled. -/
import Derived.Test.YtdnckbcknahakaaGreatSE
import Derived.Test.YtdnckbcknahakaaGreatCL
namespace Go.Proofs.YtdnckbcknahakaaGreat
open Go.RowKit
set_option linter.unusedVariables false
set_option linter.unusedSimpArgs false

def cod8 : Cod := ⟨⟨#[]⟩, [], [⟨24, 1, 0⟩, ⟨18, 4, 0⟩, ⟨1, 65, 0⟩, ⟨5, 3, 0⟩, ⟨23, 2, 0⟩, ⟨18, 2, 0⟩, ⟨26, 0, 0⟩], [⟨1, 1⟩], 1, 0⟩
theorem ex8 : exE cod8 = 0 := by
  have h1 : limB cod8 = true := by decide +kernel
  have h2 : qtb cod8.name = true := by
    unfold qtb quo
    rw [show run okq cod8.name 0 = 0 from run_end (Nat.le_refl _)]
    rfl
  have h3 : areasB cod8.data = true := rfl
  have h4 : entB cod8 = true := by decide +kernel
  have h5 : instrB cod8 = true := by decide +kernel
  have h6 : casB cod8.ops = true := by decide +kernel
  have h7 : procB cod8.ops = true := by decide +kernel
  have h8 : labB cod8 = true := by rfl
  have h9 : depB cod8.ops = true := by decide +kernel
  have h10 : takeB cod8.ops = true := by rfl
  unfold exE
  rw [h1, h2, h3, h4, h5, h6, h7, h8, h9, h10]
  rfl
theorem rm8 : rmL cod8.ops 0 = 6 := by decide +kernel
theorem wf8 : wfC cod8 := ⟨by decide, fun x hx => (by cases hx), fun x hx => by
    simp only [cod8, List.mem_cons, List.not_mem_nil, or_false] at hx
    rcases hx with rfl | rfl | rfl | rfl | rfl | rfl | rfl <;> (simp only [wf64]; omega), fun x hx => by
    simp only [cod8, List.mem_cons, List.not_mem_nil, or_false] at hx
    rcases hx with rfl
    simp only [wf64]; omega, by simp only [wf64, cod8]; omega, by simp only [wf64, cod8]; omega, by decide, by decide, by decide⟩
/-- The small code in memory: its instructions' block, its entry's block. -/
structure C8 (w : World) (ib gb : Nat) : Prop where
  o : Blk w ib 60 opsC
  g : Blk w gb 100 #[.int .i64 1, .int .i64 1]
theorem C8.fr {w w' : World} {ib gb : Nat} (h : C8 w ib gb) (x : Fr w w') : C8 w' ib gb := ⟨h.o.fr x, h.g.fr x⟩
theorem C8.cod {w : World} {ib gb : Nat} (h : C8 w ib gb) : CodW w cod8 (.slice none 0 0) (.slice (some ⟨ib, 0, none⟩) 7 7) (.slice (some ⟨gb, 0, none⟩) 1 1) := by
  refine ⟨SlE.nil w, ⟨some ⟨ib, 0, none⟩, 7, rfl, by decide, by decide, fun e => (by cases e), fun _ => ⟨ib, 0, rfl, fun i x hx => ?_⟩⟩, ⟨some ⟨gb, 0, none⟩, 1, rfl, by decide, by decide, fun e => (by cases e), fun _ => ⟨gb, 0, rfl, fun i x hx => ?_⟩⟩⟩
  · match i, hx with
    | 0, hx => obtain rfl := Option.some.inj hx; exact ⟨h.o.cell rfl, h.o.cell rfl, h.o.cell rfl⟩
    | 1, hx => obtain rfl := Option.some.inj hx; exact ⟨h.o.cell rfl, h.o.cell rfl, h.o.cell rfl⟩
    | 2, hx => obtain rfl := Option.some.inj hx; exact ⟨h.o.cell rfl, h.o.cell rfl, h.o.cell rfl⟩
    | 3, hx => obtain rfl := Option.some.inj hx; exact ⟨h.o.cell rfl, h.o.cell rfl, h.o.cell rfl⟩
    | 4, hx => obtain rfl := Option.some.inj hx; exact ⟨h.o.cell rfl, h.o.cell rfl, h.o.cell rfl⟩
    | 5, hx => obtain rfl := Option.some.inj hx; exact ⟨h.o.cell rfl, h.o.cell rfl, h.o.cell rfl⟩
    | 6, hx => obtain rfl := Option.some.inj hx; exact ⟨h.o.cell rfl, h.o.cell rfl, h.o.cell rfl⟩
    | (i + 7), hx => simp [cod8] at hx
  · match i, hx with
    | 0, hx => obtain rfl := Option.some.inj hx; exact ⟨h.g.cell rfl, h.g.cell rfl⟩
    | (i + 1), hx => simp [cod8] at hx
end Go.Proofs.YtdnckbcknahakaaGreat
