/- What a world keeps, rows of cells, slices that read as said. Nothing here speaks of a program. -/
import Derived.Below
import Derived.RowKit3
import Derived.Deep.Draws
import Derived.IntWalk
import Derived.Deep.OwnRows
import Derived.Lib.Hide
namespace Go.Proofs.YtdnckbcknahakaaGreat
open Go.RowKit

/-- What is new lies behind all that was there; of what was there nothing turns. -/
def Fr (a b : World) : Prop := Below a.heap.size a b
theorem Fr.refl (a : World) : Fr a a := Below.refl _ _
theorem Fr.trans {a b c : World} (h : Fr a b) (k : Fr b c) : Fr a c := Below.trans h (Below.mono k h.size)
theorem Fr.alloc {a b : World} (h : Fr a b) (o : Obj) : Fr a (b.alloc o) := Below.alloc h h.size o
theorem Fr.drewN {a b : World} (h : Fr a b) (n : Nat) : Fr a (b.drewN n) := ⟨h.os, h.tape, h.output, h.size, h.block⟩
theorem Fr.drew {a b : World} (h : Fr a b) : Fr a b.drew := ⟨h.os, h.tape, h.output, h.size, h.block⟩
theorem Fr.frozen {w w' : World} (h : Fr w w') {b o : Nat} {v : Value} (hc : w.cell? ⟨b, o, none⟩ = some v) : w'.frozen? ⟨b, o, none⟩ = w.frozen? ⟨b, o, none⟩ := Below.frozen h (World.block_lt_of_cell? w _ hc)
theorem Fr.setCell {a b : World} (h : Fr a b) {p : Addr} (hp : a.heap.size ≤ p.block) (v : Value) : Fr a (b.setCell p v) := Below.setCell h hp v
theorem ret_int {k : IntKind} {a b : Int} (h : a = b) : Ending.returned (.int k a) = .returned (.int k b) := by rw [h]

/-- n cells from a place on, as they are read. -/
def Row (w : World) (b off n : Nat) (f : Nat → Value) : Prop := ∀ i, i < n → w.cell? ⟨b, off + i, none⟩ = some (f i)
theorem Fr.cell {w w' : World} (h : Fr w w') {b o : Nat} {v : Value} (hc : w.cell? ⟨b, o, none⟩ = some v) : w'.cell? ⟨b, o, none⟩ = some v := by
  have hb := World.block_lt_of_cell? w _ hc
  exact (Below.cell h hb).trans hc
theorem Row.fr {w w' : World} {b off n : Nat} {f : Nat → Value} (h : Row w b off n f) (k : Fr w w') : Row w' b off n f := fun i hi => k.cell (h i hi)
theorem Fr.row {w w' : World} (h : Fr w w') {b : Nat} {t : TypeId} {n : Nat} {f : Nat → Value} (k : w.rowIs b t n f) : w'.rowIs b t n f := k.of_block (h.block b k.lt)
theorem Fr.new {w w' : World} {b : Nat} (hb : w.heap.size ≤ b) (h : w.grownBy w' (some b)) : Fr w w' :=
  ⟨h.os, h.tape, h.output, h.size, fun k hk => h.block k hk (by simp; omega)⟩
/-- A slice value of so many elements, which lie in memory as said. -/
def SlV (w : World) (v : Value) (L : Nat) (f : Nat → Value) : Prop := ∃ a cap, v = .slice a L cap ∧ (0 < L → ∃ b off, a = some ⟨b, off, none⟩ ∧ Row w b off L f)
theorem SlV.fr {w w' : World} {v : Value} {L : Nat} {f : Nat → Value} (h : SlV w v L f) (k : Fr w w') : SlV w' v L f := by
  obtain ⟨a, cap, rfl, h⟩ := h
  exact ⟨a, cap, rfl, fun hL => by obtain ⟨b, off, rfl, hr⟩ := h hL; exact ⟨b, off, rfl, hr.fr k⟩⟩
theorem SlV.row {w : World} {g : Nat} {T : TypeId} {L cap : Nat} {f : Nat → Value} (h : w.rowIs g T L f) : SlV w (.slice (some ⟨g, 0, none⟩) L cap) L f :=
  ⟨_, cap, rfl, fun _ => ⟨g, 0, rfl, fun i hi => by rw [Nat.zero_add]; exact h.cell hi⟩⟩
theorem SlV.nil (w : World) (f : Nat → Value) : SlV w (.slice none 0 0) 0 f := ⟨none, 0, rfl, fun h => absurd h (by decide)⟩
end Go.Proofs.YtdnckbcknahakaaGreat
