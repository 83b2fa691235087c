/- Rows of cells, and what a world keeps. Nothing here speaks of a program. -/
import Derived.Test.YtflkcelgbnojaaaB
import Derived.Deep.OwnRows
namespace Go.Proofs.Ytflkcelgbnojaaa
open Go.RowKit

/-- n cells from a place on, as they are read. -/
def Row (w : World) (b off n : Nat) (f : Nat → Value) : Prop := ∀ i, i < n → w.cell? ⟨b, off + i, none⟩ = some (f i)
theorem Fr.cell {w w' : World} (h : Fr w w') {b o : Nat} {v : Value} (hc : w.cell? ⟨b, o, none⟩ = some v) : w'.cell? ⟨b, o, none⟩ = some v := by
  have hb := World.block_lt_of_cell? w _ hc
  exact (Below.cell h hb).trans hc
theorem Row.fr {w w' : World} {b off n : Nat} {f : Nat → Value} (h : Row w b off n f) (k : Fr w w') : Row w' b off n f := fun i hi => k.cell (h i hi)
theorem Fr.row {w w' : World} (h : Fr w w') {b : Nat} {t : TypeId} {n : Nat} {f : Nat → Value} (k : w.rowIs b t n f) : w'.rowIs b t n f := k.of_block (h.block b k.lt)
theorem Fr.new {w w' : World} {b : Nat} (hb : w.heap.size ≤ b) (h : w.grownBy w' (some b)) : Fr w w' :=
  ⟨h.os, h.tape, h.output, h.size, fun k hk => h.block k hk (by simp; omega)⟩

/-- Only block g, and what is new, has turned. -/
def Gr (a b : World) (g : Nat) : Prop := a.grownBy b (some g)
theorem Gr.refl (a : World) (g : Nat) : Gr a a g := ⟨rfl, rfl, rfl, Nat.le_refl _, fun _ _ _ => rfl⟩
theorem Gr.fr {a b c : World} {g : Nat} (h : Gr a b g) (k : Fr b c) : Gr a c g :=
  ⟨k.os.trans h.os, k.tape.trans h.tape, k.output.trans h.output, Nat.le_trans h.size k.size, fun i hi hne => (k.block i (Nat.lt_of_lt_of_le hi h.size)).trans (h.block i hi hne)⟩
theorem Fr.gr {a b : World} (h : Fr a b) (g : Nat) : Gr a b g := (Gr.refl a g).fr h
theorem Gr.trans {a b c : World} {g : Nat} (h : Gr a b g) (k : Gr b c g) : Gr a c g :=
  ⟨k.os.trans h.os, k.tape.trans h.tape, k.output.trans h.output, Nat.le_trans h.size k.size, fun i hi hne => (k.block i (Nat.lt_of_lt_of_le hi h.size) hne).trans (h.block i hi hne)⟩
theorem Gr.drew {a b : World} {g : Nat} (h : Gr a b g) : Gr a b.drew g := ⟨h.os, h.tape, h.output, h.size, h.block⟩
theorem Gr.drewN {a b : World} {g : Nat} (h : Gr a b g) (n : Nat) : Gr a (b.drewN n) g := ⟨h.os, h.tape, h.output, h.size, h.block⟩
theorem Gr.alloc {a b : World} {g : Nat} (h : Gr a b g) (o : Obj) : Gr a (b.alloc o) g := h.fr ((Fr.refl _).alloc o)
theorem Gr.set {a b : World} {g : Nat} (h : Gr a b g) (i : Nat) (v : Value) : Gr a (b.setCell ⟨g, i, none⟩ v) g :=
  ⟨h.os, h.tape, h.output, by simpa [World.setCell] using h.size, fun k hk hne => (Below.heap_setCell b ⟨g, i, none⟩ v k (by intro e; exact hne (by rw [e]))).trans (h.block k hk hne)⟩
theorem Gr.cell {a b : World} {g : Nat} (h : Gr a b g) {k o : Nat} {v : Value} (hc : a.cell? ⟨k, o, none⟩ = some v) (hne : k ≠ g) : b.cell? ⟨k, o, none⟩ = some v :=
  World.grownBy.cell h hc (by simpa using hne)
theorem Gr.row {a b : World} {g : Nat} (h : Gr a b g) {k : Nat} {t : TypeId} {n : Nat} {f : Nat → Value} (hr : a.rowIs k t n f) (hne : k ≠ g) : b.rowIs k t n f :=
  hr.of_block (h.block k hr.lt (by simpa using hne))
theorem Gr.size {a b : World} {g : Nat} (h : Gr a b g) : a.heap.size ≤ b.heap.size := World.grownBy.size h

/-- A form that lies in memory. -/
def Bx (w : World) (b : Nat) (n : Int) (big : Bool) : Prop := w.cell? ⟨b, 0, none⟩ = some (.int .i64 n) ∧ w.cell? ⟨b, 1, none⟩ = some (.bool big)
theorem Bx.new (w : World) (n : Int) (big : Bool) (T : TypeId) : Bx (w.alloc (.cells #[.int .i64 n, .bool big] T)) w.heap.size n big := ⟨by simp, by simp⟩
theorem Bx.fr {w w' : World} {b : Nat} {n : Int} {big : Bool} (h : Bx w b n big) (k : Fr w w') : Bx w' b n big := ⟨k.cell h.1, k.cell h.2⟩
theorem Bx.gr {w w' : World} {b g : Nat} {n : Int} {big : Bool} (h : Bx w b n big) (k : Gr w w' g) (hne : b ≠ g) : Bx w' b n big := ⟨k.cell h.1 hne, k.cell h.2 hne⟩
theorem Fr.frozen {w w' : World} (h : Fr w w') {b o : Nat} {v : Value} (hc : w.cell? ⟨b, o, none⟩ = some v) : w'.frozen? ⟨b, o, none⟩ = w.frozen? ⟨b, o, none⟩ := Below.frozen h (World.block_lt_of_cell? w _ hc)
theorem Fr.setCell {a b : World} (h : Fr a b) {p : Addr} (hp : a.heap.size ≤ p.block) (v : Value) : Fr a (b.setCell p v) := Below.setCell h hp v

/-- What a round reads and writes: a word, a byte, and the form. -/
def Wo (w : World) (g q : Nat) (x : Value) (b o : Nat) (y : Value) (c : Nat) (n : Int) (big : Bool) : Prop :=
  w.cell? ⟨g, q, none⟩ = some x ∧ w.frozen? ⟨g, q, none⟩ = false ∧ w.cell? ⟨b, o, none⟩ = some y ∧ w.cell? ⟨c, 0, none⟩ = some (.int .i64 n) ∧ w.cell? ⟨c, 1, none⟩ = some (.bool big)
theorem Wo.fr {w0 w w' : World} {g q : Nat} {x : Value} {b o : Nat} {y : Value} {c : Nat} {n : Int} {big : Bool} (h : Wo w0 g q x b o y c n big) (e : w.heap = w0.heap) (k : Fr w w') : Wo w' g q x b o y c n big := by
  obtain ⟨h1, h2, h3, h4, h5⟩ := h
  have E : ∀ a, w.cell? a = w0.cell? a := fun a => by simp [World.cell?, e]
  have F : ∀ a, w.frozen? a = w0.frozen? a := fun a => by simp [World.frozen?, e]
  exact ⟨k.cell ((E _).trans h1), (k.frozen ((E _).trans h1)).trans ((F _).trans h2), k.cell ((E _).trans h3), k.cell ((E _).trans h4), k.cell ((E _).trans h5)⟩
end Go.Proofs.Ytflkcelgbnojaaa
