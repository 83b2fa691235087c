/- Blocks of a machine of layer 8, and what a step keeps. -/
import Derived.Test.YtdnckbcknahakaaGreatFN
namespace Go.Proofs.YtdnckbcknahakaaGreat
open Go.RowKit
set_option linter.unusedVariables false
set_option linter.unusedSimpArgs false

/-- But for blocks X nothing of what was there turns. -/
structure Ex (X : Nat → Prop) (w w' : World) : Prop where
  size : w.heap.size ≤ w'.heap.size
  block : ∀ k, k < w.heap.size → ¬ X k → w'.heap[k]? = w.heap[k]?
  base : ∀ n W, n ≤ W.heap.size → Below n W w → (∀ k, X k → n ≤ k) → Below n W w'
theorem Ex.refl (X : Nat → Prop) (w : World) : Ex X w w := ⟨Nat.le_refl _, fun _ _ _ => rfl, fun _ _ _ h _ => h⟩
theorem Ex.trans {X : Nat → Prop} {a b c : World} (h : Ex X a b) (k : Ex X b c) : Ex X a c :=
  ⟨Nat.le_trans h.size k.size, fun i hi hx => (k.block i (Nat.lt_of_lt_of_le hi h.size) hx).trans (h.block i hi hx), fun n W hn hb hx => k.base n W hn (h.base n W hn hb hx) hx⟩
theorem Fr.ex {X : Nat → Prop} {w w' : World} (h : Fr w w') : Ex X w w' := ⟨h.size, fun k hk _ => h.block k hk, fun n W hn hb _ => hb.trans (Below.mono h (Nat.le_trans hn hb.size))⟩
theorem Ex.fr {X : Nat → Prop} {a b c : World} (h : Ex X a b) (k : Fr b c) : Ex X a c := h.trans k.ex
theorem Ex.set {X : Nat → Prop} {a b : World} (h : Ex X a b) {p : Addr} (hp : X p.block) (v : Value) : Ex X a (b.setCell p v) :=
  h.trans ⟨by simp [World.setCell], fun k hk hx => Below.heap_setCell _ _ _ _ (fun e => hx (by rw [e]; exact hp)), fun n W _ hb hx => hb.setCell (hx _ hp) v⟩
theorem Ex.mono {X Y : Nat → Prop} {a b : World} (h : Ex X a b) (k : ∀ i, X i → Y i) : Ex Y a b := ⟨h.size, fun i hi hy => h.block i hi (fun hx => hy (k i hx)), fun n W hn hb hx => h.base n W hn hb (fun i hi => hx i (k i hi))⟩
/-- New memory alone was written. -/
theorem Ex.below {X : Nat → Prop} {w0 w w' : World} (h : Ex X w w') (h0 : Fr w0 w) (hx : ∀ k, X k → w0.heap.size ≤ k) : Fr w0 w' := h.base _ _ (Nat.le_refl _) h0 hx
theorem Ex.cell {X : Nat → Prop} {w w' : World} (h : Ex X w w') {b o : Nat} {v : Value} (hx : ¬ X b) (hc : w.cell? ⟨b, o, none⟩ = some v) : w'.cell? ⟨b, o, none⟩ = some v :=
  (World.cell?_of_block (w := w) (h.block b (World.block_lt_of_cell? w _ hc) hx)).trans hc
theorem Ex.row {X : Nat → Prop} {w w' : World} (h : Ex X w w') {b : Nat} {t : TypeId} {n : Nat} {f : Nat → Value} (hx : ¬ X b) (k : w.rowIs b t n f) : w'.rowIs b t n f := k.of_block (h.block b k.lt hx)
/-- A block of these cells. -/
def Blk (w : World) (b : Nat) (T : TypeId) (cs : Array Value) : Prop := w.heap[b]? = some (.cells cs T (0, 0))
section
variable {w w' : World} {b : Nat} {T : TypeId} {cs : Array Value}
theorem Blk.lt (h : Blk w b T cs) : b < w.heap.size := (Array.getElem?_eq_some_iff.1 h).1
theorem Blk.ex {X : Nat → Prop} (h : Blk w b T cs) (k : Ex X w w') (hx : ¬ X b) : Blk w' b T cs := (k.block b h.lt hx).trans h
theorem Blk.fr (h : Blk w b T cs) (k : Fr w w') : Blk w' b T cs := (k.block b h.lt).trans h
theorem Blk.cell (h : Blk w b T cs) {i : Nat} {v : Value} (hi : cs[i]? = some v) : w.cell? ⟨b, i, none⟩ = some v := by
  unfold Blk at h
  simp [World.cell?, h, hi]
theorem Blk.free (h : Blk w b T cs) (i : Nat) : w.frozen? ⟨b, i, none⟩ = false := by
  unfold Blk at h
  simp [World.frozen?, h]
theorem Blk.new (w : World) (cs : Array Value) (T : TypeId) : Blk (w.alloc (.cells cs T)) w.heap.size T cs := by
  unfold Blk; simp only [World.alloc, Array.getElem?_push_size]
theorem Blk.set (h : Blk w b T cs) (i : Nat) (v : Value) {cs' : Array Value} (he : cs.setIfInBounds i v = cs') : Blk (w.setCell ⟨b, i, none⟩ v) b T cs' := by
  unfold Blk at h ⊢
  rw [← he]
  simp [World.setCell, Array.getElem?_modify, h]
theorem Blk.far (h : Blk w b T cs) {p : Addr} (hp : b ≠ p.block) (v : Value) : Blk (w.setCell p v) b T cs := by
  unfold Blk at h ⊢
  rw [Below.heap_setCell _ _ _ _ hp]; exact h
end
/-- A block of n cells, told by a function. -/
def Arr (w : World) (b : Nat) (T : TypeId) (n : Nat) (f : Nat → Value) : Prop := ∃ C : Array Value, Blk w b T C ∧ C.size = n ∧ ∀ i, i < n → C[i]? = some (f i)
section
variable {w w' : World} {b : Nat} {T : TypeId} {n : Nat} {f : Nat → Value}
theorem Arr.lt (h : Arr w b T n f) : b < w.heap.size := by obtain ⟨C, h1, _⟩ := h; exact h1.lt
theorem Arr.ex {X : Nat → Prop} (h : Arr w b T n f) (k : Ex X w w') (hx : ¬ X b) : Arr w' b T n f := by obtain ⟨C, h1, h2, h3⟩ := h; exact ⟨C, h1.ex k hx, h2, h3⟩
theorem Arr.fr (h : Arr w b T n f) (k : Fr w w') : Arr w' b T n f := by obtain ⟨C, h1, h2, h3⟩ := h; exact ⟨C, h1.fr k, h2, h3⟩
theorem Arr.cell (h : Arr w b T n f) {i : Nat} (hi : i < n) : w.cell? ⟨b, i, none⟩ = some (f i) := by obtain ⟨C, h1, h2, h3⟩ := h; exact h1.cell (h3 i hi)
theorem Arr.free (h : Arr w b T n f) (i : Nat) : w.frozen? ⟨b, i, none⟩ = false := by obtain ⟨C, h1, h2, h3⟩ := h; exact h1.free i
theorem Arr.far (h : Arr w b T n f) {p : Addr} (hp : b ≠ p.block) (v : Value) : Arr (w.setCell p v) b T n f := by obtain ⟨C, h1, h2, h3⟩ := h; exact ⟨C, h1.far hp v, h2, h3⟩
theorem Arr.set (h : Arr w b T n f) {i : Nat} (hi : i < n) (v : Value) : Arr (w.setCell ⟨b, i, none⟩ v) b T n (upd f i v) := by
  obtain ⟨C, h1, h2, h3⟩ := h
  refine ⟨C.setIfInBounds i v, h1.set i v rfl, by rw [Array.size_setIfInBounds, h2], fun j hj => ?_⟩
  rw [Array.getElem?_setIfInBounds]
  unfold upd
  by_cases e : i = j
  · subst e; rw [if_pos rfl, if_pos rfl, if_pos (by omega)]
  · rw [if_neg e, if_neg (fun k => e k.symm)]; exact h3 j hj
theorem Arr.new (w : World) (v : Value) (T : TypeId) (n : Nat) : Arr (w.alloc (.cells (Array.replicate n v) T)) w.heap.size T n (fun _ => v) :=
  ⟨_, Blk.new _ _ _, Array.size_replicate, fun i hi => by rw [Array.getElem?_replicate, if_pos hi]⟩
end
/-- A machine's cells. -/
structure Sm where
  pb : Nat
  fr : Int
  dp : Int
  pl : Int
  mb : Nat
  hp : Int
  gv : Value
  rb : Nat
  rt : Value
  kp : Int
  inp : ByteArray
  oa : Value
  ob : Value
  st : Int
  en : Bool
  r0 : ByteArray
  r1 : Int
  r2 : Int
  r3 : Int
  r4 : Int
  bg : Value
  cd : Value
def maC (s : Sm) : Array Value := #[.pointer (some ⟨s.pb, 0, none⟩), .int .i64 s.fr, .int .i64 s.dp, .int .i64 s.pl, .pointer (some ⟨s.mb, 0, none⟩), .int .i64 s.hp, s.gv, .pointer (some ⟨s.rb, 0, none⟩), s.rt, .int .i64 s.kp, .string s.inp, s.oa, s.ob, .int .i64 s.st, .bool s.en, .string s.r0, .int .i64 s.r1, .int .i64 s.r2, .int .i64 s.r3, .int .i64 s.r4, s.bg, s.cd]
def MaR (w : World) (b : Nat) (s : Sm) : Prop := Blk w b 74 (maC s)
theorem MaR.cells {w : World} {b : Nat} {s : Sm} (h : MaR w b s) : w.cell? ⟨b, 0, none⟩ = some (.pointer (some ⟨s.pb, 0, none⟩)) ∧ w.cell? ⟨b, 1, none⟩ = some (.int .i64 s.fr) ∧ w.cell? ⟨b, 2, none⟩ = some (.int .i64 s.dp) ∧ w.cell? ⟨b, 3, none⟩ = some (.int .i64 s.pl) ∧ w.cell? ⟨b, 4, none⟩ = some (.pointer (some ⟨s.mb, 0, none⟩)) ∧ w.cell? ⟨b, 5, none⟩ = some (.int .i64 s.hp) ∧ w.cell? ⟨b, 6, none⟩ = some s.gv ∧ w.cell? ⟨b, 7, none⟩ = some (.pointer (some ⟨s.rb, 0, none⟩)) :=
  ⟨Blk.cell h rfl, Blk.cell h rfl, Blk.cell h rfl, Blk.cell h rfl, Blk.cell h rfl, Blk.cell h rfl, Blk.cell h rfl, Blk.cell h rfl⟩
/-- The blocks that a machine's own steps write to. -/
def Kb (b mb : Nat) (k : Nat) : Prop := k = b ∨ k = mb
end Go.Proofs.YtdnckbcknahakaaGreat
