/- A slice of tokens that came in. -/
import Derived.Test.YtkkapgidddfdoaaDoorLD
import Derived.ChangeMaps5
import Derived.OpenShut
import Derived.Lib.SmallJoins
import Derived.Deep.Slices
import Derived.Test.YtkkapgidddfdoaaDoorAP
namespace Go.Proofs.YtkkapgidddfdoaaDoor
open Go.ChangeShapes Go.WideShapes Go.ChangeAt Go.RowKit
set_option linter.unusedVariables false

/-- A token, whatever its numbers. -/
structure Tg where
  k : Int
  t : ByteArray
  n : Int
  a : Int
instance : Inhabited Tg := ⟨⟨0, ⟨#[]⟩, 0, 0⟩⟩
def wfT (x : Int) : Prop := -9223372036854775808 ≤ x ∧ x ≤ 9223372036854775807
/-- Tokens that lie from a place on. -/
def Gc (w : World) (b off : Nat) (L : List Tg) : Prop := ∀ (i : Nat) (t : Tg), L[i]? = some t → w.cell? ⟨b, off + i * 4, none⟩ = some (.int .i64 t.k) ∧ w.cell? ⟨b, off + i * 4 + 1, none⟩ = some (.string t.t) ∧ w.cell? ⟨b, off + i * 4 + 2, none⟩ = some (.int .i64 t.n) ∧ w.cell? ⟨b, off + i * 4 + 3, none⟩ = some (.int .i64 t.a)
theorem Gc.fr {w w' : World} {b off : Nat} {L : List Tg} (h : Gc w b off L) (k : Fr w w') : Gc w' b off L := fun i t ht => by
  obtain ⟨h0, h1, h2, h3⟩ := h i t ht
  exact ⟨k.cell h0, k.cell h1, k.cell h2, k.cell h3⟩
/-- What a slice of tokens that came in holds. -/
def GV (w : World) (v : Value) (L : List Tg) : Prop := ∃ a cap, v = .slice a L.length cap ∧ L.length ≤ cap ∧ (0 < L.length → ∃ b off, a = some ⟨b, off, none⟩ ∧ Gc w b off L)
def okG (L : List Tg) : Prop := L.length ≤ 1048576 ∧ ∀ t ∈ L, t.t.size ≤ 1048576 ∧ wfT t.k ∧ wfT t.n ∧ wfT t.a
theorem bulk_one {H : Type} (d : DataW H) : 1 ≤ Rows.uptoBulk d := by
  cases d with
  | lit l => cases l <;> simp [Rows.uptoBulk]
  | nil => simp [Rows.uptoBulk]
  | ptr d => simp [Rows.uptoBulk]
  | slice elems spare => simp [Rows.uptoBulk]
  | agg parts => simp [Rows.uptoBulk]
  | iface t d => simp [Rows.uptoBulk]
  | map entries => simp [Rows.uptoBulk]
  | held h => simp [Rows.uptoBulk]
theorem bulk_part {H : Type} {d : DataW H} {l : List (DataW H)} (h : d ∈ l) : Rows.uptoBulk d ≤ Rows.uptoBulkAll l := by
  induction l with
  | nil => cases h
  | cons x r ih =>
    simp only [Rows.uptoBulkAll]
    cases List.mem_cons.1 h with
    | inl e => subst e; omega
    | inr e => have := ih e; omega
theorem bulk_len {H : Type} (l : List (DataW H)) : l.length ≤ Rows.uptoBulkAll l := by
  induction l with
  | nil => simp [Rows.uptoBulkAll]
  | cons x r ih => have := bulk_one x; simp only [Rows.uptoBulkAll, List.length_cons]; omega
theorem cellsTok : Tryd.prog.cellsOf 38 = 4 := by kernel_rfl
theorem cellsInt : Tryd.prog.cellsOf 3 = 1 := by kernel_rfl
theorem cellsStr : Tryd.prog.cellsOf 9 = 1 := by kernel_rfl
theorem wfT_of {x : Int} (h : (Lit.int .i64 x).wf = true) : wfT x := by
  have h' : -9223372036854775808 ≤ x ∧ x ≤ 9223372036854775807 := by simpa [Lit.wf, IntKind.min, IntKind.max, IntKind.signed, IntKind.bits] using h
  exact h'
set_option maxRecDepth 100000 in
theorem open_toks {H : Type} {enc : TypeId × Value → H} {W : World} {base : Nat} {v : Value} {d : DataW H} {p : List MemPlace} (hval : Value.okWide Tryd.prog W .any base 22 v) (h : DataW.Trod enc Tryd.prog W 0 (fun _ => true) true 22 v d p) (hk : Rows.uptoBulk d ≤ 1048576) :
    ∃ L : List Tg, GV W v L ∧ okG L := by
  obtain ⟨a0, len0, cap0, rfl⟩ := okWide_slice Tryd.underlying22 hval
  obtain ⟨fuel, hf⟩ := h
  rcases Deep.open_slice Tryd.underlying22 hf with ⟨hcs, hx⟩ | ⟨a, len, cap, m, n, D, Pl, hcs, _, hl, hm, hmm, hx, hel⟩
  · simp [Value.cells] at hcs
    obtain ⟨rfl, rfl, rfl⟩ := hcs
    exact ⟨[], ⟨none, 0, rfl, Nat.le_refl _, fun h => absurd h (by decide)⟩, by simp, fun t ht => by cases ht⟩
  · simp [Value.cells] at hcs
    obtain ⟨rfl, rfl, rfl⟩ := hcs
    simp only [if_true] at hmm
    subst hmm
    rw [cellsTok] at hel
    simp only [Prod.mk.injEq] at hx
    obtain ⟨rfl, _⟩ := hx
    have hel' : ∀ i, i < len0 → ∃ t : Tg, (W.cell? (a.add (i * 4)) = some (.int .i64 t.k) ∧ W.cell? ((a.add (i * 4)).add 1) = some (.string t.t) ∧ W.cell? ((a.add (i * 4)).add 2) = some (.int .i64 t.n) ∧ W.cell? ((a.add (i * 4)).add 3) = some (.int .i64 t.a)) ∧ (t.t.size + 1 ≤ Rows.uptoBulk (D i)) ∧ wfT t.k ∧ wfT t.n ∧ wfT t.a := by
      intro i hi
      obtain ⟨cs, h1, h2⟩ := hel i (by omega)
      obtain ⟨_, hlen, hcell⟩ := World.cells?_some h1
      obtain ⟨y0, y1, y2, y3, n', hxy, _, g0, g1, g2, g3⟩ := Joins.trod_struct4 Tryd.underlying38 h2
      match cs, hlen with
      | [v0, v1, v2, v3], _ =>
        simp [cellsInt, cellsStr] at g0 g1 g2 g3
        obtain ⟨z0, q0, r0, w0⟩ := DataW.trod_int Tryd.underlying3 g0
        obtain ⟨s1, q1, r1, w1⟩ := DataW.trod_string Tryd.underlying9 g1
        obtain ⟨z2, q2, r2, w2⟩ := DataW.trod_int Tryd.underlying3 g2
        obtain ⟨z3, q3, r3, w3⟩ := DataW.trod_int Tryd.underlying3 g3
        simp only [List.cons.injEq, and_true] at q0 q1 q2 q3
        subst q0 q1 q2 q3
        have e0 := hcell 0 (by omega)
        have e1 := hcell 1 (by omega)
        have e2 := hcell 2 (by omega)
        have e3 := hcell 3 (by omega)
        refine ⟨⟨z0, s1, z2, z3⟩, ⟨by simpa [Addr.add] using e0, by simpa using e1, by simpa using e2, by simpa using e3⟩, ?_, wfT_of w0, wfT_of w2, wfT_of w3⟩
        simp only [Prod.mk.injEq] at hxy
        rw [hxy.1, r1]
        simp only [Rows.uptoBulk, Rows.uptoBulkAll]
        have e : s1.data.toList.length = s1.size := by rw [Array.length_toList]; rfl
        have := bulk_one y0.1
        omega
    obtain ⟨q, hq⟩ := Deep.choose_lt hel'
    simp only [Rows.uptoBulk] at hk
    have hlen := bulk_len ((List.range len0).map D)
    have hLl : ((List.range len0).map q).length = len0 := by simp
    refine ⟨(List.range len0).map q, ⟨some a, m, by rw [hLl], by rw [hLl]; exact hl, fun hp => ?_⟩, by rw [hLl]; simp at hlen; omega, fun t ht => ?_⟩
    · rw [hLl] at hp
      obtain ⟨⟨h0, _⟩, _⟩ := hq 0 hp
      obtain ⟨b, off, spot⟩ := a
      cases spot with
      | some x =>
        simp only [Addr.add, Nat.zero_mul, if_true, World.cell?] at h0
        split at h0 <;> simp at h0
      | none =>
        refine ⟨b, off, rfl, fun i t ht => ?_⟩
        rw [List.getElem?_map] at ht
        obtain ⟨j, hj, rfl⟩ := Option.map_eq_some_iff.1 ht
        obtain ⟨hjl, rfl⟩ := List.getElem?_eq_some_iff.1 hj
        rw [List.length_range] at hjl
        have hri : (List.range len0)[i] = i := List.getElem_range _
        rw [hri]
        obtain ⟨⟨h0, h1, h2, h3⟩, _⟩ := hq i hjl
        rw [ap_add] at h0
        rw [ap_add, ap_add] at h1 h2 h3
        exact ⟨h0, h1, h2, h3⟩
    · obtain ⟨i, hi, rfl⟩ := List.mem_map.1 ht
      obtain ⟨_, h1, h2, h3, h4⟩ := hq i (List.mem_range.1 hi)
      have := bulk_part (d := D i) (l := (List.range len0).map D) (List.mem_map.2 ⟨i, hi, rfl⟩)
      exact ⟨by omega, h2, h3, h4⟩
end Go.Proofs.YtkkapgidddfdoaaDoor
