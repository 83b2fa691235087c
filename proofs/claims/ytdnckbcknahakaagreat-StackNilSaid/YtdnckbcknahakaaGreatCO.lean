/- Code that lies in memory, and code that came in. -/
import Derived.Test.YtdnckbcknahakaaGreatRows
import Derived.Test.YtdnckbcknahakaaGreatAP
import Derived.ChangeMaps5
import Derived.OpenShut
import Derived.Lib.SmallJoins
import Derived.Deep.Slices
import Derived.ChangeArms
import Derived.ChangeSame
import Derived.WideShapes
import Derived.SizedLaws
import Derived.ProofKit
import Derived.Carry
namespace Go.Proofs.YtdnckbcknahakaaGreat
open Go.ChangeShapes Go.WideShapes Go.ChangeAt Go.RowKit
set_option linter.unusedVariables false

/-- An instruction, an entry, an area, code. -/
structure Op3 where
  op : Int
  n : Int
  m : Int
deriving Inhabited, DecidableEq
structure En2 where
  g : Int
  p : Int
deriving Inhabited, DecidableEq
structure Dt where
  t : ByteArray
  b : Bool
  ws : List Int
deriving Inhabited, DecidableEq
structure Cod where
  name : ByteArray
  data : List Dt
  ops : List Op3
  gl : List En2
  procs : Int
  labels : Int
deriving Inhabited
def wf64 (x : Int) : Prop := -9223372036854775808 ≤ x ∧ x ≤ 9223372036854775807
theorem wf64_of {x : Int} (h : (Lit.int .i64 x).wf = true) : wf64 x := by
  have h' : -9223372036854775808 ≤ x ∧ x ≤ 9223372036854775807 := by simpa [Lit.wf, IntKind.min, IntKind.max, IntKind.signed, IntKind.bits] using h
  exact h'
/-- A slice whose elements lie in memory as said, z cells each. -/
structure SlE {α : Type} (z : Nat) (C : World → Nat → Nat → α → Prop) (w : World) (v : Value) (l : List α) : Prop where
  ex : ∃ a cap, v = .slice a l.length cap ∧ l.length ≤ cap ∧ cap ≤ maxLen ∧ (a = none → cap = 0) ∧ (0 < l.length → ∃ b off, a = some ⟨b, off, none⟩ ∧ ∀ (i : Nat) (x : α), l[i]? = some x → C w b (off + i * z) x)
theorem SlE.form {α : Type} {z : Nat} {C : World → Nat → Nat → α → Prop} {w : World} {v : Value} {l : List α} (h : SlE z C w v l) : ∃ a cap, v = .slice a l.length cap ∧ l.length ≤ cap ∧ cap ≤ maxLen ∧ (a = none → cap = 0) := by
  obtain ⟨a, cap, h1, h2, h3, h4, _⟩ := h.ex
  exact ⟨a, cap, h1, h2, h3, h4⟩
theorem SlE.at_ {α : Type} {z : Nat} {C : World → Nat → Nat → α → Prop} {w : World} {a : Option Addr} {n cap : Nat} {l : List α} (h : SlE z C w (.slice a n cap) l) {i : Nat} {x : α} (hx : l[i]? = some x) :
    ∃ b off, a = some ⟨b, off, none⟩ ∧ C w b (off + i * z) x := by
  obtain ⟨a', cap', h1, h2, h3, h4, h5⟩ := h.ex
  injection h1 with e1 e2 e3
  subst e1
  have hi := (List.getElem?_eq_some_iff.1 hx).1
  obtain ⟨b, off, e, hg⟩ := h5 (by omega)
  exact ⟨b, off, e, hg i x hx⟩
theorem SlE.fr {α : Type} {z : Nat} {C : World → Nat → Nat → α → Prop} (hC : ∀ (w w' : World) (b o : Nat) (x : α), C w b o x → Fr w w' → C w' b o x) {w w' : World} {v : Value} {l : List α} (h : SlE z C w v l) (k : Fr w w') : SlE z C w' v l := by
  obtain ⟨a, cap, h1, h2, h3, h4, h5⟩ := h.ex
  exact ⟨a, cap, h1, h2, h3, h4, fun hp => by obtain ⟨b, off, e, hg⟩ := h5 hp; exact ⟨b, off, e, fun i x hx => hC _ _ _ _ _ (hg i x hx) k⟩⟩
theorem SlE.nil {α : Type} {z : Nat} {C : World → Nat → Nat → α → Prop} (w : World) : SlE z C w (.slice none 0 0) ([] : List α) :=
  ⟨none, 0, rfl, Nat.le_refl _, Nat.zero_le _, fun _ => rfl, fun h => absurd h (Nat.lt_irrefl 0)⟩
/-- Cells of an instruction, an entry, a number. -/
structure OpC (w : World) (b off : Nat) (o : Op3) : Prop where
  op : w.cell? ⟨b, off, none⟩ = some (.int .i64 o.op)
  n : w.cell? ⟨b, off + 1, none⟩ = some (.int .i64 o.n)
  m : w.cell? ⟨b, off + 2, none⟩ = some (.int .i64 o.m)
structure EnC (w : World) (b off : Nat) (o : En2) : Prop where
  g : w.cell? ⟨b, off, none⟩ = some (.int .i64 o.g)
  p : w.cell? ⟨b, off + 1, none⟩ = some (.int .i64 o.p)
def InC (w : World) (b off : Nat) (x : Int) : Prop := w.cell? ⟨b, off, none⟩ = some (.int .i64 x)
theorem OpC.fr {w w' : World} {b o : Nat} {x : Op3} (h : OpC w b o x) (k : Fr w w') : OpC w' b o x := ⟨k.cell h.op, k.cell h.n, k.cell h.m⟩
theorem EnC.fr {w w' : World} {b o : Nat} {x : En2} (h : EnC w b o x) (k : Fr w w') : EnC w' b o x := ⟨k.cell h.g, k.cell h.p⟩
theorem InC.fr {w w' : World} {b o : Nat} {x : Int} (h : InC w b o x) (k : Fr w w') : InC w' b o x := k.cell h
abbrev OpsV := SlE 3 OpC
abbrev EnsV := SlE 2 EnC
abbrev IntsV := SlE 1 InC
/-- Cells of an area; the words lie in memory. -/
def DtC (w : World) (b off : Nat) (x : Dt) : Prop := w.cell? ⟨b, off, none⟩ = some (.string x.t) ∧ w.cell? ⟨b, off + 1, none⟩ = some (.bool x.b) ∧ ∃ lv, w.cell? ⟨b, off + 2, none⟩ = some lv ∧ IntsV w lv x.ws
theorem IntsV.fr' {w w' : World} {v : Value} {l : List Int} (h : IntsV w v l) (k : Fr w w') : IntsV w' v l := SlE.fr (C := InC) (fun _ _ _ _ _ a b => InC.fr a b) h k
theorem OpsV.fr' {w w' : World} {v : Value} {l : List Op3} (h : OpsV w v l) (k : Fr w w') : OpsV w' v l := SlE.fr (C := OpC) (fun _ _ _ _ _ a b => OpC.fr a b) h k
theorem EnsV.fr' {w w' : World} {v : Value} {l : List En2} (h : EnsV w v l) (k : Fr w w') : EnsV w' v l := SlE.fr (C := EnC) (fun _ _ _ _ _ a b => EnC.fr a b) h k
theorem DtC.fr {w w' : World} {b o : Nat} {x : Dt} (h : DtC w b o x) (k : Fr w w') : DtC w' b o x := by
  obtain ⟨h1, h2, lv, h3, h4⟩ := h
  exact ⟨k.cell h1, k.cell h2, lv, k.cell h3, h4.fr' k⟩
abbrev DtsV := SlE 3 DtC
theorem DtsV.fr' {w w' : World} {v : Value} {l : List Dt} (h : DtsV w v l) (k : Fr w w') : DtsV w' v l := SlE.fr (C := DtC) (fun _ _ _ _ _ a b => DtC.fr a b) h k
/-- Code's value. -/
def codV (c : Cod) (dv ov gv : Value) : Value := .agg #[.string c.name, dv, ov, gv, .int .i64 c.procs, .int .i64 c.labels]
/-- The three lists of code lie in memory. -/
structure CodW (w : World) (c : Cod) (dv ov gv : Value) : Prop where
  d : DtsV w dv c.data
  o : OpsV w ov c.ops
  g : EnsV w gv c.gl
theorem CodW.fr {w w' : World} {c : Cod} {dv ov gv : Value} (h : CodW w c dv ov gv) (k : Fr w w') : CodW w' c dv ov gv := ⟨h.d.fr' k, h.o.fr' k, h.g.fr' k⟩
/-- Numbers are numbers of 64 bits, texts are no longer than memory. -/
structure wfC (c : Cod) : Prop where
  name : c.name.size ≤ 140737488351232
  data : ∀ x ∈ c.data, x.t.size ≤ 140737488351232 ∧ x.ws.length ≤ 140737488351232 ∧ ∀ y ∈ x.ws, wf64 y
  ops : ∀ x ∈ c.ops, wf64 x.op ∧ wf64 x.n ∧ wf64 x.m
  gl : ∀ x ∈ c.gl, wf64 x.g ∧ wf64 x.p
  procs : wf64 c.procs
  labels : wf64 c.labels
  dlen : c.data.length ≤ 140737488351232
  olen : c.ops.length ≤ 140737488351232
  glen : c.gl.length ≤ 140737488351232
theorem cellsOp : Tryz.prog.cellsOf 60 = 3 := by kernel_rfl
theorem cellsEn : Tryz.prog.cellsOf 100 = 2 := by kernel_rfl
theorem cellsDt : Tryz.prog.cellsOf 102 = 3 := by kernel_rfl
theorem cellsInt : Tryz.prog.cellsOf 3 = 1 := by kernel_rfl
theorem cellsStr : Tryz.prog.cellsOf 9 = 1 := by kernel_rfl
theorem cellsBool : Tryz.prog.cellsOf 4 = 1 := by kernel_rfl
theorem cellsSlI : Tryz.prog.cellsOf 22 = 1 := by kernel_rfl
theorem cellsSlO : Tryz.prog.cellsOf 40 = 1 := by kernel_rfl
theorem cellsSlD : Tryz.prog.cellsOf 39 = 1 := by kernel_rfl
theorem cellsSlE : Tryz.prog.cellsOf 41 = 1 := by kernel_rfl
theorem cellsCode : Tryz.prog.cellsOf 43 = 6 := by kernel_rfl
/-- No part is longer than memory. -/
def Wok {H : Type} (t : TypeId) (d : DataW H) : Prop := ∀ n ∈ d.weights Tryz.prog t, n ≤ reachBytes
theorem weights_mem_all {H : Type} {e : TypeId} : ∀ {ds : List (DataW H)} {d : DataW H}, d ∈ ds → ∀ n ∈ d.weights Tryz.prog e, n ∈ DataW.weightsAll Tryz.prog e ds
  | x :: r, d, h, n, hn => by
    simp only [DataW.weightsAll, List.mem_append]
    cases List.mem_cons.1 h with
    | inl q => subst q; exact Or.inl hn
    | inr q => exact Or.inr (weights_mem_all q n hn)
theorem Wok.part {H : Type} {t : TypeId} {fs : Array Field} {ts : List TypeId} (hu : Tryz.prog.underlying t = some (.struct fs)) (hts : fs.toList.map (·.type) = ts) {parts : List (DataW H)} (h : Wok t (DataW.agg parts)) {j : Nat} {e : TypeId} {d : DataW H} (he : ts[j]? = some e) (hd : parts[j]? = some d) : Wok e d := fun n hn => h n (by
  simp only [DataW.weights, hu, hts]
  exact DataW.weights_mem_each he hd n hn)
theorem Wok.str {H : Type} {t : TypeId} {s : ByteArray} (h : Wok t (DataW.lit (H := H) (.string s.data.toList))) : s.size ≤ 140737488351232 := by
  have h1 := h s.data.toList.length (by simp [DataW.weights])
  unfold reachBytes at h1
  have e : s.data.toList.length = s.size := by rw [Array.length_toList]; rfl
  omega
theorem Wok.elem {H : Type} {t e : TypeId} (hu : Tryz.prog.underlying t = some (.slice e)) {elems spare : List (DataW H)} (h : Wok t (DataW.slice elems spare)) {d : DataW H} (hd : d ∈ elems) : Wok e d := fun n hn => h n (by
  simp only [DataW.weights, hu, List.mem_cons, List.mem_append]
  exact Or.inr (Or.inl (weights_mem_all hd n hn)))
end Go.Proofs.YtdnckbcknahakaaGreat
