/- What valid code is, as the code's looks tell it. Nothing here speaks of a program. -/
import Derived.Test.YtdnckbcknahakaaGreatCO
import Derived.Test.YtdnckbcknahakaaGreatQU
namespace Go.Proofs.YtdnckbcknahakaaGreat
set_option linter.unusedVariables false

def inI (n lo hi : Int) : Bool := decide (lo ≤ n) && decide (n ≤ hi)
def goOn (op : Int) : Bool := decide (¬ (op = 20 ∨ op = 25 ∨ op = 26 ∨ op = 27 ∨ op = 29 ∨ op = 30))
def beyond (n : Int) : Bool := decide (n < -2147483648) || decide (2147483647 < n)
def firstB (o : Op3) (nd : Nat) (procs labels : Int) : Bool :=
  if o.op = 1 ∨ o.op = 30 then true
  else if o.op = 2 ∨ o.op = 3 ∨ o.op = 4 ∨ o.op = 18 ∨ o.op = 23 ∨ o.op = 28 then inI o.n 0 4000
  else if o.op = 5 ∨ o.op = 6 ∨ o.op = 7 then inI o.n 0 199
  else if o.op = 8 ∨ o.op = 9 ∨ o.op = 10 then inI o.n 0 ((nd : Int) - 1)
  else if o.op = 11 ∨ o.op = 24 then inI o.n 1 procs
  else if o.op = 19 ∨ o.op = 20 ∨ o.op = 21 ∨ o.op = 22 ∨ o.op = 27 ∨ o.op = 29 then inI o.n 1 labels
  else if o.op = 16 then inI o.n 1 17
  else if o.op = 17 then inI o.n 18 19
  else if o.op = 12 ∨ o.op = 13 ∨ o.op = 14 ∨ o.op = 15 ∨ o.op = 25 ∨ o.op = 26 then decide (o.n = 0)
  else false
def secondB (o : Op3) (labels : Int) : Bool :=
  if o.op = 24 then inI o.m 0 8 else if o.op = 29 then inI o.m 0 1000 else if o.op = 30 then inI o.m 1 labels else decide (o.m = 0)
def takenI (op : Int) : Int :=
  if op = 15 then 3 else if op = 13 ∨ op = 14 ∨ op = 16 then 2
  else if op = 3 ∨ op = 6 ∨ op = 9 ∨ op = 12 ∨ op = 17 ∨ op = 21 ∨ op = 22 ∨ op = 29 ∨ op = 25 ∨ op = 27 then 1 else 0
def pushedI (op : Int) : Int :=
  if op = 1 ∨ op = 2 ∨ op = 4 ∨ op = 5 ∨ op = 7 ∨ op = 8 ∨ op = 10 ∨ op = 11 ∨ op = 12 ∨ op = 14 ∨ op = 16 ∨ op = 17 then 1 else 0
def afterI (o : Op3) (d : Int) : Int :=
  if o.op = 24 then 2 + o.m else if o.op = 18 then o.n else if o.op = 23 ∨ o.op = 28 then o.n + 1 else d - takenI o.op + pushedI o.op
def findsB (o : Op3) (d : Int) : Bool :=
  if o.op = 2 ∨ o.op = 3 then inI o.n 2 (d - 1) else if o.op = 4 then decide (2 ≤ o.n) else if o.op = 23 then inI o.n 2 (d - 3)
  else decide (takenI o.op = 0) || decide (2 ≤ d - takenI o.op)
/-- The label that an instruction names. -/
def labO (o : Op3) : Option Int :=
  if o.op = 20 ∨ o.op = 21 ∨ o.op = 22 ∨ o.op = 27 ∨ o.op = 29 then some o.n else if o.op = 30 then some o.m else none
def followB (op : Int) : Bool := decide (op = 18 ∨ op = 28 ∨ op = 19)
def countI (l : List Op3) (op : Int) : Int := l.foldl (fun n o => if o.op = op then n + 1 else n) 0
def greatI (l : List Op3) (op : Int) : Int := l.foldl (fun n o => if o.op = op then max n o.n else n) 0
def wordsI (l : List Dt) : Int := l.foldl (fun n d => n + (if d.b then ((d.t.size : Int) + 2) / 2 else (d.ws.length : Int))) 0
def limB (c : Cod) : Bool :=
  decide (c.ops.length ≤ 40000) && decide (c.data.length ≤ 2000) && decide (max c.procs (countI c.ops 24) ≤ 200) && decide (max c.labels (countI c.ops 19) ≤ 20000) && decide (wordsI c.data ≤ 7800)
noncomputable def qtb (s : ByteArray) : Bool := decide ((quo s).e = 0)
noncomputable def areaB (d : Dt) : Bool := if d.b then qtb d.t && decide (d.ws.length = 0) else decide (d.t.size = 0) && decide (0 < d.ws.length) && !d.ws.any beyond
noncomputable def areasB (l : List Dt) : Bool := l.all areaB
/-- A loop that may leave. -/
def runS {σ α : Type} (f : σ → α → Option σ) : σ → List α → Option σ
  | s, [] => some s
  | s, x :: r => match f s x with
    | none => none
    | some s' => runS f s' r
def upd {α : Type} (h : Nat → α) (i : Nat) (v : α) : Nat → α := fun j => if j = i then v else h j
def entF (procs : Int) (tk : Nat → Bool) (e : En2) : Option (Nat → Bool) :=
  if inI e.g 1 199 = true ∧ tk e.g.toNat = false ∧ inI e.p 1 procs = true then some (upd tk e.g.toNat true) else none
def entB (c : Cod) : Bool := (runS (entF c.procs) (fun _ => false) c.gl).isSome
def insB (nd : Nat) (procs labels : Int) (o : Op3) : Bool := !beyond o.n && !beyond o.m && firstB o nd procs labels && secondB o labels
def instrB (c : Cod) : Bool := decide (c.procs = greatI c.ops 24) && decide (c.labels = greatI c.ops 19) && c.ops.all (insB c.data.length c.procs c.labels)
def casF (left : Int) (o : Op3) : Option Int := if decide (o.op = 30) = decide (0 < left) then some (if o.op = 29 then o.m else if o.op = 30 then left - 1 else left) else none
def casB (l : List Op3) : Bool := decide (runS casF 0 l = some 0)
def prF (s : Int × Bool) (o : Op3) : Option (Int × Bool) :=
  if o.op = 24 then (if o.n = s.1 + 1 ∧ s.2 = false then some (s.1 + 1, true) else none) else if s.1 = 0 then none else some (s.1, goOn o.op)
def procB (l : List Op3) : Bool := match runS prF (0, false) l with
  | some (_, false) => true
  | _ => false
/-- Where labels are; and the last procedure. -/
def homeL : (Nat → Int) → Int → List Op3 → Option ((Nat → Int) × Int)
  | h, p, [] => some (h, p)
  | h, p, o :: r =>
    if o.op = 24 then homeL h o.n r
    else if o.op = 19 then (if h o.n.toNat = 0 ∧ (match r with | [] => false | q :: _ => followB q.op) = true then homeL (upd h o.n.toNat p) p r else none)
    else homeL h p r
def hmF (h : Nat → Int) (p : Int) (o : Op3) : Option Int :=
  let p' := if o.op = 24 then o.n else p
  match labO o with
  | none => some p'
  | some x => if h x.toNat = p' then some p' else none
def labB (c : Cod) : Bool := match homeL (fun _ => 0) 0 c.ops with
  | none => false
  | some (h, p) => (runS (hmF h) p c.ops).isSome
def dpF (s : Int × Bool) (o : Op3) : Option (Int × Bool) :=
  let d := if o.op = 24 then 0 else s.1
  if findsB o d = true ∧ ¬ (o.op = 18 ∧ s.2 = false ∧ d + 2002 < o.n) ∧ inI (afterI o d) 2 4000 = true then some (afterI o d, decide (o.op = 19)) else none
/-- The depths before instructions. -/
def depL : Int → List Op3 → List Int
  | _, [] => []
  | d, o :: r => (if o.op = 24 then 0 else d) :: depL (afterI o (if o.op = 24 then 0 else d)) r
def depB (l : List Op3) : Bool := (runS dpF (0, false) l).isSome
def ltF (o : Op3) (s : (Nat → Bool) × Bool) : (Nat → Bool) × Bool := if o.op = 19 then (upd s.1 o.n.toNat s.2, s.2) else (s.1, decide (o.op = 28))
def takesL (l : List Op3) : Nat → Bool := (l.foldr ltF (fun _ => false, false)).1
def tkF (tk : Nat → Bool) (on : Bool) (o : Op3) : Option Bool :=
  if on = true ∧ o.op = 28 then none
  else if (match labO o with | none => true | some x => tk x.toNat == decide (o.op = 27)) = true then some (if o.op = 19 then on else goOn o.op) else none
def takeB (l : List Op3) : Bool := (runS (tkF (takesL l)) false l).isSome
/-- The error of code. -/
noncomputable def exE (c : Cod) : Nat :=
  if limB c = false then 2
  else if (qtb c.name && areasB c.data && entB c && instrB c) = false then 60
  else if (casB c.ops && procB c.ops && labB c) = false then 60
  else if (depB c.ops && takeB c.ops) = false then 61
  else 0
theorem runS_drop {σ α : Type} (f : σ → α → Option σ) {l : List α} {k : Nat} {x : α} (s : σ) (h : l[k]? = some x) : runS f s (l.drop k) = match f s x with
    | none => none
    | some s' => runS f s' (l.drop (k + 1)) := by
  obtain ⟨hk, rfl⟩ := List.getElem?_eq_some_iff.1 h
  rw [List.drop_eq_getElem_cons hk, runS]
theorem fold_drop {σ α : Type} (f : σ → α → σ) {l : List α} {k : Nat} {x : α} (s : σ) (h : l[k]? = some x) : (l.drop k).foldl f s = (l.drop (k + 1)).foldl f (f s x) := by
  obtain ⟨hk, rfl⟩ := List.getElem?_eq_some_iff.1 h
  rw [List.drop_eq_getElem_cons hk, List.foldl_cons]
theorem all_drop {α : Type} (p : α → Bool) {l : List α} {k : Nat} {x : α} (h : l[k]? = some x) : (l.drop k).all p = (p x && (l.drop (k + 1)).all p) := by
  obtain ⟨hk, rfl⟩ := List.getElem?_eq_some_iff.1 h
  rw [List.drop_eq_getElem_cons hk, List.all_cons]
end Go.Proofs.YtdnckbcknahakaaGreat
