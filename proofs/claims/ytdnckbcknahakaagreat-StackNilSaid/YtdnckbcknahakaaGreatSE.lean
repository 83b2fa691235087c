/- The machine of a small code: all its blocks in one; what its parts do. -/
import Derived.Test.YtdnckbcknahakaaGreatSD
namespace Go.Proofs.YtdnckbcknahakaaGreat
open Go.RowKit
set_option linter.unusedVariables false
set_option linter.unusedSimpArgs false

structure Lay where
  pb : Nat
  qb : Nat
  eb : Nat
  op : Nat
  oc : Nat
  rb : Nat
  gb : Nat
  b : Nat
  mb : Nat
  cb : Nat
  bg : Nat
  rc : Nat
  fq : Nat → Value
  arv : Value
  pav : Value
  rt : Value
def Kd (L : Lay) (k : Nat) : Prop := k = L.b ∨ k = L.mb ∨ k = L.cb ∨ k = L.bg
structure LayOk (L : Lay) : Prop where
  b1 : L.b ≠ L.mb
  b2 : L.b ≠ L.cb
  b3 : L.b ≠ L.bg
  b4 : L.mb ≠ L.cb
  b5 : L.mb ≠ L.bg
  b6 : L.cb ≠ L.bg
  p : ¬ Kd L L.pb
  q : ¬ Kd L L.qb
  e : ¬ Kd L L.eb
  o : ¬ Kd L L.op
  r : ¬ Kd L L.rb
  g : ¬ Kd L L.gb
  rc : 2 ≤ L.rc
  fq : L.fq 1 = .int .i64 6
def opsC : Array Value := #[.int .i64 24, .int .i64 1, .int .i64 0, .int .i64 18, .int .i64 4, .int .i64 0, .int .i64 1, .int .i64 65, .int .i64 0, .int .i64 5, .int .i64 3, .int .i64 0, .int .i64 23, .int .i64 2, .int .i64 0, .int .i64 18, .int .i64 2, .int .i64 0, .int .i64 26, .int .i64 0, .int .i64 0]
def gv2 (n : Int) (k : Nat) : List Value := [.int .i64 n, .func (.func k) #[] #[]]
def givC : Array Value := (gv2 0 53 ++ gv2 1 54 ++ gv2 1 55 ++ gv2 1 56 ++ gv2 1 57 ++ gv2 3 58 ++ gv2 2 59 ++ gv2 2 60 ++ gv2 1 61 ++ gv2 1 62).toArray
def zi (n : Nat) (i : Nat) : Value := if i < n then .int .i64 0 else .int .i64 0
/-- The instructions' block: it may have more room than they take. -/
def OpR (w : World) (b : Nat) : Prop := ∃ C : Array Value, Blk w b 60 C ∧ ∀ (i : Nat) (v : Value), opsC[i]? = some v → C[i]? = some v
theorem OpR.lt {w : World} {b : Nat} (h : OpR w b) : b < w.heap.size := by obtain ⟨C, h1, _⟩ := h; exact h1.lt
theorem OpR.cell {w : World} {b i : Nat} {v : Value} (h : OpR w b) (hi : opsC[i]? = some v) : w.cell? ⟨b, i, none⟩ = some v := by obtain ⟨C, h1, h2⟩ := h; exact h1.cell (h2 i v hi)
theorem OpR.fr {w w' : World} {b : Nat} (h : OpR w b) (x : Fr w w') : OpR w' b := by obtain ⟨C, h1, h2⟩ := h; exact ⟨C, h1.fr x, h2⟩
theorem OpR.ex {X : Nat → Prop} {w w' : World} {b : Nat} (h : OpR w b) (x : Ex X w w') (hb : ¬ X b) : OpR w' b := by obtain ⟨C, h1, h2⟩ := h; exact ⟨C, h1.ex x hb, h2⟩
/-- What no step writes to. -/
structure Sta (w : World) (L : Lay) : Prop where
  p : Blk w L.pb 92 #[.int .i64 16, .bool false, L.arv, .slice (some ⟨L.op, 0, none⟩) 7 L.oc, L.pav, .slice (some ⟨L.eb, 0, none⟩) 2 2, .slice (some ⟨L.qb, 0, none⟩) 2 L.rc]
  q : Arr w L.qb 3 L.rc L.fq
  e : Blk w L.eb 3 #[.int .i64 0, .int .i64 0]
  o : OpR w L.op
  r : Blk w L.rb 98 #[.int .i64 0, .int .i64 8000, .int .i64 15999, .int .i64 0, .bool false, .int .i64 0, .int .i64 0, .int .i64 0, .pointer none]
  g : Blk w L.gb 124 givC
theorem Sta.ex {w w' : World} {L : Lay} (h : Sta w L) (k : LayOk L) (x : Ex (Kd L) w w') : Sta w' L :=
  ⟨h.p.ex x k.p, h.q.ex x k.q, h.e.ex x k.e, h.o.ex x k.o, h.r.ex x k.r, h.g.ex x k.g⟩
theorem Sta.fr {w w' : World} {L : Lay} (h : Sta w L) (x : Fr w w') : Sta w' L :=
  ⟨h.p.fr x, h.q.fr x, h.e.fr x, h.o.fr x, h.r.fr x, h.g.fr x⟩
def mkS (L : Lay) (fr dp pl : Int) (oa ob : Value) (st : Int) (en : Bool) : Sm :=
  ⟨L.pb, fr, dp, pl, L.mb, 16000, .slice (some ⟨L.gb, 0, none⟩) 10 10, L.rb, L.rt, 0, ⟨#[]⟩, oa, ob, st, en, ⟨#[]⟩, 0, 0, 0, 0, .slice (some ⟨L.bg, 0, none⟩) 7 7, .slice (some ⟨L.cb, 0, none⟩) 1 1⟩
structure Dyn (w : World) (L : Lay) (s : Sm) (f fc fb : Nat → Value) : Prop where
  m : MaR w L.b s
  f : Arr w L.mb 88 32000 f
  c : Arr w L.cb 4 1 fc
  g : Arr w L.bg 3 7 fb
theorem Dyn.fr {w w' : World} {L : Lay} {s : Sm} {f fc fb : Nat → Value} (h : Dyn w L s f fc fb) (x : Fr w w') : Dyn w' L s f fc fb := ⟨h.m.fr x, h.f.fr x, h.c.fr x, h.g.fr x⟩
theorem Dyn.kb {w w' : World} {L : Lay} {s s' : Sm} {f f' fc fb : Nat → Value} (h : Dyn w L s f fc fb) (k : LayOk L) (hm : MaR w' L.b s') (hf : Arr w' L.mb 88 32000 f') (x : Ex (Kb L.b L.mb) w w') : Dyn w' L s' f' fc fb ∧ Ex (Kd L) w w' :=
  ⟨⟨hm, hf, h.c.ex x (fun e => e.elim (fun e => k.b2 e.symm) (fun e => k.b4 e.symm)), h.g.ex x (fun e => e.elim (fun e => k.b3 e.symm) (fun e => k.b5 e.symm))⟩, x.mono (fun i hi => hi.elim Or.inl (fun e => Or.inr (Or.inl e)))⟩
def RetD (L : Lay) (s : Sm) (f fc fb : Nat → Value) (v : Value) (w : World) (e : Ending) (w' : World) : Prop := e = .returned v ∧ Dyn w' L s f fc fb ∧ Ex (Kd L) w w'
theorem push_d (L : Lay) (F D : Nat) (pl : Int) (oa ob : Value) (st : Int) (en : Bool) (f fc fb : Nat → Value) (v : Int) (w : World) (k : LayOk L) (h : Dyn w L (mkS L (F : Int) (D : Int) pl oa ob st en) f fc fb) (a : Nat) (ha : F + D = a) (hl : a < 32000) :
    Calls Tryz.prog 95 #[.pointer (some ⟨L.b, 0, none⟩), .int .i64 v] w (RetD L (mkS L (F : Int) ((D : Int) + 1) pl oa ob st en) (upd f a (.int .i64 v)) fc fb (.int .i64 0) w) :=
  (push_any _ L.b F D f v w h.m h.f k.b1 rfl rfl a ha hl).mono fun _ _ ⟨he, hm, hf, hx⟩ => ⟨he, h.kb k hm hf hx⟩
theorem give_d (L : Lay) (F D : Nat) (pl : Int) (oa ob : Value) (st : Int) (en : Bool) (f fc fb : Nat → Value) (v : Int) (w : World) (k : LayOk L) (h : Dyn w L (mkS L (F : Int) (D : Int) pl oa ob st en) f fc fb) (a : Nat) (ha : F + D = a + 1) (hl : a < 32000) :
    Calls Tryz.prog 82 #[.pointer (some ⟨L.b, 0, none⟩), .int .i64 v] w (RetD L (mkS L (F : Int) (D : Int) pl oa ob st en) (upd f a (.int .i64 v)) fc fb (.int .i64 0) w) :=
  (give_any _ L.b F D f v w h.m h.f k.b1 rfl rfl a ha hl).mono fun _ _ ⟨he, hm, hf, hx⟩ => ⟨he, h.kb k hm hf hx⟩
theorem pop_d (L : Lay) (F D : Nat) (pl : Int) (oa ob : Value) (st : Int) (en : Bool) (f fc fb : Nat → Value) (w : World) (k : LayOk L) (h : Dyn w L (mkS L (F : Int) ((D : Int) + 1) pl oa ob st en) f fc fb) (a : Nat) (ha : F + D = a) (hl : a < 32000) :
    Calls Tryz.prog 124 #[.pointer (some ⟨L.b, 0, none⟩)] w (RetD L (mkS L (F : Int) (D : Int) pl oa ob st en) f fc fb (.tuple #[f a, .int .i64 0]) w) :=
  (pop_any _ L.b F D f w h.m h.f k.b1 rfl rfl a ha hl).mono fun _ _ ⟨he, hm, hf, hx⟩ => ⟨he, h.kb k hm hf hx⟩
set_option maxRecDepth 100000 in
set_option maxHeartbeats 2000000 in
theorem pushFrom_d (L : Lay) (F D : Nat) (pl : Int) (oa ob : Value) (st : Int) (en : Bool) (f fc fb : Nat → Value) (c : Nat) (v : Int) (w : World) (k : LayOk L) (h : Dyn w L (mkS L (F : Int) (D : Int) pl oa ob st en) f fc fb) (hc : c < 32000) (hv : f c = .int .i64 v) (a : Nat) (ha : F + D = a) (hl : a < 32000) :
    Calls Tryz.prog 96 #[.pointer (some ⟨L.b, 0, none⟩), .int .i64 (c : Int)] w (RetD L (mkS L (F : Int) ((D : Int) + 1) pl oa ob st en) (upd f a (.int .i64 v)) fc fb (.int .i64 0) w) := by
  have CL := Lib.hid (mload_any L.mb c f w h.f hc)
  rw [hv] at CL
  have CP := Lib.hid (push_d L F D pl oa ob st en f fc fb v w k h a ha hl)
  obtain ⟨k0, k1, k2, k3, k4, k5, k6, k7⟩ := h.m.cells
  simp only [mkS] at k0 k1 k2 k3 k4 k5 k6 k7
  clear h hv
  go_enter Tryz.func96, Tryz.ntmps96
  go_wp2_with fail
  refine (CL.out).mono ?_
  rintro e w1 ⟨rfl, rfl⟩
  go_wp2_with fail
  refine (CP.out).mono ?_
  rintro e w2 ⟨rfl, hd, hx⟩
  have HD := Lib.hid hd
  have HX := Lib.hid hx
  clear hd hx
  go_wp2_with fail
  go_ret
  exact ⟨rfl, HD.out, HX.out⟩
end Go.Proofs.YtdnckbcknahakaaGreat
