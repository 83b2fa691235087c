/- The small code's program made. -/
import Derived.Test.YtdnckbcknahakaaGreatSV
import Derived.Test.YtdnckbcknahakaaGreatIV
import Derived.Test.YtdnckbcknahakaaGreatSQ
import Derived.Test.YtdnckbcknahakaaGreatFN
import Derived.Test.YtdnckbcknahakaaGreatSN9
namespace Go.Proofs.YtdnckbcknahakaaGreat
open Go.RowKit
set_option linter.unusedVariables false
set_option linter.unusedSimpArgs false

theorem rm_8 {w : World} {ib gb : Nat} (h : C8 w ib gb) : Calls Tryz.prog 37 #[cv8 ib gb] w fun e w' => ∃ g, e = .returned (.tuple #[.slice (some ⟨g, 0, none⟩) 1 1, .int .i64 0]) ∧ w'.cell? ⟨g, 0, none⟩ = some (.int .i64 6) ∧ Fr w w' := by
  refine (Room_any cod8 _ _ _ w h.cod wf8 (by decide) (fun x hx => by cases hx)).mono ?_
  rintro e w' ⟨hq, hf⟩
  obtain ⟨g, rfl, hg, hrow⟩ := hq.1 ex8
  have h1 := hrow.cell (show 0 < cod8.procs.toNat by decide)
  simp only [rm8] at h1
  exact ⟨g, rfl, h1, hf⟩
theorem cl_8 {w : World} {ib gb : Nat} (h : C8 w ib gb) : Calls Tryz.prog 38 #[.slice (some ⟨ib, 0, none⟩) 7 7] w fun e w' => ∃ op oc, e = .returned (.slice (some ⟨op, 0, none⟩) 7 oc) ∧ w.heap.size ≤ op ∧ OpR w' op ∧ Fr w w' := by
  refine (clO_any cod8.ops _ w h.cod.o (by decide)).mono ?_
  rintro e w' ⟨v', rfl, ho, hf⟩
  rcases ho.2 with ⟨_, h0⟩ | ⟨g, cap, cur, rfl, hb, hg, hn, _, hsz, ht⟩
  · exact absurd h0 (by decide)
  · refine ⟨g, cap, rfl, hb, ⟨cur, hg, fun i v hi => ?_⟩, hf⟩
    have hlt : i < 21 := by
      have := (Array.getElem?_eq_some_iff.1 hi).1
      exact this
    have h2 : (cur.toList.take (cod8.ops.length * 3))[i]? = some v := by
      have hr : rowN (clO_cs cod8.ops) cod8.ops.length = opsC.toList := by kernel_rfl
      rw [ht, hr, Array.getElem?_toList]
      exact hi
    rw [List.getElem?_take] at h2
    have h3 : i < cod8.ops.length * 3 := hlt
    rw [if_pos h3] at h2
    simpa using h2
/-- What a program is made of. -/
structure PtP (w0 w : World) (op pa eb qb rc : Nat) (fq : Nat → Value) : Prop where
  o : OpR w op
  a : Blk w pa 3 (madeCells #[.int .i64 0] 7)
  e : Blk w eb 3 (madeCells #[.int .i64 0] 2)
  q : Arr w qb 3 rc fq
  rc : 2 ≤ rc
  fq : fq 1 = .int .i64 6
  lo : w0.heap.size ≤ op ∧ w0.heap.size ≤ pa ∧ w0.heap.size ≤ eb ∧ w0.heap.size ≤ qb
theorem PtP.fr {w0 w w' : World} {op pa eb qb rc : Nat} {fq : Nat → Value} (h : PtP w0 w op pa eb qb rc fq) (k : Fr w w') : PtP w0 w' op pa eb qb rc fq := ⟨h.o.fr k, h.a.fr k, h.e.fr k, h.q.fr k, h.rc, h.fq, h.lo⟩
def pgC (ab op oc pa eb qb rc : Nat) : Array Value := #[.int .i64 16, .bool false, .slice (some ⟨ab, 0, none⟩) 0 0, .slice (some ⟨op, 0, none⟩) 7 oc, .slice (some ⟨pa, 0, none⟩) 7 7, .slice (some ⟨eb, 0, none⟩) 2 2, .slice (some ⟨qb, 0, none⟩) 2 rc]
def PR (w0 : World) (hs ab ib gb g : Nat) : Nat → Value → World → Prop
  | 0, v, _ => v = (.agg #[.int .i64 16, .bool false])
  | 1, v, _ => v = .slice (some ⟨ab, 0, none⟩) 0 0
  | 2, v, _ => v = .pointer (some ⟨hs, 2, none⟩)
  | 3, v, _ => v = .slice (some ⟨ib, 0, none⟩) 7 7
  | 4, v, w => ∃ op oc, w0.heap.size ≤ op ∧ OpR w op ∧ v = .slice (some ⟨op, 0, none⟩) 7 oc
  | 5, v, _ => v = .pointer (some ⟨hs, 2, none⟩)
  | 6, v, _ => v = .slice (some ⟨ib, 0, none⟩) 7 7
  | 7, v, _ => v = .int .i64 7
  | 8, v, w => ∃ pa, w0.heap.size ≤ pa ∧ Blk w pa 3 (madeCells #[.int .i64 0] 7) ∧ v = .slice (some ⟨pa, 0, none⟩) 7 7
  | 9, v, _ => v = .pointer (some ⟨hs, 4, none⟩)
  | 10, v, _ => v = .int .i64 1
  | 11, v, _ => v = .int .i64 2
  | 12, v, w => ∃ eb, w0.heap.size ≤ eb ∧ Blk w eb 3 (madeCells #[.int .i64 0] 2) ∧ v = .slice (some ⟨eb, 0, none⟩) 2 2
  | 13, v, _ => v = .slice (some ⟨g, 0, none⟩) 1 1
  | 14, v, w => ∃ vb, w0.heap.size ≤ vb ∧ w.cell? ⟨vb, 0, none⟩ = some (.int .i64 0) ∧ v = .slice (some ⟨vb, 0, none⟩) 1 1
  | 15, v, w => ∃ qb rc fq, w0.heap.size ≤ qb ∧ (2 ≤ rc ∧ Arr w qb 3 rc fq ∧ fq 1 = .int .i64 6) ∧ v = .slice (some ⟨qb, 0, none⟩) 2 rc
  | 16, v, w => ∃ op oc pa eb qb rc fq, PtP w0 w op pa eb qb rc fq ∧ v = .agg (pgC ab op oc pa eb qb rc)
  | _, v, w => ∃ pb op oc pa eb qb rc fq, w0.heap.size ≤ pb ∧ PtP w0 w op pa eb qb rc fq ∧ Blk w pb 92 (pgC ab op oc pa eb qb rc) ∧ v = .pointer (some ⟨pb, 0, none⟩)
theorem PR.fr {w0 : World} {hs ab ib gb g : Nat} (i : Nat) (v : Value) (w w' : World) (h : PR w0 hs ab ib gb g i v w) (k : Fr w w') : PR w0 hs ab ib gb g i v w' := by
  unfold PR at h ⊢
  split at h <;> first
    | exact h
    | (obtain ⟨b, h1, h2, h3⟩ := h; exact ⟨b, h1, Blk.fr h2 k, h3⟩)
    | (obtain ⟨b, h1, h2, h3⟩ := h; exact ⟨b, h1, k.cell h2, h3⟩)
    | (obtain ⟨b, c, h1, h2, h3⟩ := h; exact ⟨b, c, h1, h2.fr k, h3⟩)
    | (obtain ⟨b, c, d, h1, h2, h3⟩ := h; exact ⟨b, c, d, h1, ⟨h2.1, h2.2.1.fr k, h2.2.2⟩, h3⟩)
    | (obtain ⟨a1, a2, a3, a4, a5, a6, a7, h1, h2⟩ := h; exact ⟨a1, a2, a3, a4, a5, a6, a7, h1.fr k, h2⟩)
    | (obtain ⟨a0, a1, a2, a3, a4, a5, a6, a7, h1, h2, h3, h4⟩ := h; exact ⟨a0, a1, a2, a3, a4, a5, a6, a7, h1, h2.fr k, Blk.fr h3 k, h4⟩)
def pslot (i : Nat) : Nat := if i < 18 then 33 + i else 11
/-- The program while it is made. -/
structure PgS (w wr : World) (ab pb op oc pa eb qb rc ib gb : Nat) (fq : Nat → Value) : Prop where
  fr : Fr w wr
  p : Blk wr pb 92 (pgC ab op oc pa eb qb rc)
  o : OpR wr op
  a : ∃ f, Arr wr pa 3 7 f
  e : Blk wr eb 3 #[.int .i64 0, .int .i64 0]
  q : Arr wr qb 3 rc fq
  c : Blk wr w.heap.size 43 #[.string ⟨#[]⟩, .slice none 0 0, .slice (some ⟨ib, 0, none⟩) 7 7, .slice (some ⟨gb, 0, none⟩) 1 1, .int .i64 1, .int .i64 0]
  lo : w.heap.size ≤ pb ∧ w.heap.size ≤ op ∧ w.heap.size ≤ pa ∧ w.heap.size ≤ eb ∧ w.heap.size ≤ qb
  c8 : C8 wr ib gb
theorem PgS.alloc {w wr w' : World} {ab pb op oc pa eb qb rc ib gb : Nat} {fq : Nat → Value} (h : PgS w wr ab pb op oc pa eb qb rc ib gb fq) (k : Fr wr w') : PgS w w' ab pb op oc pa eb qb rc ib gb fq :=
  ⟨h.fr.trans k, h.p.fr k, h.o.fr k, (by obtain ⟨f, hf⟩ := h.a; exact ⟨f, hf.fr k⟩), h.e.fr k, h.q.fr k, h.c.fr k, h.lo, h.c8.fr k⟩
theorem OpR.far {w : World} {b : Nat} (h : OpR w b) {p : Addr} (hp : b ≠ p.block) (v : Value) : OpR (w.setCell p v) b := by
  obtain ⟨C, h1, h2⟩ := h
  exact ⟨C, h1.far hp v, h2⟩
/-- The blocks of the program are apart. -/
structure PgN (w0 : Nat) (pb op pa eb qb ib gb : Nat) : Prop where
  a : pa ≠ pb ∧ pa ≠ op ∧ pa ≠ eb ∧ pa ≠ qb
  e : eb ≠ pb ∧ eb ≠ op ∧ eb ≠ qb
  o : op ≠ pb ∧ op ≠ qb
  lo : w0 ≤ pa ∧ w0 ≤ eb ∧ w0 ≤ op
  hi : ib < w0 ∧ gb < w0
theorem PgS.setA {w wr : World} {ab pb op oc pa eb qb rc ib gb : Nat} {fq : Nat → Value} (h : PgS w wr ab pb op oc pa eb qb rc ib gb fq) (n : PgN w.heap.size pb op pa eb qb ib gb) (hc : pa ≠ w.heap.size) (i : Nat) (hi : i < 7) (v : Value) : PgS w (wr.setCell ⟨pa, i, none⟩ v) ab pb op oc pa eb qb rc ib gb fq :=
  ⟨h.fr.setCell n.lo.1 v, h.p.far n.a.1.symm v, h.o.far n.a.2.1.symm v, (by obtain ⟨f, hf⟩ := h.a; exact ⟨_, hf.set hi v⟩), h.e.far n.a.2.2.1.symm v, h.q.far n.a.2.2.2.symm v, h.c.far hc.symm v, h.lo,
    ⟨h.c8.o.far (by have := n.hi.1; have := n.lo.1; show ib ≠ pa; omega) v, h.c8.g.far (by have := n.hi.2; have := n.lo.1; show gb ≠ pa; omega) v⟩⟩
theorem PgS.setE {w wr : World} {ab pb op oc pa eb qb rc ib gb : Nat} {fq : Nat → Value} (h : PgS w wr ab pb op oc pa eb qb rc ib gb fq) (n : PgN w.heap.size pb op pa eb qb ib gb) (hc : eb ≠ w.heap.size) : PgS w (wr.setCell ⟨eb, 1, none⟩ (.int .i64 0)) ab pb op oc pa eb qb rc ib gb fq :=
  ⟨h.fr.setCell n.lo.2.1 _, h.p.far n.e.1.symm _, h.o.far n.e.2.1.symm _, (by obtain ⟨f, hf⟩ := h.a; exact ⟨_, hf.far n.a.2.2.1 _⟩), h.e.set 1 _ rfl, h.q.far n.e.2.2.symm _, h.c.far hc.symm _, h.lo,
    ⟨h.c8.o.far (by have := n.hi.1; have := n.lo.2.1; show ib ≠ eb; omega) _, h.c8.g.far (by have := n.hi.2; have := n.lo.2.1; show gb ≠ eb; omega) _⟩⟩
theorem OpR.free {w : World} {b : Nat} (h : OpR w b) (i : Nat) : w.frozen? ⟨b, i, none⟩ = false := by
  obtain ⟨C, h1, h2⟩ := h
  exact h1.free i
theorem OpR.set {w : World} {b : Nat} (h : OpR w b) (i : Nat) (v : Value) (hv : opsC[i]? = some v) : OpR (w.setCell ⟨b, i, none⟩ v) b := by
  obtain ⟨C, h1, h2⟩ := h
  refine ⟨C.setIfInBounds i v, h1.set i v rfl, fun k u hk => ?_⟩
  by_cases e : i = k
  · subst e
    rw [hv] at hk
    obtain rfl := Option.some.inj hk
    have hlt : i < C.size := (Array.getElem?_eq_some_iff.1 (h2 i v hv)).1
    simp [hlt]
  · rw [Array.getElem?_setIfInBounds_ne e]
    exact h2 k u hk
theorem PgS.setO {w wr : World} {ab pb op oc pa eb qb rc ib gb : Nat} {fq : Nat → Value} (h : PgS w wr ab pb op oc pa eb qb rc ib gb fq) (n : PgN w.heap.size pb op pa eb qb ib gb) (hc : op ≠ w.heap.size) (i : Nat) (v : Value) (hv : opsC[i]? = some v) : PgS w (wr.setCell ⟨op, i, none⟩ v) ab pb op oc pa eb qb rc ib gb fq :=
  ⟨h.fr.setCell n.lo.2.2 _, h.p.far n.o.1.symm _, h.o.set i v hv, (by obtain ⟨f, hf⟩ := h.a; exact ⟨_, hf.far n.a.2.1 _⟩), h.e.far n.e.2.1 _, h.q.far n.o.2.symm _, h.c.far hc.symm _, h.lo,
    ⟨h.c8.o.far (by have := n.hi.1; have := n.lo.2.2; show ib ≠ op; omega) _, h.c8.g.far (by have := n.hi.2; have := n.lo.2.2; show gb ≠ op; omega) _⟩⟩
set_option maxRecDepth 100000 in
set_option maxHeartbeats 40000000 in
theorem newP_any (ib gb : Nat) (w : World) (h : C8 w ib gb) : Calls Tryz.prog 29 #[cv8 ib gb, (.agg #[.int .i64 16, .bool false])] w fun e w' => ∃ ab pb op oc pa eb qb rc fq, e = .returned (.tuple #[.pointer (some ⟨pb, 0, none⟩), .int .i64 0]) ∧ Fr w w' ∧ Blk w' pb 92 (pgC ab op oc pa eb qb rc) ∧ OpR w' op ∧ Blk w' eb 3 #[.int .i64 0, .int .i64 0] ∧ Arr w' qb 3 rc fq ∧ 2 ≤ rc ∧ fq 1 = .int .i64 6 ∧ w.heap.size ≤ pb ∧ w.heap.size ≤ op ∧ w.heap.size ≤ eb ∧ w.heap.size ≤ qb := by
  have HC := Lib.hid h
  have CL := Lib.hid (fun W (x : Fr w W) => Layout_8 ib gb W (h.fr x))
  have CR := Lib.hid (fun W (x : Fr w W) => rm_8 (h.fr x))
  have HM7 : Hid (∀ W, (Instr.makeSlice 22 (.int .i64 7) (.int .i64 7)).run Tryz.prog W = .ok (.slice (some ⟨W.heap.size, 0, none⟩) 7 7) (W.alloc (.cells (madeCells #[.int .i64 0] 7) 3))) := by
    apply Lib.hid
    intro W
    have h := run_makeSlice (P := Tryz.prog) W 22 3 _ _ rfl rfl rfl .i64 .i64 7 7 (by decide) (by decide)
    refine (h ?_ ?_ ?_).trans rfl <;> decide
  have HM2 : Hid (∀ W, (Instr.makeSlice 22 (.int .i64 2) (.int .i64 2)).run Tryz.prog W = .ok (.slice (some ⟨W.heap.size, 0, none⟩) 2 2) (W.alloc (.cells (madeCells #[.int .i64 0] 2) 3))) := by
    apply Lib.hid
    intro W
    have h := run_makeSlice (P := Tryz.prog) W 22 3 _ _ rfl rfl rfl .i64 .i64 2 2 (by decide) (by decide)
    refine (h ?_ ?_ ?_).trans rfl <;> decide
  clear h
  unfold cv8 at CL CR ⊢
  go_enter Tryz.func29, Tryz.ntmps29
  go_wp2_with (first
    | (go_at_call 36; refine (CL.out _ (((Fr.refl w).alloc _).alloc _)).mono ?_; rintro e wa ⟨ab, rfl, hfa⟩; have HFA : Hid (Fr w wa) := Lib.hid ((((Fr.refl w).alloc _).alloc _).trans hfa); have HAC : Hid (Blk wa w.heap.size 43 #[.string ⟨#[]⟩, .slice none 0 0, .slice (some ⟨ib, 0, none⟩) 7 7, .slice (some ⟨gb, 0, none⟩) 1 1, .int .i64 1, .int .i64 0]) := Lib.hid (Blk.fr (Blk.fr (Blk.new w _ _) ((Fr.refl _).alloc _)) hfa); have HAF : Hid (Blk wa (w.heap.size + 1) 45 #[.int .i64 16, .bool false]) := Lib.hid (Blk.fr (Blk.at_ (by simp)) hfa); clear hfa; have c0 : wa.cell? ⟨w.heap.size, 0, none⟩ = some (.string ⟨#[]⟩) := HAC.out.cell rfl; have c1 : wa.cell? ⟨w.heap.size, 1, none⟩ = some (.slice none 0 0) := HAC.out.cell rfl; have c2 : wa.cell? ⟨w.heap.size, 2, none⟩ = some (.slice (some ⟨ib, 0, none⟩) 7 7) := HAC.out.cell rfl; have c3 : wa.cell? ⟨w.heap.size, 3, none⟩ = some (.slice (some ⟨gb, 0, none⟩) 1 1) := HAC.out.cell rfl; have c4 : wa.cell? ⟨w.heap.size, 4, none⟩ = some (.int .i64 1) := HAC.out.cell rfl; have c5 : wa.cell? ⟨w.heap.size, 5, none⟩ = some (.int .i64 0) := HAC.out.cell rfl; skip)
    | (go_at_call 37; refine (CR.out _ HFA.out).mono ?_; rintro e wb ⟨g, rfl, hg, hfb⟩; have HFB : Hid (Fr w wb) := Lib.hid (HFA.out.trans hfb); have HBC : Hid (Blk wb w.heap.size 43 #[.string ⟨#[]⟩, .slice none 0 0, .slice (some ⟨ib, 0, none⟩) 7 7, .slice (some ⟨gb, 0, none⟩) 1 1, .int .i64 1, .int .i64 0]) := Lib.hid (HAC.out.fr hfb); have HBF : Hid (Blk wb (w.heap.size + 1) 45 #[.int .i64 16, .bool false]) := Lib.hid (HAF.out.fr hfb); have HGC := Lib.hid hg; clear hg hfb c0 c1 c2 c3 c4 c5)
    | fail)
  have hq0 : Fr wb wb.drew := (Fr.refl wb).drew
  refine wp_region_any (by kernel_rfl) ?_
  change wpAny _ _ _ _ _ _ _ (World.drew _)
  refine wpAny_vals pslot (PR w w.heap.size ab ib gb g) _ _ (fun i hi => ?_) (fun i j hi hj h => ?_) PR.fr (before_of (by kernel_rfl)) ?_ ?_
  · have : i < 19 := hi
    show pslot i < 113
    unfold pslot
    split <;> omega
  · have h1 : i < 19 := hi
    have h2 : j < 19 := hj
    unfold pslot at h
    split at h <;> split at h <;> omega
  · intro i hi a w1 hk hf hd
    have hi1 : i < 19 := hi
    have hfa := hq0.trans hf
    have d2 : w1.cell? ⟨w.heap.size, 2, none⟩ = some (.slice (some ⟨ib, 0, none⟩) 7 7) := (HBC.out.fr hfa).cell rfl
    have d4 : w1.cell? ⟨w.heap.size, 4, none⟩ = some (.int .i64 1) := (HBC.out.fr hfa).cell rfl
    have e0 : w1.cell? ⟨w.heap.size + 1, 0, none⟩ = some (.int .i64 16) := (HBF.out.fr hfa).cell rfl
    have e1 : w1.cell? ⟨w.heap.size + 1, 1, none⟩ = some (.bool false) := (HBF.out.fr hfa).cell rfl
    have HG1 : Hid (w1.cell? ⟨g, 0, none⟩ = some (.int .i64 6)) := Lib.hid (hfa.cell HGC.out)
    have HC1 : Hid (C8 w1 ib gb) := Lib.hid ((HC.out.fr HFB.out).fr hfa)
    have HSZ : Hid (w.heap.size ≤ w1.heap.size) := Lib.hid (HFB.out.trans hfa).size
    clear hfa
    obtain ⟨⟨l0⟩, df⟩ := a
    have s0 : l0.length = 113 := hk.size
    have hdf : df = [] := hk.defers
    subst hdf
    obtain ⟨x0, l1, rfl, s1⟩ := cons_of s0
    obtain ⟨x1, l2, rfl, s2⟩ := cons_of s1
    obtain ⟨x2, l3, rfl, s3⟩ := cons_of s2
    obtain ⟨x3, l4, rfl, s4⟩ := cons_of s3
    obtain ⟨x4, l5, rfl, s5⟩ := cons_of s4
    obtain ⟨x5, l6, rfl, s6⟩ := cons_of s5
    obtain ⟨x6, l7, rfl, s7⟩ := cons_of s6
    obtain ⟨x7, l8, rfl, s8⟩ := cons_of s7
    obtain ⟨x8, l9, rfl, s9⟩ := cons_of s8
    obtain ⟨x9, l10, rfl, s10⟩ := cons_of s9
    obtain ⟨x10, l11, rfl, s11⟩ := cons_of s10
    obtain ⟨x11, l12, rfl, s12⟩ := cons_of s11
    obtain ⟨x12, l13, rfl, s13⟩ := cons_of s12
    obtain ⟨x13, l14, rfl, s14⟩ := cons_of s13
    obtain ⟨x14, l15, rfl, s15⟩ := cons_of s14
    obtain ⟨x15, l16, rfl, s16⟩ := cons_of s15
    obtain ⟨x16, l17, rfl, s17⟩ := cons_of s16
    obtain ⟨x17, l18, rfl, s18⟩ := cons_of s17
    obtain ⟨x18, l19, rfl, s19⟩ := cons_of s18
    obtain ⟨x19, l20, rfl, s20⟩ := cons_of s19
    obtain ⟨x20, l21, rfl, s21⟩ := cons_of s20
    obtain ⟨x21, l22, rfl, s22⟩ := cons_of s21
    obtain ⟨x22, l23, rfl, s23⟩ := cons_of s22
    obtain ⟨x23, l24, rfl, s24⟩ := cons_of s23
    obtain ⟨x24, l25, rfl, s25⟩ := cons_of s24
    obtain ⟨x25, l26, rfl, s26⟩ := cons_of s25
    obtain ⟨x26, l27, rfl, s27⟩ := cons_of s26
    obtain ⟨x27, l28, rfl, s28⟩ := cons_of s27
    obtain ⟨x28, l29, rfl, s29⟩ := cons_of s28
    obtain ⟨x29, l30, rfl, s30⟩ := cons_of s29
    obtain ⟨x30, l31, rfl, s31⟩ := cons_of s30
    obtain ⟨x31, l32, rfl, s32⟩ := cons_of s31
    obtain ⟨x32, l33, rfl, s33⟩ := cons_of s32
    obtain ⟨x33, l34, rfl, s34⟩ := cons_of s33
    obtain ⟨x34, l35, rfl, s35⟩ := cons_of s34
    obtain ⟨x35, l36, rfl, s36⟩ := cons_of s35
    obtain ⟨x36, l37, rfl, s37⟩ := cons_of s36
    obtain ⟨x37, l38, rfl, s38⟩ := cons_of s37
    obtain ⟨x38, l39, rfl, s39⟩ := cons_of s38
    obtain ⟨x39, l40, rfl, s40⟩ := cons_of s39
    obtain ⟨x40, l41, rfl, s41⟩ := cons_of s40
    obtain ⟨x41, l42, rfl, s42⟩ := cons_of s41
    obtain ⟨x42, l43, rfl, s43⟩ := cons_of s42
    obtain ⟨x43, l44, rfl, s44⟩ := cons_of s43
    obtain ⟨x44, l45, rfl, s45⟩ := cons_of s44
    obtain ⟨x45, l46, rfl, s46⟩ := cons_of s45
    obtain ⟨x46, l47, rfl, s47⟩ := cons_of s46
    obtain ⟨x47, l48, rfl, s48⟩ := cons_of s47
    obtain ⟨x48, l49, rfl, s49⟩ := cons_of s48
    obtain ⟨x49, l50, rfl, s50⟩ := cons_of s49
    obtain ⟨x50, l51, rfl, s51⟩ := cons_of s50
    obtain ⟨x51, l52, rfl, s52⟩ := cons_of s51
    obtain ⟨x52, l53, rfl, s53⟩ := cons_of s52
    obtain ⟨x53, l54, rfl, s54⟩ := cons_of s53
    obtain ⟨x54, l55, rfl, s55⟩ := cons_of s54
    obtain ⟨x55, l56, rfl, s56⟩ := cons_of s55
    obtain ⟨x56, l57, rfl, s57⟩ := cons_of s56
    obtain ⟨x57, l58, rfl, s58⟩ := cons_of s57
    obtain ⟨x58, l59, rfl, s59⟩ := cons_of s58
    obtain ⟨x59, l60, rfl, s60⟩ := cons_of s59
    obtain ⟨x60, l61, rfl, s61⟩ := cons_of s60
    obtain ⟨x61, l62, rfl, s62⟩ := cons_of s61
    obtain ⟨x62, l63, rfl, s63⟩ := cons_of s62
    obtain ⟨x63, l64, rfl, s64⟩ := cons_of s63
    obtain ⟨x64, l65, rfl, s65⟩ := cons_of s64
    obtain ⟨x65, l66, rfl, s66⟩ := cons_of s65
    obtain ⟨x66, l67, rfl, s67⟩ := cons_of s66
    obtain ⟨x67, l68, rfl, s68⟩ := cons_of s67
    obtain ⟨x68, l69, rfl, s69⟩ := cons_of s68
    obtain ⟨x69, l70, rfl, s70⟩ := cons_of s69
    obtain ⟨x70, l71, rfl, s71⟩ := cons_of s70
    obtain ⟨x71, l72, rfl, s72⟩ := cons_of s71
    obtain ⟨x72, l73, rfl, s73⟩ := cons_of s72
    obtain ⟨x73, l74, rfl, s74⟩ := cons_of s73
    obtain ⟨x74, l75, rfl, s75⟩ := cons_of s74
    obtain ⟨x75, l76, rfl, s76⟩ := cons_of s75
    obtain ⟨x76, l77, rfl, s77⟩ := cons_of s76
    obtain ⟨x77, l78, rfl, s78⟩ := cons_of s77
    obtain ⟨x78, l79, rfl, s79⟩ := cons_of s78
    obtain ⟨x79, l80, rfl, s80⟩ := cons_of s79
    obtain ⟨x80, l81, rfl, s81⟩ := cons_of s80
    obtain ⟨x81, l82, rfl, s82⟩ := cons_of s81
    obtain ⟨x82, l83, rfl, s83⟩ := cons_of s82
    obtain ⟨x83, l84, rfl, s84⟩ := cons_of s83
    obtain ⟨x84, l85, rfl, s85⟩ := cons_of s84
    obtain ⟨x85, l86, rfl, s86⟩ := cons_of s85
    obtain ⟨x86, l87, rfl, s87⟩ := cons_of s86
    obtain ⟨x87, l88, rfl, s88⟩ := cons_of s87
    obtain ⟨x88, l89, rfl, s89⟩ := cons_of s88
    obtain ⟨x89, l90, rfl, s90⟩ := cons_of s89
    obtain ⟨x90, l91, rfl, s91⟩ := cons_of s90
    obtain ⟨x91, l92, rfl, s92⟩ := cons_of s91
    obtain ⟨x92, l93, rfl, s93⟩ := cons_of s92
    obtain ⟨x93, l94, rfl, s94⟩ := cons_of s93
    obtain ⟨x94, l95, rfl, s95⟩ := cons_of s94
    obtain ⟨x95, l96, rfl, s96⟩ := cons_of s95
    obtain ⟨x96, l97, rfl, s97⟩ := cons_of s96
    obtain ⟨x97, l98, rfl, s98⟩ := cons_of s97
    obtain ⟨x98, l99, rfl, s99⟩ := cons_of s98
    obtain ⟨x99, l100, rfl, s100⟩ := cons_of s99
    obtain ⟨x100, l101, rfl, s101⟩ := cons_of s100
    obtain ⟨x101, l102, rfl, s102⟩ := cons_of s101
    obtain ⟨x102, l103, rfl, s103⟩ := cons_of s102
    obtain ⟨x103, l104, rfl, s104⟩ := cons_of s103
    obtain ⟨x104, l105, rfl, s105⟩ := cons_of s104
    obtain ⟨x105, l106, rfl, s106⟩ := cons_of s105
    obtain ⟨x106, l107, rfl, s107⟩ := cons_of s106
    obtain ⟨x107, l108, rfl, s108⟩ := cons_of s107
    obtain ⟨x108, l109, rfl, s109⟩ := cons_of s108
    obtain ⟨x109, l110, rfl, s110⟩ := cons_of s109
    obtain ⟨x110, l111, rfl, s111⟩ := cons_of s110
    obtain ⟨x111, l112, rfl, s112⟩ := cons_of s111
    obtain ⟨x112, l113, rfl, s113⟩ := cons_of s112
    obtain rfl := List.eq_nil_of_length_eq_zero s113
    obtain rfl : x2 = .pointer (some ⟨w.heap.size, 0, none⟩) := Option.some.inj (hk.else_ 2 (fun i hi => by unfold pslot; split <;> omega))
    obtain rfl : x3 = .pointer (some ⟨w.heap.size + 1, 0, none⟩) := Option.some.inj (hk.else_ 3 (fun i hi => by unfold pslot; split <;> omega))
    obtain rfl : x6 = .slice (some ⟨ab, 0, none⟩) 0 0 := Option.some.inj (hk.else_ 6 (fun i hi => by unfold pslot; split <;> omega))
    obtain rfl : x9 = .slice (some ⟨g, 0, none⟩) 1 1 := Option.some.inj (hk.else_ 9 (fun i hi => by unfold pslot; split <;> omega))
    clear hk hi hf hq0 s113
    match i, hi1, hd with
    | 0, _, hd =>
      clear hd
      refine wpOp_of rfl (fun K hK => ?_)
      go_simp
      refine hK _ _ _ (by simp only [Act.put, pslot, List.setIfInBounds_toArray, List.set_cons_zero, List.set_cons_succ, reduceIte, Nat.reduceLT, Nat.reduceAdd] <;> rfl) (Fr.refl _) rfl
    | 1, _, hd =>
      clear hd
      refine wpOp_of rfl (fun K hK => ?_)
      go_simp
      refine hK _ _ _ (by simp only [Act.put, pslot, List.setIfInBounds_toArray, List.set_cons_zero, List.set_cons_succ, reduceIte, Nat.reduceLT, Nat.reduceAdd] <;> rfl) (Fr.refl _) rfl
    | 2, _, hd =>
      clear hd
      refine wpOp_of rfl (fun K hK => ?_)
      go_simp
      refine hK _ _ _ (by simp only [Act.put, pslot, List.setIfInBounds_toArray, List.set_cons_zero, List.set_cons_succ, reduceIte, Nat.reduceLT, Nat.reduceAdd] <;> rfl) (Fr.refl _) rfl
    | 3, _, hd =>
      obtain ⟨v, hv, hr⟩ := hd _ rfl ⟨2, .data⟩ (by simp) rfl
      obtain rfl : x35 = v := Option.some.inj hv
      obtain rfl := hr
      clear hv
      clear hd
      refine wpOp_of rfl (fun K hK => ?_)
      go_simp
      refine hK _ _ _ (by simp only [Act.put, pslot, List.setIfInBounds_toArray, List.set_cons_zero, List.set_cons_succ, reduceIte, Nat.reduceLT, Nat.reduceAdd] <;> rfl) (Fr.refl _) rfl
    | 4, _, hd =>
      obtain ⟨v, hv, hr⟩ := hd _ rfl ⟨3, .data⟩ (by simp) rfl
      obtain rfl : x36 = v := Option.some.inj hv
      obtain rfl := hr
      clear hv
      clear hd
      refine wpOp_of rfl (fun K hK => ?_)
      go_simp
      refine (cl_8 HC1.out).mono ?_
      rintro e w2 ⟨op, oc, rfl, ol, oB, hf2⟩
      refine hK _ _ _ (by simp only [Act.put, pslot, List.setIfInBounds_toArray, List.set_cons_zero, List.set_cons_succ, reduceIte, Nat.reduceLT, Nat.reduceAdd] <;> rfl) hf2 ⟨op, oc, Nat.le_trans HSZ.out ol, oB, rfl⟩
    | 5, _, hd =>
      clear hd
      refine wpOp_of rfl (fun K hK => ?_)
      go_simp
      refine hK _ _ _ (by simp only [Act.put, pslot, List.setIfInBounds_toArray, List.set_cons_zero, List.set_cons_succ, reduceIte, Nat.reduceLT, Nat.reduceAdd] <;> rfl) (Fr.refl _) rfl
    | 6, _, hd =>
      obtain ⟨v, hv, hr⟩ := hd _ rfl ⟨5, .data⟩ (by simp) rfl
      obtain rfl : x38 = v := Option.some.inj hv
      obtain rfl := hr
      clear hv
      clear hd
      refine wpOp_of rfl (fun K hK => ?_)
      go_simp
      refine hK _ _ _ (by simp only [Act.put, pslot, List.setIfInBounds_toArray, List.set_cons_zero, List.set_cons_succ, reduceIte, Nat.reduceLT, Nat.reduceAdd] <;> rfl) (Fr.refl _) rfl
    | 7, _, hd =>
      obtain ⟨v, hv, hr⟩ := hd _ rfl ⟨6, .data⟩ (by simp) rfl
      obtain rfl : x39 = v := Option.some.inj hv
      obtain rfl := hr
      clear hv
      clear hd
      refine wpOp_of rfl (fun K hK => ?_)
      go_simp
      refine hK _ _ _ (by simp only [Act.put, pslot, List.setIfInBounds_toArray, List.set_cons_zero, List.set_cons_succ, reduceIte, Nat.reduceLT, Nat.reduceAdd] <;> rfl) (Fr.refl _) rfl
    | 8, _, hd =>
      obtain ⟨v, hv, hr⟩ := hd _ rfl ⟨7, .data⟩ (by simp) rfl
      obtain rfl : x40 = v := Option.some.inj hv
      obtain rfl := hr
      clear hv
      clear hd
      have hm7 := HM7.out
      refine wpOp_of rfl (fun K hK => ?_)
      go_simp
      refine hK _ _ _ (by simp only [Act.put, pslot, List.setIfInBounds_toArray, List.set_cons_zero, List.set_cons_succ, reduceIte, Nat.reduceLT, Nat.reduceAdd] <;> rfl) ((Fr.refl _).alloc _) ⟨w1.heap.size, HSZ.out, Blk.new _ _ _, rfl⟩
    | 9, _, hd =>
      clear hd
      refine wpOp_of rfl (fun K hK => ?_)
      go_simp
      refine hK _ _ _ (by simp only [Act.put, pslot, List.setIfInBounds_toArray, List.set_cons_zero, List.set_cons_succ, reduceIte, Nat.reduceLT, Nat.reduceAdd] <;> rfl) (Fr.refl _) rfl
    | 10, _, hd =>
      obtain ⟨v, hv, hr⟩ := hd _ rfl ⟨9, .data⟩ (by simp) rfl
      obtain rfl : x42 = v := Option.some.inj hv
      obtain rfl := hr
      clear hv
      clear hd
      refine wpOp_of rfl (fun K hK => ?_)
      go_simp
      refine hK _ _ _ (by simp only [Act.put, pslot, List.setIfInBounds_toArray, List.set_cons_zero, List.set_cons_succ, reduceIte, Nat.reduceLT, Nat.reduceAdd] <;> rfl) (Fr.refl _) rfl
    | 11, _, hd =>
      obtain ⟨v, hv, hr⟩ := hd _ rfl ⟨10, .data⟩ (by simp) rfl
      obtain rfl : x43 = v := Option.some.inj hv
      obtain rfl := hr
      clear hv
      clear hd
      refine wpOp_of rfl (fun K hK => ?_)
      go_simp
      refine hK _ _ _ (by simp only [Act.put, pslot, List.setIfInBounds_toArray, List.set_cons_zero, List.set_cons_succ, reduceIte, Nat.reduceLT, Nat.reduceAdd] <;> rfl) (Fr.refl _) rfl
    | 12, _, hd =>
      obtain ⟨v, hv, hr⟩ := hd _ rfl ⟨11, .data⟩ (by simp) rfl
      obtain rfl : x44 = v := Option.some.inj hv
      obtain rfl := hr
      clear hv
      clear hd
      have hm2 := HM2.out
      refine wpOp_of rfl (fun K hK => ?_)
      go_simp
      refine hK _ _ _ (by simp only [Act.put, pslot, List.setIfInBounds_toArray, List.set_cons_zero, List.set_cons_succ, reduceIte, Nat.reduceLT, Nat.reduceAdd] <;> rfl) ((Fr.refl _).alloc _) ⟨w1.heap.size, HSZ.out, Blk.new _ _ _, rfl⟩
    | 13, _, hd =>
      clear hd
      refine wpOp_of rfl (fun K hK => ?_)
      go_simp
      refine hK _ _ _ (by simp only [Act.put, pslot, List.setIfInBounds_toArray, List.set_cons_zero, List.set_cons_succ, reduceIte, Nat.reduceLT, Nat.reduceAdd] <;> rfl) (Fr.refl _) rfl
    | 14, _, hd =>
      clear hd
      refine wpOp_of rfl (fun K hK => ?_)
      go_simp
      refine hK _ _ _ (by simp only [Act.put, pslot, List.setIfInBounds_toArray, List.set_cons_zero, List.set_cons_succ, reduceIte, Nat.reduceLT, Nat.reduceAdd] <;> rfl) ((Fr.refl _).alloc _) ⟨w1.heap.size, HSZ.out, (Blk.new _ _ _).cell rfl, rfl⟩
    | 15, _, hd =>
      obtain ⟨v, hv, hr⟩ := hd _ rfl ⟨13, .data⟩ (by simp) rfl
      obtain rfl : x46 = v := Option.some.inj hv
      obtain rfl := hr
      clear hv
      obtain ⟨v, hv, hr⟩ := hd _ rfl ⟨14, .data⟩ (by simp) rfl
      obtain rfl : x47 = v := Option.some.inj hv
      obtain ⟨vb, vl, vC, rfl⟩ := hr
      clear hv
      clear hd
      refine wpOp_of rfl (fun K hK => ?_)
      go_simp
      refine (insert_one g 0 vb 0 1 _ _ w1 HG1.out vC rfl rfl).mono ?_
      rintro e w2 ⟨rc, fq, rfl, q1, q2, q3, q4, hf2⟩
      refine hK _ _ _ (by simp only [Act.put, pslot, List.setIfInBounds_toArray, List.set_cons_zero, List.set_cons_succ, reduceIte, Nat.reduceLT, Nat.reduceAdd] <;> rfl) hf2 ⟨w1.heap.size, rc, fq, HSZ.out, ⟨q1, q2, q4⟩, rfl⟩
    | 16, _, hd =>
      obtain ⟨v, hv, hr⟩ := hd _ rfl ⟨0, .data⟩ (by simp) rfl
      obtain rfl : x33 = v := Option.some.inj hv
      obtain rfl := hr
      clear hv
      obtain ⟨v, hv, hr⟩ := hd _ rfl ⟨1, .data⟩ (by simp) rfl
      obtain rfl : x34 = v := Option.some.inj hv
      obtain rfl := hr
      clear hv
      obtain ⟨v, hv, hr⟩ := hd _ rfl ⟨4, .data⟩ (by simp) rfl
      obtain rfl : x37 = v := Option.some.inj hv
      obtain ⟨op, oc, ol, oB, rfl⟩ := hr
      clear hv
      obtain ⟨v, hv, hr⟩ := hd _ rfl ⟨8, .data⟩ (by simp) rfl
      obtain rfl : x41 = v := Option.some.inj hv
      obtain ⟨pa, al, aB, rfl⟩ := hr
      clear hv
      obtain ⟨v, hv, hr⟩ := hd _ rfl ⟨12, .data⟩ (by simp) rfl
      obtain rfl : x45 = v := Option.some.inj hv
      obtain ⟨eb, el, eB, rfl⟩ := hr
      clear hv
      obtain ⟨v, hv, hr⟩ := hd _ rfl ⟨15, .data⟩ (by simp) rfl
      obtain rfl : x48 = v := Option.some.inj hv
      obtain ⟨qb, rc, fq, ql, ⟨q1, q2, q3⟩, rfl⟩ := hr
      clear hv
      clear hd
      refine wpOp_of rfl (fun K hK => ?_)
      go_simp
      refine hK _ _ _ (by simp only [Act.put, pslot, List.setIfInBounds_toArray, List.set_cons_zero, List.set_cons_succ, reduceIte, Nat.reduceLT, Nat.reduceAdd] <;> rfl) (Fr.refl _) ⟨op, oc, pa, eb, qb, rc, fq, ⟨oB, aB, eB, q2, q1, q3, ⟨ol, al, el, ql⟩⟩, rfl⟩
    | 17, _, hd =>
      obtain ⟨v, hv, hr⟩ := hd _ rfl ⟨16, .data⟩ (by simp) rfl
      obtain rfl : x49 = v := Option.some.inj hv
      obtain ⟨op, oc, pa, eb, qb, rc, fq, hP, rfl⟩ := hr
      clear hv
      clear hd
      refine wpOp_of rfl (fun K hK => ?_)
      unfold pgC
      go_simp
      refine hK _ _ _ (by simp only [Act.put, pslot, List.setIfInBounds_toArray, List.set_cons_zero, List.set_cons_succ, reduceIte, Nat.reduceLT, Nat.reduceAdd] <;> rfl) ((Fr.refl _).alloc _) ⟨w1.heap.size, op, oc, pa, eb, qb, rc, fq, HSZ.out, hP.fr ((Fr.refl _).alloc _), Blk.new _ _ _, rfl⟩
    | 18, _, hd =>
      obtain ⟨v, hv, hr⟩ := hd _ rfl ⟨17, .data⟩ (by simp) rfl
      obtain rfl : x50 = v := Option.some.inj hv
      obtain ⟨pb, op, oc, pa, eb, qb, rc, fq, pl, hP, hM, rfl⟩ := hr
      clear hv
      clear hd
      refine wpOp_of rfl (fun K hK => ?_)
      go_simp
      refine hK _ _ _ (by simp only [Act.put, pslot, List.setIfInBounds_toArray, List.set_cons_zero, List.set_cons_succ, reduceIte, Nat.reduceLT, Nat.reduceAdd] <;> rfl) (Fr.refl _) ⟨pb, op, oc, pa, eb, qb, rc, fq, pl, hP, hM, rfl⟩
    | (i + 19), hi1, hd => exact absurd hi1 (by omega)
  · intro a w1 hk hf hv
    obtain ⟨⟨l0⟩, df⟩ := a
    have s0 : l0.length = 113 := hk.size
    have hdf : df = [] := hk.defers
    subst hdf
    obtain ⟨x0, l1, rfl, s1⟩ := cons_of s0
    obtain ⟨x1, l2, rfl, s2⟩ := cons_of s1
    obtain ⟨x2, l3, rfl, s3⟩ := cons_of s2
    obtain ⟨x3, l4, rfl, s4⟩ := cons_of s3
    obtain ⟨x4, l5, rfl, s5⟩ := cons_of s4
    obtain ⟨x5, l6, rfl, s6⟩ := cons_of s5
    obtain ⟨x6, l7, rfl, s7⟩ := cons_of s6
    obtain ⟨x7, l8, rfl, s8⟩ := cons_of s7
    obtain ⟨x8, l9, rfl, s9⟩ := cons_of s8
    obtain ⟨x9, l10, rfl, s10⟩ := cons_of s9
    obtain ⟨x10, l11, rfl, s11⟩ := cons_of s10
    obtain ⟨x11, l12, rfl, s12⟩ := cons_of s11
    obtain ⟨x12, l13, rfl, s13⟩ := cons_of s12
    obtain ⟨x13, l14, rfl, s14⟩ := cons_of s13
    obtain ⟨x14, l15, rfl, s15⟩ := cons_of s14
    obtain ⟨x15, l16, rfl, s16⟩ := cons_of s15
    obtain ⟨x16, l17, rfl, s17⟩ := cons_of s16
    obtain ⟨x17, l18, rfl, s18⟩ := cons_of s17
    obtain ⟨x18, l19, rfl, s19⟩ := cons_of s18
    obtain ⟨x19, l20, rfl, s20⟩ := cons_of s19
    obtain ⟨x20, l21, rfl, s21⟩ := cons_of s20
    obtain ⟨x21, l22, rfl, s22⟩ := cons_of s21
    obtain ⟨x22, l23, rfl, s23⟩ := cons_of s22
    obtain ⟨x23, l24, rfl, s24⟩ := cons_of s23
    obtain ⟨x24, l25, rfl, s25⟩ := cons_of s24
    obtain ⟨x25, l26, rfl, s26⟩ := cons_of s25
    obtain ⟨x26, l27, rfl, s27⟩ := cons_of s26
    obtain ⟨x27, l28, rfl, s28⟩ := cons_of s27
    obtain ⟨x28, l29, rfl, s29⟩ := cons_of s28
    obtain ⟨x29, l30, rfl, s30⟩ := cons_of s29
    obtain ⟨x30, l31, rfl, s31⟩ := cons_of s30
    obtain ⟨x31, l32, rfl, s32⟩ := cons_of s31
    obtain ⟨x32, l33, rfl, s33⟩ := cons_of s32
    obtain ⟨x33, l34, rfl, s34⟩ := cons_of s33
    obtain ⟨x34, l35, rfl, s35⟩ := cons_of s34
    obtain ⟨x35, l36, rfl, s36⟩ := cons_of s35
    obtain ⟨x36, l37, rfl, s37⟩ := cons_of s36
    obtain ⟨x37, l38, rfl, s38⟩ := cons_of s37
    obtain ⟨x38, l39, rfl, s39⟩ := cons_of s38
    obtain ⟨x39, l40, rfl, s40⟩ := cons_of s39
    obtain ⟨x40, l41, rfl, s41⟩ := cons_of s40
    obtain ⟨x41, l42, rfl, s42⟩ := cons_of s41
    obtain ⟨x42, l43, rfl, s43⟩ := cons_of s42
    obtain ⟨x43, l44, rfl, s44⟩ := cons_of s43
    obtain ⟨x44, l45, rfl, s45⟩ := cons_of s44
    obtain ⟨x45, l46, rfl, s46⟩ := cons_of s45
    obtain ⟨x46, l47, rfl, s47⟩ := cons_of s46
    obtain ⟨x47, l48, rfl, s48⟩ := cons_of s47
    obtain ⟨x48, l49, rfl, s49⟩ := cons_of s48
    obtain ⟨x49, l50, rfl, s50⟩ := cons_of s49
    obtain ⟨x50, l51, rfl, s51⟩ := cons_of s50
    obtain ⟨x51, l52, rfl, s52⟩ := cons_of s51
    obtain ⟨x52, l53, rfl, s53⟩ := cons_of s52
    obtain ⟨x53, l54, rfl, s54⟩ := cons_of s53
    obtain ⟨x54, l55, rfl, s55⟩ := cons_of s54
    obtain ⟨x55, l56, rfl, s56⟩ := cons_of s55
    obtain ⟨x56, l57, rfl, s57⟩ := cons_of s56
    obtain ⟨x57, l58, rfl, s58⟩ := cons_of s57
    obtain ⟨x58, l59, rfl, s59⟩ := cons_of s58
    obtain ⟨x59, l60, rfl, s60⟩ := cons_of s59
    obtain ⟨x60, l61, rfl, s61⟩ := cons_of s60
    obtain ⟨x61, l62, rfl, s62⟩ := cons_of s61
    obtain ⟨x62, l63, rfl, s63⟩ := cons_of s62
    obtain ⟨x63, l64, rfl, s64⟩ := cons_of s63
    obtain ⟨x64, l65, rfl, s65⟩ := cons_of s64
    obtain ⟨x65, l66, rfl, s66⟩ := cons_of s65
    obtain ⟨x66, l67, rfl, s67⟩ := cons_of s66
    obtain ⟨x67, l68, rfl, s68⟩ := cons_of s67
    obtain ⟨x68, l69, rfl, s69⟩ := cons_of s68
    obtain ⟨x69, l70, rfl, s70⟩ := cons_of s69
    obtain ⟨x70, l71, rfl, s71⟩ := cons_of s70
    obtain ⟨x71, l72, rfl, s72⟩ := cons_of s71
    obtain ⟨x72, l73, rfl, s73⟩ := cons_of s72
    obtain ⟨x73, l74, rfl, s74⟩ := cons_of s73
    obtain ⟨x74, l75, rfl, s75⟩ := cons_of s74
    obtain ⟨x75, l76, rfl, s76⟩ := cons_of s75
    obtain ⟨x76, l77, rfl, s77⟩ := cons_of s76
    obtain ⟨x77, l78, rfl, s78⟩ := cons_of s77
    obtain ⟨x78, l79, rfl, s79⟩ := cons_of s78
    obtain ⟨x79, l80, rfl, s80⟩ := cons_of s79
    obtain ⟨x80, l81, rfl, s81⟩ := cons_of s80
    obtain ⟨x81, l82, rfl, s82⟩ := cons_of s81
    obtain ⟨x82, l83, rfl, s83⟩ := cons_of s82
    obtain ⟨x83, l84, rfl, s84⟩ := cons_of s83
    obtain ⟨x84, l85, rfl, s85⟩ := cons_of s84
    obtain ⟨x85, l86, rfl, s86⟩ := cons_of s85
    obtain ⟨x86, l87, rfl, s87⟩ := cons_of s86
    obtain ⟨x87, l88, rfl, s88⟩ := cons_of s87
    obtain ⟨x88, l89, rfl, s89⟩ := cons_of s88
    obtain ⟨x89, l90, rfl, s90⟩ := cons_of s89
    obtain ⟨x90, l91, rfl, s91⟩ := cons_of s90
    obtain ⟨x91, l92, rfl, s92⟩ := cons_of s91
    obtain ⟨x92, l93, rfl, s93⟩ := cons_of s92
    obtain ⟨x93, l94, rfl, s94⟩ := cons_of s93
    obtain ⟨x94, l95, rfl, s95⟩ := cons_of s94
    obtain ⟨x95, l96, rfl, s96⟩ := cons_of s95
    obtain ⟨x96, l97, rfl, s97⟩ := cons_of s96
    obtain ⟨x97, l98, rfl, s98⟩ := cons_of s97
    obtain ⟨x98, l99, rfl, s99⟩ := cons_of s98
    obtain ⟨x99, l100, rfl, s100⟩ := cons_of s99
    obtain ⟨x100, l101, rfl, s101⟩ := cons_of s100
    obtain ⟨x101, l102, rfl, s102⟩ := cons_of s101
    obtain ⟨x102, l103, rfl, s103⟩ := cons_of s102
    obtain ⟨x103, l104, rfl, s104⟩ := cons_of s103
    obtain ⟨x104, l105, rfl, s105⟩ := cons_of s104
    obtain ⟨x105, l106, rfl, s106⟩ := cons_of s105
    obtain ⟨x106, l107, rfl, s107⟩ := cons_of s106
    obtain ⟨x107, l108, rfl, s108⟩ := cons_of s107
    obtain ⟨x108, l109, rfl, s109⟩ := cons_of s108
    obtain ⟨x109, l110, rfl, s110⟩ := cons_of s109
    obtain ⟨x110, l111, rfl, s111⟩ := cons_of s110
    obtain ⟨x111, l112, rfl, s112⟩ := cons_of s111
    obtain ⟨x112, l113, rfl, s113⟩ := cons_of s112
    obtain rfl := List.eq_nil_of_length_eq_zero s113
    obtain rfl : x2 = .pointer (some ⟨w.heap.size, 0, none⟩) := Option.some.inj (hk.else_ 2 (fun i hi => by unfold pslot; split <;> omega))
    obtain rfl : x3 = .pointer (some ⟨w.heap.size + 1, 0, none⟩) := Option.some.inj (hk.else_ 3 (fun i hi => by unfold pslot; split <;> omega))
    obtain rfl : x6 = .slice (some ⟨ab, 0, none⟩) 0 0 := Option.some.inj (hk.else_ 6 (fun i hi => by unfold pslot; split <;> omega))
    obtain rfl : x9 = .slice (some ⟨g, 0, none⟩) 1 1 := Option.some.inj (hk.else_ 9 (fun i hi => by unfold pslot; split <;> omega))
    obtain ⟨v, hv, hr⟩ := hv 18 (by show 18 < 19; omega)
    obtain rfl : x11 = v := Option.some.inj hv
    obtain ⟨pb, op, oc, pa, eb, qb, rc, fq, pl, hP, hM, rfl⟩ := hr
    have HSP : Hid (PgS w w1 ab pb op oc pa eb qb rc ib gb fq) := Lib.hid ⟨HFB.out.trans (hq0.trans hf), hM, hP.o, ⟨_, made_arr _ _ _ _ _ hP.a⟩, (by have h := hP.e; rwa [show madeCells #[.int .i64 0] 2 = #[.int .i64 0, .int .i64 0] by kernel_rfl] at h), hP.q, (HBC.out.fr (hq0.trans hf)), ⟨pl, hP.lo⟩, (HC.out.fr HFB.out).fr (hq0.trans hf)⟩
    have HRC : Hid (2 ≤ rc ∧ fq 1 = .int .i64 6) := Lib.hid ⟨hP.rc, hP.fq⟩
    have HNN : Hid (PgN w.heap.size pb op pa eb qb ib gb ∧ pa ≠ w.heap.size ∧ eb ≠ w.heap.size ∧ op ≠ w.heap.size) := Lib.hid (by
      obtain ⟨C, ho, _⟩ := hP.o
      have ha := hP.a
      have he := hP.e
      have hM' : Blk w1 pb 92 _ := hM
      have hc := HBC.out.fr (hq0.trans hf)
      have h1 : w1.cell? ⟨qb, 1, none⟩ = some (.int .i64 6) := by rw [hP.q.cell (i := 1) (by have := hP.rc; omega), hP.fq]
      have h2 : w1.cell? ⟨pa, 1, none⟩ = some (.int .i64 0) := (made_arr _ _ _ _ _ ha).cell (by omega)
      have h3 : w1.cell? ⟨eb, 1, none⟩ = some (.int .i64 0) := (made_arr _ _ _ _ _ he).cell (by omega)
      refine ⟨⟨⟨ha.inj hM' (by decide), ha.inj ho (by decide), fun e => ?_, fun e => ?_⟩, ⟨he.inj hM' (by decide), he.inj ho (by decide), fun e => ?_⟩, ⟨ho.inj hM' (by decide), fun e => ?_⟩, ⟨hP.lo.2.1, hP.lo.2.2.1, hP.lo.1⟩, ⟨HC.out.o.lt, HC.out.g.lt⟩⟩, ha.inj hc (by decide), he.inj hc (by decide), ho.inj hc (by decide)⟩
      · subst e
        unfold Blk at ha he
        rw [ha] at he
        injection he with he
        injection he with he
        have := congrArg Array.size he
        rw [size_madeCells, size_madeCells] at this
        omega
      · subst e; rw [h1] at h2; injection h2 with h2; injection h2 with _ h2; omega
      · subst e; rw [h1] at h3; injection h3 with h3; injection h3 with _ h3; omega
      · subst e
        obtain ⟨Cq, hq, _⟩ := hP.q
        exact absurd rfl (ho.inj hq (by decide)))
    clear hv hk hf hq0 hP hM pl
    have HM1 : Hid (∀ W, (Instr.makeSlice 22 (.int .i64 1) (.int .i64 1)).run Tryz.prog W = .ok (.slice (some ⟨W.heap.size, 0, none⟩) 1 1) (W.alloc (.cells (madeCells #[.int .i64 0] 1) 3))) := by
      apply Lib.hid
      intro W
      have h := run_makeSlice (P := Tryz.prog) W 22 3 _ _ rfl rfl rfl .i64 .i64 1 1 (by decide) (by decide)
      refine (h ?_ ?_ ?_).trans rfl <;> decide
    have hm1 := HM1.out
    have y5 : w1.cell? ⟨w.heap.size, 5, none⟩ = some (.int .i64 0) := HSP.out.c.cell rfl
    have y2 : (w1.alloc (.cells (madeCells #[.int .i64 0] 1) 3)).cell? ⟨w.heap.size, 2, none⟩ = some (.slice (some ⟨ib, 0, none⟩) 7 7) := (HSP.out.c.fr ((Fr.refl _).alloc _)).cell rfl
    have HS0 : Hid (PgS w (w1.alloc (.cells (madeCells #[.int .i64 0] 1) 3)) ab pb op oc pa eb qb rc ib gb fq) := Lib.hid (HSP.out.alloc ((Fr.refl _).alloc _))
    go_wp2_with fail
    go_loopw [13, 58] (fun p n wr => ∃ j q : Nat, j ≤ 7 ∧ q ≤ 1 ∧ (0 < j → q = 1) ∧ p = .int .i64 (q : Int) ∧ n = .int .i64 (j : Int) ∧ Hid (PgS w wr ab pb op oc pa eb qb rc ib gb fq)) (fun p n _ => 7 - (intOf n).toNat)
    case atStart => exact ⟨0, 0, by omega, by omega, by omega, rfl, rfl, HS0⟩
    case round =>
      obtain ⟨j, q, hj, hq, hq1, rfl, rfl, HR⟩ := hrel
      clear y5 y2 hm1
      match j, hj, hq1 with
      | 0, _, hq1 =>
        have o0 : wr.cell? ⟨ib, 0, none⟩ = some (.int .i64 24) := HR.out.c8.o.cell rfl
        have o1 : wr.cell? ⟨ib, 1, none⟩ = some (.int .i64 1) := HR.out.c8.o.cell rfl
        have o2 : wr.cell? ⟨ib, 2, none⟩ = some (.int .i64 0) := HR.out.c8.o.cell rfl
        have HA : Hid (PgS w (wr.alloc (.cells #[.int .i64 24, .int .i64 1, .int .i64 0] 60)) ab pb op oc pa eb qb rc ib gb fq) := Lib.hid (HR.out.alloc ((Fr.refl _).alloc _))
        clear hq hq1
        have p5 : (wr.alloc (.cells #[.int .i64 24, .int .i64 1, .int .i64 0] 60)).cell? ⟨pb, 5, none⟩ = some (.slice (some ⟨eb, 0, none⟩) 2 2) := HA.out.p.cell rfl
        have e1 : (wr.alloc (.cells #[.int .i64 24, .int .i64 1, .int .i64 0] 60)).cell? ⟨eb, 1, none⟩ = some (.int .i64 0) := HA.out.e.cell rfl
        have e2 := HA.out.e.free 1
        have HA2 : Hid (PgS w ((wr.alloc (.cells #[.int .i64 24, .int .i64 1, .int .i64 0] 60)).setCell ⟨eb, 1, none⟩ (.int .i64 0)) ab pb op oc pa eb qb rc ib gb fq) := Lib.hid (HA.out.setE HNN.out.1 HNN.out.2.2.1)
        have p4 : ((wr.alloc (.cells #[.int .i64 24, .int .i64 1, .int .i64 0] 60)).setCell ⟨eb, 1, none⟩ (.int .i64 0)).cell? ⟨pb, 4, none⟩ = some (.slice (some ⟨pa, 0, none⟩) 7 7) := HA2.out.p.cell rfl
        obtain ⟨f, hF⟩ := HA2.out.a
        have a1 : ((wr.alloc (.cells #[.int .i64 24, .int .i64 1, .int .i64 0] 60)).setCell ⟨eb, 1, none⟩ (.int .i64 0)).cell? ⟨pa, 0, none⟩ = some (f 0) := hF.cell (by omega)
        have a2 := hF.free 0
        clear hF
        go_wp2_with fail
        go_roundw
        case rel => exact ⟨1, 1, by omega, by omega, fun _ => rfl, rfl, rfl, Lib.hid (HA2.out.setA HNN.out.1 HNN.out.2.1 0 (by omega) _)⟩
        case measure => simp [intOf]
      | 1, _, hq1 =>
        have o0 : wr.cell? ⟨ib, 3, none⟩ = some (.int .i64 18) := HR.out.c8.o.cell rfl
        have o1 : wr.cell? ⟨ib, 4, none⟩ = some (.int .i64 4) := HR.out.c8.o.cell rfl
        have o2 : wr.cell? ⟨ib, 5, none⟩ = some (.int .i64 0) := HR.out.c8.o.cell rfl
        have HA : Hid (PgS w (wr.alloc (.cells #[.int .i64 18, .int .i64 4, .int .i64 0] 60)) ab pb op oc pa eb qb rc ib gb fq) := Lib.hid (HR.out.alloc ((Fr.refl _).alloc _))
        obtain rfl : q = 1 := hq1 (by omega)
        clear hq hq1
        have p4 : (wr.alloc (.cells #[.int .i64 18, .int .i64 4, .int .i64 0] 60)).cell? ⟨pb, 4, none⟩ = some (.slice (some ⟨pa, 0, none⟩) 7 7) := HA.out.p.cell rfl
        obtain ⟨f, hF⟩ := HA.out.a
        have a1 : (wr.alloc (.cells #[.int .i64 18, .int .i64 4, .int .i64 0] 60)).cell? ⟨pa, 1, none⟩ = some (f 1) := hF.cell (by omega)
        have a2 := hF.free 1
        clear hF
        go_wp2_with fail
        go_roundw
        case rel => exact ⟨2, 1, by omega, by omega, fun _ => rfl, rfl, rfl, Lib.hid (HA.out.setA HNN.out.1 HNN.out.2.1 1 (by omega) _)⟩
        case measure => simp [intOf]
      | 2, _, hq1 =>
        have o0 : wr.cell? ⟨ib, 6, none⟩ = some (.int .i64 1) := HR.out.c8.o.cell rfl
        have o1 : wr.cell? ⟨ib, 7, none⟩ = some (.int .i64 65) := HR.out.c8.o.cell rfl
        have o2 : wr.cell? ⟨ib, 8, none⟩ = some (.int .i64 0) := HR.out.c8.o.cell rfl
        have HA : Hid (PgS w (wr.alloc (.cells #[.int .i64 1, .int .i64 65, .int .i64 0] 60)) ab pb op oc pa eb qb rc ib gb fq) := Lib.hid (HR.out.alloc ((Fr.refl _).alloc _))
        obtain rfl : q = 1 := hq1 (by omega)
        clear hq hq1
        have p4 : (wr.alloc (.cells #[.int .i64 1, .int .i64 65, .int .i64 0] 60)).cell? ⟨pb, 4, none⟩ = some (.slice (some ⟨pa, 0, none⟩) 7 7) := HA.out.p.cell rfl
        obtain ⟨f, hF⟩ := HA.out.a
        have a1 : (wr.alloc (.cells #[.int .i64 1, .int .i64 65, .int .i64 0] 60)).cell? ⟨pa, 2, none⟩ = some (f 2) := hF.cell (by omega)
        have a2 := hF.free 2
        clear hF
        go_wp2_with fail
        go_roundw
        case rel => exact ⟨3, 1, by omega, by omega, fun _ => rfl, rfl, rfl, Lib.hid (HA.out.setA HNN.out.1 HNN.out.2.1 2 (by omega) _)⟩
        case measure => simp [intOf]
      | 3, _, hq1 =>
        have o0 : wr.cell? ⟨ib, 9, none⟩ = some (.int .i64 5) := HR.out.c8.o.cell rfl
        have o1 : wr.cell? ⟨ib, 10, none⟩ = some (.int .i64 3) := HR.out.c8.o.cell rfl
        have o2 : wr.cell? ⟨ib, 11, none⟩ = some (.int .i64 0) := HR.out.c8.o.cell rfl
        have HA : Hid (PgS w (wr.alloc (.cells #[.int .i64 5, .int .i64 3, .int .i64 0] 60)) ab pb op oc pa eb qb rc ib gb fq) := Lib.hid (HR.out.alloc ((Fr.refl _).alloc _))
        obtain rfl : q = 1 := hq1 (by omega)
        clear hq hq1
        have p4 : (wr.alloc (.cells #[.int .i64 5, .int .i64 3, .int .i64 0] 60)).cell? ⟨pb, 4, none⟩ = some (.slice (some ⟨pa, 0, none⟩) 7 7) := HA.out.p.cell rfl
        obtain ⟨f, hF⟩ := HA.out.a
        have a1 : (wr.alloc (.cells #[.int .i64 5, .int .i64 3, .int .i64 0] 60)).cell? ⟨pa, 3, none⟩ = some (f 3) := hF.cell (by omega)
        have a2 := hF.free 3
        clear hF
        go_wp2_with fail
        go_roundw
        case rel => exact ⟨4, 1, by omega, by omega, fun _ => rfl, rfl, rfl, Lib.hid (HA.out.setA HNN.out.1 HNN.out.2.1 3 (by omega) _)⟩
        case measure => simp [intOf]
      | 4, _, hq1 =>
        have o0 : wr.cell? ⟨ib, 12, none⟩ = some (.int .i64 23) := HR.out.c8.o.cell rfl
        have o1 : wr.cell? ⟨ib, 13, none⟩ = some (.int .i64 2) := HR.out.c8.o.cell rfl
        have o2 : wr.cell? ⟨ib, 14, none⟩ = some (.int .i64 0) := HR.out.c8.o.cell rfl
        have HA : Hid (PgS w (wr.alloc (.cells #[.int .i64 23, .int .i64 2, .int .i64 0] 60)) ab pb op oc pa eb qb rc ib gb fq) := Lib.hid (HR.out.alloc ((Fr.refl _).alloc _))
        obtain rfl : q = 1 := hq1 (by omega)
        clear hq hq1
        have p4 : (wr.alloc (.cells #[.int .i64 23, .int .i64 2, .int .i64 0] 60)).cell? ⟨pb, 4, none⟩ = some (.slice (some ⟨pa, 0, none⟩) 7 7) := HA.out.p.cell rfl
        obtain ⟨f, hF⟩ := HA.out.a
        have a1 : (wr.alloc (.cells #[.int .i64 23, .int .i64 2, .int .i64 0] 60)).cell? ⟨pa, 4, none⟩ = some (f 4) := hF.cell (by omega)
        have a2 := hF.free 4
        clear hF
        go_wp2_with fail
        go_roundw
        case rel => exact ⟨5, 1, by omega, by omega, fun _ => rfl, rfl, rfl, Lib.hid (HA.out.setA HNN.out.1 HNN.out.2.1 4 (by omega) _)⟩
        case measure => simp [intOf]
      | 5, _, hq1 =>
        have o0 : wr.cell? ⟨ib, 15, none⟩ = some (.int .i64 18) := HR.out.c8.o.cell rfl
        have o1 : wr.cell? ⟨ib, 16, none⟩ = some (.int .i64 2) := HR.out.c8.o.cell rfl
        have o2 : wr.cell? ⟨ib, 17, none⟩ = some (.int .i64 0) := HR.out.c8.o.cell rfl
        have HA : Hid (PgS w (wr.alloc (.cells #[.int .i64 18, .int .i64 2, .int .i64 0] 60)) ab pb op oc pa eb qb rc ib gb fq) := Lib.hid (HR.out.alloc ((Fr.refl _).alloc _))
        obtain rfl : q = 1 := hq1 (by omega)
        clear hq hq1
        have p4 : (wr.alloc (.cells #[.int .i64 18, .int .i64 2, .int .i64 0] 60)).cell? ⟨pb, 4, none⟩ = some (.slice (some ⟨pa, 0, none⟩) 7 7) := HA.out.p.cell rfl
        obtain ⟨f, hF⟩ := HA.out.a
        have a1 : (wr.alloc (.cells #[.int .i64 18, .int .i64 2, .int .i64 0] 60)).cell? ⟨pa, 5, none⟩ = some (f 5) := hF.cell (by omega)
        have a2 := hF.free 5
        clear hF
        go_wp2_with fail
        go_roundw
        case rel => exact ⟨6, 1, by omega, by omega, fun _ => rfl, rfl, rfl, Lib.hid (HA.out.setA HNN.out.1 HNN.out.2.1 5 (by omega) _)⟩
        case measure => simp [intOf]
      | 6, _, hq1 =>
        have o0 : wr.cell? ⟨ib, 18, none⟩ = some (.int .i64 26) := HR.out.c8.o.cell rfl
        have o1 : wr.cell? ⟨ib, 19, none⟩ = some (.int .i64 0) := HR.out.c8.o.cell rfl
        have o2 : wr.cell? ⟨ib, 20, none⟩ = some (.int .i64 0) := HR.out.c8.o.cell rfl
        have HA : Hid (PgS w (wr.alloc (.cells #[.int .i64 26, .int .i64 0, .int .i64 0] 60)) ab pb op oc pa eb qb rc ib gb fq) := Lib.hid (HR.out.alloc ((Fr.refl _).alloc _))
        obtain rfl : q = 1 := hq1 (by omega)
        clear hq hq1
        have p4 : (wr.alloc (.cells #[.int .i64 26, .int .i64 0, .int .i64 0] 60)).cell? ⟨pb, 4, none⟩ = some (.slice (some ⟨pa, 0, none⟩) 7 7) := HA.out.p.cell rfl
        obtain ⟨f, hF⟩ := HA.out.a
        have a1 : (wr.alloc (.cells #[.int .i64 26, .int .i64 0, .int .i64 0] 60)).cell? ⟨pa, 6, none⟩ = some (f 6) := hF.cell (by omega)
        have a2 := hF.free 6
        clear hF
        go_wp2_with fail
        go_roundw
        case rel => exact ⟨7, 1, by omega, by omega, fun _ => rfl, rfl, rfl, Lib.hid (HA.out.setA HNN.out.1 HNN.out.2.1 6 (by omega) _)⟩
        case measure => simp [intOf]
      | 7, _, hq1 =>
        obtain rfl : q = 1 := hq1 (by omega)
        clear hq hq1
        have p3 : wr.cell? ⟨pb, 3, none⟩ = some (.slice (some ⟨op, 0, none⟩) 7 oc) := HR.out.p.cell rfl
        go_wp2_with fail
        go_loopw [96] (fun n wr => ∃ j : Nat, j ≤ 7 ∧ n = .int .i64 (j : Int) ∧ Hid (PgS w wr ab pb op oc pa eb qb rc ib gb fq)) (fun n _ => 7 - (intOf n).toNat)
        case atStart => exact ⟨0, by omega, rfl, HR⟩
        case round =>
          obtain ⟨j, hj, rfl, HR⟩ := hrel
          clear p3
          match j, hj with
          | 0, _ =>
            have q0 : wr.cell? ⟨op, 0, none⟩ = some (.int .i64 24) := HR.out.o.cell rfl
            have q1 : wr.cell? ⟨op, 1, none⟩ = some (.int .i64 1) := HR.out.o.cell rfl
            have q2 : wr.cell? ⟨op, 2, none⟩ = some (.int .i64 0) := HR.out.o.cell rfl
            have HA : Hid (PgS w (wr.alloc (.cells #[.int .i64 24, .int .i64 1, .int .i64 0] 60)) ab pb op oc pa eb qb rc ib gb fq) := Lib.hid (HR.out.alloc ((Fr.refl _).alloc _))
            have HB : Hid (Blk (wr.alloc (.cells #[.int .i64 24, .int .i64 1, .int .i64 0] 60)) wr.heap.size 60 #[.int .i64 24, .int .i64 1, .int .i64 0]) := Lib.hid (Blk.new _ _ _)
            have HOB : Hid (wr.heap.size ≠ op) := Lib.hid (fun e => by have := HR.out.o.lt; omega)
            have HRS : Hid (∀ W' : World, PgS w W' ab pb op oc pa eb qb rc ib gb fq → Blk W' wr.heap.size 60 #[.int .i64 24, .int .i64 1, .int .i64 0] → W'.cell? ⟨pb, 3, none⟩ = some (.slice (some ⟨op, 0, none⟩) 7 oc) ∧ W'.cell? ⟨wr.heap.size, 0, none⟩ = some (.int .i64 24) ∧ W'.cell? ⟨wr.heap.size, 1, none⟩ = some (.int .i64 1) ∧ W'.cell? ⟨wr.heap.size, 2, none⟩ = some (.int .i64 0) ∧ W'.cell? ⟨op, 0, none⟩ = some (.int .i64 24) ∧ W'.cell? ⟨op, 1, none⟩ = some (.int .i64 1) ∧ W'.cell? ⟨op, 2, none⟩ = some (.int .i64 0) ∧ W'.frozen? ⟨op, 0, none⟩ = false ∧ W'.frozen? ⟨op, 1, none⟩ = false ∧ W'.frozen? ⟨op, 2, none⟩ = false) := Lib.hid (fun W' h hb => ⟨h.p.cell rfl, hb.cell rfl, hb.cell rfl, hb.cell rfl, h.o.cell rfl, h.o.cell rfl, h.o.cell rfl, h.o.free _, h.o.free _, h.o.free _⟩)
            go_wp2_with fail
            have hq0 : Fr (wr.alloc (.cells #[.int .i64 24, .int .i64 1, .int .i64 0] 60)) (wr.alloc (.cells #[.int .i64 24, .int .i64 1, .int .i64 0] 60)).drew := (Fr.refl _).drew
            go_region_held3 (fun W' => W'.cell? ⟨pb, 3, none⟩ = some (.slice (some ⟨op, 0, none⟩) 7 oc) ∧ W'.cell? ⟨wr.heap.size, 0, none⟩ = some (.int .i64 24) ∧ W'.cell? ⟨wr.heap.size, 1, none⟩ = some (.int .i64 1) ∧ W'.cell? ⟨wr.heap.size, 2, none⟩ = some (.int .i64 0) ∧ W'.cell? ⟨op, 0, none⟩ = some (.int .i64 24) ∧ W'.cell? ⟨op, 1, none⟩ = some (.int .i64 1) ∧ W'.cell? ⟨op, 2, none⟩ = some (.int .i64 0) ∧ W'.frozen? ⟨op, 0, none⟩ = false ∧ W'.frozen? ⟨op, 1, none⟩ = false ∧ W'.frozen? ⟨op, 2, none⟩ = false)
              (first
                | exact HRS.out _ (HA.out.alloc hq0) (HB.out.fr hq0)
                | exact HRS.out _ HA2.out HB2.out
                | exact HRS.out _ (((HA2.out.setO HNN.out.1 HNN.out.2.2.2 0 _ rfl).setO HNN.out.1 HNN.out.2.2.2 1 _ rfl).setO HNN.out.1 HNN.out.2.2.2 2 _ rfl) (((HB2.out.far HOB.out _).far HOB.out _).far HOB.out _))
              ((go_at_call 40; refine (settled_24 pb eb 2 2 qb 2 rc _ _ _ _ _ (HA.out.alloc hq0).p).mono ?_; rintro e w2 ⟨rfl, hf2⟩; have HA2 : Hid (PgS w w2 ab pb op oc pa eb qb rc ib gb fq) := Lib.hid (HA.out.alloc (hq0.trans hf2)); have HB2 : Hid (Blk w2 wr.heap.size 60 #[.int .i64 24, .int .i64 1, .int .i64 0]) := Lib.hid (HB.out.fr (hq0.trans hf2)); clear hf2))
            go_wp2_with fail
            go_roundw
            case rel => exact ⟨1, by omega, rfl, Lib.hid (((HA2.out.setO HNN.out.1 HNN.out.2.2.2 0 _ rfl).setO HNN.out.1 HNN.out.2.2.2 1 _ rfl).setO HNN.out.1 HNN.out.2.2.2 2 _ rfl)⟩
            case measure => simp [intOf]
          | 1, _ =>
            have q0 : wr.cell? ⟨op, 3, none⟩ = some (.int .i64 18) := HR.out.o.cell rfl
            have q1 : wr.cell? ⟨op, 4, none⟩ = some (.int .i64 4) := HR.out.o.cell rfl
            have q2 : wr.cell? ⟨op, 5, none⟩ = some (.int .i64 0) := HR.out.o.cell rfl
            have HA : Hid (PgS w (wr.alloc (.cells #[.int .i64 18, .int .i64 4, .int .i64 0] 60)) ab pb op oc pa eb qb rc ib gb fq) := Lib.hid (HR.out.alloc ((Fr.refl _).alloc _))
            have HB : Hid (Blk (wr.alloc (.cells #[.int .i64 18, .int .i64 4, .int .i64 0] 60)) wr.heap.size 60 #[.int .i64 18, .int .i64 4, .int .i64 0]) := Lib.hid (Blk.new _ _ _)
            have HOB : Hid (wr.heap.size ≠ op) := Lib.hid (fun e => by have := HR.out.o.lt; omega)
            have HRS : Hid (∀ W' : World, PgS w W' ab pb op oc pa eb qb rc ib gb fq → Blk W' wr.heap.size 60 #[.int .i64 18, .int .i64 4, .int .i64 0] → W'.cell? ⟨pb, 3, none⟩ = some (.slice (some ⟨op, 0, none⟩) 7 oc) ∧ W'.cell? ⟨wr.heap.size, 0, none⟩ = some (.int .i64 18) ∧ W'.cell? ⟨wr.heap.size, 1, none⟩ = some (.int .i64 4) ∧ W'.cell? ⟨wr.heap.size, 2, none⟩ = some (.int .i64 0) ∧ W'.cell? ⟨op, 3, none⟩ = some (.int .i64 18) ∧ W'.cell? ⟨op, 4, none⟩ = some (.int .i64 4) ∧ W'.cell? ⟨op, 5, none⟩ = some (.int .i64 0) ∧ W'.frozen? ⟨op, 3, none⟩ = false ∧ W'.frozen? ⟨op, 4, none⟩ = false ∧ W'.frozen? ⟨op, 5, none⟩ = false) := Lib.hid (fun W' h hb => ⟨h.p.cell rfl, hb.cell rfl, hb.cell rfl, hb.cell rfl, h.o.cell rfl, h.o.cell rfl, h.o.cell rfl, h.o.free _, h.o.free _, h.o.free _⟩)
            go_wp2_with fail
            have hq0 : Fr (wr.alloc (.cells #[.int .i64 18, .int .i64 4, .int .i64 0] 60)) (wr.alloc (.cells #[.int .i64 18, .int .i64 4, .int .i64 0] 60)).drew := (Fr.refl _).drew
            go_region_held3 (fun W' => W'.cell? ⟨pb, 3, none⟩ = some (.slice (some ⟨op, 0, none⟩) 7 oc) ∧ W'.cell? ⟨wr.heap.size, 0, none⟩ = some (.int .i64 18) ∧ W'.cell? ⟨wr.heap.size, 1, none⟩ = some (.int .i64 4) ∧ W'.cell? ⟨wr.heap.size, 2, none⟩ = some (.int .i64 0) ∧ W'.cell? ⟨op, 3, none⟩ = some (.int .i64 18) ∧ W'.cell? ⟨op, 4, none⟩ = some (.int .i64 4) ∧ W'.cell? ⟨op, 5, none⟩ = some (.int .i64 0) ∧ W'.frozen? ⟨op, 3, none⟩ = false ∧ W'.frozen? ⟨op, 4, none⟩ = false ∧ W'.frozen? ⟨op, 5, none⟩ = false)
              (first
                | exact HRS.out _ (HA.out.alloc hq0) (HB.out.fr hq0)
                | exact HRS.out _ HA2.out HB2.out
                | exact HRS.out _ (((HA2.out.setO HNN.out.1 HNN.out.2.2.2 3 _ rfl).setO HNN.out.1 HNN.out.2.2.2 4 _ rfl).setO HNN.out.1 HNN.out.2.2.2 5 _ rfl) (((HB2.out.far HOB.out _).far HOB.out _).far HOB.out _))
              ((go_at_call 40; refine (settled_18a pb eb 2 2 qb 2 rc _ _ _ _ _ (HA.out.alloc hq0).p).mono ?_; rintro e w2 ⟨rfl, hf2⟩; have HA2 : Hid (PgS w w2 ab pb op oc pa eb qb rc ib gb fq) := Lib.hid (HA.out.alloc (hq0.trans hf2)); have HB2 : Hid (Blk w2 wr.heap.size 60 #[.int .i64 18, .int .i64 4, .int .i64 0]) := Lib.hid (HB.out.fr (hq0.trans hf2)); clear hf2))
            go_wp2_with fail
            go_roundw
            case rel => exact ⟨2, by omega, rfl, Lib.hid (((HA2.out.setO HNN.out.1 HNN.out.2.2.2 3 _ rfl).setO HNN.out.1 HNN.out.2.2.2 4 _ rfl).setO HNN.out.1 HNN.out.2.2.2 5 _ rfl)⟩
            case measure => simp [intOf]
          | 2, _ =>
            have q0 : wr.cell? ⟨op, 6, none⟩ = some (.int .i64 1) := HR.out.o.cell rfl
            have q1 : wr.cell? ⟨op, 7, none⟩ = some (.int .i64 65) := HR.out.o.cell rfl
            have q2 : wr.cell? ⟨op, 8, none⟩ = some (.int .i64 0) := HR.out.o.cell rfl
            have HA : Hid (PgS w (wr.alloc (.cells #[.int .i64 1, .int .i64 65, .int .i64 0] 60)) ab pb op oc pa eb qb rc ib gb fq) := Lib.hid (HR.out.alloc ((Fr.refl _).alloc _))
            have HB : Hid (Blk (wr.alloc (.cells #[.int .i64 1, .int .i64 65, .int .i64 0] 60)) wr.heap.size 60 #[.int .i64 1, .int .i64 65, .int .i64 0]) := Lib.hid (Blk.new _ _ _)
            have HOB : Hid (wr.heap.size ≠ op) := Lib.hid (fun e => by have := HR.out.o.lt; omega)
            have HRS : Hid (∀ W' : World, PgS w W' ab pb op oc pa eb qb rc ib gb fq → Blk W' wr.heap.size 60 #[.int .i64 1, .int .i64 65, .int .i64 0] → W'.cell? ⟨pb, 3, none⟩ = some (.slice (some ⟨op, 0, none⟩) 7 oc) ∧ W'.cell? ⟨wr.heap.size, 0, none⟩ = some (.int .i64 1) ∧ W'.cell? ⟨wr.heap.size, 1, none⟩ = some (.int .i64 65) ∧ W'.cell? ⟨wr.heap.size, 2, none⟩ = some (.int .i64 0) ∧ W'.cell? ⟨op, 6, none⟩ = some (.int .i64 1) ∧ W'.cell? ⟨op, 7, none⟩ = some (.int .i64 65) ∧ W'.cell? ⟨op, 8, none⟩ = some (.int .i64 0) ∧ W'.frozen? ⟨op, 6, none⟩ = false ∧ W'.frozen? ⟨op, 7, none⟩ = false ∧ W'.frozen? ⟨op, 8, none⟩ = false) := Lib.hid (fun W' h hb => ⟨h.p.cell rfl, hb.cell rfl, hb.cell rfl, hb.cell rfl, h.o.cell rfl, h.o.cell rfl, h.o.cell rfl, h.o.free _, h.o.free _, h.o.free _⟩)
            go_wp2_with fail
            have hq0 : Fr (wr.alloc (.cells #[.int .i64 1, .int .i64 65, .int .i64 0] 60)) (wr.alloc (.cells #[.int .i64 1, .int .i64 65, .int .i64 0] 60)).drew := (Fr.refl _).drew
            go_region_held3 (fun W' => W'.cell? ⟨pb, 3, none⟩ = some (.slice (some ⟨op, 0, none⟩) 7 oc) ∧ W'.cell? ⟨wr.heap.size, 0, none⟩ = some (.int .i64 1) ∧ W'.cell? ⟨wr.heap.size, 1, none⟩ = some (.int .i64 65) ∧ W'.cell? ⟨wr.heap.size, 2, none⟩ = some (.int .i64 0) ∧ W'.cell? ⟨op, 6, none⟩ = some (.int .i64 1) ∧ W'.cell? ⟨op, 7, none⟩ = some (.int .i64 65) ∧ W'.cell? ⟨op, 8, none⟩ = some (.int .i64 0) ∧ W'.frozen? ⟨op, 6, none⟩ = false ∧ W'.frozen? ⟨op, 7, none⟩ = false ∧ W'.frozen? ⟨op, 8, none⟩ = false)
              (first
                | exact HRS.out _ (HA.out.alloc hq0) (HB.out.fr hq0)
                | exact HRS.out _ HA2.out HB2.out
                | exact HRS.out _ (((HA2.out.setO HNN.out.1 HNN.out.2.2.2 6 _ rfl).setO HNN.out.1 HNN.out.2.2.2 7 _ rfl).setO HNN.out.1 HNN.out.2.2.2 8 _ rfl) (((HB2.out.far HOB.out _).far HOB.out _).far HOB.out _))
              ((go_at_call 40; refine (settled_1 pb eb 2 2 qb 2 rc _ _ _ _ _ (HA.out.alloc hq0).p).mono ?_; rintro e w2 ⟨rfl, hf2⟩; have HA2 : Hid (PgS w w2 ab pb op oc pa eb qb rc ib gb fq) := Lib.hid (HA.out.alloc (hq0.trans hf2)); have HB2 : Hid (Blk w2 wr.heap.size 60 #[.int .i64 1, .int .i64 65, .int .i64 0]) := Lib.hid (HB.out.fr (hq0.trans hf2)); clear hf2))
            go_wp2_with fail
            go_roundw
            case rel => exact ⟨3, by omega, rfl, Lib.hid (((HA2.out.setO HNN.out.1 HNN.out.2.2.2 6 _ rfl).setO HNN.out.1 HNN.out.2.2.2 7 _ rfl).setO HNN.out.1 HNN.out.2.2.2 8 _ rfl)⟩
            case measure => simp [intOf]
          | 3, _ =>
            have q0 : wr.cell? ⟨op, 9, none⟩ = some (.int .i64 5) := HR.out.o.cell rfl
            have q1 : wr.cell? ⟨op, 10, none⟩ = some (.int .i64 3) := HR.out.o.cell rfl
            have q2 : wr.cell? ⟨op, 11, none⟩ = some (.int .i64 0) := HR.out.o.cell rfl
            have HA : Hid (PgS w (wr.alloc (.cells #[.int .i64 5, .int .i64 3, .int .i64 0] 60)) ab pb op oc pa eb qb rc ib gb fq) := Lib.hid (HR.out.alloc ((Fr.refl _).alloc _))
            have HB : Hid (Blk (wr.alloc (.cells #[.int .i64 5, .int .i64 3, .int .i64 0] 60)) wr.heap.size 60 #[.int .i64 5, .int .i64 3, .int .i64 0]) := Lib.hid (Blk.new _ _ _)
            have HOB : Hid (wr.heap.size ≠ op) := Lib.hid (fun e => by have := HR.out.o.lt; omega)
            have HRS : Hid (∀ W' : World, PgS w W' ab pb op oc pa eb qb rc ib gb fq → Blk W' wr.heap.size 60 #[.int .i64 5, .int .i64 3, .int .i64 0] → W'.cell? ⟨pb, 3, none⟩ = some (.slice (some ⟨op, 0, none⟩) 7 oc) ∧ W'.cell? ⟨wr.heap.size, 0, none⟩ = some (.int .i64 5) ∧ W'.cell? ⟨wr.heap.size, 1, none⟩ = some (.int .i64 3) ∧ W'.cell? ⟨wr.heap.size, 2, none⟩ = some (.int .i64 0) ∧ W'.cell? ⟨op, 9, none⟩ = some (.int .i64 5) ∧ W'.cell? ⟨op, 10, none⟩ = some (.int .i64 3) ∧ W'.cell? ⟨op, 11, none⟩ = some (.int .i64 0) ∧ W'.frozen? ⟨op, 9, none⟩ = false ∧ W'.frozen? ⟨op, 10, none⟩ = false ∧ W'.frozen? ⟨op, 11, none⟩ = false) := Lib.hid (fun W' h hb => ⟨h.p.cell rfl, hb.cell rfl, hb.cell rfl, hb.cell rfl, h.o.cell rfl, h.o.cell rfl, h.o.cell rfl, h.o.free _, h.o.free _, h.o.free _⟩)
            go_wp2_with fail
            have hq0 : Fr (wr.alloc (.cells #[.int .i64 5, .int .i64 3, .int .i64 0] 60)) (wr.alloc (.cells #[.int .i64 5, .int .i64 3, .int .i64 0] 60)).drew := (Fr.refl _).drew
            go_region_held3 (fun W' => W'.cell? ⟨pb, 3, none⟩ = some (.slice (some ⟨op, 0, none⟩) 7 oc) ∧ W'.cell? ⟨wr.heap.size, 0, none⟩ = some (.int .i64 5) ∧ W'.cell? ⟨wr.heap.size, 1, none⟩ = some (.int .i64 3) ∧ W'.cell? ⟨wr.heap.size, 2, none⟩ = some (.int .i64 0) ∧ W'.cell? ⟨op, 9, none⟩ = some (.int .i64 5) ∧ W'.cell? ⟨op, 10, none⟩ = some (.int .i64 3) ∧ W'.cell? ⟨op, 11, none⟩ = some (.int .i64 0) ∧ W'.frozen? ⟨op, 9, none⟩ = false ∧ W'.frozen? ⟨op, 10, none⟩ = false ∧ W'.frozen? ⟨op, 11, none⟩ = false)
              (first
                | exact HRS.out _ (HA.out.alloc hq0) (HB.out.fr hq0)
                | exact HRS.out _ HA2.out HB2.out
                | exact HRS.out _ (((HA2.out.setO HNN.out.1 HNN.out.2.2.2 9 _ rfl).setO HNN.out.1 HNN.out.2.2.2 10 _ rfl).setO HNN.out.1 HNN.out.2.2.2 11 _ rfl) (((HB2.out.far HOB.out _).far HOB.out _).far HOB.out _))
              ((go_at_call 40; refine (settled_5 pb eb 2 2 qb 2 rc _ _ _ _ _ (HA.out.alloc hq0).p).mono ?_; rintro e w2 ⟨rfl, hf2⟩; have HA2 : Hid (PgS w w2 ab pb op oc pa eb qb rc ib gb fq) := Lib.hid (HA.out.alloc (hq0.trans hf2)); have HB2 : Hid (Blk w2 wr.heap.size 60 #[.int .i64 5, .int .i64 3, .int .i64 0]) := Lib.hid (HB.out.fr (hq0.trans hf2)); clear hf2))
            go_wp2_with fail
            go_roundw
            case rel => exact ⟨4, by omega, rfl, Lib.hid (((HA2.out.setO HNN.out.1 HNN.out.2.2.2 9 _ rfl).setO HNN.out.1 HNN.out.2.2.2 10 _ rfl).setO HNN.out.1 HNN.out.2.2.2 11 _ rfl)⟩
            case measure => simp [intOf]
          | 4, _ =>
            have q0 : wr.cell? ⟨op, 12, none⟩ = some (.int .i64 23) := HR.out.o.cell rfl
            have q1 : wr.cell? ⟨op, 13, none⟩ = some (.int .i64 2) := HR.out.o.cell rfl
            have q2 : wr.cell? ⟨op, 14, none⟩ = some (.int .i64 0) := HR.out.o.cell rfl
            have HA : Hid (PgS w (wr.alloc (.cells #[.int .i64 23, .int .i64 2, .int .i64 0] 60)) ab pb op oc pa eb qb rc ib gb fq) := Lib.hid (HR.out.alloc ((Fr.refl _).alloc _))
            have HB : Hid (Blk (wr.alloc (.cells #[.int .i64 23, .int .i64 2, .int .i64 0] 60)) wr.heap.size 60 #[.int .i64 23, .int .i64 2, .int .i64 0]) := Lib.hid (Blk.new _ _ _)
            have HOB : Hid (wr.heap.size ≠ op) := Lib.hid (fun e => by have := HR.out.o.lt; omega)
            have HRS : Hid (∀ W' : World, PgS w W' ab pb op oc pa eb qb rc ib gb fq → Blk W' wr.heap.size 60 #[.int .i64 23, .int .i64 2, .int .i64 0] → W'.cell? ⟨pb, 3, none⟩ = some (.slice (some ⟨op, 0, none⟩) 7 oc) ∧ W'.cell? ⟨wr.heap.size, 0, none⟩ = some (.int .i64 23) ∧ W'.cell? ⟨wr.heap.size, 1, none⟩ = some (.int .i64 2) ∧ W'.cell? ⟨wr.heap.size, 2, none⟩ = some (.int .i64 0) ∧ W'.cell? ⟨op, 12, none⟩ = some (.int .i64 23) ∧ W'.cell? ⟨op, 13, none⟩ = some (.int .i64 2) ∧ W'.cell? ⟨op, 14, none⟩ = some (.int .i64 0) ∧ W'.frozen? ⟨op, 12, none⟩ = false ∧ W'.frozen? ⟨op, 13, none⟩ = false ∧ W'.frozen? ⟨op, 14, none⟩ = false) := Lib.hid (fun W' h hb => ⟨h.p.cell rfl, hb.cell rfl, hb.cell rfl, hb.cell rfl, h.o.cell rfl, h.o.cell rfl, h.o.cell rfl, h.o.free _, h.o.free _, h.o.free _⟩)
            go_wp2_with fail
            have hq0 : Fr (wr.alloc (.cells #[.int .i64 23, .int .i64 2, .int .i64 0] 60)) (wr.alloc (.cells #[.int .i64 23, .int .i64 2, .int .i64 0] 60)).drew := (Fr.refl _).drew
            go_region_held3 (fun W' => W'.cell? ⟨pb, 3, none⟩ = some (.slice (some ⟨op, 0, none⟩) 7 oc) ∧ W'.cell? ⟨wr.heap.size, 0, none⟩ = some (.int .i64 23) ∧ W'.cell? ⟨wr.heap.size, 1, none⟩ = some (.int .i64 2) ∧ W'.cell? ⟨wr.heap.size, 2, none⟩ = some (.int .i64 0) ∧ W'.cell? ⟨op, 12, none⟩ = some (.int .i64 23) ∧ W'.cell? ⟨op, 13, none⟩ = some (.int .i64 2) ∧ W'.cell? ⟨op, 14, none⟩ = some (.int .i64 0) ∧ W'.frozen? ⟨op, 12, none⟩ = false ∧ W'.frozen? ⟨op, 13, none⟩ = false ∧ W'.frozen? ⟨op, 14, none⟩ = false)
              (first
                | exact HRS.out _ (HA.out.alloc hq0) (HB.out.fr hq0)
                | exact HRS.out _ HA2.out HB2.out
                | exact HRS.out _ (((HA2.out.setO HNN.out.1 HNN.out.2.2.2 12 _ rfl).setO HNN.out.1 HNN.out.2.2.2 13 _ rfl).setO HNN.out.1 HNN.out.2.2.2 14 _ rfl) (((HB2.out.far HOB.out _).far HOB.out _).far HOB.out _))
              ((go_at_call 40; refine (settled_23 pb eb 2 2 qb 2 rc _ _ _ _ _ (HA.out.alloc hq0).p).mono ?_; rintro e w2 ⟨rfl, hf2⟩; have HA2 : Hid (PgS w w2 ab pb op oc pa eb qb rc ib gb fq) := Lib.hid (HA.out.alloc (hq0.trans hf2)); have HB2 : Hid (Blk w2 wr.heap.size 60 #[.int .i64 23, .int .i64 2, .int .i64 0]) := Lib.hid (HB.out.fr (hq0.trans hf2)); clear hf2))
            go_wp2_with fail
            go_roundw
            case rel => exact ⟨5, by omega, rfl, Lib.hid (((HA2.out.setO HNN.out.1 HNN.out.2.2.2 12 _ rfl).setO HNN.out.1 HNN.out.2.2.2 13 _ rfl).setO HNN.out.1 HNN.out.2.2.2 14 _ rfl)⟩
            case measure => simp [intOf]
          | 5, _ =>
            have q0 : wr.cell? ⟨op, 15, none⟩ = some (.int .i64 18) := HR.out.o.cell rfl
            have q1 : wr.cell? ⟨op, 16, none⟩ = some (.int .i64 2) := HR.out.o.cell rfl
            have q2 : wr.cell? ⟨op, 17, none⟩ = some (.int .i64 0) := HR.out.o.cell rfl
            have HA : Hid (PgS w (wr.alloc (.cells #[.int .i64 18, .int .i64 2, .int .i64 0] 60)) ab pb op oc pa eb qb rc ib gb fq) := Lib.hid (HR.out.alloc ((Fr.refl _).alloc _))
            have HB : Hid (Blk (wr.alloc (.cells #[.int .i64 18, .int .i64 2, .int .i64 0] 60)) wr.heap.size 60 #[.int .i64 18, .int .i64 2, .int .i64 0]) := Lib.hid (Blk.new _ _ _)
            have HOB : Hid (wr.heap.size ≠ op) := Lib.hid (fun e => by have := HR.out.o.lt; omega)
            have HRS : Hid (∀ W' : World, PgS w W' ab pb op oc pa eb qb rc ib gb fq → Blk W' wr.heap.size 60 #[.int .i64 18, .int .i64 2, .int .i64 0] → W'.cell? ⟨pb, 3, none⟩ = some (.slice (some ⟨op, 0, none⟩) 7 oc) ∧ W'.cell? ⟨wr.heap.size, 0, none⟩ = some (.int .i64 18) ∧ W'.cell? ⟨wr.heap.size, 1, none⟩ = some (.int .i64 2) ∧ W'.cell? ⟨wr.heap.size, 2, none⟩ = some (.int .i64 0) ∧ W'.cell? ⟨op, 15, none⟩ = some (.int .i64 18) ∧ W'.cell? ⟨op, 16, none⟩ = some (.int .i64 2) ∧ W'.cell? ⟨op, 17, none⟩ = some (.int .i64 0) ∧ W'.frozen? ⟨op, 15, none⟩ = false ∧ W'.frozen? ⟨op, 16, none⟩ = false ∧ W'.frozen? ⟨op, 17, none⟩ = false) := Lib.hid (fun W' h hb => ⟨h.p.cell rfl, hb.cell rfl, hb.cell rfl, hb.cell rfl, h.o.cell rfl, h.o.cell rfl, h.o.cell rfl, h.o.free _, h.o.free _, h.o.free _⟩)
            go_wp2_with fail
            have hq0 : Fr (wr.alloc (.cells #[.int .i64 18, .int .i64 2, .int .i64 0] 60)) (wr.alloc (.cells #[.int .i64 18, .int .i64 2, .int .i64 0] 60)).drew := (Fr.refl _).drew
            go_region_held3 (fun W' => W'.cell? ⟨pb, 3, none⟩ = some (.slice (some ⟨op, 0, none⟩) 7 oc) ∧ W'.cell? ⟨wr.heap.size, 0, none⟩ = some (.int .i64 18) ∧ W'.cell? ⟨wr.heap.size, 1, none⟩ = some (.int .i64 2) ∧ W'.cell? ⟨wr.heap.size, 2, none⟩ = some (.int .i64 0) ∧ W'.cell? ⟨op, 15, none⟩ = some (.int .i64 18) ∧ W'.cell? ⟨op, 16, none⟩ = some (.int .i64 2) ∧ W'.cell? ⟨op, 17, none⟩ = some (.int .i64 0) ∧ W'.frozen? ⟨op, 15, none⟩ = false ∧ W'.frozen? ⟨op, 16, none⟩ = false ∧ W'.frozen? ⟨op, 17, none⟩ = false)
              (first
                | exact HRS.out _ (HA.out.alloc hq0) (HB.out.fr hq0)
                | exact HRS.out _ HA2.out HB2.out
                | exact HRS.out _ (((HA2.out.setO HNN.out.1 HNN.out.2.2.2 15 _ rfl).setO HNN.out.1 HNN.out.2.2.2 16 _ rfl).setO HNN.out.1 HNN.out.2.2.2 17 _ rfl) (((HB2.out.far HOB.out _).far HOB.out _).far HOB.out _))
              ((go_at_call 40; refine (settled_18b pb eb 2 2 qb 2 rc _ _ _ _ _ (HA.out.alloc hq0).p).mono ?_; rintro e w2 ⟨rfl, hf2⟩; have HA2 : Hid (PgS w w2 ab pb op oc pa eb qb rc ib gb fq) := Lib.hid (HA.out.alloc (hq0.trans hf2)); have HB2 : Hid (Blk w2 wr.heap.size 60 #[.int .i64 18, .int .i64 2, .int .i64 0]) := Lib.hid (HB.out.fr (hq0.trans hf2)); clear hf2))
            go_wp2_with fail
            go_roundw
            case rel => exact ⟨6, by omega, rfl, Lib.hid (((HA2.out.setO HNN.out.1 HNN.out.2.2.2 15 _ rfl).setO HNN.out.1 HNN.out.2.2.2 16 _ rfl).setO HNN.out.1 HNN.out.2.2.2 17 _ rfl)⟩
            case measure => simp [intOf]
          | 6, _ =>
            have q0 : wr.cell? ⟨op, 18, none⟩ = some (.int .i64 26) := HR.out.o.cell rfl
            have q1 : wr.cell? ⟨op, 19, none⟩ = some (.int .i64 0) := HR.out.o.cell rfl
            have q2 : wr.cell? ⟨op, 20, none⟩ = some (.int .i64 0) := HR.out.o.cell rfl
            have HA : Hid (PgS w (wr.alloc (.cells #[.int .i64 26, .int .i64 0, .int .i64 0] 60)) ab pb op oc pa eb qb rc ib gb fq) := Lib.hid (HR.out.alloc ((Fr.refl _).alloc _))
            have HB : Hid (Blk (wr.alloc (.cells #[.int .i64 26, .int .i64 0, .int .i64 0] 60)) wr.heap.size 60 #[.int .i64 26, .int .i64 0, .int .i64 0]) := Lib.hid (Blk.new _ _ _)
            have HOB : Hid (wr.heap.size ≠ op) := Lib.hid (fun e => by have := HR.out.o.lt; omega)
            have HRS : Hid (∀ W' : World, PgS w W' ab pb op oc pa eb qb rc ib gb fq → Blk W' wr.heap.size 60 #[.int .i64 26, .int .i64 0, .int .i64 0] → W'.cell? ⟨pb, 3, none⟩ = some (.slice (some ⟨op, 0, none⟩) 7 oc) ∧ W'.cell? ⟨wr.heap.size, 0, none⟩ = some (.int .i64 26) ∧ W'.cell? ⟨wr.heap.size, 1, none⟩ = some (.int .i64 0) ∧ W'.cell? ⟨wr.heap.size, 2, none⟩ = some (.int .i64 0) ∧ W'.cell? ⟨op, 18, none⟩ = some (.int .i64 26) ∧ W'.cell? ⟨op, 19, none⟩ = some (.int .i64 0) ∧ W'.cell? ⟨op, 20, none⟩ = some (.int .i64 0) ∧ W'.frozen? ⟨op, 18, none⟩ = false ∧ W'.frozen? ⟨op, 19, none⟩ = false ∧ W'.frozen? ⟨op, 20, none⟩ = false) := Lib.hid (fun W' h hb => ⟨h.p.cell rfl, hb.cell rfl, hb.cell rfl, hb.cell rfl, h.o.cell rfl, h.o.cell rfl, h.o.cell rfl, h.o.free _, h.o.free _, h.o.free _⟩)
            go_wp2_with fail
            have hq0 : Fr (wr.alloc (.cells #[.int .i64 26, .int .i64 0, .int .i64 0] 60)) (wr.alloc (.cells #[.int .i64 26, .int .i64 0, .int .i64 0] 60)).drew := (Fr.refl _).drew
            go_region_held3 (fun W' => W'.cell? ⟨pb, 3, none⟩ = some (.slice (some ⟨op, 0, none⟩) 7 oc) ∧ W'.cell? ⟨wr.heap.size, 0, none⟩ = some (.int .i64 26) ∧ W'.cell? ⟨wr.heap.size, 1, none⟩ = some (.int .i64 0) ∧ W'.cell? ⟨wr.heap.size, 2, none⟩ = some (.int .i64 0) ∧ W'.cell? ⟨op, 18, none⟩ = some (.int .i64 26) ∧ W'.cell? ⟨op, 19, none⟩ = some (.int .i64 0) ∧ W'.cell? ⟨op, 20, none⟩ = some (.int .i64 0) ∧ W'.frozen? ⟨op, 18, none⟩ = false ∧ W'.frozen? ⟨op, 19, none⟩ = false ∧ W'.frozen? ⟨op, 20, none⟩ = false)
              (first
                | exact HRS.out _ (HA.out.alloc hq0) (HB.out.fr hq0)
                | exact HRS.out _ HA2.out HB2.out
                | exact HRS.out _ (((HA2.out.setO HNN.out.1 HNN.out.2.2.2 18 _ rfl).setO HNN.out.1 HNN.out.2.2.2 19 _ rfl).setO HNN.out.1 HNN.out.2.2.2 20 _ rfl) (((HB2.out.far HOB.out _).far HOB.out _).far HOB.out _))
              ((go_at_call 40; refine (settled_26 pb eb 2 2 qb 2 rc _ _ _ _ _ (HA.out.alloc hq0).p).mono ?_; rintro e w2 ⟨rfl, hf2⟩; have HA2 : Hid (PgS w w2 ab pb op oc pa eb qb rc ib gb fq) := Lib.hid (HA.out.alloc (hq0.trans hf2)); have HB2 : Hid (Blk w2 wr.heap.size 60 #[.int .i64 26, .int .i64 0, .int .i64 0]) := Lib.hid (HB.out.fr (hq0.trans hf2)); clear hf2))
            go_wp2_with fail
            go_roundw
            case rel => exact ⟨7, by omega, rfl, Lib.hid (((HA2.out.setO HNN.out.1 HNN.out.2.2.2 18 _ rfl).setO HNN.out.1 HNN.out.2.2.2 19 _ rfl).setO HNN.out.1 HNN.out.2.2.2 20 _ rfl)⟩
            case measure => simp [intOf]
          | 7, _ =>
            go_wp2_with fail
            go_ret2
            exact ⟨ab, pb, op, oc, pa, eb, qb, rc, fq, rfl, HR.out.fr, HR.out.p, HR.out.o, HR.out.e, HR.out.q, HRC.out.1, HRC.out.2, HR.out.lo.1, HR.out.lo.2.1, HR.out.lo.2.2.2.1, HR.out.lo.2.2.2.2⟩
          | (k + 8), hj => exact absurd hj (by omega)
      | (k + 8), hj, _ => exact absurd hj (by omega)
end Go.Proofs.YtdnckbcknahakaaGreat
