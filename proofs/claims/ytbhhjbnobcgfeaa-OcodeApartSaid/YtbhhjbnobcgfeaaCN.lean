/- The code's Renumber. -/
import Derived.Test.YtbhhjbnobcgfeaaCQ
import Derived.Test.YtbhhjbnobcgfeaaRG
namespace Go.Proofs.Ytbhhjbnobcgfeaa
open Go.RowKit
set_option linter.unusedVariables false
set_option linter.unusedSimpArgs false

def labQ (op : Int) (B off : Nat) : Option Addr := if op = 20 ∨ op = 21 ∨ op = 22 ∨ op = 27 ∨ op = 29 then some ⟨B, off + 1, none⟩ else if op = 30 then some ⟨B, off + 2, none⟩ else none
set_option maxHeartbeats 4000000 in
theorem named_at (op : Int) (B off : Nat) (w : World) (hc : w.cell? ⟨B, off, none⟩ = some (.int .i64 op)) : Calls Try.prog 47 #[.pointer (some ⟨B, off, none⟩)] w fun e w' => e = .returned (.pointer (labQ op B off)) ∧ w = w' := by
  by_cases h : op = 20 ∨ op = 21 ∨ op = 22 ∨ op = 27 ∨ op = 29 ∨ op = 30
  · rcases h with rfl | rfl | rfl | rfl | rfl | rfl
    all_goals
      go_enter Try.func47, Try.ntmps47
      go_wp2
      first | go_ret | skip
      exact ⟨rfl, rfl⟩
  · have n20 : (op == 20) = false := by rw [beq_eq_false_iff_ne]; omega
    have n21 : (op == 21) = false := by rw [beq_eq_false_iff_ne]; omega
    have n22 : (op == 22) = false := by rw [beq_eq_false_iff_ne]; omega
    have n27 : (op == 27) = false := by rw [beq_eq_false_iff_ne]; omega
    have n29 : (op == 29) = false := by rw [beq_eq_false_iff_ne]; omega
    have n30 : (op == 30) = false := by rw [beq_eq_false_iff_ne]; omega
    have HR : Hid (labQ op B off = none) := Lib.hid (by simp only [not_or] at h; simp [labQ, h])
    clear h
    go_enter Try.func47, Try.ntmps47
    go_wp2
    first | go_ret | skip
    rw [HR.out]
    exact ⟨rfl, rfl⟩
theorem Ex.setNew {X : Nat → Prop} {a b : World} (h : Ex X a b) {p : Addr} (hp : a.heap.size ≤ p.block) (v : Value) : Ex X a (b.setCell p v) :=
  ⟨by have := h.size; simpa [World.setCell] using this, fun k hk hx => (Below.heap_setCell _ _ _ _ (by omega)).trans (h.block k hk hx)⟩
/-- What Renumber hands back. -/
def ReP (c : Cod) (w : World) (e : Ending) (w' : World) : Prop :=
  (exE c = 0 → ∃ dv ov gv, e = .returned (.tuple #[codV (renC c) dv ov gv, .int .i64 0]) ∧ CodW w' (renC c) dv ov gv) ∧ (¬ exE c = 0 → e = .returned (.tuple #[.agg #[.string ⟨#[]⟩, .slice none 0 0, .slice none 0 0, .slice none 0 0, .int .i64 0, .int .i64 0], .int .i64 (exE c : Nat)]))
set_option maxRecDepth 100000 in
set_option maxHeartbeats 8000000 in
theorem Renumber_any (c : Cod) (dv ov gv : Value) (w : World) (hc : CodW w c dv ov gv) (hw : wfC c) (hs : c.name.size ≤ 2000000) (ht : ∀ x ∈ c.data, x.t.size ≤ 2000000) (hgl : c.gl.length ≤ 2000000) (hws : ∀ x ∈ c.data, x.ws.length ≤ 2000000) :
    Calls Try.prog 24 #[codV c dv ov gv] w fun e w' => ReP c w e w' ∧ Fr w w' := by
  have HC := Lib.hid hc
  have HH := Lib.hid (And.intro hw (And.intro hs (And.intro ht (And.intro hgl hws))))
  have CX := Lib.hid (fun W (h : Fr w W) => Check_any c dv ov gv W (hc.fr h) hw hs ht)
  have CC := Lib.hid (fun W (h : Fr w W) (h0 : exE c = 0) => copied_any c dv ov gv W (hc.fr h) (by have := (lim_ok (ex_lim h0).1).1; omega) hgl (by have := (lim_ok (ex_lim h0).1).2.1; omega) hws)
  obtain ⟨E, hE⟩ : ∃ y, y = exE c := ⟨_, rfl⟩
  have HE := Lib.hid hE
  rw [← hE] at CX CC
  unfold codV at CX CC ⊢
  obtain ⟨nm, hnm⟩ : ∃ y, y = c.name := ⟨_, rfl⟩
  obtain ⟨procs, hpr⟩ : ∃ y, y = c.procs := ⟨_, rfl⟩
  obtain ⟨labels, hlb⟩ : ∃ y, y = c.labels := ⟨_, rfl⟩
  rw [← hnm, ← hpr, ← hlb] at CX CC ⊢
  obtain ⟨da, dc, hdv, _, _, _⟩ := hc.d.form
  obtain ⟨oa, oc, hov, _, _, _⟩ := hc.o.form
  obtain ⟨ga, gc, hgv, _, _, _⟩ := hc.g.form
  obtain ⟨ld, hld⟩ : ∃ y, y = c.data.length := ⟨_, rfl⟩
  obtain ⟨lo, hlo⟩ : ∃ y, y = c.ops.length := ⟨_, rfl⟩
  obtain ⟨lg, hlg⟩ : ∃ y, y = c.gl.length := ⟨_, rfl⟩
  rw [← hld] at hdv
  rw [← hlo] at hov
  rw [← hlg] at hgv
  subst hdv hov hgv
  obtain ⟨wa, hwa⟩ : ∃ y, y = w.alloc (.cells #[.string nm, .slice da ld dc, .slice oa lo oc, .slice ga lg gc, .int .i64 procs, .int .i64 labels] 26) := ⟨_, rfl⟩
  have HFA : Hid (Fr w wa) := Lib.hid (by rw [hwa]; exact (Fr.refl w).alloc _)
  have HRA : Hid (CdR wa w.heap.size (.string nm) (.slice da ld dc) (.slice oa lo oc) (.slice ga lg gc) (.int .i64 procs) (.int .i64 labels)) := Lib.hid (by rw [hwa]; exact CdR.new w _ _ _ _ _ _)
  have hza : wa.heap.size = w.heap.size + 1 := by rw [hwa]; exact size_al w _
  have HWA := Lib.hid hwa
  obtain ⟨w0, hw0⟩ : ∃ y, y = wa.alloc (.cells #[.string ⟨#[]⟩, .slice none 0 0, .slice none 0 0, .slice none 0 0, .int .i64 0, .int .i64 0] 26) := ⟨_, rfl⟩
  have HF0 : Hid (Fr w w0) := Lib.hid (by rw [hw0]; exact HFA.out.alloc _)
  have HR0 : Hid (CdR w0 w.heap.size (.string nm) (.slice da ld dc) (.slice oa lo oc) (.slice ga lg gc) (.int .i64 procs) (.int .i64 labels)) := Lib.hid (by rw [hw0]; exact HRA.out.fr ((Fr.refl wa).alloc _))
  have HZ0 : Hid (CdR w0 (w.heap.size + 1) (.string ⟨#[]⟩) (.slice none 0 0) (.slice none 0 0) (.slice none 0 0) (.int .i64 0) (.int .i64 0)) := Lib.hid (by rw [hw0, ← hza]; exact CdR.new wa _ _ _ _ _ _)
  have hz0 : w0.heap.size = w.heap.size + 2 := by rw [hw0, size_al, hza]
  have HW0 := Lib.hid hw0
  have HS0 := Lib.hid hz0
  have HNM := Lib.hid hnm
  have HPR := Lib.hid hpr
  have HLB := Lib.hid hlb
  have HLD := Lib.hid hld
  have HLO := Lib.hid hlo
  have HLG := Lib.hid hlg
  obtain ⟨k0, k1, k2, k3, k4, k5⟩ := HR0.out.cells
  rw [HW0.out, HWA.out] at k0 k1 k2 k3 k4 k5
  clear hc hw hs ht hgl hws hE hnm hpr hlb hld hlo hlg hwa hw0 hza hz0
  go_enter Try.func24, Try.ntmps24
  go_wp2_with fail
  rw [← HWA.out, ← HW0.out]
  clear k0 k1 k2 k3 k4 k5
  refine (CX.out _ HF0.out).mono ?_
  rintro e w1 ⟨rfl, hf1⟩
  have HF1 : Hid (Fr w w1) := Lib.hid (HF0.out.trans hf1)
  have HR1 := Lib.hid (HR0.out.fr hf1)
  have HZ1 := Lib.hid (HZ0.out.fr hf1)
  have HB1 : Hid (w0.heap.size ≤ w1.heap.size) := Lib.hid hf1.size
  clear hf1
  obtain ⟨z0, z1, z2, z3, z4, z5⟩ := HZ1.out.cells
  have f0 := HZ1.out.free 0
  have f1 := HZ1.out.free 1
  have f2 := HZ1.out.free 2
  have f3 := HZ1.out.free 3
  have f4 := HZ1.out.free 4
  have f5 := HZ1.out.free 5
  obtain ⟨k0, k1, k2, k3, k4, k5⟩ := HR1.out.cells
  by_cases h0 : E = 0
  · have H0 : Hid (exE c = 0) := Lib.hid (HE.out.symm.trans h0)
    have e1 : ((E : Int) != 0) = false := by rw [bne_eq_false_iff_eq]; omega
    have CC2 := Lib.hid (fun W h => CC.out W h h0)
    obtain ⟨lb, hlb, hok⟩ := instr_ok (ex_lim H0.out).2
    have h20 := lim_ok (ex_lim H0.out).1
    have HOK := Lib.hid hok
    have H20 := Lib.hid h20
    have HLBI : Hid (labels = (lb : Int)) := Lib.hid (HLB.out.trans hlb)
    obtain rfl : labels = (lb : Int) := HLBI.out
    have HLB2 := Lib.hid hlb
    clear h0 hlb hok h20 CC z0 z1 z2 z3 z4 z5 f0 f1 f2 f3 f4 f5
    go_wp2_with fail
    refine (CC2.out _ HF1.out).mono ?_
    rintro e w2 ⟨dv2, ov2, gv2, rfl, ⟨B, hB, hown, ho2, he2, hd2⟩, hf2⟩
    have HBB : Hid (w1.heap.size ≤ B) := Lib.hid hB
    have HD2 := Lib.hid hd2
    have HE2 := Lib.hid he2
    obtain ⟨oa2, oc2, rfl⟩ := own_val ho2
    obtain ⟨da2, dc2, rfl, _⟩ := hd2
    obtain ⟨ga2, gc2, rfl, _⟩ := he2
    have HOWN := Lib.hid hown
    rw [← HLO.out] at ho2 hown HOWN ⊢
    rw [← HLD.out] at HD2 ⊢
    rw [← HLG.out] at HE2 ⊢
    have HF2 : Hid (Fr w w2) := Lib.hid (HF1.out.trans hf2)
    have HR2 := Lib.hid (HR1.out.fr hf2)
    have HZ2 := Lib.hid (HZ1.out.fr hf2)
    have HB2 : Hid (w1.heap.size ≤ w2.heap.size) := Lib.hid hf2.size
    have HOL : Hid (∀ k, (Value.slice oa2 lo oc2).ownBlock = some k → w1.heap.size ≤ k ∧ k < w2.heap.size ∧ k < B) := Lib.hid (fun k hk => ⟨(ho2.lt k hk).1, (ho2.lt k hk).2, hown k hk⟩)
    obtain ⟨l, hl⟩ : ∃ y, y = c.ops := ⟨_, rfl⟩
    have HL := Lib.hid hl
    have HN : Hid (lo = l.length) := Lib.hid (by rw [hl]; exact HLO.out)
    rw [← hl] at ho2
    have HO2 := Lib.hid ho2
    clear hB hown hf2 hl ho2
    obtain ⟨w3, hw3⟩ : ∃ y, y = ((((((w2.setCell ⟨w.heap.size, 0, none⟩ (.string nm)).setCell ⟨w.heap.size, 1, none⟩ (.slice da2 ld dc2)).setCell ⟨w.heap.size, 2, none⟩ (.slice oa2 lo oc2)).setCell ⟨w.heap.size, 3, none⟩ (.slice ga2 lg gc2)).setCell ⟨w.heap.size, 4, none⟩ (.int .i64 procs)).setCell ⟨w.heap.size, 5, none⟩ (.int .i64 lb)) := ⟨_, rfl⟩
    have HR3 : Hid (CdR w3 w.heap.size (.string nm) (.slice da2 ld dc2) (.slice oa2 lo oc2) (.slice ga2 lg gc2) (.int .i64 procs) (.int .i64 lb)) := Lib.hid (by rw [hw3]; exact HR2.out.all _ _ _ _ _ _)
    have HX3 : Hid (Ex (fun k => k = w.heap.size) w2 w3) := Lib.hid (by rw [hw3]; exact Ex.all _ _ _ _ _ _ _ _)
    have HF3 : Hid (Fr w w3) := Lib.hid (by rw [hw3]; exact HF2.out.all (Nat.le_refl _) _ _ _ _ _ _)
    have HS3 : Hid (w3.heap.size = w2.heap.size) := Lib.hid (by rw [hw3]; simp [World.setCell])
    have HW3 := Lib.hid hw3
    obtain ⟨m, hm⟩ : ∃ m : Nat, m = lb + 1 := ⟨_, rfl⟩
    have HM := Lib.hid hm
    have wl : IntKind.i64.wrap ((lb : Int) + 1) = (m : Int) := by rw [IntWalk.i64_in _ (by have := H20.out; have := HLB2.out; omega)]; omega
    have hmk := fun W => run_make_ints m (by have := H20.out; have := HLB2.out; omega) W
    obtain ⟨w4, hw4⟩ : ∃ y, y = w3.alloc (.cells (madeCells #[.int .i64 0] m) 3) := ⟨_, rfl⟩
    have HR4 : Hid (CdR w4 w.heap.size (.string nm) (.slice da2 ld dc2) (.slice oa2 lo oc2) (.slice ga2 lg gc2) (.int .i64 procs) (.int .i64 lb)) := Lib.hid (by rw [hw4]; exact HR3.out.fr ((Fr.refl _).alloc _))
    have HN4 : Hid (w4.rowIs w2.heap.size 3 m (fun _ => .int .i64 0)) := Lib.hid (by rw [hw4, ← HS3.out]; exact World.rowIs_made w3 (.int .i64 0) m 3)
    have HW4 := Lib.hid hw4
    obtain ⟨w5, hw5⟩ : ∃ y, y = w4.setCell ⟨w.heap.size, 5, none⟩ (.int .i64 0) := ⟨_, rfl⟩
    have HR5 : Hid (CdR w5 w.heap.size (.string nm) (.slice da2 ld dc2) (.slice oa2 lo oc2) (.slice ga2 lg gc2) (.int .i64 procs) (.int .i64 0)) := Lib.hid (by rw [hw5]; exact HR4.out.set5 _)
    have hlow : w.heap.size < w2.heap.size := by have := HS0.out; have := HB1.out; have := HB2.out; omega
    have HLOW := Lib.hid hlow
    have HN5 : Hid (w5.rowIs w2.heap.size 3 m (fun _ => .int .i64 0)) := Lib.hid (by rw [hw5]; exact HN4.out.setOther (by show ¬ w2.heap.size = w.heap.size; omega) _)
    have HX5 : Hid (Ex (fun k => k = w.heap.size ∨ (Value.slice oa2 lo oc2).ownBlock = some k) w3 w5) := Lib.hid (by
      rw [hw5, hw4]
      exact Ex.set (((Fr.refl w3).alloc _).ex) (p := ⟨w.heap.size, 5, none⟩) (Or.inl rfl) _)
    have HF5 : Hid (Fr w w5) := Lib.hid (by rw [hw5, hw4]; exact (HF3.out.alloc _).setCell (Nat.le_refl _) _)
    have hcb : ∀ k, (Value.slice oa2 lo oc2).ownBlock = some k → ¬ k = w.heap.size := fun k hk e => by have := HOL.out k hk; have := HS0.out; have := HB1.out; omega
    have HO5 : Hid (w5.ownsRow w1.heap.size 48 3 (.slice oa2 lo oc2) lo (rowN (clO_cs l) lo)) := Lib.hid (by
      have h1 := Ex.own HX3.out (fun k hk => hcb k hk) HO2.out
      have h2 : w4.ownsRow w1.heap.size 48 3 (.slice oa2 lo oc2) lo (rowN (clO_cs l) lo) := by rw [hw4]; exact h1.alloc _
      rw [hw5]
      exact Ex.own (Ex.one w4 w.heap.size 5 _) (fun k hk => hcb k hk) h2)
    have HW5 := Lib.hid hw5
    have HCB := Lib.hid hcb
    clear k0 k1 k2 k3 k4 k5
    obtain ⟨k0, k1, k2, k3, k4, k5⟩ := HR2.out.cells
    have f0 := HR2.out.free 0
    have f1 := HR2.out.free 1
    have f2 := HR2.out.free 2
    have f3 := HR2.out.free 3
    have f4 := HR2.out.free 4
    have f5 := HR2.out.free 5
    obtain ⟨j0, j1, j2, j3, j4, j5⟩ := HR3.out.cells
    rw [HW3.out] at j0 j1 j2 j3 j4 j5
    obtain ⟨q0, q1, q2, q3, q4, q5⟩ := HR4.out.cells
    have g5 := HR4.out.free 5
    rw [HW4.out, HW3.out] at q0 q1 q2 q3 q4 q5 g5
    obtain ⟨r0, r1, r2, r3, r4, r5⟩ := HR5.out.cells
    rw [HW5.out, HW4.out, HW3.out] at r0 r1 r2 r3 r4 r5
    clear hw3 hw4 hw5 hm hlow hcb
    go_wp2_with fail
    rw [← HW3.out, ← HW4.out, ← HW5.out]
    clear j0 j1 j2 j3 j4 j5 q0 q1 q2 q3 q4 q5 g5 f0 f1 f2 f3 f4 f5 k0 k1 k2 k3 k4 k5 r0 r1 r2 r3 r4 r5
    obtain ⟨k0, k1, k2, k3, k4, k5⟩ := HR5.out.cells
    obtain ⟨F, hF⟩ : ∃ y, y = (fun x : Int => (nmL l).2 x.toNat) := ⟨_, rfl⟩
    have HFF := Lib.hid hF
    have hmix0 : mixL (labF F) l 0 = l := mixL_zero _ _
    have HO5' : Hid (w5.ownsRow w1.heap.size 48 3 (.slice oa2 lo oc2) lo (rowN (clO_cs (mixL (labF F) l 0)) lo)) := Lib.hid (by rw [hmix0]; exact HO5.out)
    have HONCE : Hid (OnceL l) := Lib.hid (by rw [HL.out]; exact (once_ok H0.out).1)
    have hlo4 : lo ≤ 40000 := by have := H20.out.1; have := HLO.out; omega
    have HLO4 := Lib.hid hlo4
    clear hF hmix0
    go_loopw [26] (fun i wr => ∃ (j : Nat) (cnt : Int) (h : Nat → Int), j ≤ lo ∧ i = .int .i64 j ∧ Hid (0 ≤ cnt ∧ cnt ≤ j) ∧ Hid (nmL l = (l.drop j).foldl nmF (cnt, h)) ∧ Hid (CdR wr w.heap.size (.string nm) (.slice da2 ld dc2) (.slice oa2 lo oc2) (.slice ga2 lg gc2) (.int .i64 procs) (.int .i64 cnt)) ∧ Hid (wr.rowIs w2.heap.size 3 m (fun k => .int .i64 (h k))) ∧ Hid (wr.ownsRow w1.heap.size 48 3 (.slice oa2 lo oc2) lo (rowN (clO_cs (mixL (labF F) l j)) lo)) ∧ Hid (Ex (fun k => k = w.heap.size ∨ (Value.slice oa2 lo oc2).ownBlock = some k) w3 wr) ∧ Hid (Fr w wr)) (fun i _ => lo - (intOf i).toNat)
    case atStart => exact ⟨0, 0, fun _ => 0, Nat.zero_le _, rfl, Lib.hid ⟨Int.le_refl 0, by simp⟩, Lib.hid rfl, HR5, HN5, HO5', HX5, HF5⟩
    case round =>
      obtain ⟨j, cnt, h, hj, rfl, HCN, HNM2, HRR, HNB, HOR, HEX, HFR⟩ := hrel
      clear k0 k1 k2 k3 k4 k5
      obtain ⟨k0, k1, k2, k3, k4, k5⟩ := HRR.out.cells
      have f5 := HRR.out.free 5
      by_cases hlt : j < lo
      · rcases row_cell (clO_len (mixL (labF F) l j)) HOR.out with ⟨_, hn0⟩ | ⟨g, cap, hov, hgb, hn, hmm, hcell⟩
        · omega
        · obtain ⟨rfl, rfl⟩ : oa2 = some ⟨g, 0, none⟩ ∧ oc2 = cap := by simpa using hov
          obtain ⟨o, ho⟩ : ∃ o, l[j]? = some o := ⟨_, List.getElem?_eq_getElem (by rw [← HN.out]; exact hlt)⟩
          have hgd : (mixL (labF F) l j).getD j default = o := by rw [List.getD_eq_getElem?_getD, mixL_at _ ho]; rfl
          have hc0 := fun r u hr hu => hcell j r u hlt hr hu
          unfold clO_cs at hc0
          rw [hgd] at hc0
          have x0 := hc0 0 _ (by omega) rfl
          have x1 := hc0 1 _ (by omega) rfl
          have x2 := hc0 2 _ (by omega) rfl
          have HGB : Hid (w1.heap.size ≤ g ∧ g < w2.heap.size ∧ g < B) := Lib.hid (HOL.out g rfl)
          have hg1 : ¬ g = w.heap.size := HCB.out g rfl
          have hg2 : ¬ g = w2.heap.size := by have := HGB.out; omega
          have hg3 : ¬ w2.heap.size = w.heap.size := by have := HLOW.out; omega
          have HO := Lib.hid ho
          have pj0 : (0 : Int) ≤ (j : Int) := Int.natCast_nonneg _
          have pj1 : (j : Int) < (lo : Int) := by omega
          clear hov hgb hn hmm hcell ho hgd hc0
          obtain ⟨⟨o0, o1, o2⟩, hoo⟩ : ∃ y, y = o := ⟨_, rfl⟩
          subst hoo
          simp only [Nat.add_zero] at x0 x1 x2
          by_cases h19 : o0 = 19
          · subst h19
            have hmem : (⟨19, o1, o2⟩ : Op3) ∈ c.ops := by rw [← HL.out]; exact List.mem_of_getElem? HO.out
            obtain ⟨q, hq⟩ : ∃ q : Nat, o1 = (q : Int) := ⟨o1.toNat, by have := HOK.out.h19 _ hmem rfl; simp only at this; omega⟩
            have hqm : q < m := by have := HOK.out.h19 _ hmem rfl; simp only at this; have := HM.out; omega
            subst hq
            have HQM := Lib.hid hqm
            have wc : IntKind.i64.wrap (cnt + 1) = cnt + 1 := IntWalk.i64_in _ (by have := HCN.out; omega)
            obtain ⟨wA, hwA⟩ : ∃ y, y = wr.setCell ⟨w.heap.size, 5, none⟩ (.int .i64 (cnt + 1)) := ⟨_, rfl⟩
            have HRA2 : Hid (CdR wA w.heap.size (.string nm) (.slice da2 ld dc2) (.slice (some ⟨g, 0, none⟩) lo oc2) (.slice ga2 lg gc2) (.int .i64 procs) (.int .i64 (cnt + 1))) := Lib.hid (by rw [hwA]; exact HRR.out.set5 _)
            have HWA2 := Lib.hid hwA
            obtain ⟨a0, a1, a2, a3, a4, a5⟩ := HRA2.out.cells
            rw [HWA2.out] at a0 a1 a2 a3 a4 a5
            clear hwA hmem
            go_wp2_with fail
            rw [← HWA2.out]
            clear a0 a1 a2 a3 a4 a5 k0 k1 k2 k3 k4 k5 f5
            obtain ⟨a0, a1, a2, a3, a4, a5⟩ := HRA2.out.cells
            have HEA : Hid (Ex (fun k => k = w.heap.size) wr wA) := Lib.hid (by rw [HWA2.out]; exact Ex.one _ _ _ _)
            have HNA := Lib.hid (HEA.out.row hg3 HNB.out)
            have b1 := HEA.out.cell hg1 x1
            have b2 := HNA.out.cell hqm
            have b3 := HNA.out.frozen q
            clear x0 x1 x2
            go_region
            all_goals
              obtain ⟨wB, hwB⟩ : ∃ y, y = (wA.setCell ⟨w2.heap.size, q, none⟩ (.int .i64 (cnt + 1))).drew := ⟨_, rfl⟩
              rw [← hwB]
              have HEB : Hid (Ex (fun k => k = w2.heap.size) wA wB) := Lib.hid (by rw [hwB]; exact (Ex.one _ _ _ _).fr (Fr.refl _).drew)
              have HNB2 : Hid (wB.rowIs w2.heap.size 3 m (fun k => if k = q then .int .i64 (cnt + 1) else .int .i64 (h k))) := Lib.hid (by rw [hwB]; exact (HNA.out.set q _).drew)
              have HRB := Lib.hid (HRA2.out.ex HEB.out (fun e => hg3 e.symm))
              have HOB := Lib.hid (Ex.own HEB.out (fun k hk e => by have := HOL.out k hk; have e : k = w2.heap.size := e; omega) (Ex.own HEA.out (fun k hk => HCB.out k hk) HOR.out))
              have HXB : Hid (Ex (fun k => k = w.heap.size ∨ (Value.slice (some ⟨g, 0, none⟩) lo oc2).ownBlock = some k) w3 wB) := Lib.hid (by
                rw [hwB, HWA2.out]
                exact ((HEX.out.set (p := ⟨w.heap.size, 5, none⟩) (Or.inl rfl) _).setNew (p := ⟨w2.heap.size, q, none⟩) (by rw [HS3.out]; exact Nat.le_refl _) _).fr (Fr.refl _).drew)
              have HFB : Hid (Fr w wB) := Lib.hid (by rw [hwB, HWA2.out]; exact ((HFR.out.setCell (Nat.le_refl _) _).setCell (Nat.le_of_lt HLOW.out) _).drew)
              clear hwB a0 a1 a2 a3 a4 a5 b1 b2 b3
              obtain ⟨a0, a1, a2, a3, a4, a5⟩ := HRB.out.cells
              have b3 := own_free HOB.out (j * 3 + 1)
              have b1 : wB.cell? ⟨g, j * 3 + 1, none⟩ = some (.int .i64 (q : Int)) := by
                rcases row_cell (clO_len (mixL (labF F) l j)) HOB.out with ⟨e, _⟩ | ⟨g', cap', e, _, _, _, hcell⟩
                · cases e
                · obtain ⟨rfl, rfl⟩ : g = g' ∧ oc2 = cap' := by simpa using e
                  have hgd : (mixL (labF F) l j).getD j default = ⟨19, (q : Int), o2⟩ := by rw [List.getD_eq_getElem?_getD, mixL_at _ HO.out]; rfl
                  have h1 := hcell j 1 (.int .i64 (q : Int)) hlt (by omega) (by unfold clO_cs; rw [hgd]; rfl)
                  exact h1
              go_wp2_with fail
              go_roundw
              case rel =>
                have hF : F (q : Int) = cnt + 1 := by
                  have := nm_at HO.out (cnt, h) HONCE.out rfl HNM2.out
                  rw [HFF.out]
                  exact this
                refine ⟨j + 1, cnt + 1, upd h q (cnt + 1), by omega, by go_num, Lib.hid (by have := HCN.out; omega), Lib.hid ?_, Lib.hid ?_, Lib.hid ?_, Lib.hid ?_, Lib.hid (HXB.out.set (p := ⟨g, j * 3 + 1, none⟩) (Or.inr rfl) _), Lib.hid (HFB.out.setCell (p := ⟨g, j * 3 + 1, none⟩) (by have := HGB.out; have := HB1.out; have := HS0.out; show w.heap.size ≤ g; omega) _)⟩
                · rw [HNM2.out, fold_drop nmF _ HO.out]
                  simp [nmF]
                · exact HRB.out.ex (Ex.one wB g (j * 3 + 1) _) (fun e => hg1 e.symm)
                · refine ((Ex.one wB g (j * 3 + 1) _).row (fun e => hg2 e.symm) HNB2.out).congr (fun k _ => ?_)
                  unfold upd
                  by_cases e : k = q
                  · rw [if_pos e, if_pos e]
                  · rw [if_neg e, if_neg e]
                · have h1 := row_stored (by omega) (clO_len (mixL (labF F) l j)) HOB.out hlt (r := 1) (by omega) (.int .i64 (cnt + 1))
                  rw [clO_set (mixL_at (labF F) HO.out) 1 (.int .i64 (cnt + 1)) ⟨19, cnt + 1, o2⟩ rfl, ← hF] at h1
                  have h2 := mixL_step (labF F) HO.out
                  rw [show labF F ⟨19, (q : Int), o2⟩ = ⟨19, F (q : Int), o2⟩ from rfl] at h2
                  rw [h2, hF] at h1
                  exact h1
              case measure => simp [intOf]; omega
          · have e19 : (o0 == 19) = false := by rw [beq_eq_false_iff_ne]; exact h19
            have H19 := Lib.hid h19
            clear h19
            go_wp2_with fail
            go_roundw
            case rel =>
              refine ⟨j + 1, cnt, h, by omega, by go_num, Lib.hid (by have := HCN.out; omega), Lib.hid ?_, HRR, HNB, Lib.hid ?_, HEX, HFR⟩
              · rw [HNM2.out, fold_drop nmF _ HO.out]
                unfold nmF
                rw [if_neg H19.out]
              · rw [← mixL_keep (labF F) HO.out (by unfold labF; rw [if_neg H19.out])]
                exact HOR.out
            case measure => simp [intOf]; omega
      · obtain rfl : j = lo := by omega
        have hF : nmL l = (cnt, h) := by rw [HNM2.out, List.drop_eq_nil_of_le (by rw [← HN.out]; exact Nat.le_refl _)]; rfl
        have HNF := Lib.hid hF
        obtain ⟨l1, hl1⟩ : ∃ y, y = l.map (labF F) := ⟨_, rfl⟩
        have HL1 := Lib.hid hl1
        have HOR1 : Hid (wr.ownsRow w1.heap.size 48 3 (.slice oa2 j oc2) j (rowN (clO_cs (mixL (nmdF F) l1 0)) j)) := Lib.hid (by
          have h1 := HOR.out
          rw [mixL_zero, hl1, ← mixL_all, ← HN.out]
          exact h1)
        have HN1 : Hid (j = l1.length) := Lib.hid (by rw [hl1, List.length_map]; exact HN.out)
        clear hF hl1 hlt hj
        go_wp2_with fail
        go_loopw [59] (fun i wx => ∃ (a : Nat), a ≤ j ∧ i = .int .i64 a ∧ Hid (CdR wx w.heap.size (.string nm) (.slice da2 ld dc2) (.slice oa2 j oc2) (.slice ga2 lg gc2) (.int .i64 procs) (.int .i64 cnt)) ∧ Hid (wx.rowIs w2.heap.size 3 m (fun k => .int .i64 (h k))) ∧ Hid (wx.ownsRow w1.heap.size 48 3 (.slice oa2 j oc2) j (rowN (clO_cs (mixL (nmdF F) l1 a)) j)) ∧ Hid (Ex (fun k => k = w.heap.size ∨ (Value.slice oa2 j oc2).ownBlock = some k) w3 wx) ∧ Hid (Fr w wx)) (fun i _ => j - (intOf i).toNat)
        case atStart => exact ⟨0, Nat.zero_le _, rfl, HRR, HNB, HOR1, HEX, HFR⟩
        case round =>
          obtain ⟨a, ha, rfl, HRX, HNX, HOX, HEX2, HFX⟩ := hrel
          clear k0 k1 k2 k3 k4 k5 f5
          obtain ⟨k0, k1, k2, k3, k4, k5⟩ := HRX.out.cells
          by_cases hla : a < j
          · rcases row_cell (clO_len (mixL (nmdF F) l1 a)) HOX.out with ⟨_, hn0⟩ | ⟨g, cap, hov, hgb, hn, hmm, hcell⟩
            · omega
            · obtain ⟨rfl, rfl⟩ : oa2 = some ⟨g, 0, none⟩ ∧ oc2 = cap := by simpa using hov
              obtain ⟨o, ho⟩ : ∃ o, l1[a]? = some o := ⟨_, List.getElem?_eq_getElem (by rw [← HN1.out]; exact hla)⟩
              have hgd : (mixL (nmdF F) l1 a).getD a default = o := by rw [List.getD_eq_getElem?_getD, mixL_at _ ho]; rfl
              have hc0 := fun r u hr hu => hcell a r u hla hr hu
              unfold clO_cs at hc0
              rw [hgd] at hc0
              have x0 := hc0 0 _ (by omega) rfl
              have x1 := hc0 1 _ (by omega) rfl
              have x2 := hc0 2 _ (by omega) rfl
              have HGB : Hid (w1.heap.size ≤ g ∧ g < w2.heap.size ∧ g < B) := Lib.hid (HOL.out g rfl)
              have hg1 : ¬ g = w.heap.size := HCB.out g rfl
              have hg2 : ¬ g = w2.heap.size := by have := HGB.out; omega
              have HO1 := Lib.hid ho
              have pj0 : (0 : Int) ≤ (a : Int) := Int.natCast_nonneg _
              have pj1 : (a : Int) < (j : Int) := by omega
              obtain ⟨⟨b0, b1, b2⟩, hoo⟩ : ∃ y, y = o := ⟨_, rfl⟩
              subst hoo
              simp only [Nat.add_zero] at x0 x1 x2
              have hmem : ¬ b0 = 19 → (⟨b0, b1, b2⟩ : Op3) ∈ c.ops := fun e => by
                rw [HL1.out] at ho
                obtain ⟨y, hy, hyy⟩ := lab_at ho
                have h19 : ¬ y.op = 19 := fun e2 => by
                  unfold labF at hyy
                  rw [if_pos e2] at hyy
                  injection hyy with h1 _ _
                  exact e (h1.trans e2)
                unfold labF at hyy
                rw [if_neg h19] at hyy
                rw [hyy, ← HL.out]
                exact List.mem_of_getElem? hy
              have CN2 := Lib.hid (named_at b0 g (a * 3) wr x0)
              clear hov hgb hn hmm hcell ho hgd hc0
              by_cases hA : b0 = 20 ∨ b0 = 21 ∨ b0 = 22 ∨ b0 = 27 ∨ b0 = 29
              · have hmem := hmem (by omega)
                have hLO : labO ⟨b0, b1, b2⟩ = some b1 := by simp only [labO]; rw [if_pos hA]
                have hLQ : labQ b0 g (a * 3) = some ⟨g, a * 3 + 1, none⟩ := by unfold labQ; rw [if_pos hA]
                have hnF : ∀ x y : Int, nmdF F ⟨b0, x, y⟩ = ⟨b0, F x, y⟩ := fun x y => by unfold nmdF; rw [if_pos hA]
                obtain ⟨q, hq⟩ : ∃ q : Nat, b1 = (q : Int) := ⟨b1.toNat, by have := HOK.out.lab _ hmem _ hLO; omega⟩
                have hqm : q < m := by have := HOK.out.lab _ hmem _ hLO; have := HM.out; omega
                subst hq
                have HNFD := Lib.hid hnF
                rw [hLQ] at CN2
                have b2' := HNX.out.cell hqm
                try simp only at b2'
                have b3 := own_free HOX.out (a * 3 + 1)
                obtain ⟨hv, hhv⟩ : ∃ y, y = h q := ⟨_, rfl⟩
                have HHV := Lib.hid hhv
                rw [← hhv] at b2'
                clear hLO hLQ hnF hmem hhv
                go_wp2_with fail
                refine CN2.out.mono ?_
                rintro e w9 ⟨rfl, rfl⟩
                go_wp2_with fail
                go_roundw
                case rel =>
                  have hFq : F (q : Int) = hv := by rw [HFF.out, HNF.out, HHV.out]; rfl
                  refine ⟨a + 1, by omega, by go_num, Lib.hid (HRX.out.ex (Ex.one wr g (a * 3 + 1) _) (fun e => hg1 e.symm)), Lib.hid ((Ex.one wr g (a * 3 + 1) _).row (fun e => hg2 e.symm) HNX.out), Lib.hid ?_, Lib.hid (HEX2.out.set (p := ⟨g, a * 3 + 1, none⟩) (Or.inr rfl) _), Lib.hid (HFX.out.setCell (p := ⟨g, a * 3 + 1, none⟩) (by have := HGB.out; have := HB1.out; have := HS0.out; show w.heap.size ≤ g; omega) _)⟩
                  have h1 := row_stored (by omega) (clO_len (mixL (nmdF F) l1 a)) HOX.out hla (r := 1) (by omega) (.int .i64 hv)
                  have h2 := mixL_step (nmdF F) HO1.out
                  rw [HNFD.out] at h2
                  rw [clO_set (mixL_at (nmdF F) HO1.out) 1 (.int .i64 hv) ⟨b0, F (q : Int), b2⟩ (by rw [hFq]; rfl), h2] at h1
                  exact h1
                case measure => simp [intOf]; omega
              · by_cases hB : b0 = 30
                · have hmem := hmem (by omega)
                  have hLO : labO ⟨b0, b1, b2⟩ = some b2 := by simp only [labO]; rw [if_neg hA, if_pos hB]
                  have hLQ : labQ b0 g (a * 3) = some ⟨g, a * 3 + 2, none⟩ := by unfold labQ; rw [if_neg hA, if_pos hB]
                  have hnF : ∀ x y : Int, nmdF F ⟨b0, x, y⟩ = ⟨b0, x, F y⟩ := fun x y => by unfold nmdF; rw [if_neg hA, if_pos hB]
                  obtain ⟨q, hq⟩ : ∃ q : Nat, b2 = (q : Int) := ⟨b2.toNat, by have := HOK.out.lab _ hmem _ hLO; omega⟩
                  have hqm : q < m := by have := HOK.out.lab _ hmem _ hLO; have := HM.out; omega
                  subst hq
                  have HNFD := Lib.hid hnF
                  rw [hLQ] at CN2
                  have b2' := HNX.out.cell hqm
                  try simp only at b2'
                  have b3 := own_free HOX.out (a * 3 + 2)
                  obtain ⟨hv, hhv⟩ : ∃ y, y = h q := ⟨_, rfl⟩
                  have HHV := Lib.hid hhv
                  rw [← hhv] at b2'
                  clear hLO hLQ hnF hmem hhv
                  go_wp2_with fail
                  refine CN2.out.mono ?_
                  rintro e w9 ⟨rfl, rfl⟩
                  go_wp2_with fail
                  go_roundw
                  case rel =>
                    have hFq : F (q : Int) = hv := by rw [HFF.out, HNF.out, HHV.out]; rfl
                    refine ⟨a + 1, by omega, by go_num, Lib.hid (HRX.out.ex (Ex.one wr g (a * 3 + 2) _) (fun e => hg1 e.symm)), Lib.hid ((Ex.one wr g (a * 3 + 2) _).row (fun e => hg2 e.symm) HNX.out), Lib.hid ?_, Lib.hid (HEX2.out.set (p := ⟨g, a * 3 + 2, none⟩) (Or.inr rfl) _), Lib.hid (HFX.out.setCell (p := ⟨g, a * 3 + 2, none⟩) (by have := HGB.out; have := HB1.out; have := HS0.out; show w.heap.size ≤ g; omega) _)⟩
                    have h1 := row_stored (by omega) (clO_len (mixL (nmdF F) l1 a)) HOX.out hla (r := 2) (by omega) (.int .i64 hv)
                    have h2 := mixL_step (nmdF F) HO1.out
                    rw [HNFD.out] at h2
                    rw [clO_set (mixL_at (nmdF F) HO1.out) 2 (.int .i64 hv) ⟨b0, b1, F (q : Int)⟩ (by rw [hFq]; rfl), h2] at h1
                    exact h1
                  case measure => simp [intOf]; omega
                · have hLQ : labQ b0 g (a * 3) = none := by unfold labQ; rw [if_neg hA, if_neg hB]
                  have HNFD : Hid (nmdF F ⟨b0, b1, b2⟩ = ⟨b0, b1, b2⟩) := Lib.hid (by unfold nmdF; rw [if_neg hA, if_neg hB])
                  rw [hLQ] at CN2
                  clear hmem hA hB hLQ
                  go_wp2_with fail
                  refine CN2.out.mono ?_
                  rintro e w9 ⟨rfl, rfl⟩
                  go_wp2_with fail
                  go_roundw
                  case rel =>
                    refine ⟨a + 1, by omega, by go_num, HRX, HNX, Lib.hid ?_, HEX2, HFX⟩
                    rw [← mixL_keep (nmdF F) HO1.out HNFD.out]
                    exact HOX.out
                  case measure => simp [intOf]; omega
          · obtain rfl : a = j := by omega
            have hb1 : w.heap.size + 2 ≤ w1.heap.size := by have := HS0.out; have := HB1.out; omega
            have hrb : ∀ k, (Value.slice oa2 a oc2).ownBlock = some k → ¬ k = w.heap.size + 1 := fun k hk e => by have := HOL.out k hk; omega
            have HZR : Hid (CdR wr (w.heap.size + 1) (.string ⟨#[]⟩) (.slice none 0 0) (.slice none 0 0) (.slice none 0 0) (.int .i64 0) (.int .i64 0)) := Lib.hid ((HZ2.out.ex HX3.out (by simp)).ex HEX2.out (fun e => e.elim (fun e => by omega) (fun e => hrb _ e rfl)))
            obtain ⟨z0, z1, z2, z3, z4, z5⟩ := HZR.out.cells
            have f0 := HZR.out.free 0
            have f1 := HZR.out.free 1
            have f2 := HZR.out.free 2
            have f3 := HZR.out.free 3
            have f4 := HZR.out.free 4
            have f5 := HZR.out.free 5
            obtain ⟨wf, hwf⟩ : ∃ y, y = ((((((wr.setCell ⟨w.heap.size + 1, 0, none⟩ (.string nm)).setCell ⟨w.heap.size + 1, 1, none⟩ (.slice da2 ld dc2)).setCell ⟨w.heap.size + 1, 2, none⟩ (.slice oa2 a oc2)).setCell ⟨w.heap.size + 1, 3, none⟩ (.slice ga2 lg gc2)).setCell ⟨w.heap.size + 1, 4, none⟩ (.int .i64 procs)).setCell ⟨w.heap.size + 1, 5, none⟩ (.int .i64 cnt)) := ⟨_, rfl⟩
            have HRF : Hid (CdR wf (w.heap.size + 1) (.string nm) (.slice da2 ld dc2) (.slice oa2 a oc2) (.slice ga2 lg gc2) (.int .i64 procs) (.int .i64 cnt)) := Lib.hid (by rw [hwf]; exact HZR.out.all _ _ _ _ _ _)
            have HEF : Hid (Ex (fun k => k = w.heap.size + 1) wr wf) := Lib.hid (by rw [hwf]; exact Ex.all _ _ _ _ _ _ _ _)
            have HFW : Hid (Fr w wf) := Lib.hid (by rw [hwf]; exact HFX.out.all (Nat.le_succ _) _ _ _ _ _ _)
            have HWF := Lib.hid hwf
            have HB12 := Lib.hid hb1
            have HRBB := Lib.hid hrb
            clear hwf hb1 hrb hla ha
            go_wp2_with fail
            rw [← HWF.out]
            clear k0 k1 k2 k3 k4 k5 z0 z1 z2 z3 z4 z5 f0 f1 f2 f3 f4 f5
            obtain ⟨k0, k1, k2, k3, k4, k5⟩ := HRF.out.cells
            refine bodyPost_ret (v := .tuple #[.agg #[.string nm, .slice da2 ld dc2, .slice oa2 a oc2, .slice ga2 lg gc2, .int .i64 procs, .int .i64 cnt], .int .i64 0]) (by simp [results, Try.results24, go_sem, k0, k1, k2, k3, k4, k5]) rfl ?_
            have hops : (renC c).ops = mixL (nmdF F) l1 a := by
              rw [HN1.out, mixL_all, HL1.out, nmd_map, HFF.out, HL.out]
              rfl
            have hcod : codV (renC c) (.slice da2 ld dc2) (.slice oa2 a oc2) (.slice ga2 lg gc2) = .agg #[.string nm, .slice da2 ld dc2, .slice oa2 a oc2, .slice ga2 lg gc2, .int .i64 procs, .int .i64 cnt] := by
              unfold codV renC
              simp only
              rw [← HNM.out, ← HPR.out, ← HL.out, HNF.out]
            refine ⟨⟨fun _ => ⟨_, _, _, by rw [hcod], ?_, ?_, ?_⟩, fun hh => absurd H0.out hh⟩, HFW.out⟩
            · have h1 := HD2.out.dts (fun b hb e => by have hb : B ≤ b := hb; have e : b = w.heap.size := e; have := HB12.out; have := HBB.out; omega) HX3.out
              have h2 := h1.dts (fun b hb e => by
                have hb : B ≤ b := hb
                rcases e with e | e
                · have := HB12.out; have := HBB.out; omega
                · have := HOL.out b e; omega) HEX2.out
              have h3 := h2.dts (fun b hb e => by have hb : B ≤ b := hb; have e : b = w.heap.size + 1 := e; have := HB12.out; have := HBB.out; omega) HEF.out
              exact h3.dtsV
            · have h1 := Ex.own HEF.out (fun k hk e => HRBB.out k hk e) HOX.out
              rw [← hops] at h1
              have hlen : a = (renC c).ops.length := by rw [renC_len, ← HL.out]; exact HN.out
              rw [hlen] at h1 ⊢
              exact clO_sl h1
            · have h1 := HE2.out.ens (fun b hb e => by have hb : B ≤ b := hb; have e : b = w.heap.size := e; have := HB12.out; have := HBB.out; omega) HX3.out
              have h2 := h1.ens (fun b hb e => by
                have hb : B ≤ b := hb
                rcases e with e | e
                · have := HB12.out; have := HBB.out; omega
                · have := HOL.out b e; omega) HEX2.out
              have h3 := h2.ens (fun b hb e => by have hb : B ≤ b := hb; have e : b = w.heap.size + 1 := e; have := HB12.out; have := HBB.out; omega) HEF.out
              exact h3.sl
  · have H0 : Hid (¬ exE c = 0) := Lib.hid (by rw [← HE.out]; exact h0)
    have e1 : ((E : Int) != 0) = true := by rw [bne_iff_ne]; omega
    obtain ⟨wf, hwf⟩ : ∃ y, y = ((((((w1.setCell ⟨w.heap.size + 1, 0, none⟩ (.string ⟨#[]⟩)).setCell ⟨w.heap.size + 1, 1, none⟩ (.slice none 0 0)).setCell ⟨w.heap.size + 1, 2, none⟩ (.slice none 0 0)).setCell ⟨w.heap.size + 1, 3, none⟩ (.slice none 0 0)).setCell ⟨w.heap.size + 1, 4, none⟩ (.int .i64 0)).setCell ⟨w.heap.size + 1, 5, none⟩ (.int .i64 0)) := ⟨_, rfl⟩
    have HRF : Hid (CdR wf (w.heap.size + 1) (.string ⟨#[]⟩) (.slice none 0 0) (.slice none 0 0) (.slice none 0 0) (.int .i64 0) (.int .i64 0)) := Lib.hid (by rw [hwf]; exact HZ1.out.all _ _ _ _ _ _)
    have HFF : Hid (Fr w wf) := Lib.hid (by rw [hwf]; exact HF1.out.all (Nat.le_succ _) _ _ _ _ _ _)
    have HWF := Lib.hid hwf
    clear hwf h0
    go_wp2_with fail
    rw [← HWF.out]
    clear k0 k1 k2 k3 k4 k5 z0 z1 z2 z3 z4 z5 f0 f1 f2 f3 f4 f5
    obtain ⟨k0, k1, k2, k3, k4, k5⟩ := HRF.out.cells
    refine bodyPost_ret (v := .tuple #[.agg #[.string ⟨#[]⟩, .slice none 0 0, .slice none 0 0, .slice none 0 0, .int .i64 0, .int .i64 0], .int .i64 (E : Int)]) (by simp [results, Try.results24, go_sem, k0, k1, k2, k3, k4, k5]) rfl ?_
    refine ⟨⟨fun h => absurd h H0.out, fun _ => ?_⟩, HFF.out⟩
    rw [← HE.out]
end Go.Proofs.Ytbhhjbnobcgfeaa
