/- Code copied into new memory. -/
import Derived.Test.YtbhhjbnobcgfeaaOX
namespace Go.Proofs.Ytbhhjbnobcgfeaa
open Go.RowKit
set_option linter.unusedVariables false
set_option linter.unusedSimpArgs false

/-- A block of code's six cells. -/
def CdR (w : World) (b : Nat) (x0 x1 x2 x3 x4 x5 : Value) : Prop := w.heap[b]? = some (.cells #[x0, x1, x2, x3, x4, x5] 26 (0, 0))
section
variable {w w' : World} {b : Nat} {x0 x1 x2 x3 x4 x5 : Value}
theorem CdR.lt (h : CdR w b x0 x1 x2 x3 x4 x5) : b < w.heap.size := (Array.getElem?_eq_some_iff.1 h).1
theorem CdR.fr (h : CdR w b x0 x1 x2 x3 x4 x5) (k : Fr w w') : CdR w' b x0 x1 x2 x3 x4 x5 := (k.block b h.lt).trans h
theorem CdR.ex {X : Nat → Prop} (h : CdR w b x0 x1 x2 x3 x4 x5) (k : Ex X w w') (hx : ¬ X b) : CdR w' b x0 x1 x2 x3 x4 x5 := (k.block b h.lt hx).trans h
theorem CdR.cells (h : CdR w b x0 x1 x2 x3 x4 x5) : w.cell? ⟨b, 0, none⟩ = some x0 ∧ w.cell? ⟨b, 1, none⟩ = some x1 ∧ w.cell? ⟨b, 2, none⟩ = some x2 ∧ w.cell? ⟨b, 3, none⟩ = some x3 ∧ w.cell? ⟨b, 4, none⟩ = some x4 ∧ w.cell? ⟨b, 5, none⟩ = some x5 := by
  unfold CdR at h
  simp [World.cell?, h]
theorem CdR.free (h : CdR w b x0 x1 x2 x3 x4 x5) (i : Nat) : w.frozen? ⟨b, i, none⟩ = false := by
  unfold CdR at h
  simp [World.frozen?, h]
theorem CdR.new (w : World) (x0 x1 x2 x3 x4 x5 : Value) : CdR (w.alloc (.cells #[x0, x1, x2, x3, x4, x5] 26)) w.heap.size x0 x1 x2 x3 x4 x5 := by
  unfold CdR; simp only [World.alloc, Array.getElem?_push_size]
theorem CdR.set1 (h : CdR w b x0 x1 x2 x3 x4 x5) (v : Value) : CdR (w.setCell ⟨b, 1, none⟩ v) b x0 v x2 x3 x4 x5 := by
  unfold CdR at h ⊢
  simp [World.setCell, Array.getElem?_modify, h]
theorem CdR.set2 (h : CdR w b x0 x1 x2 x3 x4 x5) (v : Value) : CdR (w.setCell ⟨b, 2, none⟩ v) b x0 x1 v x3 x4 x5 := by
  unfold CdR at h ⊢
  simp [World.setCell, Array.getElem?_modify, h]
theorem CdR.set3 (h : CdR w b x0 x1 x2 x3 x4 x5) (v : Value) : CdR (w.setCell ⟨b, 3, none⟩ v) b x0 x1 x2 v x4 x5 := by
  unfold CdR at h ⊢
  simp [World.setCell, Array.getElem?_modify, h]
theorem CdR.set5 (h : CdR w b x0 x1 x2 x3 x4 x5) (v : Value) : CdR (w.setCell ⟨b, 5, none⟩ v) b x0 x1 x2 x3 x4 v := by
  unfold CdR at h ⊢
  simp [World.setCell, Array.getElem?_modify, h]
end
theorem CdR.all {w : World} {b : Nat} {x0 x1 x2 x3 x4 x5 : Value} (h : CdR w b x0 x1 x2 x3 x4 x5) (v0 v1 v2 v3 v4 v5 : Value) :
    CdR ((((((w.setCell ⟨b, 0, none⟩ v0).setCell ⟨b, 1, none⟩ v1).setCell ⟨b, 2, none⟩ v2).setCell ⟨b, 3, none⟩ v3).setCell ⟨b, 4, none⟩ v4).setCell ⟨b, 5, none⟩ v5) b v0 v1 v2 v3 v4 v5 := by
  unfold CdR at h ⊢
  simp [World.setCell, Array.getElem?_modify, h]
theorem Ex.all (w : World) (b : Nat) (v0 v1 v2 v3 v4 v5 : Value) : Ex (fun k => k = b) w ((((((w.setCell ⟨b, 0, none⟩ v0).setCell ⟨b, 1, none⟩ v1).setCell ⟨b, 2, none⟩ v2).setCell ⟨b, 3, none⟩ v3).setCell ⟨b, 4, none⟩ v4).setCell ⟨b, 5, none⟩ v5) :=
  (((((Ex.one w b 0 v0).trans (Ex.one _ b 1 v1)).trans (Ex.one _ b 2 v2)).trans (Ex.one _ b 3 v3)).trans (Ex.one _ b 4 v4)).trans (Ex.one _ b 5 v5)
theorem Fr.all {a w : World} (h : Fr a w) {b : Nat} (hb : a.heap.size ≤ b) (v0 v1 v2 v3 v4 v5 : Value) : Fr a ((((((w.setCell ⟨b, 0, none⟩ v0).setCell ⟨b, 1, none⟩ v1).setCell ⟨b, 2, none⟩ v2).setCell ⟨b, 3, none⟩ v3).setCell ⟨b, 4, none⟩ v4).setCell ⟨b, 5, none⟩ v5) :=
  (((((h.setCell hb _).setCell hb _).setCell hb _).setCell hb _).setCell hb _).setCell hb _
theorem own_val {w : World} {base : Nat} {T : TypeId} {z : Nat} {v : Value} {n : Nat} {xs : List Value} (h : w.ownsRow base T z v n xs) : ∃ a cap, v = .slice a n cap := by
  rcases h.2 with ⟨rfl, rfl⟩ | ⟨g, cap, cur, rfl, _⟩
  · exact ⟨_, _, rfl⟩
  · exact ⟨_, _, rfl⟩
theorem own_free {w : World} {base : Nat} {T : TypeId} {z g n cap : Nat} {xs : List Value} (h : w.ownsRow base T z (.slice (some ⟨g, 0, none⟩) n cap) n xs) (i : Nat) : w.frozen? ⟨g, i, none⟩ = false := by
  rcases h.2 with ⟨e, _⟩ | ⟨g', cap', cur, e, _, hg, _⟩
  · cases e
  · obtain ⟨rfl, rfl⟩ : g = g' ∧ cap = cap' := by simpa using e
    simp [World.frozen?, hg]
theorem hvGo_ws : ∀ (l : List Dt) (n : Nat), hvGo n l ≤ 2000 → ∀ x ∈ l, x.ws.length ≤ 2000
  | [], n, h => fun x hx => by cases hx
  | d :: r, n, h => by
    rw [hvGo] at h
    by_cases h0 : n ≤ 2000
    · rw [if_pos h0] at h
      intro x hx
      rcases List.mem_cons.1 hx with rfl | hx
      · have := hvGo_lo r (n + 1 + x.t.size + x.ws.length); omega
      · exact hvGo_ws r _ h x hx
    · rw [if_neg h0] at h; omega
theorem hvGo_len : ∀ (l : List Dt) (n : Nat), hvGo n l ≤ 2000 → n + l.length ≤ 2000
  | [], n, h => by rw [hvGo] at h; simpa using h
  | d :: r, n, h => by
    rw [hvGo] at h
    by_cases h0 : n ≤ 2000
    · rw [if_pos h0] at h
      have := hvGo_len r _ h
      simp only [List.length_cons]; omega
    · rw [if_neg h0] at h; omega
/-- What a copy is like: instructions in a row of the call's own, entries and areas in blocks from B on. -/
def CpP (c : Cod) (base : Nat) (w : World) (dv ov gv : Value) : Prop :=
  ∃ B, base ≤ B ∧ (∀ k, ov.ownBlock = some k → k < B) ∧ w.ownsRow base 48 3 ov c.ops.length (rowN (clO_cs c.ops) c.ops.length) ∧ SlP (fun b => B ≤ b) 2 EnC w gv c.gl ∧ SlP (fun b => B ≤ b) 3 (DtP (fun b => B ≤ b)) w dv c.data
/-- One area's words are written anew. -/
theorem clD_upd {l : List Dt} {lvs : Nat → Value} {j : Nat} (u : Value) : (fun k => if k = j then (clD_cs l lvs k).set 2 u else clD_cs l lvs k) = clD_cs l (fun k => if k = j then u else lvs k) := by
  funext k
  unfold clD_cs
  by_cases e : k = j
  · subst e; simp
  · simp [e]
set_option maxRecDepth 100000 in
set_option maxHeartbeats 8000000 in
theorem copied_any (c : Cod) (dv ov gv : Value) (w : World) (hc : CodW w c dv ov gv) (ho : c.ops.length ≤ 2000000) (hg : c.gl.length ≤ 2000000) (hd : c.data.length ≤ 2000000) (hws : ∀ x ∈ c.data, x.ws.length ≤ 2000000) :
    Calls Try.prog 48 #[codV c dv ov gv] w fun e w' => ∃ dv' ov' gv', e = .returned (codV c dv' ov' gv') ∧ CpP c w.heap.size w' dv' ov' gv' ∧ Fr w w' := by
  have HC := Lib.hid hc
  have HO := Lib.hid ho
  have HG := Lib.hid hg
  have HD := Lib.hid hd
  have HWS := Lib.hid hws
  unfold codV
  obtain ⟨nm, hnm⟩ : ∃ y, y = c.name := ⟨_, rfl⟩
  obtain ⟨procs, hpr⟩ : ∃ y, y = c.procs := ⟨_, rfl⟩
  obtain ⟨labels, hlb⟩ : ∃ y, y = c.labels := ⟨_, rfl⟩
  rw [← hnm, ← hpr, ← hlb]
  obtain ⟨da, dc, hdv, _, _, _⟩ := hc.d.form
  obtain ⟨oa, oc, hov, _, _, _⟩ := hc.o.form
  obtain ⟨ga, gc, hgv, _, _, _⟩ := hc.g.form
  obtain ⟨ld, hld⟩ : ∃ y, y = c.data.length := ⟨_, rfl⟩
  obtain ⟨lo, hlo⟩ : ∃ y, y = c.ops.length := ⟨_, rfl⟩
  obtain ⟨lg, hlg⟩ : ∃ y, y = c.gl.length := ⟨_, rfl⟩
  rw [← hld] at hdv
  rw [← hlo] at hov
  rw [← hlg] at hgv
  subst hdv hov hgv
  obtain ⟨wa, hwa⟩ : ∃ y, y = w.alloc (.cells #[.string nm, .slice da ld dc, .slice oa lo oc, .slice ga lg gc, .int .i64 procs, .int .i64 labels] 26) := ⟨_, rfl⟩
  have HFA : Hid (Fr w wa) := Lib.hid (by rw [hwa]; exact (Fr.refl w).alloc _)
  have HRA : Hid (CdR wa w.heap.size (.string nm) (.slice da ld dc) (.slice oa lo oc) (.slice ga lg gc) (.int .i64 procs) (.int .i64 labels)) := Lib.hid (by rw [hwa]; exact CdR.new w _ _ _ _ _ _)
  have hza : wa.heap.size = w.heap.size + 1 := by rw [hwa]; exact size_al w _
  have HWA := Lib.hid hwa
  obtain ⟨w0, hw0⟩ : ∃ y, y = wa.alloc (.cells #[.string ⟨#[]⟩, .slice none 0 0, .slice none 0 0, .slice none 0 0, .int .i64 0, .int .i64 0] 26) := ⟨_, rfl⟩
  have HF0 : Hid (Fr w w0) := Lib.hid (by rw [hw0]; exact HFA.out.alloc _)
  have HR0 : Hid (CdR w0 w.heap.size (.string nm) (.slice da ld dc) (.slice oa lo oc) (.slice ga lg gc) (.int .i64 procs) (.int .i64 labels)) := Lib.hid (by rw [hw0]; exact HRA.out.fr ((Fr.refl wa).alloc _))
  have HZ0 : Hid (CdR w0 (w.heap.size + 1) (.string ⟨#[]⟩) (.slice none 0 0) (.slice none 0 0) (.slice none 0 0) (.int .i64 0) (.int .i64 0)) := Lib.hid (by rw [hw0, ← hza]; exact CdR.new wa _ _ _ _ _ _)
  have hz0 : w0.heap.size = w.heap.size + 2 := by rw [hw0, size_al, hza]
  have HW0 := Lib.hid hw0
  have HS0 := Lib.hid hz0
  have HNM := Lib.hid hnm
  have HPR := Lib.hid hpr
  have HLB := Lib.hid hlb
  have HLD := Lib.hid hld
  have HLO := Lib.hid hlo
  have HLG := Lib.hid hlg
  obtain ⟨k0, k1, k2, k3, k4, k5⟩ := HR0.out.cells
  rw [HW0.out, HWA.out] at k0 k1 k2 k3 k4 k5
  clear hc ho hg hd hws hnm hpr hlb hld hlo hlg hwa hw0 hza hz0
  go_enter Try.func48, Try.ntmps48
  go_wp2_with fail
  rw [← HWA.out, ← HW0.out]
  clear k0 k1 k2 k3 k4 k5
  refine (clO_any c.ops _ w0 (HC.out.o.fr' HF0.out) HO.out).mono ?_
  rintro e w1 ⟨ov1, rfl, ho1, hf1⟩
  obtain ⟨oa1, oc1, hov1⟩ := own_val ho1
  have HO1 := Lib.hid ho1
  have HR1 := Lib.hid (HR0.out.fr hf1)
  have HF1 : Hid (Fr w w1) := Lib.hid (HF0.out.trans hf1)
  have HX1 : Hid (CdR (w1.setCell ⟨w.heap.size, 2, none⟩ ov1) w.heap.size (.string nm) (.slice da ld dc) ov1 (.slice ga lg gc) (.int .i64 procs) (.int .i64 labels)) := Lib.hid (HR1.out.set2 ov1)
  have HB1 : Hid (w0.heap.size ≤ w1.heap.size) := Lib.hid hf1.size
  have HZ1 := Lib.hid (HZ0.out.fr hf1)
  obtain ⟨k0, k1, k2, k3, k4, k5⟩ := HR1.out.cells
  have kf := HR1.out.free 2
  obtain ⟨j0, j1, j2, j3, j4, j5⟩ := HX1.out.cells
  rw [← HLO.out] at hov1
  clear hf1 ho1
  subst hov1
  go_wp2_with fail
  obtain ⟨ws1, hws1⟩ : ∃ y, y = w1.setCell ⟨w.heap.size, 2, none⟩ (.slice oa1 lo oc1) := ⟨_, rfl⟩
  rw [← hws1] at HX1 ⊢
  have HWS1 := Lib.hid hws1
  have HFS1 : Hid (Fr w ws1) := Lib.hid (by rw [hws1]; exact HF1.out.setCell (Nat.le_refl _) _)
  have HSZ1 : Hid (ws1.heap.size = w1.heap.size) := Lib.hid (by rw [hws1]; simp [World.setCell])
  have HOS1 : Hid (ws1.ownsRow w0.heap.size 48 3 (.slice oa1 lo oc1) c.ops.length (rowN (clO_cs c.ops) c.ops.length)) := Lib.hid (by rw [hws1]; exact ownsRow_setCell_below HO1.out (show w.heap.size < w0.heap.size by have := HS0.out; omega) _)
  have HZS1 : Hid (CdR ws1 (w.heap.size + 1) (.string ⟨#[]⟩) (.slice none 0 0) (.slice none 0 0) (.slice none 0 0) (.int .i64 0) (.int .i64 0)) := Lib.hid (by rw [hws1]; exact HZ1.out.ex (Ex.one _ _ _ _) (by simp))
  clear hws1 k0 k1 k2 k3 k4 k5 kf j0 j1 j2 j3 j4 j5
  refine (clE_any c.gl _ ws1 (HC.out.g.fr' HFS1.out) HG.out).mono ?_
  rintro e w2 ⟨gv2, rfl, ho2, hf2⟩
  obtain ⟨ga2, gc2, hgv2⟩ := own_val ho2
  have HR2 := Lib.hid (HX1.out.fr hf2)
  have HF2 : Hid (Fr w w2) := Lib.hid (HFS1.out.trans hf2)
  have HB2 : Hid (ws1.heap.size ≤ w2.heap.size) := Lib.hid hf2.size
  have HO2 := Lib.hid ((Ex.own (X := fun _ => False) hf2.ex (fun _ _ h => h) HOS1.out))
  have HE2 := Lib.hid (own_ens ho2)
  have HZ2 := Lib.hid (HZS1.out.fr hf2)
  rw [← HLG.out] at hgv2
  clear hf2 ho2
  subst hgv2
  have HX2 := Lib.hid (HR2.out.set3 (.slice ga2 lg gc2))
  obtain ⟨k0, k1, k2, k3, k4, k5⟩ := HR2.out.cells
  have kf := HR2.out.free 3
  obtain ⟨j0, j1, j2, j3, j4, j5⟩ := HX2.out.cells
  go_wp2_with fail
  obtain ⟨ws2, hws2⟩ : ∃ y, y = w2.setCell ⟨w.heap.size, 3, none⟩ (.slice ga2 lg gc2) := ⟨_, rfl⟩
  rw [← hws2] at HX2 ⊢
  have HFS2 : Hid (Fr w ws2) := Lib.hid (by rw [hws2]; exact HF2.out.setCell (Nat.le_refl _) _)
  have HSZ2 : Hid (ws2.heap.size = w2.heap.size) := Lib.hid (by rw [hws2]; simp [World.setCell])
  have HEX2 : Hid (Ex (fun k => k = w.heap.size) w2 ws2) := Lib.hid (by rw [hws2]; exact Ex.one _ _ _ _)
  have hlow : w.heap.size < ws1.heap.size := by have := HSZ1.out; have := HB1.out; have := HS0.out; omega
  have HES2 := Lib.hid (HE2.out.ens (fun b hb e => by have hb : ws1.heap.size ≤ b := hb.1; have e : b = w.heap.size := e; omega) HEX2.out)
  have HOS2 := Lib.hid (Ex.own HEX2.out (fun k hk e => by have := (HO2.out.lt k hk).1; have := HS0.out; omega) HO2.out)
  have HZS2 := Lib.hid (HZ2.out.ex HEX2.out (by simp))
  have HLOW := Lib.hid hlow
  clear hws2 hlow k0 k1 k2 k3 k4 k5 kf j0 j1 j2 j3 j4 j5
  refine (clD_any c.data _ ws2 (HC.out.d.fr' HFS2.out) HD.out).mono ?_
  rintro e w3 ⟨dv3, lvs, rfl, hi3, hx3, ho3, hf3⟩
  obtain ⟨da3, dc3, hdv3⟩ := own_val ho3
  -- the words' lists are those of before
  have HLI : Hid (∀ i x, c.data[i]? = some x → IntsV w (lvs i) x.ws) := Lib.hid (fun i x hx => by
    obtain ⟨b, off, n', cap', e, hcell⟩ := hx3 i x hx
    obtain ⟨b2, off2, e2, _, _, lv, h3, h4⟩ := HC.out.d.at_ hx
    have e3 : b = b2 ∧ off = off2 := by
      injection e with e _ _
      rw [e] at e2
      simpa using e2
    obtain ⟨rfl, rfl⟩ := e3
    have := HFS2.out.cell h3
    rw [hcell] at this
    obtain rfl := Option.some.inj this
    exact h4)
  have HR3 := Lib.hid (HX2.out.fr hf3)
  have HF3 : Hid (Fr w w3) := Lib.hid (HFS2.out.trans hf3)
  have HB3 : Hid (ws2.heap.size ≤ w3.heap.size) := Lib.hid hf3.size
  have HO3 := Lib.hid ((Ex.own (X := fun _ => False) hf3.ex (fun _ _ h => h) HOS2.out))
  have HE3 := Lib.hid (HES2.out.ens (X := fun _ => False) (fun _ _ h => h) hf3.ex)
  have HZ3 := Lib.hid (HZS2.out.fr hf3)
  have HD3 := Lib.hid ho3
  rw [← HLD.out] at hdv3
  clear hi3 hx3 hf3 ho3
  subst hdv3
  have HX3 := Lib.hid (HR3.out.set1 (.slice da3 ld dc3))
  obtain ⟨k0, k1, k2, k3, k4, k5⟩ := HR3.out.cells
  have kf := HR3.out.free 1
  obtain ⟨j0, j1, j2, j3, j4, j5⟩ := HX3.out.cells
  go_wp2_with fail
  obtain ⟨ws3, hws3⟩ : ∃ y, y = w3.setCell ⟨w.heap.size, 1, none⟩ (.slice da3 ld dc3) := ⟨_, rfl⟩
  rw [← hws3] at HX3 ⊢
  have HFS3 : Hid (Fr w ws3) := Lib.hid (by rw [hws3]; exact HF3.out.setCell (Nat.le_refl _) _)
  have HSZ3 : Hid (ws3.heap.size = w3.heap.size) := Lib.hid (by rw [hws3]; simp [World.setCell])
  have HEX3 : Hid (Ex (fun k => k = w.heap.size) w3 ws3) := Lib.hid (by rw [hws3]; exact Ex.one _ _ _ _)
  have HES3 := Lib.hid (HE3.out.ens (fun b hb e => by have hb : ws1.heap.size ≤ b := hb.1; have e : b = w.heap.size := e; have := HLOW.out; omega) HEX3.out)
  have HOS3 := Lib.hid (Ex.own HEX3.out (fun k hk e => by have := (HO3.out.lt k hk).1; have := HS0.out; omega) HO3.out)
  have HZS3 := Lib.hid (HZ3.out.ex HEX3.out (by simp))
  have HBB : Hid (w.heap.size + 2 ≤ w0.heap.size ∧ w0.heap.size ≤ ws1.heap.size ∧ ws1.heap.size ≤ ws2.heap.size ∧ ws2.heap.size ≤ ws3.heap.size) := Lib.hid (by have := HS0.out; have := HB1.out; have := HSZ1.out; have := HB2.out; have := HSZ2.out; have := HB3.out; have := HSZ3.out; omega)
  have HDS3 := Lib.hid (Ex.own HEX3.out (fun k hk e => by have := (HD3.out.lt k hk).1; have := HBB.out; omega) HD3.out)
  clear hws3 k0 k1 k2 k3 k4 k5 kf j0 j1 j2 j3 j4 j5
  rw [← HLD.out] at HDS3
  obtain ⟨l, hl⟩ : ∃ y, y = c.data := ⟨_, rfl⟩
  have HL := Lib.hid hl
  rw [← hl] at HDS3 HLI
  have HN : Hid (ld = l.length) := Lib.hid (by rw [hl]; exact HLD.out)
  clear hl
  obtain ⟨k0, k1, k2, k3, k4, k5⟩ := HX3.out.cells
  have hld2 : ld ≤ 2000000 := by have := HD.out; have := HLD.out; omega
  go_loopw [19] (fun i wr => ∃ (j : Nat) (lv : Nat → Value), j ≤ ld ∧ i = .int .i64 j ∧ Hid (wr.ownsRow ws2.heap.size 41 3 (.slice da3 ld dc3) ld (rowN (clD_cs l lv) ld)) ∧ Hid (∀ k, j ≤ k → lv k = lvs k) ∧ Hid (∀ k x, k < j → l[k]? = some x → SlP (fun b => ws3.heap.size ≤ b) 1 InC wr (lv k) x.ws) ∧ Hid (Ex (fun k => (Value.slice da3 ld dc3).ownBlock = some k) ws3 wr) ∧ Hid (Fr w wr)) (fun i _ => ld - (intOf i).toNat)
  case atStart => exact ⟨0, lvs, Nat.zero_le _, rfl, HDS3, Lib.hid (fun _ _ => rfl), Lib.hid (fun k x h => absurd h (Nat.not_lt_zero k)), Lib.hid (Ex.refl _ _), HFS3⟩
  case round =>
    obtain ⟨j, lv, hj, rfl, HROW, HLVK, HNEW, HEX, HFR⟩ := hrel
    clear k0 k1 k2 k3 k4 k5
    by_cases hlt : j < ld
    · rcases row_cell (clD_len l lv) HROW.out with ⟨_, hn0⟩ | ⟨g, cap, hdv, hgb, hn, hm, hcell⟩
      · omega
      · obtain ⟨rfl, rfl⟩ : da3 = some ⟨g, 0, none⟩ ∧ dc3 = cap := by simpa using hdv
        obtain ⟨x, hx⟩ : ∃ x, l[j]? = some x := ⟨_, List.getElem?_eq_getElem (by rw [← HN.out]; exact hlt)⟩
        have hgl : g < ws3.heap.size := (HDS3.out.lt g rfl).2
        obtain ⟨lj, hlj⟩ : ∃ y, y = lv j := ⟨_, rfl⟩
        have hli := HLI.out j x hx
        rw [← HLVK.out j (Nat.le_refl _), ← hlj] at hli
        have CI := Lib.hid (fun W (h : Fr wr W) => clI_any x.ws lj W (hli.fr' (HFR.out.trans h)) (HWS.out x (by rw [← HL.out]; exact List.mem_of_getElem? hx)))
        have hne : ¬ ((Value.slice (some ⟨g, 0, none⟩) ld dc3).ownBlock = some w.heap.size) := fun e => by
          have e : g = w.heap.size := by simpa [Value.ownBlock] using e
          have := HBB.out; omega
        have HRR := Lib.hid (HX3.out.ex HEX.out hne)
        have HFACT : Hid (∀ W, Fr wr W → W.cell? ⟨w.heap.size, 1, none⟩ = some (.slice (some ⟨g, 0, none⟩) ld dc3) ∧ W.cell? ⟨g, j * 3 + 2, none⟩ = some lj ∧ W.frozen? ⟨g, j * 3 + 2, none⟩ = false) := Lib.hid (fun W hW => by
          refine ⟨hW.cell HRR.out.cells.2.1, hW.cell (hcell j 2 lj hlt (by omega) (by rw [hlj]; rfl)), ?_⟩
          exact own_free (Ex.own (X := fun _ => False) hW.ex (fun _ _ h => h) HROW.out) _)
        obtain ⟨u0, u1, u2⟩ := HFACT.out _ (Fr.refl wr)
        have HX := Lib.hid hx
        have HLJ := Lib.hid hlj
        have HGB := Lib.hid (And.intro hgb hgl)
        clear hx hli hne hdv hcell hgl hgb hlj hn hm
        have pj0 : (0 : Int) ≤ (j : Int) := Int.natCast_nonneg _
        have pj1 : (j : Int) < (ld : Int) := by omega
        go_wp2_with fail
        go_region_with (go_at_call 79; refine (CI.out _ ((Fr.refl wr).drew)).mono ?_; rintro e w4 ⟨v4, rfl, ho4, hf4⟩; have hq4 := ((Fr.refl wr).drew).trans hf4; obtain ⟨a4, c4, rfl⟩ := own_val ho4; obtain ⟨v0, v1, v2⟩ := HFACT.out _ hq4)
        all_goals
          have HQ4 := Lib.hid hq4
          have HO4 := Lib.hid (own_ints ho4)
          clear hf4 hq4 ho4 v0 v1 v2 u0 u1 u2
          go_wp2_with fail
          go_roundw
          case rel =>
            have hEX : Ex (fun k => (Value.slice (some ⟨g, 0, none⟩) ld dc3).ownBlock = some k) wr (w4.setCell ⟨g, j * 3 + 2, none⟩ (.slice a4 x.ws.length c4)) := Ex.set (X := fun k => (Value.slice (some ⟨g, 0, none⟩) ld dc3).ownBlock = some k) HQ4.out.ex (p := ⟨g, j * 3 + 2, none⟩) rfl _
            refine ⟨j + 1, fun k => if k = j then .slice a4 x.ws.length c4 else lv k, by omega, by go_num, Lib.hid ?_, Lib.hid (fun k hk => ?_), Lib.hid (fun k y hk hy => ?_), Lib.hid (HEX.out.trans hEX), Lib.hid ((HFR.out.trans HQ4.out).setCell ?_ _)⟩
            · have h1 := Ex.own (X := fun _ => False) HQ4.out.ex (fun _ _ h => h) HROW.out
              have h2 := row_stored (by omega) (clD_len l lv) h1 hlt (r := 2) (by omega) (.slice a4 x.ws.length c4)
              rw [clD_upd] at h2
              exact h2
            · simp only
              rw [if_neg (by omega)]
              exact HLVK.out k (by omega)
            · simp only
              by_cases e : k = j
              · have e2 := e.symm
                subst e2
                rw [if_pos rfl]
                obtain rfl : x = y := Option.some.inj (HX.out.symm.trans hy)
                have h1 : SlP (fun b => ws3.heap.size ≤ b) 1 InC w4 (.slice a4 x.ws.length c4) x.ws := HO4.out.mono (fun b hb => Nat.le_trans HEX.out.size hb)
                exact h1.ints (fun b hb e => by have e : g = b := by simpa [Value.ownBlock] using e
                                                have hb : ws3.heap.size ≤ b := hb
                                                have := HGB.out.2; omega) (Ex.set (X := fun k => (Value.slice (some ⟨g, 0, none⟩) ld dc3).ownBlock = some k) (Ex.refl _ w4) (p := ⟨g, j * 3 + 2, none⟩) rfl _)
              · rw [if_neg e]
                exact (HNEW.out k y (by omega) hy).ints (fun b hb e => by have e : g = b := by simpa [Value.ownBlock] using e
                                                                          have hb : ws3.heap.size ≤ b := hb
                                                                          have := HGB.out.2; omega) hEX
            · have := HGB.out.1; have := HBB.out; show w.heap.size ≤ g; omega
          case measure => simp [intOf]; omega
    · obtain rfl : j = ld := by omega
      have hne : ¬ ((Value.slice da3 j dc3).ownBlock = some w.heap.size) := fun e => by
        have := (HDS3.out.lt _ e).1; have := HBB.out; omega
      have hne2 : ¬ ((Value.slice da3 j dc3).ownBlock = some (w.heap.size + 1)) := fun e => by
        have := (HDS3.out.lt _ e).1; have := HBB.out; omega
      have HRR := Lib.hid (HX3.out.ex HEX.out hne)
      have HZZ := Lib.hid (HZS3.out.ex HEX.out hne2)
      obtain ⟨k0, k1, k2, k3, k4, k5⟩ := HRR.out.cells
      obtain ⟨z0, z1, z2, z3, z4, z5⟩ := HZZ.out.cells
      have f0 := HZZ.out.free 0
      have f1 := HZZ.out.free 1
      have f2 := HZZ.out.free 2
      have f3 := HZZ.out.free 3
      have f4 := HZZ.out.free 4
      have f5 := HZZ.out.free 5
      clear hlt hj hne hne2
      obtain ⟨wf, hwf⟩ : ∃ y, y = ((((((wr.setCell ⟨w.heap.size + 1, 0, none⟩ (.string nm)).setCell ⟨w.heap.size + 1, 1, none⟩ (.slice da3 j dc3)).setCell ⟨w.heap.size + 1, 2, none⟩ (.slice oa1 lo oc1)).setCell ⟨w.heap.size + 1, 3, none⟩ (.slice ga2 lg gc2)).setCell ⟨w.heap.size + 1, 4, none⟩ (.int .i64 procs)).setCell ⟨w.heap.size + 1, 5, none⟩ (.int .i64 labels)) := ⟨_, rfl⟩
      have HRF : Hid (CdR wf (w.heap.size + 1) (.string nm) (.slice da3 j dc3) (.slice oa1 lo oc1) (.slice ga2 lg gc2) (.int .i64 procs) (.int .i64 labels)) := Lib.hid (by rw [hwf]; exact HZZ.out.all _ _ _ _ _ _)
      have HEF : Hid (Ex (fun k => k = w.heap.size + 1) wr wf) := Lib.hid (by rw [hwf]; exact Ex.all _ _ _ _ _ _ _ _)
      have HFF : Hid (Fr w wf) := Lib.hid (by rw [hwf]; exact HFR.out.all (Nat.le_succ _) _ _ _ _ _ _)
      have HWF := Lib.hid hwf
      clear hwf
      go_wp2_with fail
      rw [← HWF.out]
      clear k0 k1 k2 k3 k4 k5 z0 z1 z2 z3 z4 z5 f0 f1 f2 f3 f4 f5
      obtain ⟨k0, k1, k2, k3, k4, k5⟩ := HRF.out.cells
      refine bodyPost_ret (v := .agg #[.string nm, .slice da3 j dc3, .slice oa1 lo oc1, .slice ga2 lg gc2, .int .i64 procs, .int .i64 labels]) (by simp [results, Try.results48, go_sem, k0, k1, k2, k3, k4, k5]) rfl ?_
      have hjl : j = l.length := HN.out
      have hg : ∀ k, (Value.slice da3 j dc3).ownBlock = some k → ws2.heap.size ≤ k := fun k hk => (HDS3.out.lt k hk).1
      refine ⟨_, _, _, rfl, ⟨ws1.heap.size, by have := HBB.out; omega, fun k hk => ?_, ?_, ?_, ?_⟩, HFF.out⟩
      · have := (HO1.out.lt k hk).2
        have := HSZ1.out; omega
      · have h1 := Ex.own HEX.out (fun k hk e => by have h3 := (HO1.out.lt k hk).2; have h4 := hg k e; have := HSZ1.out; have := HBB.out; omega) HOS3.out
        have h2 := Ex.own HEF.out (fun k hk e => by have h3 := (HO1.out.lt k hk).1; have e : k = w.heap.size + 1 := e; have := HBB.out; omega) h1
        exact own_base h2 (by have := HBB.out; omega)
      · have h1 := HES3.out.ens (fun b hb e => by have hb : ws1.heap.size ≤ b ∧ b < w2.heap.size := hb; have := hg b e; have := HSZ2.out; omega) HEX.out
        have h2 := h1.ens (fun b hb e => by have hb : ws1.heap.size ≤ b ∧ b < w2.heap.size := hb; have e : b = w.heap.size + 1 := e; have := HBB.out; omega) HEF.out
        exact h2.mono (fun b hb => hb.1)
      · have h1 := own_base (Ex.own HEF.out (fun k hk e => by have h3 := hg k hk; have e : k = w.heap.size + 1 := e; have := HBB.out; omega) HROW.out) (show ws1.heap.size ≤ ws2.heap.size by have := HBB.out; omega)
        rw [← HL.out]
        rw [hjl] at h1 ⊢
        refine own_dts h1 (fun i x hx => ?_)
        have h3 := (HNEW.out i x (by rw [hjl]; exact (List.getElem?_eq_some_iff.1 hx).1) hx).ints (fun b hb e => by have hb : ws3.heap.size ≤ b := hb; have e : b = w.heap.size + 1 := e; have := HBB.out; omega) HEF.out
        exact h3.mono (fun b hb => by have hb : ws3.heap.size ≤ b := hb; have := HBB.out; omega)
end Go.Proofs.Ytbhhjbnobcgfeaa
