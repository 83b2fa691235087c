/- The document's own copy of code. -/
import Derived.Test.YtbhhjbnobcgfeaaWB
namespace Go.Proofs.Ytbhhjbnobcgfeaa
open Go.RowKit
set_option linter.unusedVariables false
set_option linter.unusedSimpArgs false

/-- A block of an area's three cells. -/
def DaR (w : World) (b : Nat) (x0 x1 x2 : Value) : Prop := w.heap[b]? = some (.cells #[x0, x1, x2] 41 (0, 0))
section
variable {w w' : World} {b : Nat} {x0 x1 x2 : Value}
theorem DaR.lt (h : DaR w b x0 x1 x2) : b < w.heap.size := (Array.getElem?_eq_some_iff.1 h).1
theorem DaR.fr (h : DaR w b x0 x1 x2) (k : Fr w w') : DaR w' b x0 x1 x2 := (k.block b h.lt).trans h
theorem DaR.cells (h : DaR w b x0 x1 x2) : w.cell? ⟨b, 0, none⟩ = some x0 ∧ w.cell? ⟨b, 1, none⟩ = some x1 ∧ w.cell? ⟨b, 2, none⟩ = some x2 := by
  unfold DaR at h
  simp [World.cell?, h]
theorem DaR.free (h : DaR w b x0 x1 x2) (i : Nat) : w.frozen? ⟨b, i, none⟩ = false := by
  unfold DaR at h
  simp [World.frozen?, h]
theorem DaR.new (w : World) (x0 x1 x2 : Value) : DaR (w.alloc (.cells #[x0, x1, x2] 41)) w.heap.size x0 x1 x2 := by
  unfold DaR; simp only [World.alloc, Array.getElem?_push_size]
theorem DaR.set2 (h : DaR w b x0 x1 x2) (v : Value) : DaR (w.setCell ⟨b, 2, none⟩ v) b x0 x1 v := by
  unfold DaR at h ⊢
  simp [World.setCell, Array.getElem?_modify, h]
theorem DaR.news (h : DaR w b x0 x1 x2) : ∀ j u, ([x0, x1, x2] : List Value)[j]? = some u → w.cell? ((⟨b, 0, none⟩ : Addr).add j) = some u := by
  intro j u hu
  obtain ⟨h0, h1, h2⟩ := h.cells
  rw [ap_add, Nat.zero_add]
  match j, hu with
  | 0, hu => obtain rfl : _ = u := Option.some.inj hu; exact h0
  | 1, hu => obtain rfl : _ = u := Option.some.inj hu; exact h1
  | 2, hu => obtain rfl : _ = u := Option.some.inj hu; exact h2
end
theorem own_ints2 {w : World} {base : Nat} {v : Value} {l : List Int} (h : w.ownsRow base 3 1 v l.length (rowN (clI_cs l) l.length)) : SlP (fun b => base ≤ b ∧ b < w.heap.size) 1 InC w v l := by
  obtain ⟨a, cap, h1, h2, h3, h4, h5⟩ := clI_sl h
  refine ⟨a, cap, h1, h2, h3, h4, fun hp => ?_⟩
  obtain ⟨b, off, e, hg⟩ := h5 hp
  refine ⟨b, off, e, ?_, hg⟩
  subst h1; subst e
  exact h.lt b rfl
/-- An own row of areas whose words' lists are in memory. -/
theorem own_dtsV {w : World} {base : Nat} {v : Value} {l : List Dt} {lvs : Nat → Value} (h : w.ownsRow base 41 3 v l.length (rowN (clD_cs l lvs) l.length)) (hl : ∀ i x, l[i]? = some x → IntsV w (lvs i) x.ws) : DtsV w v l := by
  rcases row_cell (clD_len l lvs) h with ⟨rfl, hn⟩ | ⟨g, cap, rfl, hb, hn, hm, hc⟩
  · obtain rfl : l = [] := List.eq_nil_of_length_eq_zero hn
    exact ⟨none, 0, rfl, Nat.le_refl _, Nat.zero_le _, fun _ => rfl, fun h => absurd h (Nat.lt_irrefl 0)⟩
  · refine ⟨some ⟨g, 0, none⟩, cap, rfl, hn, hm, fun e => (by cases e), fun _ => ⟨g, 0, rfl, fun i x hx => ?_⟩⟩
    have hi := (List.getElem?_eq_some_iff.1 hx).1
    have hd : l.getD i default = x := by rw [List.getD_eq_getElem?_getD, hx]; rfl
    have hk := fun r u hr hu => hc i r u hi hr hu
    unfold clD_cs at hk
    rw [hd] at hk
    rw [Nat.zero_add]
    exact ⟨hk 0 _ (by omega) rfl, hk 1 _ (by omega) rfl, lvs i, hk 2 _ (by omega) rfl, hl i x hx⟩
/-- One area more at the end of the row. -/
theorem clD_more {l : List Dt} {lv : Nat → Value} {j : Nat} {x : Dt} (hx : l[j]? = some x) (u : Value) :
    rowN (clD_cs l lv) j ++ [.string x.t, .bool x.b, u] = rowN (clD_cs l (fun k => if k = j then u else lv k)) (j + 1) := by
  have hd : l.getD j default = x := by rw [List.getD_eq_getElem?_getD, hx]; rfl
  have h1 : ∀ n, n ≤ j → rowN (clD_cs l lv) n = rowN (clD_cs l (fun k => if k = j then u else lv k)) n := by
    intro n
    induction n with
    | zero => intro _; rfl
    | succ n ih =>
      intro hn
      rw [rowN, rowN, ih (by omega)]
      unfold clD_cs
      simp only
      rw [if_neg (by omega)]
  rw [rowN, h1 j (Nat.le_refl _)]
  unfold clD_cs
  simp only [if_pos, hd]
set_option maxRecDepth 100000 in
set_option maxHeartbeats 8000000 in
theorem cpC_any (c : Cod) (dv ov gv : Value) (w : World) (hc : CodW w c dv ov gv) (ho : c.ops.length ≤ 2000000) (hg : c.gl.length ≤ 2000000) (hd : c.data.length ≤ 2000000) (hws : ∀ x ∈ c.data, x.ws.length ≤ 2000000) :
    Calls Try.prog 49 #[codV c dv ov gv] w fun e w' => ∃ dv' oa' on oc' ga' gn gc', e = .returned (codV c dv' (.slice oa' on oc') (.slice ga' gn gc')) ∧ SlP (fun b => w.heap.size ≤ b) 3 (DtP (fun b => w.heap.size ≤ b)) w' dv' c.data ∧ Fr w w' := by
  have HC := Lib.hid hc
  have HO := Lib.hid ho
  have HG := Lib.hid hg
  have HD := Lib.hid hd
  have HWS := Lib.hid hws
  obtain ⟨i0, hi0, hz0, hz1, hz2⟩ := info_at clD_info
  have HI := Lib.hid (And.intro hi0 (And.intro hz0 (And.intro hz1 hz2)))
  obtain ⟨i1, hj0, hy0, hy1, hy2⟩ := info_at clO_info
  have HIO := Lib.hid (And.intro hj0 (And.intro hy0 (And.intro hy1 hy2)))
  obtain ⟨i2, hk0, hx0, hx1, hx2⟩ := info_at clE_info
  have HIE := Lib.hid (And.intro hk0 (And.intro hx0 (And.intro hx1 hx2)))
  clear hi0 hz0 hz1 hz2 hj0 hy0 hy1 hy2 hk0 hx0 hx1 hx2
  unfold codV
  obtain ⟨nm, hnm⟩ : ∃ y, y = c.name := ⟨_, rfl⟩
  obtain ⟨procs, hpr⟩ : ∃ y, y = c.procs := ⟨_, rfl⟩
  obtain ⟨labels, hlb⟩ : ∃ y, y = c.labels := ⟨_, rfl⟩
  rw [← hnm, ← hpr, ← hlb]
  obtain ⟨da, dc, hdv, _, _, _⟩ := hc.d.form
  obtain ⟨oa, oc, hov, ho1, _, ho3⟩ := hc.o.form
  obtain ⟨ga, gc, hgv, hg1, _, hg3⟩ := hc.g.form
  obtain ⟨ld, hld⟩ : ∃ y, y = c.data.length := ⟨_, rfl⟩
  obtain ⟨lo, hlo⟩ : ∃ y, y = c.ops.length := ⟨_, rfl⟩
  obtain ⟨lg, hlg⟩ : ∃ y, y = c.gl.length := ⟨_, rfl⟩
  rw [← hld] at hdv
  rw [← hlo] at hov
  rw [← hlg] at hgv
  subst hdv hov hgv
  obtain ⟨wa, hwa⟩ : ∃ y, y = w.alloc (.cells #[.string nm, .slice da ld dc, .slice oa lo oc, .slice ga lg gc, .int .i64 procs, .int .i64 labels] 26) := ⟨_, rfl⟩
  have HFA : Hid (Fr w wa) := Lib.hid (by rw [hwa]; exact (Fr.refl w).alloc _)
  have HRA : Hid (CdR wa w.heap.size (.string nm) (.slice da ld dc) (.slice oa lo oc) (.slice ga lg gc) (.int .i64 procs) (.int .i64 labels)) := Lib.hid (by rw [hwa]; exact CdR.new w _ _ _ _ _ _)
  have hza : wa.heap.size = w.heap.size + 1 := by rw [hwa]; exact size_al w _
  have HWA := Lib.hid hwa
  obtain ⟨w0, hw0⟩ : ∃ y, y = wa.alloc (.cells #[.string ⟨#[]⟩, .slice none 0 0, .slice none 0 0, .slice none 0 0, .int .i64 0, .int .i64 0] 26) := ⟨_, rfl⟩
  have HF0 : Hid (Fr w w0) := Lib.hid (by rw [hw0]; exact HFA.out.alloc _)
  have HR0 : Hid (CdR w0 w.heap.size (.string nm) (.slice da ld dc) (.slice oa lo oc) (.slice ga lg gc) (.int .i64 procs) (.int .i64 labels)) := Lib.hid (by rw [hw0]; exact HRA.out.fr ((Fr.refl wa).alloc _))
  have HZ0 : Hid (CdR w0 (w.heap.size + 1) (.string ⟨#[]⟩) (.slice none 0 0) (.slice none 0 0) (.slice none 0 0) (.int .i64 0) (.int .i64 0)) := Lib.hid (by rw [hw0, ← hza]; exact CdR.new wa _ _ _ _ _ _)
  have hz0 : w0.heap.size = w.heap.size + 2 := by rw [hw0, size_al, hza]
  have HW0 := Lib.hid hw0
  have HS0 := Lib.hid hz0
  have HNM := Lib.hid hnm
  have HPR := Lib.hid hpr
  have HLB := Lib.hid hlb
  have HLD := Lib.hid hld
  have HLO := Lib.hid hlo
  have HLG := Lib.hid hlg
  have HON : Hid (oa = none → lo = 0) := Lib.hid (fun e => by have := ho3 e; omega)
  have HGN : Hid (ga = none → lg = 0) := Lib.hid (fun e => by have := hg3 e; omega)
  have HOL : Hid (lo ≤ 2000000) := Lib.hid (by rw [hlo]; exact ho)
  have HGL : Hid (lg ≤ 2000000) := Lib.hid (by rw [hlg]; exact hg)
  clear ho1 ho3 hg1 hg3
  have hld2 : ld ≤ 2000000 := by rw [hld]; exact hd
  obtain ⟨l, hl⟩ : ∃ y, y = c.data := ⟨_, rfl⟩
  have HL := Lib.hid hl
  have HN : Hid (ld = l.length) := Lib.hid (by rw [hl]; exact hld)
  have HDT : Hid (DtsV w (.slice da ld dc) l) := Lib.hid (by rw [hl]; exact hc.d)
  have HWL : Hid (∀ x ∈ l, x.ws.length ≤ 2000000) := Lib.hid (by rw [hl]; exact hws)
  clear hc ho hg hd hws hnm hpr hlb hld hlo hlg hwa hw0 hza hz0 hl
  go_enter Try.func49, Try.ntmps49
  go_wp2_with fail
  rw [← HWA.out, ← HW0.out]
  go_loopw [3, 4] (fun d i wr => ∃ (j : Nat) (lv : Nat → Value), j ≤ ld ∧ i = .int .i64 j ∧ Hid (wr.ownsRow w0.heap.size 41 3 d j (rowN (clD_cs l lv) j)) ∧ Hid (∀ k x, k < j → l[k]? = some x → SlP (fun b => w0.heap.size ≤ b ∧ b < wr.heap.size ∧ d.ownBlock ≠ some b) 1 InC wr (lv k) x.ws) ∧ Hid (Fr w0 wr)) (fun _ i _ => ld - (intOf i).toNat)
  case atStart => exact ⟨0, fun _ => .int .i64 0, Nat.zero_le _, rfl, Lib.hid (World.ownsRow_nil _ _ _ _), Lib.hid (fun k x h => absurd h (Nat.not_lt_zero k)), Lib.hid (Fr.refl _)⟩
  case round =>
    obtain ⟨j, lv, hj, rfl, HROW, HNEW, HFR⟩ := hrel
    obtain ⟨k0, k1, k2, k3, k4, k5⟩ := (HR0.out.fr HFR.out).cells
    by_cases hlt : j < ld
    · obtain ⟨x, hx⟩ : ∃ x, l[j]? = some x := ⟨_, List.getElem?_eq_getElem (by rw [← HN.out]; exact hlt)⟩
      obtain ⟨b2, off2, e2, h1, h2, lj, h3, hli⟩ := HDT.out.at_ hx
      subst e2
      have hq := HF0.out.trans HFR.out
      have e1 := hq.cell h1
      have e2 := hq.cell h2
      have e3 := hq.cell h3
      obtain ⟨al, cl, rfl, _, _, _⟩ := hli.form
      obtain ⟨nl, hnl⟩ : ∃ y, y = x.ws.length := ⟨_, rfl⟩
      have CI := Lib.hid (fun W (h : Fr wr W) => cpI_any x.ws (.slice al x.ws.length cl) W (hli.fr' (hq.trans h)) (HWL.out x (List.mem_of_getElem? hx)))
      have HNL := Lib.hid hnl
      rw [← hnl] at CI e3
      have HX := Lib.hid hx
      obtain ⟨a3, c3, rfl⟩ := own_val HROW.out
      clear hx h1 h2 h3 hli hq hnl
      have pj0 : (0 : Int) ≤ (j : Int) := Int.natCast_nonneg _
      have pj1 : (j : Int) < (ld : Int) := by omega
      obtain ⟨wB, hwB⟩ : ∃ y, y = wr.alloc (.cells #[.string x.t, .bool x.b, .slice al nl cl] 41) := ⟨_, rfl⟩
      have HFB : Hid (Fr wr wB) := Lib.hid (by rw [hwB]; exact (Fr.refl wr).alloc _)
      have HDB : Hid (DaR wB wr.heap.size (.string x.t) (.bool x.b) (.slice al nl cl)) := Lib.hid (by rw [hwB]; exact DaR.new _ _ _ _)
      have HFACT : Hid (∀ W, Fr wB W → W.cell? ⟨wr.heap.size, 2, none⟩ = some (.slice al nl cl) ∧ W.frozen? ⟨wr.heap.size, 2, none⟩ = false) := Lib.hid (fun W hW => ⟨(HDB.out.fr hW).cells.2.2, (HDB.out.fr hW).free 2⟩)
      obtain ⟨u0, u1⟩ := HFACT.out _ (Fr.refl wB)
      have HWB := Lib.hid hwB
      rw [hwB] at u0 u1
      clear hwB
      go_wp2_with fail
      rw [← HWB.out]
      rw [← HWB.out] at u0 u1
      refine (CI.out _ HFB.out).mono ?_
      rintro e w4 ⟨v4, rfl, ho4, hf4⟩
      obtain ⟨a4, c4, rfl⟩ := own_val ho4
      have HF4 := Lib.hid hf4
      have HO4 := Lib.hid ho4
      have HD4 := Lib.hid (HDB.out.fr hf4)
      have HD5 := Lib.hid (HD4.out.set2 (.slice a4 nl c4))
      obtain ⟨v0, v1, v2⟩ := HD5.out.cells
      obtain ⟨x0, x1, x2⟩ := HD4.out.cells
      have v3 := HD4.out.free 2
      clear hf4 ho4 u0 u1
      obtain ⟨w5, hw5⟩ : ∃ y, y = w4.setCell ⟨wr.heap.size, 2, none⟩ (.slice a4 nl c4) := ⟨_, rfl⟩
      have HE5 : Hid (Ex (fun k => k = wr.heap.size) w4 w5) := Lib.hid (by rw [hw5]; exact Ex.one _ _ _ _)
      have hwb : wr.heap.size < wB.heap.size := HDB.out.lt
      have HSB := Lib.hid hwb
      have HF5 : Hid (Fr wr w5) := Lib.hid (by rw [hw5]; exact (HFB.out.trans HF4.out).setCell (Nat.le_refl _) _)
      have HW5 := Lib.hid hw5
      have HZ5 : Hid (w5.heap.size = w4.heap.size) := Lib.hid (by rw [hw5]; simp [World.setCell])
      clear hw5 hwb
      go_wp2_with (with_reducible refine stop_append_a ?_)
      rw [← HW5.out, ← HZ5.out]
      unfold StopA
      have HROW6 : Hid ((w5.alloc (.cells #[.string x.t, .bool x.b, .slice a4 nl c4] 41)).ownsRow w0.heap.size 41 3 (.slice a3 j c3) j (rowN (clD_cs l lv) j)) := Lib.hid (Ex.own (X := fun _ => False) ((HF5.out.alloc _).ex) (fun _ _ h => h) HROW.out)
      refine wpList_append_own_at _ rfl (.tmp 22) (.tmp 24) 22 rfl w0.heap.size 41 i0 _ 3 48 Try.underlying22 HI.out.1 HI.out.2.1 HI.out.2.2.1 HI.out.2.2.2 rfl (by omega) _ j (rowN (clD_cs l lv) j) (by rfl) HROW6.out ⟨w5.heap.size, 0, none⟩ 1 1 [.string x.t, .bool x.b, .slice a4 nl c4] (by rfl) (by rfl) (DaR.new w5 _ _ _).news (fun u hu => by simp only [List.mem_cons, List.not_mem_nil, or_false] at hu; rcases hu with rfl | rfl | rfl <;> rfl) (by unfold maxLen; omega) (by omega) (by have := HFR.out.size; have := HF5.out.size; rw [size_al]; omega) fun v6 w6 hown6 hg6 _ hb6 => ?_
      have HF6 : Hid (Fr w0 w6) := Lib.hid (own_fr6 ((HFR.out.trans HF5.out).alloc _) HROW6.out hg6)
      rw [clD_more HX.out] at hown6
      have HO6 := Lib.hid hown6
      have HG6 := Lib.hid hg6
      have HB6 := Lib.hid hb6
      obtain ⟨a6, c6, rfl⟩ := own_val hown6
      clear hown6 hg6 hb6 v0 v1 v2 v3 x0 x1 x2
      go_wp2_with fail
      go_roundw
      case rel =>
        obtain ⟨w7, hw7⟩ : ∃ y, y = w5.alloc (.cells #[.string x.t, .bool x.b, .slice a4 nl c4] 41) := ⟨_, rfl⟩
        have hg6 := HG6.out
        have hb6 := HB6.out
        rw [← hw7] at hg6 hb6
        have hs7 : w7.heap.size = w5.heap.size + 1 := by rw [hw7]; exact size_al _ _
        have hF7 : Fr w5 w7 := by rw [hw7]; exact (Fr.refl _).alloc _
        have hE6 : Ex (fun b => (Value.slice a3 j c3).ownBlock = some b) w7 w6 := ⟨hg6.size, fun k hk hx => hg6.block k hk (fun e => hx e.symm)⟩
        have hs6 := hg6.size
        have hfr := HF5.out.size
        have hfr0 := HFR.out.size
        have hl3 : ∀ b, (Value.slice a3 j c3).ownBlock = some b → b < wr.heap.size := fun b e => (HROW.out.lt b e).2
        have hz5 := HZ5.out
        have hsb := HSB.out
        clear hw7 hg6
        refine ⟨j + 1, fun k => if k = j then .slice a4 nl c4 else lv k, by omega, by go_num, HO6, Lib.hid (fun k y hk hy => ?_), HF6⟩
        simp only
        by_cases e : k = j
        · have e2 := e.symm
          subst e2
          rw [if_pos rfl]
          obtain rfl : x = y := Option.some.inj (HX.out.symm.trans hy)
          have h0 := HO4.out
          rw [HNL.out] at h0 ⊢
          have h1 := own_ints2 h0
          have h2 := h1.ints (X := fun k => k = wr.heap.size) (fun b hb e => by have hb1 := hb.1; have e : b = wr.heap.size := e; omega) HE5.out
          have h3 := h2.ints (X := fun _ => False) (fun _ _ h => h) hF7.ex
          have h4 := h3.ints (X := fun b => (Value.slice a3 j c3).ownBlock = some b) (fun b hb e => by have := hl3 b e; have hb1 := hb.1; omega) hE6
          refine h4.mono (fun b hb => ?_)
          have hb1 := hb.1
          have hb2 := hb.2
          refine ⟨by omega, by omega, fun e => ?_⟩
          rcases hb6 with hb6 | hb6
          · rw [hb6] at e
            have := hl3 b e
            omega
          · rw [hb6] at e
            have := Option.some.inj e
            omega
        · rw [if_neg e]
          have h3 := (HNEW.out k y (by omega) hy).ints (X := fun _ => False) (fun _ _ h => h) (HF5.out.trans hF7).ex
          have h4 := h3.ints (X := fun b => (Value.slice a3 j c3).ownBlock = some b) (fun b hb e => hb.2.2 e) hE6
          refine h4.mono (fun b hb => ?_)
          have hb1 := hb.1
          have hb2 := hb.2.1
          refine ⟨by omega, by omega, fun e => ?_⟩
          rcases hb6 with hb6 | hb6
          · rw [hb6] at e
            exact hb.2.2 e
          · rw [hb6] at e
            have := Option.some.inj e
            omega
      case measure => simp [intOf]; omega
    · obtain rfl : j = ld := by omega
      obtain ⟨a3, c3, rfl⟩ := own_val HROW.out
      have kf := (HR0.out.fr HFR.out).free 1
      have HFR1 : Hid (Fr w wr) := Lib.hid (HF0.out.trans HFR.out)
      have HX1 := Lib.hid ((HR0.out.fr HFR.out).set1 (.slice a3 j c3))
      obtain ⟨ws1, hws1⟩ : ∃ y, y = wr.setCell ⟨w.heap.size, 1, none⟩ (.slice a3 j c3) := ⟨_, rfl⟩
      have HWS1 := Lib.hid hws1
      rw [← hws1] at HX1
      have HF1 : Hid (Fr w ws1) := Lib.hid (by rw [hws1]; exact HFR1.out.setCell (Nat.le_refl _) _)
      have HSZ1 : Hid (ws1.heap.size = wr.heap.size) := Lib.hid (by rw [hws1]; simp [World.setCell])
      have HE1 : Hid (Ex (fun k => k < w0.heap.size) wr ws1) := Lib.hid (by rw [hws1]; exact (Ex.one _ _ _ _).mono (fun k e => by have := HS0.out; have e : k = w.heap.size := e; show k < _; omega))
      obtain ⟨q0, q1, q2, q3, q4, q5⟩ := (HX1.out.fr ((Fr.refl ws1).alloc (.cells #[] 48))).cells
      have hol := HOL.out
      have hgl := HGL.out
      rw [hws1] at q0 q1 q2 q3 q4 q5
      clear hws1 hlt hj
      go_wp2_with (with_reducible refine stop_append_a ?_)
      rw [← HWS1.out, ← HSZ1.out]
      unfold StopA
      refine wpList_append_row rfl (.tmp 28) (.tmp 30) 23 rfl ws1.heap.size 48 i1 _ 3 24 Try.underlying23 HIO.out.1 HIO.out.2.1 HIO.out.2.2.1 HIO.out.2.2.2 rfl (by omega) _ 0 [] (by rfl) (own_emp ws1 _ _) oa lo oc (rowN (clO_cs c.ops) lo) (by rfl) HON.out (rowN_len (clO_len _) _) (by rw [HLO.out]; exact ops_row (HC.out.o.fr' (HF1.out.alloc _))) (ops_one _ _) (by unfold maxLen; omega) (by omega) (by rw [size_al]; omega) fun v2 w2 hown2 hg2 => ?_
      have hf2 : Fr ws1 w2 := own_fr6 ((Fr.refl ws1).alloc _) (own_emp ws1 _ 3) hg2
      have HF12 := Lib.hid hf2
      rw [Nat.zero_add, List.nil_append] at hown2
      obtain ⟨oa2, oc2, rfl⟩ := own_val hown2
      have HR2 := Lib.hid (HX1.out.fr hf2)
      have HX2 := Lib.hid (HR2.out.set2 (.slice oa2 lo oc2))
      obtain ⟨ws2, hws2⟩ : ∃ y, y = w2.setCell ⟨w.heap.size, 2, none⟩ (.slice oa2 lo oc2) := ⟨_, rfl⟩
      have HWS2 := Lib.hid hws2
      rw [← hws2] at HX2
      have HF2 : Hid (Fr w ws2) := Lib.hid (by rw [hws2]; exact (HF1.out.trans hf2).setCell (Nat.le_refl _) _)
      have HSZ2 : Hid (ws2.heap.size = w2.heap.size) := Lib.hid (by rw [hws2]; simp [World.setCell])
      have HE2 : Hid (Ex (fun k => k < w0.heap.size) wr ws2) := Lib.hid (by rw [hws2]; exact (HE1.out.fr hf2).trans ((Ex.one _ _ _ _).mono (fun k e => by have := HS0.out; have e : k = w.heap.size := e; show k < _; omega)))
      clear q0 q1 q2 q3 q4 q5 k0 k1 k2 k3 k4 k5 kf
      obtain ⟨k0, k1, k2, k3, k4, k5⟩ := HR2.out.cells
      have kf := HR2.out.free 2
      obtain ⟨q0, q1, q2, q3, q4, q5⟩ := (HX2.out.fr ((Fr.refl ws2).alloc (.cells #[] 61))).cells
      rw [hws2] at q0 q1 q2 q3 q4 q5
      clear hws2 hf2 hg2 hown2
      go_wp2_with (with_reducible refine stop_append_a ?_)
      rw [← HWS2.out, ← HSZ2.out]
      unfold StopA
      refine wpList_append_row rfl (.tmp 33) (.tmp 35) 24 rfl ws2.heap.size 61 i2 _ 2 16 Try.underlying24 HIE.out.1 HIE.out.2.1 HIE.out.2.2.1 HIE.out.2.2.2 rfl (by omega) _ 0 [] (by rfl) (own_emp ws2 _ _) ga lg gc (rowN (clE_cs c.gl) lg) (by rfl) HGN.out (rowN_len (clE_len _) _) (by rw [HLG.out]; exact ens_row (HC.out.g.fr' (HF2.out.alloc _))) (ens_one _ _) (by unfold maxLen; omega) (by omega) (by rw [size_al]; omega) fun v3 w3 hown3 hg3 => ?_
      have hf3 : Fr ws2 w3 := own_fr6 ((Fr.refl ws2).alloc _) (own_emp ws2 _ 2) hg3
      rw [Nat.zero_add, List.nil_append] at hown3
      obtain ⟨ga3, gc3, rfl⟩ := own_val hown3
      have HR3 := Lib.hid (HX2.out.fr hf3)
      have HX3 := Lib.hid (HR3.out.set3 (.slice ga3 lg gc3))
      have HF3 : Hid (Fr w w3) := Lib.hid (HF2.out.trans hf3)
      have HE3 : Hid (Ex (fun k => k < w0.heap.size) wr (w3.setCell ⟨w.heap.size, 3, none⟩ (.slice ga3 lg gc3))) := Lib.hid ((HE2.out.fr hf3).trans ((Ex.one _ _ _ _).mono (fun k e => by have := HS0.out; have e : k = w.heap.size := e; show k < _; omega)))
      obtain ⟨ws3, hws3⟩ : ∃ y, y = w3.setCell ⟨w.heap.size, 3, none⟩ (.slice ga3 lg gc3) := ⟨_, rfl⟩
      have HWS3 := Lib.hid hws3
      have HE23 : Hid (Ex (fun k => k = w.heap.size) wr ws3) := Lib.hid (by
        rw [hws3]
        refine Ex.trans ?_ (Ex.one _ _ _ _)
        refine Ex.trans ?_ hf3.ex
        rw [HWS2.out]
        refine Ex.trans ?_ (Ex.one _ _ _ _)
        refine Ex.trans ?_ HF12.out.ex
        rw [HWS1.out]
        exact Ex.one _ _ _ _)
      have HZ3 := Lib.hid ((HZ0.out.fr HFR.out).ex HE23.out (by simp))
      rw [← hws3] at HX3 HE3
      have HFS3 : Hid (Fr w ws3) := Lib.hid (by rw [hws3]; exact HF3.out.setCell (Nat.le_refl _) _)
      clear q0 q1 q2 q3 q4 q5 k0 k1 k2 k3 k4 k5 kf hf3 hg3 hown3
      obtain ⟨k0, k1, k2, k3, k4, k5⟩ := HR3.out.cells
      have kf := HR3.out.free 3
      obtain ⟨j0, j1, j2, j3, j4, j5⟩ := HX3.out.cells
      obtain ⟨z0, z1, z2, z3, z4, z5⟩ := HZ3.out.cells
      have f0 := HZ3.out.free 0
      have f1 := HZ3.out.free 1
      have f2 := HZ3.out.free 2
      have f3 := HZ3.out.free 3
      have f4 := HZ3.out.free 4
      have f5 := HZ3.out.free 5
      obtain ⟨wf, hwf⟩ : ∃ y, y = ((((((ws3.setCell ⟨w.heap.size + 1, 0, none⟩ (.string nm)).setCell ⟨w.heap.size + 1, 1, none⟩ (.slice a3 j c3)).setCell ⟨w.heap.size + 1, 2, none⟩ (.slice oa2 lo oc2)).setCell ⟨w.heap.size + 1, 3, none⟩ (.slice ga3 lg gc3)).setCell ⟨w.heap.size + 1, 4, none⟩ (.int .i64 procs)).setCell ⟨w.heap.size + 1, 5, none⟩ (.int .i64 labels)) := ⟨_, rfl⟩
      have HRF : Hid (CdR wf (w.heap.size + 1) (.string nm) (.slice a3 j c3) (.slice oa2 lo oc2) (.slice ga3 lg gc3) (.int .i64 procs) (.int .i64 labels)) := Lib.hid (by rw [hwf]; exact HZ3.out.all _ _ _ _ _ _)
      have HEF : Hid (Ex (fun k => k = w.heap.size + 1) ws3 wf) := Lib.hid (by rw [hwf]; exact Ex.all _ _ _ _ _ _ _ _)
      have HFF : Hid (Fr w wf) := Lib.hid (by rw [hwf]; exact HFS3.out.all (Nat.le_succ _) _ _ _ _ _ _)
      have HWF := Lib.hid hwf
      rw [hws3] at j0 j1 j2 j3 j4 j5 z0 z1 z2 z3 z4 z5 f0 f1 f2 f3 f4 f5
      clear hws3 hwf
      go_wp2_with fail
      rw [← HWS3.out, ← HWF.out]
      clear k0 k1 k2 k3 k4 k5 j0 j1 j2 j3 j4 j5 z0 z1 z2 z3 z4 z5 f0 f1 f2 f3 f4 f5 kf
      obtain ⟨k0, k1, k2, k3, k4, k5⟩ := HRF.out.cells
      refine bodyPost_ret (v := .agg #[.string nm, .slice a3 j c3, .slice oa2 lo oc2, .slice ga3 lg gc3, .int .i64 procs, .int .i64 labels]) (by simp [results, Try.results49, go_sem, k0, k1, k2, k3, k4, k5]) rfl ?_
      have hjl : j = l.length := HN.out
      have HEA : Ex (fun k => k < w0.heap.size) wr wf := HE3.out.trans (HEF.out.mono (fun k e => by have := HS0.out; have e : k = w.heap.size + 1 := e; show k < _; omega))
      have h1 := Ex.own HEA (fun k hk e => by have h3 := (HROW.out.lt k hk).1; have e : k < w0.heap.size := e; omega) HROW.out
      refine ⟨_, _, _, _, _, _, _, rfl, ?_, HFF.out⟩
      rw [← HL.out]
      rw [hjl] at h1 ⊢
      have hbz : w.heap.size ≤ w0.heap.size := by have := HS0.out; omega
      refine own_dts (own_base h1 hbz) (fun i x hx => ?_)
      have h3 := (HNEW.out i x (by rw [hjl]; exact (List.getElem?_eq_some_iff.1 hx).1) hx).ints (fun b hb e => by have hb1 := hb.1; have e : b < w0.heap.size := e; omega) HEA
      exact h3.mono (fun b hb => Nat.le_trans hbz hb.1)
end Go.Proofs.Ytbhhjbnobcgfeaa
