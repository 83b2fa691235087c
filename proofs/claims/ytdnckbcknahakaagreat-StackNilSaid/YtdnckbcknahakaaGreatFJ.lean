/- Heaviness of code; lists of numbers compared; the laws' small code; labels that are named. -/
import Derived.Test.YtdnckbcknahakaaGreatFI
namespace Go.Proofs.YtdnckbcknahakaaGreat
open Go.RowKit
set_option linter.unusedVariables false
set_option linter.unusedSimpArgs false

def hvGo : Nat → List Dt → Nat
  | n, [] => n
  | n, d :: r => if n ≤ 2000 then hvGo (n + 1 + d.t.size + d.ws.length) r else n
def hvC (c : Cod) : Bool := decide (40100 < c.ops.length) || decide (400 < c.gl.length) || decide (2000 < hvGo c.name.size c.data)
theorem hvGo_lo : ∀ (l : List Dt) (n : Nat), n ≤ hvGo n l
  | [], n => Nat.le_refl _
  | d :: r, n => by
    rw [hvGo]; split
    · have := hvGo_lo r (n + 1 + d.t.size + d.ws.length); omega
    · exact Nat.le_refl _
theorem hvGo_small : ∀ (l : List Dt) (n : Nat), hvGo n l ≤ 2000 → n ≤ 2000 ∧ ∀ x ∈ l, x.t.size ≤ 2000
  | [], n, h => ⟨h, fun x hx => by cases hx⟩
  | d :: r, n, h => by
    rw [hvGo] at h
    by_cases h0 : n ≤ 2000
    · rw [if_pos h0] at h
      have h1 := hvGo_small r _ h
      refine ⟨h0, fun x hx => ?_⟩
      rcases List.mem_cons.1 hx with rfl | hx
      · have := h1.1; omega
      · exact h1.2 x hx
    · rw [if_neg h0] at h; omega
theorem hvC_small {c : Cod} (h : hvC c = false) : c.name.size ≤ 2000 ∧ (∀ x ∈ c.data, x.t.size ≤ 2000) ∧ c.ops.length ≤ 40100 ∧ c.gl.length ≤ 400 := by
  simp only [hvC, Bool.or_eq_false_iff, decide_eq_false_iff_not] at h
  have h1 := hvGo_small c.data c.name.size (by omega)
  exact ⟨h1.1, h1.2, by omega, by omega⟩
theorem hvGo_drop {l : List Dt} {j : Nat} {d : Dt} (n : Nat) (hd : l[j]? = some d) : hvGo n (l.drop j) = if n ≤ 2000 then hvGo (n + 1 + d.t.size + d.ws.length) (l.drop (j + 1)) else n := by
  obtain ⟨hj, rfl⟩ := List.getElem?_eq_some_iff.1 hd
  rw [List.drop_eq_getElem_cons hj, hvGo]
set_option maxRecDepth 100000 in
set_option maxHeartbeats 4000000 in
theorem HeavyCode_any (c : Cod) (dv ov gv : Value) (w : World) (hc : CodW w c dv ov gv) (hw : wfC c) :
    Calls Tryz.prog 27 #[codV c dv ov gv, .int .i64 40100] w fun e w' => e = .returned (.bool (hvC c)) ∧ Fr w w' := by
  have HV := Lib.hid hc.d
  have HDT := Lib.hid hw.data
  obtain ⟨da, dc, hdv, hdc, hdm, _⟩ := hc.d.form
  obtain ⟨oa, oc, hov, _, _, _⟩ := hc.o.form
  obtain ⟨ga, gc, hgv, _, _, _⟩ := hc.g.form
  obtain ⟨R, hR⟩ : ∃ r, r = hvC c := ⟨_, rfl⟩
  rw [← hR]
  have HNS := Lib.hid hw.name
  have HDL := Lib.hid hw.dlen
  obtain ⟨l, hl⟩ : ∃ y, y = c.data := ⟨_, rfl⟩
  obtain ⟨ld, hld⟩ : ∃ y, y = c.data.length := ⟨_, rfl⟩
  obtain ⟨lo, hlo⟩ : ∃ y, y = c.ops.length := ⟨_, rfl⟩
  obtain ⟨lg, hlg⟩ : ∃ y, y = c.gl.length := ⟨_, rfl⟩
  obtain ⟨nm, hnm⟩ : ∃ y, y = c.name := ⟨_, rfl⟩
  obtain ⟨procs, hpr⟩ : ∃ y, y = c.procs := ⟨_, rfl⟩
  obtain ⟨labels, hlb⟩ : ∃ y, y = c.labels := ⟨_, rfl⟩
  have HL : Hid (ld = l.length) := Lib.hid (by rw [hld, hl])
  unfold codV
  rw [← hnm, ← hpr, ← hlb]
  rw [← hld] at hdv HDL hdc
  rw [← hlo] at hov
  rw [← hlg] at hgv
  rw [← hl] at HV HDT
  rw [← hnm] at HNS
  obtain ⟨T, hT⟩ : ∃ t, t = hvGo nm.size l := ⟨_, rfl⟩
  have HT0 := Lib.hid hT
  have HR : Hid (R = (decide (40100 < lo) || decide (400 < lg) || decide (2000 < T))) := Lib.hid (by rw [hR]; unfold hvC; rw [← hlo, ← hlg, ← hnm, ← hl, ← hT])
  subst hdv hov hgv
  obtain ⟨w0, hw0⟩ : ∃ w0, w0 = w.alloc (.cells #[.string nm, .slice da ld dc, .slice oa lo oc, .slice ga lg gc, .int .i64 procs, .int .i64 labels] 43) := ⟨_, rfl⟩
  have HF0 : Hid (Fr w w0) := Lib.hid (by rw [hw0]; exact (Fr.refl w).alloc _)
  have HCB : Hid (CdB w0 w.heap.size nm (.slice da ld dc) (.slice oa lo oc) (.slice ga lg gc) procs labels) := Lib.hid (by rw [hw0]; exact CdB.new w _ _ _ _ _ _)
  have HW0 := Lib.hid hw0
  unfold maxLen at hdm
  clear hc hw hR hl hld hlo hlg hnm hpr hlb hT hw0
  go_enter Tryz.func27, Tryz.ntmps27
  go_wp2_with fail
  rw [← HW0.out]
  go_loopw [5, 6] (fun c i wr => ∃ (j x : Nat), j ≤ ld ∧ i = .int .i64 j ∧ c = .int .i64 x ∧ Hid (x ≤ 422212465065984) ∧ Hid (T = hvGo x (l.drop j)) ∧ Fr w0 wr) (fun _ i _ => ld - (intOf i).toNat)
  case atStart => exact ⟨0, nm.size, Nat.zero_le _, rfl, rfl, Lib.hid (by have := HNS.out; omega), Lib.hid (by rw [HT0.out]; rfl), Fr.refl _⟩
  case round =>
    obtain ⟨j, x, hj, rfl, rfl, HX, HJ, hfr⟩ := hrel
    obtain ⟨cb0, cb1, cb2, cb3, cb4, cb5⟩ := HCB.out.fr hfr
    by_cases hlt : j < ld
    · by_cases hx : x ≤ 2000
      · obtain ⟨t, ht⟩ : ∃ t, l[j]? = some t := ⟨_, List.getElem?_eq_getElem (by rw [← HL.out]; exact hlt)⟩
        have HT := Lib.hid ht
        obtain ⟨b, off, rfl, hc3⟩ := (HV.out.fr' (HF0.out.trans hfr)).at_ ht
        obtain ⟨x0, x1, lv, x2, hiv⟩ := hc3
        obtain ⟨la, lc, rfl, _, _, _⟩ := hiv.form
        obtain ⟨⟨q0, q1, q2⟩, hq⟩ : ∃ y, y = t := ⟨_, rfl⟩
        subst hq
        simp only at x0 x1 x2
        obtain ⟨ln, hln⟩ : ∃ y, y = q2.length := ⟨_, rfl⟩
        rw [← hln] at x2
        have HOK : Hid (q0.size ≤ 140737488351232 ∧ ln ≤ 140737488351232) := Lib.hid (by have := HDT.out _ (List.mem_of_getElem? HT.out); exact ⟨this.1, by rw [hln]; exact this.2.1⟩)
        have d1 : decide ((j : Int) < (ld : Int)) = true := decide_eq_true (by omega)
        have d2 : decide ((x : Int) ≤ 2000) = true := decide_eq_true (by omega)
        have HJ2 : Hid (T = hvGo (x + 1 + q0.size + ln) (l.drop (j + 1))) := Lib.hid (by rw [HJ.out, hvGo_drop x HT.out, if_pos hx, hln])
        have w1 : IntKind.i64.wrap ((x : Int) + 1) = (x : Int) + 1 := IntWalk.i64_in _ (by omega)
        have w2 : IntKind.i64.wrap ((x : Int) + 1 + (q0.size : Int)) = (x : Int) + 1 + (q0.size : Int) := IntWalk.i64_in _ (by have := HOK.out; omega)
        have w3 : IntKind.i64.wrap ((x : Int) + 1 + (q0.size : Int) + (ln : Int)) = (x : Int) + 1 + (q0.size : Int) + (ln : Int) := IntWalk.i64_in _ (by have := HOK.out; omega)
        have HX2 : Hid (x + 1 + q0.size + ln ≤ 422212465065984) := Lib.hid (by have := HOK.out; omega)
        clear hx ht hln hiv
        go_wp2_with fail
        go_quiet (fail)
        go_wp2_with fail
        go_roundw
        case rel => exact ⟨j + 1, x + 1 + q0.size + ln, by omega, by go_num, by simp, HX2, HJ2, hfr.drewN _⟩
        case measure => simp [intOf]; omega
      · have d1 : decide ((j : Int) < (ld : Int)) = true := decide_eq_true (by omega)
        have d2 : decide ((x : Int) ≤ 2000) = false := decide_eq_false (by omega)
        have HTX : Hid (T = x) := Lib.hid (by
          obtain ⟨t, ht⟩ : ∃ t, l[j]? = some t := ⟨_, List.getElem?_eq_getElem (by rw [← HL.out]; exact hlt)⟩
          rw [HJ.out, hvGo_drop x ht, if_neg hx])
        clear hx
        by_cases h1 : 40100 < lo
        · have f1 : decide ((lo : Int) > 40100) = true := decide_eq_true (by omega)
          have f1' : decide ((40100 : Int) < (lo : Int)) = true := decide_eq_true (by omega)
          have HRR : Hid (R = true) := Lib.hid (by rw [HR.out]; simp [h1])
          clear h1
          go_wp2_with fail
          go_ret
          rw [HRR.out]
          exact ⟨rfl, HF0.out.trans hfr⟩
        · have f1 : decide ((lo : Int) > 40100) = false := decide_eq_false (by omega)
          have f1' : decide ((40100 : Int) < (lo : Int)) = false := decide_eq_false (by omega)
          by_cases h2 : 400 < lg
          · have f2 : decide ((lg : Int) > 400) = true := decide_eq_true (by omega)
            have f2' : decide ((400 : Int) < (lg : Int)) = true := decide_eq_true (by omega)
            have HRR : Hid (R = true) := Lib.hid (by rw [HR.out]; simp [h2])
            clear h1 h2
            go_wp2_with fail
            go_ret
            rw [HRR.out]
            exact ⟨rfl, HF0.out.trans hfr⟩
          · have f2 : decide ((lg : Int) > 400) = false := decide_eq_false (by omega)
            have f2' : decide ((400 : Int) < (lg : Int)) = false := decide_eq_false (by omega)
            have HRR : Hid (R = decide ((2000 : Int) < (x : Int))) := Lib.hid (by rw [HR.out, HTX.out, decide_eq_false h1, decide_eq_false h2, Bool.false_or, Bool.false_or]; exact decide_eq_decide.2 (by omega))
            clear h1 h2
            go_wp2_with fail
            go_ret
            rw [HRR.out]
            exact ⟨rfl, HF0.out.trans hfr⟩
    · obtain rfl : j = ld := by omega
      have d1 : decide ((j : Int) < (j : Int)) = false := decide_eq_false (by omega)
      have HTX : Hid (T = x) := Lib.hid (by rw [HJ.out, List.drop_eq_nil_of_le (by rw [← HL.out]; exact Nat.le_refl _)]; rfl)
      by_cases h1 : 40100 < lo
      · have f1 : decide ((lo : Int) > 40100) = true := decide_eq_true (by omega)
        have f1' : decide ((40100 : Int) < (lo : Int)) = true := decide_eq_true (by omega)
        have HRR : Hid (R = true) := Lib.hid (by rw [HR.out]; simp [h1])
        clear h1
        go_wp2_with fail
        go_ret
        rw [HRR.out]
        exact ⟨rfl, HF0.out.trans hfr⟩
      · have f1 : decide ((lo : Int) > 40100) = false := decide_eq_false (by omega)
        have f1' : decide ((40100 : Int) < (lo : Int)) = false := decide_eq_false (by omega)
        by_cases h2 : 400 < lg
        · have f2 : decide ((lg : Int) > 400) = true := decide_eq_true (by omega)
          have f2' : decide ((400 : Int) < (lg : Int)) = true := decide_eq_true (by omega)
          have HRR : Hid (R = true) := Lib.hid (by rw [HR.out]; simp [h2])
          clear h1 h2
          go_wp2_with fail
          go_ret
          rw [HRR.out]
          exact ⟨rfl, HF0.out.trans hfr⟩
        · have f2 : decide ((lg : Int) > 400) = false := decide_eq_false (by omega)
          have f2' : decide ((400 : Int) < (lg : Int)) = false := decide_eq_false (by omega)
          have HRR : Hid (R = decide ((2000 : Int) < (x : Int))) := Lib.hid (by rw [HR.out, HTX.out, decide_eq_false h1, decide_eq_false h2, Bool.false_or, Bool.false_or]; exact decide_eq_decide.2 (by omega))
          clear h1 h2
          go_wp2_with fail
          go_ret
          rw [HRR.out]
          exact ⟨rfl, HF0.out.trans hfr⟩
def eqI (l q : List Int) : Bool := match l, q with
  | [], [] => true
  | x :: r, y :: s => x == y && eqI r s
  | _, _ => false
theorem eqI_len : ∀ (l q : List Int), l.length ≠ q.length → eqI l q = false
  | [], [], h => absurd rfl h
  | [], _ :: _, _ => rfl
  | _ :: _, [], _ => rfl
  | x :: r, y :: s, h => by rw [eqI, eqI_len r s (by simpa using h), Bool.and_false]
theorem eqI_drop {l q : List Int} {j : Nat} {x y : Int} (hx : l[j]? = some x) (hy : q[j]? = some y) : eqI (l.drop j) (q.drop j) = (x == y && eqI (l.drop (j + 1)) (q.drop (j + 1))) := by
  obtain ⟨h1, rfl⟩ := List.getElem?_eq_some_iff.1 hx
  obtain ⟨h2, rfl⟩ := List.getElem?_eq_some_iff.1 hy
  rw [List.drop_eq_getElem_cons h1, List.drop_eq_getElem_cons h2, eqI]
theorem eqI_iff : ∀ (l q : List Int), eqI l q = true ↔ l = q
  | [], [] => by simp [eqI]
  | [], _ :: _ => by simp [eqI]
  | _ :: _, [] => by simp [eqI]
  | x :: r, y :: s => by rw [eqI, Bool.and_eq_true, eqI_iff r s]; simp
theorem depL_len : ∀ (l : List Op3) (d : Int), (depL d l).length = l.length
  | [], d => rfl
  | o :: r, d => by rw [depL, List.length_cons, List.length_cons, depL_len r]
theorem row_ints {w : World} {g n : Nat} {L : List Int} (h : w.rowIs g 3 n (fun j => .int .i64 (L[j]?.getD 0))) (hn : L.length = n) (hm : n ≤ maxLen) : IntsV w (.slice (some ⟨g, 0, none⟩) n n) L :=
  ⟨some ⟨g, 0, none⟩, n, by rw [hn], by omega, hm, fun e => (by cases e), fun _ => ⟨g, 0, rfl, fun i x hx => by
    have hi := (List.getElem?_eq_some_iff.1 hx).1
    have := h.cell (i := i) (by omega)
    rw [hx] at this
    unfold InC
    rw [Nat.zero_add, Nat.mul_one]
    exact this⟩⟩
end Go.Proofs.YtdnckbcknahakaaGreat
