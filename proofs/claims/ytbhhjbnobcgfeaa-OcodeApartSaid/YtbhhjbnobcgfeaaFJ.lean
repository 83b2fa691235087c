/- Heaviness of code; lists of numbers compared; the laws' small code; labels that are named. -/
import Derived.Test.YtbhhjbnobcgfeaaFI
namespace Go.Proofs.Ytbhhjbnobcgfeaa
open Go.RowKit
set_option linter.unusedVariables false
set_option linter.unusedSimpArgs false

def hvGo : Nat → List Dt → Nat
  | n, [] => n
  | n, d :: r => if n ≤ 2000 then hvGo (n + 1 + d.t.size + d.ws.length) r else n
def hvC (c : Cod) : Bool := decide (40100 < c.ops.length) || decide (400 < c.gl.length) || decide (2000 < hvGo c.name.size c.data)
theorem hvGo_lo : ∀ (l : List Dt) (n : Nat), n ≤ hvGo n l
  | [], n => Nat.le_refl _
  | d :: r, n => by
    rw [hvGo]; split
    · have := hvGo_lo r (n + 1 + d.t.size + d.ws.length); omega
    · exact Nat.le_refl _
theorem hvGo_small : ∀ (l : List Dt) (n : Nat), hvGo n l ≤ 2000 → n ≤ 2000 ∧ ∀ x ∈ l, x.t.size ≤ 2000
  | [], n, h => ⟨h, fun x hx => by cases hx⟩
  | d :: r, n, h => by
    rw [hvGo] at h
    by_cases h0 : n ≤ 2000
    · rw [if_pos h0] at h
      have h1 := hvGo_small r _ h
      refine ⟨h0, fun x hx => ?_⟩
      rcases List.mem_cons.1 hx with rfl | hx
      · have := h1.1; omega
      · exact h1.2 x hx
    · rw [if_neg h0] at h; omega
theorem hvC_small {c : Cod} (h : hvC c = false) : c.name.size ≤ 2000 ∧ (∀ x ∈ c.data, x.t.size ≤ 2000) ∧ c.ops.length ≤ 40100 ∧ c.gl.length ≤ 400 := by
  simp only [hvC, Bool.or_eq_false_iff, decide_eq_false_iff_not] at h
  have h1 := hvGo_small c.data c.name.size (by omega)
  exact ⟨h1.1, h1.2, by omega, by omega⟩
theorem hvGo_drop {l : List Dt} {j : Nat} {d : Dt} (n : Nat) (hd : l[j]? = some d) : hvGo n (l.drop j) = if n ≤ 2000 then hvGo (n + 1 + d.t.size + d.ws.length) (l.drop (j + 1)) else n := by
  obtain ⟨hj, rfl⟩ := List.getElem?_eq_some_iff.1 hd
  rw [List.drop_eq_getElem_cons hj, hvGo]
set_option maxRecDepth 100000 in
set_option maxHeartbeats 4000000 in
theorem HeavyCode_any (c : Cod) (dv ov gv : Value) (w : World) (hc : CodW w c dv ov gv) (hw : wfC c) :
    Calls Try.prog 34 #[codV c dv ov gv, .int .i64 40100] w fun e w' => e = .returned (.bool (hvC c)) ∧ Fr w w' := by
  have HV := Lib.hid hc.d
  have HDT := Lib.hid hw.data
  obtain ⟨da, dc, hdv, hdc, hdm, _⟩ := hc.d.form
  obtain ⟨oa, oc, hov, _, _, _⟩ := hc.o.form
  obtain ⟨ga, gc, hgv, _, _, _⟩ := hc.g.form
  obtain ⟨R, hR⟩ : ∃ r, r = hvC c := ⟨_, rfl⟩
  rw [← hR]
  have HNS := Lib.hid hw.name
  have HDL := Lib.hid hw.dlen
  obtain ⟨l, hl⟩ : ∃ y, y = c.data := ⟨_, rfl⟩
  obtain ⟨ld, hld⟩ : ∃ y, y = c.data.length := ⟨_, rfl⟩
  obtain ⟨lo, hlo⟩ : ∃ y, y = c.ops.length := ⟨_, rfl⟩
  obtain ⟨lg, hlg⟩ : ∃ y, y = c.gl.length := ⟨_, rfl⟩
  obtain ⟨nm, hnm⟩ : ∃ y, y = c.name := ⟨_, rfl⟩
  obtain ⟨procs, hpr⟩ : ∃ y, y = c.procs := ⟨_, rfl⟩
  obtain ⟨labels, hlb⟩ : ∃ y, y = c.labels := ⟨_, rfl⟩
  have HL : Hid (ld = l.length) := Lib.hid (by rw [hld, hl])
  unfold codV
  rw [← hnm, ← hpr, ← hlb]
  rw [← hld] at hdv HDL hdc
  rw [← hlo] at hov
  rw [← hlg] at hgv
  rw [← hl] at HV HDT
  rw [← hnm] at HNS
  obtain ⟨T, hT⟩ : ∃ t, t = hvGo nm.size l := ⟨_, rfl⟩
  have HT0 := Lib.hid hT
  have HR : Hid (R = (decide (40100 < lo) || decide (400 < lg) || decide (2000 < T))) := Lib.hid (by rw [hR]; unfold hvC; rw [← hlo, ← hlg, ← hnm, ← hl, ← hT])
  subst hdv hov hgv
  obtain ⟨w0, hw0⟩ : ∃ w0, w0 = w.alloc (.cells #[.string nm, .slice da ld dc, .slice oa lo oc, .slice ga lg gc, .int .i64 procs, .int .i64 labels] 26) := ⟨_, rfl⟩
  have HF0 : Hid (Fr w w0) := Lib.hid (by rw [hw0]; exact (Fr.refl w).alloc _)
  have HCB : Hid (CdB w0 w.heap.size nm (.slice da ld dc) (.slice oa lo oc) (.slice ga lg gc) procs labels) := Lib.hid (by rw [hw0]; exact CdB.new w _ _ _ _ _ _)
  have HW0 := Lib.hid hw0
  unfold maxLen at hdm
  clear hc hw hR hl hld hlo hlg hnm hpr hlb hT hw0
  go_enter Try.func34, Try.ntmps34
  go_wp2_with fail
  rw [← HW0.out]
  go_loopw [5, 6] (fun c i wr => ∃ (j x : Nat), j ≤ ld ∧ i = .int .i64 j ∧ c = .int .i64 x ∧ Hid (x ≤ 422212465065984) ∧ Hid (T = hvGo x (l.drop j)) ∧ Fr w0 wr) (fun _ i _ => ld - (intOf i).toNat)
  case atStart => exact ⟨0, nm.size, Nat.zero_le _, rfl, rfl, Lib.hid (by have := HNS.out; omega), Lib.hid (by rw [HT0.out]; rfl), Fr.refl _⟩
  case round =>
    obtain ⟨j, x, hj, rfl, rfl, HX, HJ, hfr⟩ := hrel
    obtain ⟨cb0, cb1, cb2, cb3, cb4, cb5⟩ := HCB.out.fr hfr
    by_cases hlt : j < ld
    · by_cases hx : x ≤ 2000
      · obtain ⟨t, ht⟩ : ∃ t, l[j]? = some t := ⟨_, List.getElem?_eq_getElem (by rw [← HL.out]; exact hlt)⟩
        have HT := Lib.hid ht
        obtain ⟨b, off, rfl, hc3⟩ := (HV.out.fr' (HF0.out.trans hfr)).at_ ht
        obtain ⟨x0, x1, lv, x2, hiv⟩ := hc3
        obtain ⟨la, lc, rfl, _, _, _⟩ := hiv.form
        obtain ⟨⟨q0, q1, q2⟩, hq⟩ : ∃ y, y = t := ⟨_, rfl⟩
        subst hq
        simp only at x0 x1 x2
        obtain ⟨ln, hln⟩ : ∃ y, y = q2.length := ⟨_, rfl⟩
        rw [← hln] at x2
        have HOK : Hid (q0.size ≤ 140737488351232 ∧ ln ≤ 140737488351232) := Lib.hid (by have := HDT.out _ (List.mem_of_getElem? HT.out); exact ⟨this.1, by rw [hln]; exact this.2.1⟩)
        have d1 : decide ((j : Int) < (ld : Int)) = true := decide_eq_true (by omega)
        have d2 : decide ((x : Int) ≤ 2000) = true := decide_eq_true (by omega)
        have HJ2 : Hid (T = hvGo (x + 1 + q0.size + ln) (l.drop (j + 1))) := Lib.hid (by rw [HJ.out, hvGo_drop x HT.out, if_pos hx, hln])
        have w1 : IntKind.i64.wrap ((x : Int) + 1) = (x : Int) + 1 := IntWalk.i64_in _ (by omega)
        have w2 : IntKind.i64.wrap ((x : Int) + 1 + (q0.size : Int)) = (x : Int) + 1 + (q0.size : Int) := IntWalk.i64_in _ (by have := HOK.out; omega)
        have w3 : IntKind.i64.wrap ((x : Int) + 1 + (q0.size : Int) + (ln : Int)) = (x : Int) + 1 + (q0.size : Int) + (ln : Int) := IntWalk.i64_in _ (by have := HOK.out; omega)
        have HX2 : Hid (x + 1 + q0.size + ln ≤ 422212465065984) := Lib.hid (by have := HOK.out; omega)
        clear hx ht hln hiv
        go_wp2_with fail
        go_quiet (fail)
        go_wp2_with fail
        go_roundw
        case rel => exact ⟨j + 1, x + 1 + q0.size + ln, by omega, by go_num, by simp, HX2, HJ2, hfr.drewN _⟩
        case measure => simp [intOf]; omega
      · have d1 : decide ((j : Int) < (ld : Int)) = true := decide_eq_true (by omega)
        have d2 : decide ((x : Int) ≤ 2000) = false := decide_eq_false (by omega)
        have HTX : Hid (T = x) := Lib.hid (by
          obtain ⟨t, ht⟩ : ∃ t, l[j]? = some t := ⟨_, List.getElem?_eq_getElem (by rw [← HL.out]; exact hlt)⟩
          rw [HJ.out, hvGo_drop x ht, if_neg hx])
        clear hx
        by_cases h1 : 40100 < lo
        · have f1 : decide ((lo : Int) > 40100) = true := decide_eq_true (by omega)
          have f1' : decide ((40100 : Int) < (lo : Int)) = true := decide_eq_true (by omega)
          have HRR : Hid (R = true) := Lib.hid (by rw [HR.out]; simp [h1])
          clear h1
          go_wp2_with fail
          go_ret
          rw [HRR.out]
          exact ⟨rfl, HF0.out.trans hfr⟩
        · have f1 : decide ((lo : Int) > 40100) = false := decide_eq_false (by omega)
          have f1' : decide ((40100 : Int) < (lo : Int)) = false := decide_eq_false (by omega)
          by_cases h2 : 400 < lg
          · have f2 : decide ((lg : Int) > 400) = true := decide_eq_true (by omega)
            have f2' : decide ((400 : Int) < (lg : Int)) = true := decide_eq_true (by omega)
            have HRR : Hid (R = true) := Lib.hid (by rw [HR.out]; simp [h2])
            clear h1 h2
            go_wp2_with fail
            go_ret
            rw [HRR.out]
            exact ⟨rfl, HF0.out.trans hfr⟩
          · have f2 : decide ((lg : Int) > 400) = false := decide_eq_false (by omega)
            have f2' : decide ((400 : Int) < (lg : Int)) = false := decide_eq_false (by omega)
            have HRR : Hid (R = decide ((2000 : Int) < (x : Int))) := Lib.hid (by rw [HR.out, HTX.out, decide_eq_false h1, decide_eq_false h2, Bool.false_or, Bool.false_or]; exact decide_eq_decide.2 (by omega))
            clear h1 h2
            go_wp2_with fail
            go_ret
            rw [HRR.out]
            exact ⟨rfl, HF0.out.trans hfr⟩
    · obtain rfl : j = ld := by omega
      have d1 : decide ((j : Int) < (j : Int)) = false := decide_eq_false (by omega)
      have HTX : Hid (T = x) := Lib.hid (by rw [HJ.out, List.drop_eq_nil_of_le (by rw [← HL.out]; exact Nat.le_refl _)]; rfl)
      by_cases h1 : 40100 < lo
      · have f1 : decide ((lo : Int) > 40100) = true := decide_eq_true (by omega)
        have f1' : decide ((40100 : Int) < (lo : Int)) = true := decide_eq_true (by omega)
        have HRR : Hid (R = true) := Lib.hid (by rw [HR.out]; simp [h1])
        clear h1
        go_wp2_with fail
        go_ret
        rw [HRR.out]
        exact ⟨rfl, HF0.out.trans hfr⟩
      · have f1 : decide ((lo : Int) > 40100) = false := decide_eq_false (by omega)
        have f1' : decide ((40100 : Int) < (lo : Int)) = false := decide_eq_false (by omega)
        by_cases h2 : 400 < lg
        · have f2 : decide ((lg : Int) > 400) = true := decide_eq_true (by omega)
          have f2' : decide ((400 : Int) < (lg : Int)) = true := decide_eq_true (by omega)
          have HRR : Hid (R = true) := Lib.hid (by rw [HR.out]; simp [h2])
          clear h1 h2
          go_wp2_with fail
          go_ret
          rw [HRR.out]
          exact ⟨rfl, HF0.out.trans hfr⟩
        · have f2 : decide ((lg : Int) > 400) = false := decide_eq_false (by omega)
          have f2' : decide ((400 : Int) < (lg : Int)) = false := decide_eq_false (by omega)
          have HRR : Hid (R = decide ((2000 : Int) < (x : Int))) := Lib.hid (by rw [HR.out, HTX.out, decide_eq_false h1, decide_eq_false h2, Bool.false_or, Bool.false_or]; exact decide_eq_decide.2 (by omega))
          clear h1 h2
          go_wp2_with fail
          go_ret
          rw [HRR.out]
          exact ⟨rfl, HF0.out.trans hfr⟩
set_option maxRecDepth 100000 in
theorem heavy_any (c : Cod) (dv ov gv : Value) (w : World) (hc : CodW w c dv ov gv) (hw : wfC c) :
    Calls Try.prog 12 #[codV c dv ov gv] w fun e w' => e = .returned (.bool (hvC c)) ∧ Fr w w' := by
  have CH := Lib.hid (fun W (h : Fr w W) => HeavyCode_any c dv ov gv W (hc.fr h) hw)
  obtain ⟨R, hR⟩ : ∃ r, r = hvC c := ⟨_, rfl⟩
  rw [← hR] at CH ⊢
  obtain ⟨da, dc, hdv, _, _, _⟩ := hc.d.form
  obtain ⟨oa, oc, hov, _, _, _⟩ := hc.o.form
  obtain ⟨ga, gc, hgv, _, _, _⟩ := hc.g.form
  unfold codV at CH ⊢
  have HF0 : Hid (Fr w (w.alloc (.cells #[.string c.name, dv, ov, gv, .int .i64 c.procs, .int .i64 c.labels] 26))) := Lib.hid ((Fr.refl w).alloc _)
  obtain ⟨nm, hnm⟩ : ∃ y, y = c.name := ⟨_, rfl⟩
  obtain ⟨procs, hpr⟩ : ∃ y, y = c.procs := ⟨_, rfl⟩
  obtain ⟨labels, hlb⟩ : ∃ y, y = c.labels := ⟨_, rfl⟩
  rw [← hnm, ← hpr, ← hlb] at CH HF0 ⊢
  subst hdv hov hgv
  clear hc hw hR hnm hpr hlb
  go_enter Try.func12, Try.ntmps12
  go_wp2_with fail
  refine (CH.out _ HF0.out).mono ?_
  rintro e w1 ⟨rfl, hf1⟩
  have hfin := HF0.out.trans hf1
  go_wp2_with fail
  go_ret
  exact ⟨rfl, hfin⟩
def eqI (l q : List Int) : Bool := match l, q with
  | [], [] => true
  | x :: r, y :: s => x == y && eqI r s
  | _, _ => false
theorem eqI_len : ∀ (l q : List Int), l.length ≠ q.length → eqI l q = false
  | [], [], h => absurd rfl h
  | [], _ :: _, _ => rfl
  | _ :: _, [], _ => rfl
  | x :: r, y :: s, h => by rw [eqI, eqI_len r s (by simpa using h), Bool.and_false]
theorem eqI_drop {l q : List Int} {j : Nat} {x y : Int} (hx : l[j]? = some x) (hy : q[j]? = some y) : eqI (l.drop j) (q.drop j) = (x == y && eqI (l.drop (j + 1)) (q.drop (j + 1))) := by
  obtain ⟨h1, rfl⟩ := List.getElem?_eq_some_iff.1 hx
  obtain ⟨h2, rfl⟩ := List.getElem?_eq_some_iff.1 hy
  rw [List.drop_eq_getElem_cons h1, List.drop_eq_getElem_cons h2, eqI]
theorem eqI_iff : ∀ (l q : List Int), eqI l q = true ↔ l = q
  | [], [] => by simp [eqI]
  | [], _ :: _ => by simp [eqI]
  | _ :: _, [] => by simp [eqI]
  | x :: r, y :: s => by rw [eqI, Bool.and_eq_true, eqI_iff r s]; simp
set_option maxRecDepth 100000 in
set_option maxHeartbeats 4000000 in
theorem EqInts_any (l q : List Int) (v1 v2 : Value) (w : World) (h1 : IntsV w v1 l) (h2 : IntsV w v2 q) (hb1 : l.length ≤ 140737488351232) (hb2 : q.length ≤ 140737488351232) :
    Calls Try.prog 23 #[v1, v2] w fun e w' => e = .returned (.bool (eqI l q)) ∧ Fr w w' := by
  have HV := Lib.hid h1
  have HU := Lib.hid h2
  obtain ⟨a, cap, rfl, _, _, _⟩ := h1.form
  obtain ⟨a2, cap2, rfl, _, _, _⟩ := h2.form
  obtain ⟨n, hn⟩ : ∃ n, n = l.length := ⟨_, rfl⟩
  obtain ⟨m, hm⟩ : ∃ m, m = q.length := ⟨_, rfl⟩
  have HN := Lib.hid hn
  have HM := Lib.hid hm
  rw [← hn] at HV hb1 ⊢
  rw [← hm] at HU hb2 ⊢
  obtain ⟨R, hR⟩ : ∃ r, r = eqI l q := ⟨_, rfl⟩
  have HR := Lib.hid hR
  rw [← hR]
  by_cases he : n = m
  · have HE := Lib.hid he
    have e0 : ((n : Int) != (m : Int)) = false := by simp [he]
    clear hn hm h1 h2 hR he
    go_enter Try.func23, Try.ntmps23
    go_wp2_with fail
    go_loopw [5] (fun i wr => ∃ j : Nat, j ≤ n ∧ i = .int .i64 j ∧ Hid (R = eqI (l.drop j) (q.drop j)) ∧ Fr w wr) (fun i _ => n - (intOf i).toNat)
    case atStart => exact ⟨0, Nat.zero_le _, rfl, Lib.hid (by rw [HR.out]; rfl), Fr.refl _⟩
    case round =>
      obtain ⟨j, hj, rfl, HJ, hfr⟩ := hrel
      by_cases hlt : j < n
      · obtain ⟨x, hx⟩ : ∃ t, l[j]? = some t := ⟨_, List.getElem?_eq_getElem (by rw [← HN.out]; exact hlt)⟩
        obtain ⟨y, hy⟩ : ∃ t, q[j]? = some t := ⟨_, List.getElem?_eq_getElem (by rw [← HM.out, ← HE.out]; exact hlt)⟩
        have HST := Lib.hid (eqI_drop hx hy)
        obtain ⟨b, off, rfl, x0⟩ := (HV.out.fr' hfr).at_ hx
        obtain ⟨b2, off2, rfl, y0⟩ := (HU.out.fr' hfr).at_ hy
        unfold InC at x0 y0
        simp only [Nat.mul_one] at x0 y0
        have hlm : j < m := by rw [← HE.out]; exact hlt
        clear hx hy
        by_cases hxy : x = y
        · have f0 : (x != y) = false := by simp [hxy]
          have f1 : (x == y) = true := by simp [hxy]
          have HJ2 : Hid (R = eqI (l.drop (j + 1)) (q.drop (j + 1))) := Lib.hid (by rw [HJ.out, HST.out, f1, Bool.true_and])
          clear hxy
          go_wp2_with fail
          go_quiet (fail)
          go_wp2_with fail
          go_roundw
          case rel => exact ⟨j + 1, by omega, by go_num, HJ2, hfr.drewN _⟩
          case measure => simp [intOf]; omega
        · have f0 : (x != y) = true := by simp [hxy]
          have f1 : (x == y) = false := by simp [hxy]
          have HF : Hid (R = false) := Lib.hid (by rw [HJ.out, HST.out, f1, Bool.false_and])
          clear hxy
          go_wp2_with fail
          go_quiet (fail)
          go_wp2_with fail
          go_ret
          rw [HF.out]
          exact ⟨rfl, hfr.drewN _⟩
      · obtain rfl : j = n := by omega
        have HF : Hid (R = true) := Lib.hid (by rw [HJ.out, List.drop_eq_nil_of_le (by rw [← HN.out]; exact Nat.le_refl _), List.drop_eq_nil_of_le (by rw [← HM.out, ← HE.out]; exact Nat.le_refl _)]; rfl)
        go_wp2_with fail
        go_ret
        rw [HF.out]
        exact ⟨rfl, hfr⟩
  · have e0 : ((n : Int) != (m : Int)) = true := by rw [bne_iff_ne]; omega
    have HF : Hid (R = false) := Lib.hid (by rw [hR]; exact eqI_len l q (by rw [← hn, ← hm]; exact he))
    clear hn hm h1 h2 hR he
    go_enter Try.func23, Try.ntmps23
    go_wp2_with fail
    go_ret
    rw [HF.out]
    exact ⟨rfl, Fr.refl _⟩
theorem depL_len : ∀ (l : List Op3) (d : Int), (depL d l).length = l.length
  | [], d => rfl
  | o :: r, d => by rw [depL, List.length_cons, List.length_cons, depL_len r]
theorem row_ints {w : World} {g n : Nat} {L : List Int} (h : w.rowIs g 3 n (fun j => .int .i64 (L[j]?.getD 0))) (hn : L.length = n) (hm : n ≤ maxLen) : IntsV w (.slice (some ⟨g, 0, none⟩) n n) L :=
  ⟨some ⟨g, 0, none⟩, n, by rw [hn], by omega, hm, fun e => (by cases e), fun _ => ⟨g, 0, rfl, fun i x hx => by
    have hi := (List.getElem?_eq_some_iff.1 hx).1
    have := h.cell (i := i) (by omega)
    rw [hx] at this
    unfold InC
    rw [Nat.zero_add, Nat.mul_one]
    exact this⟩⟩
/-- The laws' small code. -/
def cod0 : Cod := ⟨⟨#[]⟩, [], [⟨24, 1, 0⟩, ⟨1, 65, 0⟩, ⟨25, 0, 0⟩], [], 1, 0⟩
theorem ex0 : exE cod0 = 0 := by
  have h1 : limB cod0 = true := by decide +kernel
  have h2 : qtb cod0.name = true := by
    unfold qtb quo
    rw [show run okq cod0.name 0 = 0 from run_end (Nat.le_refl _)]
    rfl
  have h3 : areasB cod0.data = true := rfl
  have h4 : entB cod0 = true := rfl
  have h5 : instrB cod0 = true := by decide +kernel
  have h6 : casB cod0.ops = true := by decide +kernel
  have h7 : procB cod0.ops = true := by decide +kernel
  have h8 : labB cod0 = true := by rfl
  have h9 : depB cod0.ops = true := by decide +kernel
  have h10 : takeB cod0.ops = true := by rfl
  unfold exE
  rw [h1, h2, h3, h4, h5, h6, h7, h8, h9, h10]
  rfl
set_option maxRecDepth 100000 in
set_option maxHeartbeats 4000000 in
theorem awake_any (w : World) : Calls Try.prog 13 #[] w fun e w' => e = .returned (.bool true) ∧ Fr w w' := by
  obtain ⟨w1, hw1⟩ : ∃ w1, w1 = (w.alloc (.cells #[.int .i64 24, .int .i64 1, .int .i64 0, .int .i64 1, .int .i64 65, .int .i64 0, .int .i64 25, .int .i64 0, .int .i64 0] 48)) := ⟨_, rfl⟩
  have HO1 : Hid (∀ W, Fr w1 W → CodW W cod0 (.slice none 0 0) (.slice (some ⟨w.heap.size, 0, none⟩) 3 3) (.slice none 0 0)) := Lib.hid (fun W h => by
    refine ⟨SlE.nil W, ⟨some ⟨w.heap.size, 0, none⟩, 3, rfl, by decide, by decide, fun e => (by cases e), fun _ => ⟨w.heap.size, 0, rfl, fun i x hx => ?_⟩⟩, SlE.nil W⟩
    refine OpC.fr ?_ h
    rw [hw1]
    match i, hx with
    | 0, hx => simp only [cod0, List.getElem?_cons_zero, Option.some.injEq] at hx; subst hx; constructor <;> simp
    | 1, hx => simp only [cod0, List.getElem?_cons_succ, List.getElem?_cons_zero, Option.some.injEq] at hx; subst hx; constructor <;> simp
    | 2, hx => simp only [cod0, List.getElem?_cons_succ, List.getElem?_cons_zero, Option.some.injEq] at hx; subst hx; constructor <;> simp
    | (i + 3), hx => simp [cod0] at hx)
  have HWF : Hid (wfC cod0) := Lib.hid ⟨by decide, fun x hx => (by cases hx), fun x hx => by
    simp only [cod0, List.mem_cons, List.not_mem_nil, or_false] at hx
    rcases hx with rfl | rfl | rfl <;> (simp only [wf64]; omega), fun x hx => (by cases hx), by simp only [wf64, cod0]; omega, by simp only [wf64, cod0]; omega, by decide, by decide, by decide⟩
  have HF1 : Hid (Fr w w1) := Lib.hid (by rw [hw1]; exact (Fr.refl w).alloc _)
  have CD := Lib.hid (fun W (h : Fr w1 W) => Depths_any cod0 _ _ _ W (HO1.out W h) HWF.out (by decide) (fun x hx => by cases hx))
  have HW1 := Lib.hid hw1
  clear hw1
  go_enter Try.func13, Try.ntmps13
  go_wp2_with fail
  rw [← HW1.out]
  refine (CD.out _ ((Fr.refl _).alloc _)).mono ?_
  rintro e w2 ⟨hx, hf2⟩
  obtain ⟨g, rfl, hg, hrow⟩ := hx.1 ex0
  have HF2 : Hid (Fr w w2) := Lib.hid ((HF1.out.alloc _).trans hf2)
  have HROW := Lib.hid hrow
  clear hx hf2 hg hrow
  simp only [show cod0.ops.length = 3 from rfl] at HROW ⊢
  go_wp2_with fail
  refine (EqInts_any [0, 2, 3] [0, 2, 3] _ _ _ (row_ints (n := 3) (L := [0, 2, 3]) (HROW.out.alloc _) rfl (by decide)) (row_ints (n := 3) (L := [0, 2, 3]) ?_ rfl (by decide)) (by decide) (by decide)).mono ?_
  · have h := World.rowIs_alloc w2 #[.int .i64 0, .int .i64 2, .int .i64 3] 3 (fun j => .int .i64 (([0, 2, 3] : List Int)[j]?.getD 0)) (fun i hi => by
      have : i = 0 ∨ i = 1 ∨ i = 2 := by simp at hi; omega
      rcases this with rfl | rfl | rfl <;> rfl)
    exact h
  · rintro e w3 ⟨rfl, hf3⟩
    have hfin := (HF2.out.alloc _).trans hf3
    rw [show eqI [0, 2, 3] [0, 2, 3] = true from by decide]
    go_wp2_with fail
    go_ret
    exact ⟨rfl, hfin⟩
end Go.Proofs.Ytbhhjbnobcgfeaa
