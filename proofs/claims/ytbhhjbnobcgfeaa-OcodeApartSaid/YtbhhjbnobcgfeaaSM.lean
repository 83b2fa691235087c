/- Areas compared; the code's Same. -/
import Derived.Test.YtbhhjbnobcgfeaaEQ
namespace Go.Proofs.Ytbhhjbnobcgfeaa
open Go.RowKit
set_option linter.unusedVariables false
set_option linter.unusedSimpArgs false

def eqB (x y : Bool) : Bool := x == y
def eqD (x y : Dt) : Bool := eqS x.t y.t && (x.b == y.b) && eqG eqN x.ws y.ws
theorem eqD_symm (x y : Dt) : eqD x y = eqD y x := by
  unfold eqD
  rw [eqS_symm x.t y.t, eqG_symm eqN_symm x.ws y.ws, show (x.b == y.b) = (y.b == x.b) from by cases x.b <;> cases y.b <;> rfl]
def eqC (a b : Cod) : Bool := eqS a.name b.name && (a.procs == b.procs) && (a.labels == b.labels) && eqG eqO a.ops b.ops && eqG eqE a.gl b.gl && eqG eqD a.data b.data
theorem eqC_symm (a b : Cod) : eqC a b = eqC b a := by
  unfold eqC
  rw [eqS_symm a.name b.name, beq_symm a.procs b.procs, beq_symm a.labels b.labels, eqG_symm eqO_symm a.ops b.ops, eqG_symm eqE_symm a.gl b.gl, eqG_symm eqD_symm a.data b.data]
set_option maxRecDepth 100000 in
set_option maxHeartbeats 4000000 in
theorem sameArea_any (x y : Dt) (lv lu : Value) (w : World) (hv : IntsV w lv x.ws) (hu : IntsV w lu y.ws) (hb1 : x.ws.length ≤ 140737488351232) (hb2 : y.ws.length ≤ 140737488351232) :
    Calls Try.prog 45 #[.agg #[.string x.t, .bool x.b, lv], .agg #[.string y.t, .bool y.b, lu]] w fun e w' => e = .returned (.bool (eqD x y)) ∧ Fr w w' := by
  obtain ⟨s, bx, l⟩ := x
  obtain ⟨r, bq, q⟩ := y
  simp only at hv hu hb1 hb2 ⊢
  have CE := Lib.hid (fun W (h : Fr w W) => EqInt_any l q lv lu W (hv.fr' h) (hu.fr' h) hb1 hb2)
  obtain ⟨a, cap, rfl, _, _, _⟩ := hv.form
  obtain ⟨a2, cap2, rfl, _, _, _⟩ := hu.form
  obtain ⟨n, hn⟩ : ∃ n, n = l.length := ⟨_, rfl⟩
  obtain ⟨m, hm⟩ : ∃ m, m = q.length := ⟨_, rfl⟩
  rw [← hn, ← hm] at CE
  rw [← hn, ← hm]
  obtain ⟨A, hA⟩ : ∃ z, z = eqS s r := ⟨_, rfl⟩
  obtain ⟨B, hB⟩ : ∃ z, z = (bx == bq) := ⟨_, rfl⟩
  obtain ⟨C, hC⟩ : ∃ z, z = eqG eqN l q := ⟨_, rfl⟩
  have HR : Hid (eqD ⟨s, bx, l⟩ ⟨r, bq, q⟩ = (A && B && C)) := Lib.hid (by unfold eqD; rw [hA, hB, hC])
  rw [HR.out]
  rw [← hC] at CE
  have fA : (s.toList == r.toList) = A := hA.symm
  have fB : (bx == bq) = B := hB.symm
  have HF2 : Hid (Fr w ((w.alloc (.cells #[.string s, .bool bx, .slice a n cap] 41)).alloc (.cells #[.string r, .bool bq, .slice a2 m cap2] 41))) := Lib.hid (((Fr.refl w).alloc _).alloc _)
  clear hv hu hb1 hb2 hn hm hA hB hC
  cases A with
  | false =>
    go_enter Try.func45, Try.ntmps45
    go_wp2_with fail
    go_ret
    exact ⟨by first | rfl | simp, HF2.out⟩
  | true =>
    cases B with
    | false =>
      go_enter Try.func45, Try.ntmps45
      go_wp2_with fail
      go_ret
      exact ⟨by first | rfl | simp, HF2.out⟩
    | true =>
      go_enter Try.func45, Try.ntmps45
      go_wp2_with fail
      refine (CE.out _ HF2.out).mono ?_
      rintro e w1 ⟨rfl, hf1⟩
      have HF3 := Lib.hid (HF2.out.trans hf1)
      clear hf1
      go_wp2_with fail
      go_ret
      exact ⟨by first | rfl | simp, HF3.out⟩
set_option maxRecDepth 100000 in
set_option maxHeartbeats 4000000 in
theorem EqData_any (l q : List Dt) (v1 v2 : Value) (w : World) (h1 : DtsV w v1 l) (h2 : DtsV w v2 q) (hb1 : l.length ≤ 140737488351232) (hb2 : q.length ≤ 140737488351232) (hw1 : ∀ x ∈ l, okD x) (hw2 : ∀ x ∈ q, okD x) :
    Calls Try.prog 44 #[v1, v2, .func (.func 45) #[] #[]] w fun e w' => e = .returned (.bool (eqG eqD l q)) ∧ Fr w w' := by
  have HV := Lib.hid h1
  have HU := Lib.hid h2
  have HW1 := Lib.hid hw1
  have HW2 := Lib.hid hw2
  obtain ⟨a, cap, rfl, _, _, _⟩ := h1.form
  obtain ⟨a2, cap2, rfl, _, _, _⟩ := h2.form
  obtain ⟨n, hn⟩ : ∃ n, n = l.length := ⟨_, rfl⟩
  obtain ⟨m, hm⟩ : ∃ m, m = q.length := ⟨_, rfl⟩
  have HN := Lib.hid hn
  have HM := Lib.hid hm
  rw [← hn] at HV hb1 ⊢
  rw [← hm] at HU hb2 ⊢
  obtain ⟨R, hR⟩ : ∃ r, r = eqG eqD l q := ⟨_, rfl⟩
  have HR := Lib.hid hR
  rw [← hR]
  by_cases he : n = m
  · have HE := Lib.hid he
    have e0 : ((n : Int) != (m : Int)) = false := by simp [he]
    clear hn hm h1 h2 hR he hw1 hw2
    go_enter Try.func44, Try.ntmps44
    go_wp2_with fail
    go_loopw [17] (fun i wr => ∃ j : Nat, j ≤ n ∧ i = .int .i64 j ∧ Hid (R = eqG eqD (l.drop j) (q.drop j)) ∧ Fr w wr) (fun i _ => n - (intOf i).toNat)
    case atStart => exact ⟨0, Nat.zero_le _, rfl, Lib.hid (by rw [HR.out]; rfl), Fr.refl _⟩
    case round =>
      obtain ⟨j, hj, rfl, HJ, hfr⟩ := hrel
      by_cases hlt : j < n
      · obtain ⟨x, hx⟩ : ∃ t, l[j]? = some t := ⟨_, List.getElem?_eq_getElem (by rw [← HN.out]; exact hlt)⟩
        obtain ⟨y, hy⟩ : ∃ t, q[j]? = some t := ⟨_, List.getElem?_eq_getElem (by rw [← HM.out, ← HE.out]; exact hlt)⟩
        have HST := Lib.hid (eqG_drop eqD hx hy)
        obtain ⟨b, off, rfl, x0⟩ := (HV.out.fr' hfr).at_ hx
        obtain ⟨b2, off2, rfl, y0⟩ := (HU.out.fr' hfr).at_ hy
        have hlm : j < m := by rw [← HE.out]; exact hlt
        obtain ⟨x0, x1, lv, x2, hiv⟩ := x0
        obtain ⟨y0, y1, lu, y2, hiu⟩ := y0
        have CS := Lib.hid (fun W (h : Fr wr W) => sameArea_any x y lv lu W (hiv.fr' h) (hiu.fr' h) (HW1.out _ (List.mem_of_getElem? hx)).2.1 (HW2.out _ (List.mem_of_getElem? hy)).2.1)
        obtain ⟨g, hg⟩ : ∃ z, z = eqD x y := ⟨_, rfl⟩
        rw [← hg] at CS HST
        obtain ⟨xa, xc, rfl, _, _, _⟩ := hiv.form
        obtain ⟨ya, yc, rfl, _, _, _⟩ := hiu.form
        obtain ⟨ln, hln⟩ : ∃ z, z = x.ws.length := ⟨_, rfl⟩
        obtain ⟨lm, hlm2⟩ : ∃ z, z = y.ws.length := ⟨_, rfl⟩
        rw [← hln] at x2 CS
        rw [← hlm2] at y2 CS
        obtain ⟨p0, hp0⟩ : ∃ z, z = x.t := ⟨_, rfl⟩
        obtain ⟨p1, hp1⟩ : ∃ z, z = x.b := ⟨_, rfl⟩
        obtain ⟨r0, hr0⟩ : ∃ z, z = y.t := ⟨_, rfl⟩
        obtain ⟨r1, hr1⟩ : ∃ z, z = y.b := ⟨_, rfl⟩
        rw [← hp0] at x0 CS
        rw [← hp1] at x1 CS
        rw [← hr0] at y0 CS
        rw [← hr1] at y1 CS
        have HF2 : Hid (Fr wr ((wr.alloc (.cells #[.string p0, .bool p1, .slice xa ln xc] 41)).alloc (.cells #[.string r0, .bool r1, .slice ya lm yc] 41))) := Lib.hid (((Fr.refl wr).alloc _).alloc _)
        have HFR := Lib.hid hfr
        have hb2l : b2 < wr.heap.size := World.block_lt_of_cell? wr _ y0
        have hb2n : ¬ b2 = wr.heap.size := fun e => by omega
        have hb2m : ¬ wr.heap.size = b2 := fun e => by omega
        obtain ⟨w8, hw8⟩ : ∃ z, z = wr.alloc (.cells #[.string p0, .bool p1, .slice xa ln xc] 41) := ⟨_, rfl⟩
        have y0' : (wr.alloc (.cells #[.string p0, .bool p1, .slice xa ln xc] 41)).cell? ⟨b2, off2 + j * 3, none⟩ = some (.string r0) := ((Fr.refl wr).alloc _).cell y0
        have y1' : (wr.alloc (.cells #[.string p0, .bool p1, .slice xa ln xc] 41)).cell? ⟨b2, off2 + j * 3 + 1, none⟩ = some (.bool r1) := ((Fr.refl wr).alloc _).cell y1
        have y2' : (wr.alloc (.cells #[.string p0, .bool p1, .slice xa ln xc] 41)).cell? ⟨b2, off2 + j * 3 + 2, none⟩ = some (.slice ya lm yc) := ((Fr.refl wr).alloc _).cell y2
        clear hx hy hiv hiu hg hln hlm2 hp0 hp1 hr0 hr1 hfr hw8
        cases g
        all_goals
          go_wp2_with fail
          refine (CS.out _ HF2.out).mono ?_
          rintro e w1 ⟨rfl, hf1⟩
          have HF3 := Lib.hid ((HFR.out.trans HF2.out).trans hf1)
          clear hf1
          go_wp2_with fail
          first
            | (go_roundw
               case rel => exact ⟨j + 1, by omega, by go_num, Lib.hid (by rw [HJ.out, HST.out, Bool.true_and]), HF3.out⟩
               case measure => simp [intOf]; omega)
            | (go_ret
               rw [show R = false from by rw [HJ.out, HST.out, Bool.false_and]]
               exact ⟨rfl, HF3.out⟩)
      · obtain rfl : j = n := by omega
        have HF : Hid (R = true) := Lib.hid (by rw [HJ.out, List.drop_eq_nil_of_le (by rw [← HN.out]; exact Nat.le_refl _), List.drop_eq_nil_of_le (by rw [← HM.out, ← HE.out]; exact Nat.le_refl _)]; rfl)
        go_wp2_with fail
        go_ret
        rw [HF.out]
        exact ⟨rfl, hfr⟩
  · have e0 : ((n : Int) != (m : Int)) = true := by rw [bne_iff_ne]; omega
    have HF : Hid (R = false) := Lib.hid (by rw [hR]; exact eqG_len eqD l q (by rw [← hn, ← hm]; exact he))
    clear hn hm h1 h2 hR he hw1 hw2
    go_enter Try.func44, Try.ntmps44
    go_wp2_with fail
    go_ret
    rw [HF.out]
    exact ⟨rfl, Fr.refl _⟩
end Go.Proofs.Ytbhhjbnobcgfeaa
