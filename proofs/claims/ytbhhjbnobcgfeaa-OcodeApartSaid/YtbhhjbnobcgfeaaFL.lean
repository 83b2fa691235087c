/- The sum of the times that labels are named; the walk of OcodeSums. -/
import Derived.Test.YtbhhjbnobcgfeaaFK
namespace Go.Proofs.Ytbhhjbnobcgfeaa
open Go.RowKit
set_option linter.unusedVariables false
set_option linter.unusedSimpArgs false

def sumF (h : Nat → Int) : Nat → Int
  | 0 => 0
  | n + 1 => sumF h n + h n
theorem sumF_upd (h : Nat → Int) (k : Nat) (v : Int) : ∀ n, sumF (upd h k v) n = sumF h n + (if k < n then v - h k else 0)
  | 0 => by simp [sumF]
  | n + 1 => by
    rw [sumF, sumF, sumF_upd h k v n]
    unfold upd
    by_cases h1 : n = k
    · subst h1
      rw [if_pos rfl, if_neg (Nat.lt_irrefl n), if_pos (Nat.lt_succ_self n)]; omega
    · rw [if_neg h1]
      by_cases h2 : k < n
      · rw [if_pos h2, if_pos (by omega)]; omega
      · rw [if_neg h2, if_neg (by omega)]; omega
theorem sumF_bd {h : Nat → Int} (hb : ∀ k, 0 ≤ h k ∧ h k ≤ 40000) : ∀ n : Nat, 0 ≤ sumF h n ∧ sumF h n ≤ (n : Int) * 40000
  | 0 => by simp [sumF]
  | n + 1 => by
    have h1 := sumF_bd hb n
    have h2 := hb n
    rw [sumF]
    constructor
    · omega
    · have : ((n + 1 : Nat) : Int) * 40000 = (n : Int) * 40000 + 40000 := by omega
      omega
theorem jm_bd : ∀ (l : List Op3) (h : Nat → Int) (j : Nat), (∀ k, 0 ≤ h k ∧ h k ≤ (j : Int)) → ∀ k, 0 ≤ l.foldl jmF h k ∧ l.foldl jmF h k ≤ ((j + l.length : Nat) : Int)
  | [], h, j, hb => hb
  | o :: r, h, j, hb => by
    intro k
    have := jm_bd r (jmF h o) (j + 1) (jmF_bd hb o) k
    rw [List.foldl_cons, List.length_cons]
    omega
def ct (o : Op3) : Nat := if 0 < labI o then 1 else 0
def cntL : List Op3 → Nat
  | [] => 0
  | o :: r => ct o + cntL r
theorem cntL_le : ∀ l : List Op3, cntL l ≤ l.length
  | [] => Nat.le_refl _
  | o :: r => by have := cntL_le r; rw [cntL, List.length_cons]; unfold ct; split <;> omega
theorem cntL_drop {l : List Op3} {j : Nat} {o : Op3} (h : l[j]? = some o) : cntL (l.drop j) = ct o + cntL (l.drop (j + 1)) := by
  obtain ⟨hj, rfl⟩ := List.getElem?_eq_some_iff.1 h
  rw [List.drop_eq_getElem_cons hj, cntL]
theorem jm_sum (lb : Nat) : ∀ (l : List Op3) (h : Nat → Int), (∀ o ∈ l, ∀ y, labO o = some y → 1 ≤ y ∧ y ≤ lb) → sumF (l.foldl jmF h) lb = sumF h lb + (cntL l : Nat)
  | [], h, _ => by simp [cntL]
  | o :: r, h, hl => by
    rw [List.foldl_cons, jm_sum lb r (jmF h o) (fun x hx => hl x (List.mem_cons_of_mem _ hx)), cntL]
    have hs : sumF (jmF h o) lb = sumF h lb + (ct o : Nat) := by
      unfold jmF ct labI
      cases hlo : labO o with
      | none => simp
      | some y =>
        have hy := hl o List.mem_cons_self y hlo
        simp only
        rw [sumF_upd, if_pos (by omega), if_pos (by omega)]; omega
    rw [hs]; omega
set_option maxRecDepth 100000 in
set_option maxHeartbeats 8000000 in
theorem sums_walk (c : Cod) (dv ov gv : Value) (w : World) (hc : CodW w c dv ov gv) (hw : wfC c) :
    Calls Try.prog 11 #[codV c dv ov gv] w fun e w' => e = .returned (.bool true) ∧ Fr w w' := by
  have CH := Lib.hid (fun W (h : Fr w W) => heavy_any c dv ov gv W (hc.fr h) hw)
  have CJ := Lib.hid (fun W (h : Fr w W) (hv : hvC c = false) => Jumps_any c dv ov gv W (hc.fr h) hw (by have := (hvC_small hv).1; omega) (fun x hx => by have := (hvC_small hv).2.1 x hx; omega))
  have HV := Lib.hid hc.o
  obtain ⟨R, hR⟩ : ∃ y, y = hvC c := ⟨_, rfl⟩
  have HRR := Lib.hid hR
  rw [← hR] at CH CJ
  obtain ⟨da, dc, hdv, _, _, _⟩ := hc.d.form
  obtain ⟨oa, oc, hov, hoc, hom, _⟩ := hc.o.form
  obtain ⟨ga, gc, hgv, _, _, _⟩ := hc.g.form
  obtain ⟨l, hl⟩ : ∃ y, y = c.ops := ⟨_, rfl⟩
  obtain ⟨ld, hld⟩ : ∃ y, y = c.data.length := ⟨_, rfl⟩
  obtain ⟨n, hlo⟩ : ∃ y, y = c.ops.length := ⟨_, rfl⟩
  obtain ⟨lg, hlg⟩ : ∃ y, y = c.gl.length := ⟨_, rfl⟩
  have HN : Hid (n = l.length) := Lib.hid (by rw [hlo, hl])
  have HL := Lib.hid hl
  rw [← hld] at hdv
  rw [← hlo] at hov hoc
  rw [← hlg] at hgv
  rw [← hl] at HV
  subst hdv hov hgv
  unfold codV at CH CJ ⊢
  obtain ⟨nm, hnm⟩ : ∃ y, y = c.name := ⟨_, rfl⟩
  obtain ⟨procs, hpr⟩ : ∃ y, y = c.procs := ⟨_, rfl⟩
  obtain ⟨labels, hlb⟩ : ∃ y, y = c.labels := ⟨_, rfl⟩
  have HLB := Lib.hid hlb
  rw [← hnm, ← hpr, ← hlb] at CH CJ ⊢
  obtain ⟨w0, hw0⟩ : ∃ w0, w0 = w.alloc (.cells #[.string nm, .slice da ld dc, .slice oa n oc, .slice ga lg gc, .int .i64 procs, .int .i64 labels] 26) := ⟨_, rfl⟩
  have HF0 : Hid (Fr w w0) := Lib.hid (by rw [hw0]; exact (Fr.refl w).alloc _)
  have HCB : Hid (CdB w0 w.heap.size nm (.slice da ld dc) (.slice oa n oc) (.slice ga lg gc) procs labels) := Lib.hid (by rw [hw0]; exact CdB.new w _ _ _ _ _ _)
  have HW0 := Lib.hid hw0
  unfold maxLen at hom
  clear hc hw hl hld hlo hlg hnm hpr hlb hw0 hR
  go_enter Try.func11, Try.ntmps11
  go_wp2_with fail
  try rw [← HW0.out]
  refine (CH.out _ HF0.out).mono ?_
  rintro e w1 ⟨rfl, hf1⟩
  have HF1 : Hid (Fr w w1) := Lib.hid (HF0.out.trans hf1)
  have HC1 := Lib.hid (HCB.out.fr hf1)
  clear hf1
  cases R with
  | true =>
    go_wp2_with fail
    refine (awake_any _).mono ?_
    rintro e w2 ⟨rfl, hf2⟩
    have HF2 : Hid (Fr w w2) := Lib.hid (HF1.out.trans hf2)
    go_wp2_with fail
    go_ret
    exact ⟨rfl, HF2.out⟩
  | false =>
    have CJ2 := Lib.hid (fun W h => CJ.out W h rfl)
    obtain ⟨cb0, cb1, cb2, cb3, cb4, cb5⟩ := HC1.out
    go_wp2_with fail
    refine (CJ2.out _ HF1.out).mono ?_
    rintro e w2 ⟨hP, hf2⟩
    have HP := Lib.hid hP
    have HF2 : Hid (Fr w w2) := Lib.hid (HF1.out.trans hf2)
    have HC2 := Lib.hid (HC1.out.fr hf2)
    clear hf2 hP cb0 cb1 cb2 cb3 cb4 cb5
    by_cases h0 : exE c = 0
    · obtain ⟨g, rfl, _, hrow⟩ := HP.out.1 h0
      obtain ⟨lb, hlb, hok⟩ := instr_ok (ex_lim h0).2
      have h20 := lim_ok (ex_lim h0).1
      have HTN : Hid (labels.toNat = lb) := Lib.hid (by rw [HLB.out, hlb]; exact Int.toNat_natCast lb)
      rw [HTN.out] at hrow ⊢
      have HROW := Lib.hid hrow
      have h40 : n ≤ 40000 ∧ lb ≤ 20000 := by have := HN.out; rw [HL.out] at this; omega
      have HBD : Hid (∀ k, 0 ≤ jmL l k ∧ jmL l k ≤ 40000) := Lib.hid (fun k => by
        have := jm_bd l (fun _ => 0) 0 (fun k => ⟨Int.le_refl 0, Int.le_refl 0⟩) k
        have := HN.out
        unfold jmL; omega)
      have HSUM : Hid (sumF (jmL l) lb = (cntL l : Nat)) := Lib.hid (by
        have := jm_sum lb l (fun _ => 0) (by rw [HL.out]; exact hok.lab)
        have z : ∀ n, sumF (fun _ => 0) n = 0 := fun n => by induction n with
          | zero => rfl
          | succ n ih => rw [sumF, ih]; rfl
        rw [z] at this
        unfold jmL; omega)
      have HLBI : Hid (labels = (lb : Int)) := Lib.hid (HLB.out.trans hlb)
      rw [← HL.out] at HROW
      clear hlb hok h20 h0 hrow HP
      go_wp2_with fail
      go_loopw [5, 7] (fun s i wr => ∃ j : Nat, j ≤ lb ∧ i = .int .i64 j ∧ s = .int .i64 (sumF (jmL l) j) ∧ wr = w2) (fun _ i _ => lb - (intOf i).toNat)
      case atStart => exact ⟨0, Nat.zero_le _, rfl, rfl, rfl⟩
      case round =>
        obtain ⟨j, hj, rfl, rfl, rfl⟩ := hrel
        by_cases hlt : j < lb
        · have z1 := HROW.out.cell hlt
          have d1 : decide ((j : Int) < (lb : Int)) = true := decide_eq_true (by omega)
          obtain ⟨x, hx⟩ : ∃ y, y = jmL l j := ⟨_, rfl⟩
          have HX := Lib.hid hx
          obtain ⟨s, hs⟩ : ∃ y, y = sumF (jmL l) j := ⟨_, rfl⟩
          have HS := Lib.hid hs
          rw [← hx] at z1
          rw [← hs]
          have wx : IntKind.i64.wrap (s + x) = s + x := IntWalk.i64_in _ (by
            have h1 := sumF_bd HBD.out j
            have h2 := HBD.out j
            rw [← hs] at h1; rw [← hx] at h2; omega)
          have HS2 : Hid (s + x = sumF (jmL l) (j + 1)) := Lib.hid (by rw [sumF, hs, hx])
          clear hx hs
          go_wp2_with fail
          go_roundw
          case rel => exact ⟨j + 1, by omega, by go_num, by rw [HS2.out], by first | rfl | trivial⟩
          case measure => simp [intOf]; omega
        · obtain rfl : j = lb := by omega
          have d1 : decide ((j : Int) < (j : Int)) = false := decide_eq_false (by omega)
          obtain ⟨s, hs⟩ : ∃ y, y = sumF (jmL l) j := ⟨_, rfl⟩
          rw [← hs]
          have HS : Hid (s = (cntL l : Nat)) := Lib.hid (by rw [hs, HSUM.out])
          clear hs
          rename World => wo
          go_wp2_with fail
          go_loopw [6, 8] (fun t i wr => ∃ (k x : Nat), k ≤ n ∧ i = .int .i64 k ∧ t = .int .i64 x ∧ Hid (x + cntL (l.drop k) = cntL l) ∧ Fr wo wr) (fun _ i _ => n - (intOf i).toNat)
          case atStart => exact ⟨0, 0, Nat.zero_le _, rfl, rfl, Lib.hid (by simp), Fr.refl _⟩
          case round =>
            obtain ⟨k, x, hk, rfl, rfl, HJ, hfr⟩ := hrel
            have HFR := Lib.hid hfr
            obtain ⟨cb0, cb1, cb2, cb3, cb4, cb5⟩ := HC2.out.fr hfr
            by_cases hkn : k < n
            · obtain ⟨t, ht⟩ : ∃ t, l[k]? = some t := ⟨_, List.getElem?_eq_getElem (by rw [← HN.out]; exact hkn)⟩
              have HT := Lib.hid ht
              obtain ⟨b, off, rfl, hc3⟩ := (HV.out.fr' (HF2.out.trans hfr)).at_ ht
              obtain ⟨x0, x1, x2⟩ := hc3
              obtain ⟨⟨q0, q1, q2⟩, hq⟩ : ∃ y, y = t := ⟨_, rfl⟩
              subst hq
              simp only at x0 x1 x2
              clear ht hfr
              have HD := Lib.hid (cntL_drop HT.out)
              have hxb : x ≤ 40000 := by have := cntL_le l; have := HN.out; have := HJ.out; omega
              have CL := Lib.hid (fun W => RLabel_any q0 q1 q2 W)
              obtain ⟨y, hy⟩ : ∃ y, y = labI ⟨q0, q1, q2⟩ := ⟨_, rfl⟩
              have HY := Lib.hid hy
              rw [← hy] at CL
              clear hy
              have wx : IntKind.i64.wrap ((x : Int) + 1) = (x : Int) + 1 := IntWalk.i64_in _ (by omega)
              have wk : IntKind.i64.wrap ((k : Int) + 1) = (k : Int) + 1 := IntWalk.i64_in _ (by omega)
              go_wp2_with fail
              refine (CL.out _).mono ?_
              rintro e w3 ⟨rfl, hf3⟩
              have HF3 := Lib.hid (HFR.out.trans hf3)
              clear hf3
              by_cases hp : 0 < y
              · have f1 : decide (y > 0) = true := decide_eq_true hp
                have f1' : decide (0 < y) = true := decide_eq_true hp
                have HJ2 : Hid (x + 1 + cntL (l.drop (k + 1)) = cntL l) := Lib.hid (by have := HJ.out; rw [HD.out, ct, ← HY.out, if_pos hp] at this; omega)
                clear hp
                go_wp2_with fail
                go_roundw
                case rel => exact ⟨k + 1, x + 1, by omega, by go_num, by simp, HJ2, HF3.out⟩
                case measure => simp [intOf]; omega
              · have f1 : decide (y > 0) = false := decide_eq_false hp
                have f1' : decide (0 < y) = false := decide_eq_false hp
                have HJ2 : Hid (x + cntL (l.drop (k + 1)) = cntL l) := Lib.hid (by have := HJ.out; rw [HD.out, ct, ← HY.out, if_neg hp] at this; omega)
                clear hp
                go_wp2_with fail
                go_roundw
                case rel => exact ⟨k + 1, x, by omega, by go_num, rfl, HJ2, HF3.out⟩
                case measure => simp [intOf]; omega
            · obtain rfl : k = n := by omega
              have HX : Hid (s = (x : Int)) := Lib.hid (by have := HJ.out; rw [List.drop_eq_nil_of_le (by rw [← HN.out]; exact Nat.le_refl _)] at this; rw [HS.out]; simp only [cntL] at this; omega)
              obtain rfl : s = (x : Int) := HX.out
              obtain rfl : labels = (j : Int) := HLBI.out
              have g1 : ((j : Int) == (j : Int)) = true := beq_self_eq_true _
              have g2 : ((x : Int) == (x : Int)) = true := beq_self_eq_true _
              clear hfr
              go_wp2_with fail
              refine (awake_any _).mono ?_
              rintro e w3 ⟨rfl, hf3⟩
              have HF3 := Lib.hid ((HF2.out.trans HFR.out).trans hf3)
              clear hf3
              go_wp2_with fail
              go_ret
              exact ⟨rfl, HF3.out⟩
    · obtain rfl := HP.out.2 h0
      have e1 : ((exE c : Int) != 0) = true := by rw [bne_iff_ne]; omega
      obtain ⟨E, hE⟩ : ∃ y, y = exE c := ⟨_, rfl⟩
      rw [← hE] at e1 ⊢
      clear h0 hE HP
      go_wp2_with fail
      refine (awake_any _).mono ?_
      rintro e w3 ⟨rfl, hf3⟩
      have HF3 := Lib.hid (HF2.out.trans hf3)
      clear hf3
      go_wp2_with fail
      go_ret
      exact ⟨rfl, HF3.out⟩
end Go.Proofs.Ytbhhjbnobcgfeaa
