/- Which labels are named how often; the walk of OcodeSums. -/
import Derived.Test.YtbhhjbnobcgfeaaFJ
namespace Go.Proofs.Ytbhhjbnobcgfeaa
open Go.RowKit
set_option linter.unusedVariables false
set_option linter.unusedSimpArgs false

def labI (o : Op3) : Int := match labO o with
  | none => 0
  | some y => y
set_option maxHeartbeats 4000000 in
theorem RLabel_any (op n m : Int) (w : World) : Calls Try.prog 33 #[.agg #[.int .i64 op, .int .i64 n, .int .i64 m]] w fun e w' => e = .returned (.int .i64 (labI ⟨op, n, m⟩)) ∧ Fr w w' := by
  by_cases h : op = 20 ∨ op = 21 ∨ op = 22 ∨ op = 27 ∨ op = 29 ∨ op = 30
  · rcases h with rfl | rfl | rfl | rfl | rfl | rfl
    all_goals
      go_enter Try.func33, Try.ntmps33
      go_wp2
      first | go_ret | skip
      exact ⟨rfl, (Fr.refl _).alloc _⟩
  · have n20 : (op == 20) = false := by rw [beq_eq_false_iff_ne]; omega
    have n21 : (op == 21) = false := by rw [beq_eq_false_iff_ne]; omega
    have n22 : (op == 22) = false := by rw [beq_eq_false_iff_ne]; omega
    have n27 : (op == 27) = false := by rw [beq_eq_false_iff_ne]; omega
    have n29 : (op == 29) = false := by rw [beq_eq_false_iff_ne]; omega
    have n30 : (op == 30) = false := by rw [beq_eq_false_iff_ne]; omega
    have HR : Hid (labI ⟨op, n, m⟩ = 0) := Lib.hid (by simp only [not_or] at h; simp [labI, labO, h])
    clear h
    go_enter Try.func33, Try.ntmps33
    go_wp2
    first | go_ret | skip
    rw [HR.out]
    exact ⟨rfl, (Fr.refl _).alloc _⟩
/-- One label more. -/
def jmF (h : Nat → Int) (o : Op3) : Nat → Int := match labO o with
  | none => h
  | some y => upd h (y.toNat - 1) (h (y.toNat - 1) + 1)
def jmL (l : List Op3) : Nat → Int := l.foldl jmF (fun _ => 0)
theorem jmF_bd {h : Nat → Int} {j : Nat} (hb : ∀ k, 0 ≤ h k ∧ h k ≤ (j : Int)) (o : Op3) : ∀ k, 0 ≤ jmF h o k ∧ jmF h o k ≤ ((j + 1 : Nat) : Int) := by
  intro k
  have h1 := hb k
  unfold jmF
  cases labO o with
  | none => simp only; omega
  | some y =>
    have h2 := hb (y.toNat - 1)
    simp only [upd]
    by_cases hk : k = y.toNat - 1
    · rw [if_pos hk]; omega
    · rw [if_neg hk]; omega
/-- What Jumps hands back. -/
def JuP (c : Cod) (lb : Nat) (w : World) (e : Ending) (w' : World) : Prop :=
  (exE c = 0 → ∃ g : Nat, e = .returned (.tuple #[.slice (some ⟨g, 0, none⟩) lb lb, .int .i64 0]) ∧ w.heap.size ≤ g ∧ w'.rowIs g 3 lb (fun k => .int .i64 (jmL c.ops k))) ∧ (¬ exE c = 0 → e = .returned (.tuple #[.slice none 0 0, .int .i64 (exE c : Nat)]))
theorem ex_lim {c : Cod} (h : exE c = 0) : limB c = true ∧ instrB c = true := by
  unfold exE at h
  cases h1 : limB c with
  | false => rw [h1] at h; simp at h
  | true =>
    rw [h1] at h
    cases h2 : (qtb c.name && areasB c.data && entB c && instrB c) with
    | false => rw [h2] at h; simp at h
    | true =>
      simp only [Bool.and_eq_true] at h2
      exact ⟨rfl, h2.2⟩
set_option maxRecDepth 100000 in
set_option maxHeartbeats 8000000 in
theorem Jumps_any (c : Cod) (dv ov gv : Value) (w : World) (hc : CodW w c dv ov gv) (hw : wfC c) (hs : c.name.size ≤ 2000000) (ht : ∀ x ∈ c.data, x.t.size ≤ 2000000) :
    Calls Try.prog 21 #[codV c dv ov gv] w fun e w' => JuP c c.labels.toNat w e w' ∧ Fr w w' := by
  have CX := Lib.hid (fun W (h : Fr w W) => Check_any c dv ov gv W (hc.fr h) hw hs ht)
  have HV := Lib.hid hc.o
  obtain ⟨E, hE⟩ : ∃ y, y = exE c := ⟨_, rfl⟩
  have HE := Lib.hid hE
  rw [← hE] at CX
  obtain ⟨da, dc, hdv, _, _, _⟩ := hc.d.form
  obtain ⟨oa, oc, hov, hoc, hom, _⟩ := hc.o.form
  obtain ⟨ga, gc, hgv, _, _, _⟩ := hc.g.form
  obtain ⟨l, hl⟩ : ∃ y, y = c.ops := ⟨_, rfl⟩
  obtain ⟨ld, hld⟩ : ∃ y, y = c.data.length := ⟨_, rfl⟩
  obtain ⟨n, hlo⟩ : ∃ y, y = c.ops.length := ⟨_, rfl⟩
  obtain ⟨lg, hlg⟩ : ∃ y, y = c.gl.length := ⟨_, rfl⟩
  have HN : Hid (n = l.length) := Lib.hid (by rw [hlo, hl])
  have HL := Lib.hid hl
  rw [← hld] at hdv
  rw [← hlo] at hov hoc
  rw [← hlg] at hgv
  rw [← hl] at HV
  subst hdv hov hgv
  unfold codV at CX ⊢
  obtain ⟨nm, hnm⟩ : ∃ y, y = c.name := ⟨_, rfl⟩
  obtain ⟨procs, hpr⟩ : ∃ y, y = c.procs := ⟨_, rfl⟩
  obtain ⟨labels, hlb⟩ : ∃ y, y = c.labels := ⟨_, rfl⟩
  have HLB := Lib.hid hlb
  obtain ⟨lt, hlt⟩ : ∃ y, y = c.labels.toNat := ⟨_, rfl⟩
  have HLT := Lib.hid hlt
  rw [← hlt]
  rw [← hnm, ← hpr, ← hlb] at CX ⊢
  obtain ⟨w0, hw0⟩ : ∃ w0, w0 = w.alloc (.cells #[.string nm, .slice da ld dc, .slice oa n oc, .slice ga lg gc, .int .i64 procs, .int .i64 labels] 26) := ⟨_, rfl⟩
  have HF0 : Hid (Fr w w0) := Lib.hid (by rw [hw0]; exact (Fr.refl w).alloc _)
  have HCB : Hid (CdB w0 w.heap.size nm (.slice da ld dc) (.slice oa n oc) (.slice ga lg gc) procs labels) := Lib.hid (by rw [hw0]; exact CdB.new w _ _ _ _ _ _)
  have HW0 := Lib.hid hw0
  unfold maxLen at hom
  clear hc hw hs ht hE hl hld hlo hlg hnm hpr hlb hlt hw0
  go_enter Try.func21, Try.ntmps21
  go_wp2_with fail
  try rw [← HW0.out]
  refine (CX.out _ HF0.out).mono ?_
  rintro e w1 ⟨rfl, hf1⟩
  have HF1 : Hid (Fr w w1) := Lib.hid (HF0.out.trans hf1)
  have HC1 := Lib.hid (HCB.out.fr hf1)
  clear hf1
  by_cases h0 : E = 0
  · have H0 : Hid (exE c = 0) := Lib.hid (HE.out.symm.trans h0)
    have e0 : ((E : Int) == 0) = true := by rw [beq_iff_eq]; omega
    have e1 : ((E : Int) != 0) = false := by rw [bne_eq_false_iff_eq]; omega
    obtain ⟨lb, hlb, hok⟩ := instr_ok (ex_lim H0.out).2
    have h20 := lim_ok (ex_lim H0.out).1
    have HOK := Lib.hid hok
    have H20 := Lib.hid h20
    have HLBI : Hid (labels = (lb : Int)) := Lib.hid (HLB.out.trans hlb)
    obtain rfl : labels = (lb : Int) := HLBI.out
    have HTN : Hid (lt = lb) := Lib.hid (by rw [HLT.out, hlb]; exact Int.toNat_natCast lb)
    have hmk := fun W => run_make_ints lb (by rw [hlb] at h20; omega) W
    have HB1 := Lib.hid (World.rowIs_made w1 (.int .i64 0) lb 3)
    obtain ⟨cb0, cb1, cb2, cb3, cb4, cb5⟩ := HC1.out
    have HF2 : Hid (Fr w1 (w1.alloc (.cells (madeCells #[.int .i64 0] lb) 3))) := Lib.hid ((Fr.refl _).alloc _)
    have cc2 := (HC1.out.fr HF2.out).c2
    clear hlb hok h20 h0
    go_wp2_with fail
    go_loopw [20] (fun i wr => ∃ (j : Nat) (h : Nat → Int), j ≤ n ∧ i = .int .i64 j ∧ Hid (∀ k, 0 ≤ h k ∧ h k ≤ (j : Int)) ∧ Hid (jmL l = (l.drop j).foldl jmF h) ∧ wr.rowIs w1.heap.size 3 lb (fun k => .int .i64 (h k)) ∧ Fr w1 wr) (fun i _ => n - (intOf i).toNat)
    case atStart => exact ⟨0, fun _ => 0, Nat.zero_le _, rfl, Lib.hid (fun k => ⟨Int.le_refl 0, Int.le_refl 0⟩), Lib.hid rfl, HB1.out, HF2.out⟩
    case round =>
      obtain ⟨j, h, hj, rfl, HH, HJ, hrow, hfr⟩ := hrel
      have HROW := Lib.hid hrow
      clear hrow cb0 cb1 cb2 cb3 cb4 cb5 cc2
      by_cases hlt : j < n
      · obtain ⟨t, ht⟩ : ∃ t, l[j]? = some t := ⟨_, List.getElem?_eq_getElem (by rw [← HN.out]; exact hlt)⟩
        have HT := Lib.hid ht
        obtain ⟨b, off, rfl, hc3⟩ := (HV.out.fr' (HF1.out.trans hfr)).at_ ht
        obtain ⟨x0, x1, x2⟩ := hc3
        obtain ⟨⟨q0, q1, q2⟩, hq⟩ : ∃ y, y = t := ⟨_, rfl⟩
        subst hq
        simp only at x0 x1 x2
        clear ht
        have HST := Lib.hid (fold_drop jmF h HT.out)
        have HX0 : Hid (OpC (wr.alloc (.cells #[.int .i64 q0, .int .i64 q1, .int .i64 q2] 48)) wr.heap.size 0 ⟨q0, q1, q2⟩) := Lib.hid ⟨by simp, by simp, by simp⟩
        have CN := Lib.hid (named_any q0 wr.heap.size (wr.alloc (.cells #[.int .i64 q0, .int .i64 q1, .int .i64 q2] 48)) (by simp))
        have HRZ := Lib.hid (HROW.out.alloc (.cells #[.int .i64 q0, .int .i64 q1, .int .i64 q2] 48))
        have HMEM : Hid ((⟨q0, q1, q2⟩ : Op3) ∈ c.ops) := Lib.hid (by rw [← HL.out]; exact List.mem_of_getElem? HT.out)
        by_cases hA : q0 = 20 ∨ q0 = 21 ∨ q0 = 22 ∨ q0 = 27 ∨ q0 = 29
        · have HLO : Hid (labO ⟨q0, q1, q2⟩ = some q1) := Lib.hid (by simp only [labO]; rw [if_pos hA])
          have HLP : Hid (labP q0 wr.heap.size = some ⟨wr.heap.size, 1, none⟩) := Lib.hid (by unfold labP; rw [if_pos hA])
          clear hA
          obtain ⟨k, hkk⟩ : ∃ k : Nat, q1 = ((k + 1 : Nat) : Int) := ⟨(q1).toNat - 1, by have := HOK.out.lab _ HMEM.out _ HLO.out; omega⟩
          have hkm : k < lb := by have := HOK.out.lab _ HMEM.out _ HLO.out; omega
          subst hkk
          rw [HLP.out] at CN
          have z1 := HRZ.out.cell hkm
          have z2 := HRZ.out.frozen k
          have wk : IntKind.i64.wrap (((k + 1 : Nat) : Int) - 1) = (k : Int) := by rw [show ((k + 1 : Nat) : Int) - 1 = (k : Int) by omega]; exact IntWalk.i64_in _ (by have := H20.out; have := HLB.out; omega)
          obtain ⟨hv', hhv⟩ : ∃ y, y = h k := ⟨_, rfl⟩
          have HHV := Lib.hid hhv
          simp only [← hhv] at z1
          have wv : IntKind.i64.wrap (hv' + 1) = hv' + 1 := IntWalk.i64_in _ (by rw [hhv]; have := HH.out k; have := H20.out.1; have := HN.out; have := HL.out; rw [← HL.out] at *; omega)
          have HSTEP : Hid (jmF h ⟨q0, ((k + 1 : Nat) : Int), q2⟩ = upd h k (hv' + 1)) := Lib.hid (by simp only [jmF, HLO.out, Int.toNat_natCast, Nat.add_sub_cancel]; rw [hhv])
          have HJ2 : Hid (jmL l = (l.drop (j + 1)).foldl jmF (upd h k (hv' + 1))) := Lib.hid (by rw [HJ.out, HST.out, HSTEP.out])
          have HH2 : Hid (∀ i, 0 ≤ upd h k (hv' + 1) i ∧ upd h k (hv' + 1) i ≤ ((j + 1 : Nat) : Int)) := Lib.hid (fun i => by have := jmF_bd HH.out ⟨q0, ((k + 1 : Nat) : Int), q2⟩ i; rw [HSTEP.out] at this; exact this)
          obtain ⟨y, hy⟩ : ∃ y : Int, y = ((k + 1 : Nat) : Int) := ⟨_, rfl⟩
          rw [← hy] at wk CN HRZ HX0 z1 z2 x1
          clear hhv hy
          go_wp2_with fail
          refine CN.out.mono ?_
          rintro e w3 ⟨rfl, rfl⟩
          go_wp2_with fail
          go_roundw
          case rel =>
            refine ⟨j + 1, upd h k (hv' + 1), by omega, by go_num, HH2, HJ2, (HRZ.out.set k _).congr (fun i hi => ?_), (hfr.alloc _).setCell (Nat.le_refl _) _⟩
            unfold upd
            by_cases hik : i = k
            · rw [if_pos hik, if_pos hik]
            · rw [if_neg hik, if_neg hik]
          case measure => simp [intOf]; omega
        · by_cases hB : q0 = 30
          · have HLO : Hid (labO ⟨q0, q1, q2⟩ = some q2) := Lib.hid (by simp only [labO]; rw [if_neg hA, if_pos hB])
            have HLP : Hid (labP q0 wr.heap.size = some ⟨wr.heap.size, 2, none⟩) := Lib.hid (by unfold labP; rw [if_neg hA, if_pos hB])
            clear hA hB
            obtain ⟨k, hkk⟩ : ∃ k : Nat, q2 = ((k + 1 : Nat) : Int) := ⟨(q2).toNat - 1, by have := HOK.out.lab _ HMEM.out _ HLO.out; omega⟩
            have hkm : k < lb := by have := HOK.out.lab _ HMEM.out _ HLO.out; omega
            subst hkk
            rw [HLP.out] at CN
            have z1 := HRZ.out.cell hkm
            have z2 := HRZ.out.frozen k
            have wk : IntKind.i64.wrap (((k + 1 : Nat) : Int) - 1) = (k : Int) := by rw [show ((k + 1 : Nat) : Int) - 1 = (k : Int) by omega]; exact IntWalk.i64_in _ (by have := H20.out; have := HLB.out; omega)
            obtain ⟨hv', hhv⟩ : ∃ y, y = h k := ⟨_, rfl⟩
            have HHV := Lib.hid hhv
            simp only [← hhv] at z1
            have wv : IntKind.i64.wrap (hv' + 1) = hv' + 1 := IntWalk.i64_in _ (by rw [hhv]; have := HH.out k; have := H20.out.1; have := HN.out; have := HL.out; rw [← HL.out] at *; omega)
            have HSTEP : Hid (jmF h ⟨q0, q1, ((k + 1 : Nat) : Int)⟩ = upd h k (hv' + 1)) := Lib.hid (by simp only [jmF, HLO.out, Int.toNat_natCast, Nat.add_sub_cancel]; rw [hhv])
            have HJ2 : Hid (jmL l = (l.drop (j + 1)).foldl jmF (upd h k (hv' + 1))) := Lib.hid (by rw [HJ.out, HST.out, HSTEP.out])
            have HH2 : Hid (∀ i, 0 ≤ upd h k (hv' + 1) i ∧ upd h k (hv' + 1) i ≤ ((j + 1 : Nat) : Int)) := Lib.hid (fun i => by have := jmF_bd HH.out ⟨q0, q1, ((k + 1 : Nat) : Int)⟩ i; rw [HSTEP.out] at this; exact this)
            obtain ⟨y, hy⟩ : ∃ y : Int, y = ((k + 1 : Nat) : Int) := ⟨_, rfl⟩
            rw [← hy] at wk CN HRZ HX0 z1 z2 x2
            clear hhv hy
            go_wp2_with fail
            refine CN.out.mono ?_
            rintro e w3 ⟨rfl, rfl⟩
            go_wp2_with fail
            go_roundw
            case rel =>
              refine ⟨j + 1, upd h k (hv' + 1), by omega, by go_num, HH2, HJ2, (HRZ.out.set k _).congr (fun i hi => ?_), (hfr.alloc _).setCell (Nat.le_refl _) _⟩
              unfold upd
              by_cases hik : i = k
              · rw [if_pos hik, if_pos hik]
              · rw [if_neg hik, if_neg hik]
            case measure => simp [intOf]; omega
          · have HLO : Hid (labO ⟨q0, q1, q2⟩ = none) := Lib.hid (by simp only [labO]; rw [if_neg hA, if_neg hB])
            have HLP : Hid (labP q0 wr.heap.size = none) := Lib.hid (by unfold labP; rw [if_neg hA, if_neg hB])
            clear hA hB
            have HJ2 : Hid (jmL l = (l.drop (j + 1)).foldl jmF h) := Lib.hid (by rw [HJ.out, HST.out]; simp only [jmF, HLO.out])
            have HH2 : Hid (∀ k, 0 ≤ h k ∧ h k ≤ ((j + 1 : Nat) : Int)) := Lib.hid (fun k => by have := HH.out k; omega)
            rw [HLP.out] at CN
            go_wp2_with fail
            refine CN.out.mono ?_
            rintro e w3 ⟨rfl, rfl⟩
            go_wp2_with fail
            go_roundw
            case rel => exact ⟨j + 1, h, by omega, by go_num, HH2, HJ2, HRZ.out, hfr.alloc _⟩
            case measure => simp [intOf]; omega
      · obtain rfl : j = n := by omega
        have HF : Hid (jmL l = h) := Lib.hid (by rw [HJ.out, List.drop_eq_nil_of_le (by rw [← HN.out]; exact Nat.le_refl _)]; rfl)
        go_wp2_with fail
        go_ret2
        rw [HTN.out]
        refine ⟨⟨fun _ => ⟨w1.heap.size, rfl, HF1.out.size, HROW.out.congr (fun k _ => by rw [← HL.out, HF.out])⟩, fun hh => absurd H0.out hh⟩, HF1.out.trans hfr⟩
  · have H0 : Hid (¬ exE c = 0) := Lib.hid (by rw [← HE.out]; exact h0)
    have e1 : ((E : Int) != 0) = true := by rw [bne_iff_ne]; omega
    clear h0
    go_wp2_with fail
    go_ret2
    refine ⟨⟨fun h => absurd h H0.out, fun _ => ?_⟩, HF1.out⟩
    rw [← HE.out]; rfl
end Go.Proofs.Ytbhhjbnobcgfeaa
