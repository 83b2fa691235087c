/- The code's whole look; Check and Depths. -/
import Derived.Test.YtdnckbcknahakaaGreatFH
namespace Go.Proofs.YtdnckbcknahakaaGreat
open Go.RowKit
set_option linter.unusedVariables false
set_option linter.unusedSimpArgs false

theorem runS_snoc {σ α : Type} (f : σ → α → Option σ) (x : α) : ∀ (l : List α) (s : σ), runS f s (l ++ [x]) = match runS f s l with
    | none => none
    | some s' => f s' x
  | [], s => by
    show (match f s x with | none => none | some s' => some s') = f s x
    cases f s x <;> rfl
  | y :: r, s => by
    show (match f s y with | none => none | some s' => runS f s' (r ++ [x])) = _
    rw [show runS f s (y :: r) = (match f s y with | none => none | some s' => runS f s' r) from rfl]
    cases h : f s y with
    | none => rfl
    | some s' => exact runS_snoc f x r s'
theorem proc_last {l : List Op3} (h : procB l = true) : ∀ (j : Nat) x, l[j]? = some x → x.op = 19 → j + 1 < l.length := by
  intro j x hx hop
  have hj := (List.getElem?_eq_some_iff.1 hx).1
  by_cases hlt : j + 1 < l.length
  · exact hlt
  · exfalso
    have e : l = l.take j ++ [x] := by
      have h1 := List.take_append_drop j l
      have h2 : l.drop j = [x] := by
        obtain ⟨hk, he⟩ := List.getElem?_eq_some_iff.1 hx
        rw [List.drop_eq_getElem_cons hk, he, List.drop_eq_nil_of_le (by omega)]
      rw [h2] at h1
      exact h1.symm
    unfold procB at h
    rw [e, runS_snoc] at h
    cases hr : runS prF (0, false) (l.take j) with
    | none => rw [hr] at h; simp at h
    | some s =>
      rw [hr] at h
      simp only [prF, hop] at h
      by_cases hs : s.1 = 0
      · simp [hs] at h
      · simp [hs, goOn] at h
theorem great_mono (k : Int) : ∀ (l : List Op3) (a : Int), a ≤ l.foldl (fun n o => if o.op = k then max n o.n else n) a
  | [], a => Int.le_refl _
  | x :: r, a => by
    rw [List.foldl_cons]
    refine Int.le_trans ?_ (great_mono k r _)
    split <;> omega
theorem greatI_nn (l : List Op3) (k : Int) : 0 ≤ greatI l k := great_mono k l 0
/-- What valid instructions give. -/
structure InsOk (l : List Op3) (lb : Nat) : Prop where
  h19 : ∀ x ∈ l, x.op = 19 → 1 ≤ x.n ∧ x.n ≤ lb
  lab : ∀ x ∈ l, ∀ y, labO x = some y → 1 ≤ y ∧ y ≤ lb
  bd : ∀ x ∈ l, -2147483648 ≤ x.n ∧ x.n ≤ 2147483647 ∧ -2147483648 ≤ x.m ∧ x.m ≤ 2147483647
theorem ins_one {nd : Nat} {procs : Int} {lb : Nat} {x : Op3} (h : insB nd procs (lb : Int) x = true) : (x.op = 19 → 1 ≤ x.n ∧ x.n ≤ lb) ∧ (∀ y, labO x = some y → 1 ≤ y ∧ y ≤ (lb : Int)) ∧ (-2147483648 ≤ x.n ∧ x.n ≤ 2147483647 ∧ -2147483648 ≤ x.m ∧ x.m ≤ 2147483647) := by
  obtain ⟨op, n, m⟩ := x
  simp only [insB, beyond, Bool.and_eq_true, Bool.not_eq_true', Bool.or_eq_false_iff, decide_eq_false_iff_not] at h
  obtain ⟨⟨⟨h1, h2⟩, h3⟩, h4⟩ := h
  have key : ∀ {a b c : Int}, inI a b c = true → b ≤ a ∧ a ≤ c := fun h => by simpa [inI] using h
  refine ⟨fun e => ?_, fun y hy => ?_, by simp only; omega⟩
  · simp only at e
    subst e
    exact key (by simpa [firstB] using h3)
  · simp only [labO] at hy
    split at hy
    · rename_i e
      obtain rfl := Option.some.inj hy
      refine key ?_
      rcases e with rfl | rfl | rfl | rfl | rfl <;> simpa [firstB] using h3
    · split at hy
      · rename_i _ e
        obtain rfl := Option.some.inj hy
        subst e
        exact key (by simpa [secondB] using h4)
      · exact absurd hy (by simp)
theorem instr_ok {c : Cod} (h : instrB c = true) : ∃ lb : Nat, c.labels = (lb : Int) ∧ InsOk c.ops lb := by
  simp only [instrB, Bool.and_eq_true, decide_eq_true_eq] at h
  obtain ⟨⟨h1, h2⟩, h3⟩ := h
  have hn := greatI_nn c.ops 19
  refine ⟨c.labels.toNat, by omega, ?_⟩
  have e : c.labels = (c.labels.toNat : Int) := by omega
  rw [e] at h3
  rw [List.all_eq_true] at h3
  exact ⟨fun x hx => (ins_one (h3 x hx)).1, fun x hx => (ins_one (h3 x hx)).2.1, fun x hx => (ins_one (h3 x hx)).2.2⟩
theorem lim_ok {c : Cod} (h : limB c = true) : c.ops.length ≤ 40000 ∧ c.data.length ≤ 2000 ∧ c.procs ≤ 200 ∧ c.labels ≤ 20000 := by
  simp only [limB, Bool.and_eq_true, decide_eq_true_eq] at h
  omega
/-- What examine hands back. -/
def ExP (c : Cod) (n : Nat) (w : World) (e : Ending) (w' : World) : Prop :=
  (exE c = 0 → ∃ g : Nat, e = .returned (.tuple #[.slice (some ⟨g, 0, none⟩) n n, .int .i64 0]) ∧ w.heap.size ≤ g ∧ w'.rowIs g 3 n (fun j => .int .i64 ((depL 0 c.ops)[j]?.getD 0))) ∧ (¬ exE c = 0 → e = .returned (.tuple #[.slice none 0 0, .int .i64 (exE c : Nat)]))
theorem ExP.bad {c : Cod} {n k : Nat} {w w' : World} (h : exE c = k) (hk : ¬ k = 0) : ExP c n w (.returned (.tuple #[.slice none 0 0, .int .i64 (k : Nat)])) w' :=
  ⟨fun h0 => absurd (h.symm.trans h0) hk, fun _ => by rw [h]⟩
set_option maxRecDepth 100000 in
set_option maxHeartbeats 8000000 in
theorem examine_any (c : Cod) (dv ov gv : Value) (w : World) (hc : CodW w c dv ov gv) (hw : wfC c) (hs : c.name.size ≤ 2000000) (ht : ∀ x ∈ c.data, x.t.size ≤ 2000000) :
    Calls Tryz.prog 48 #[codV c dv ov gv] w fun e w' => ExP c c.ops.length w e w' ∧ Fr w w' := by
  obtain ⟨LM, hLM⟩ : ∃ b, b = limB c := ⟨_, rfl⟩
  obtain ⟨QQ, hQQ⟩ : ∃ b, b = qtb c.name := ⟨_, rfl⟩
  obtain ⟨AA, hAA⟩ : ∃ b, b = areasB c.data := ⟨_, rfl⟩
  obtain ⟨EE, hEE⟩ : ∃ b, b = entB c := ⟨_, rfl⟩
  obtain ⟨II, hII⟩ : ∃ b, b = instrB c := ⟨_, rfl⟩
  obtain ⟨CC, hCC⟩ : ∃ b, b = casB c.ops := ⟨_, rfl⟩
  obtain ⟨PP, hPP⟩ : ∃ b, b = procB c.ops := ⟨_, rfl⟩
  obtain ⟨LL, hLL⟩ : ∃ b, b = labB c := ⟨_, rfl⟩
  obtain ⟨DD, hDD⟩ : ∃ b, b = depB c.ops := ⟨_, rfl⟩
  obtain ⟨TT, hTT⟩ : ∃ b, b = takeB c.ops := ⟨_, rfl⟩
  have HE : Hid (exE c = if LM = false then 2 else if (QQ && AA && EE && II) = false then 60 else if (CC && PP && LL) = false then 60 else if (DD && TT) = false then 61 else 0) := Lib.hid (by unfold exE; rw [← hLM, ← hQQ, ← hAA, ← hEE, ← hII, ← hCC, ← hPP, ← hLL, ← hDD, ← hTT])
  have C1 := Lib.hid (fun W (h : Fr w W) => isLimited_any c.name gv c.procs c.labels c.data dv c.ops ov W (hc.o.fr' h) (hc.d.fr' h) hw.olen (fun x hx => hw.data x hx) hw.dlen)
  have C2 := Lib.hid (fun W => isQuotable_any c.name hs W)
  have C3 := Lib.hid (fun W (h : Fr w W) => areasFit_any c.data dv W (hc.d.fr' h) hw.dlen (fun x hx => hw.data x hx) ht)
  have C4 := Lib.hid (fun W (h : Fr w W) => entriesFit_any c.name dv ov c.procs c.labels c.gl gv W (hc.g.fr' h) hw.glen)
  have C5 : Hid (∀ W, Fr w W → Calls Tryz.prog 73 #[.agg #[.string c.name, dv, ov, gv, .int .i64 c.procs, .int .i64 c.labels]] W fun e w' => e = .returned (.bool II) ∧ Fr W w') := Lib.hid (fun W h => by
    obtain ⟨da, dc, hdv, _, _, _⟩ := hc.d.form
    rw [hdv, hII]
    exact instructionsFit_any c.name da c.data.length dc gv c.procs c.labels c.ops ov W (hc.o.fr' h) hw.olen hw.dlen)
  have C6 : Hid (II = true → ∀ W, Fr w W → Calls Tryz.prog 74 #[ov] W fun e w' => e = .returned (.bool CC) ∧ Fr W w') := Lib.hid (fun hi W h => by
    obtain ⟨lb, hlb, hok⟩ := instr_ok (hII.symm.trans hi)
    rw [hCC]
    exact casesFit_any c.ops ov W (hc.o.fr' h) hw.olen (fun x hx => ⟨(hok.bd x hx).2.2.1, (hok.bd x hx).2.2.2⟩))
  have C7 := Lib.hid (fun W (h : Fr w W) => proceduresFit_any c.ops ov W (hc.o.fr' h) hw.olen)
  have C8 : Hid (LM = true → II = true → PP = true → ∀ W, Fr w W → Calls Tryz.prog 76 #[.agg #[.string c.name, dv, ov, gv, .int .i64 c.procs, .int .i64 c.labels]] W fun e w' => e = .returned (.bool LL) ∧ Fr W w') := Lib.hid (fun hl hi hp W h => by
    obtain ⟨lb, hlb, hok⟩ := instr_ok (hII.symm.trans hi)
    have h20 := lim_ok (hLM.symm.trans hl)
    rw [hlb] at h20
    rw [hlb, show LL = endL c.ops (homeL (fun _ => 0) 0 c.ops) from by rw [hLL]; unfold labB endL; cases homeL (fun _ => 0) 0 c.ops <;> rfl]
    exact labelsFit_any c.name dv gv c.procs lb c.ops ov W (hc.o.fr' h) hw.olen (by omega) hok.h19 hok.lab (proc_last (hPP.symm.trans hp)))
  have C9 : Hid (LM = true → II = true → ∀ W, Fr w W → Calls Tryz.prog 77 #[ov] W fun e w' => DepP c.ops c.ops.length DD W e w' ∧ Fr W w') := Lib.hid (fun hl hi W h => by
    obtain ⟨lb, hlb, hok⟩ := instr_ok (hII.symm.trans hi)
    have h20 := lim_ok (hLM.symm.trans hl)
    rw [hDD]
    exact depthsOf_any c.ops ov W (hc.o.fr' h) hw.olen hok.bd h20.1)
  have C10 : Hid (LM = true → II = true → ∀ W, Fr w W → Calls Tryz.prog 78 #[.agg #[.string c.name, dv, ov, gv, .int .i64 c.procs, .int .i64 c.labels]] W fun e w' => e = .returned (.bool TT) ∧ Fr W w') := Lib.hid (fun hl hi W h => by
    obtain ⟨lb, hlb, hok⟩ := instr_ok (hII.symm.trans hi)
    have h20 := lim_ok (hLM.symm.trans hl)
    rw [hlb] at h20
    rw [hlb, hTT]
    exact takesFit_any c.name dv gv c.procs lb c.ops ov W (hc.o.fr' h) (by omega) (by omega) hok.h19 hok.lab)
  have hLM2 : LM = limB ⟨c.name, c.data, c.ops, [], c.procs, c.labels⟩ := hLM
  have hEE2 : EE = (runS (entF c.procs) (fun _ => false) c.gl).isSome := hEE
  rw [← hLM2] at C1
  rw [← hQQ] at C2
  rw [← hAA] at C3
  rw [← hEE2] at C4
  rw [← hPP] at C7
  obtain ⟨da, dc, hdv, _, _, _⟩ := hc.d.form
  obtain ⟨oa, oc, hov, _, _, _⟩ := hc.o.form
  obtain ⟨ga, gc, hgv, _, _, _⟩ := hc.g.form
  obtain ⟨ld, hld⟩ : ∃ y, y = c.data.length := ⟨_, rfl⟩
  obtain ⟨lo, hlo⟩ : ∃ y, y = c.ops.length := ⟨_, rfl⟩
  obtain ⟨lg, hlg⟩ : ∃ y, y = c.gl.length := ⟨_, rfl⟩
  rw [← hld] at hdv
  rw [← hlo] at hov C9 ⊢
  rw [← hlg] at hgv
  unfold codV
  subst hdv hov hgv
  obtain ⟨nm, hnm⟩ : ∃ y, y = c.name := ⟨_, rfl⟩
  obtain ⟨procs, hpr⟩ : ∃ y, y = c.procs := ⟨_, rfl⟩
  obtain ⟨labels, hlb⟩ : ∃ y, y = c.labels := ⟨_, rfl⟩
  rw [← hnm, ← hpr, ← hlb]
  rw [← hnm, ← hpr, ← hlb] at C1 C4 C5 C8 C10
  rw [← hnm] at C2
  obtain ⟨w0, hw0⟩ : ∃ w0, w0 = w.alloc (.cells #[.string nm, .slice da ld dc, .slice oa lo oc, .slice ga lg gc, .int .i64 procs, .int .i64 labels] 43) := ⟨_, rfl⟩
  have HF0 : Hid (Fr w w0) := Lib.hid (by rw [hw0]; exact (Fr.refl w).alloc _)
  have HCB : Hid (CdB w0 w.heap.size nm (.slice da ld dc) (.slice oa lo oc) (.slice ga lg gc) procs labels) := Lib.hid (by rw [hw0]; exact CdB.new w _ _ _ _ _ _)
  have HW0 := Lib.hid hw0
  clear hLM hQQ hAA hEE hII hCC hPP hLL hDD hTT hLM2 hEE2 hc hw hs ht hld hlo hlg hnm hpr hlb hw0
  go_enter Tryz.func48, Tryz.ntmps48
  go_wp2_with fail
  try rw [← HW0.out]
  refine (C1.out _ HF0.out).mono ?_
  rintro e w1 ⟨rfl, hf1⟩
  have HF1 : Hid (Fr w w1) := Lib.hid (HF0.out.trans hf1)
  have HC1 : Hid (CdB w1 w.heap.size nm (.slice da ld dc) (.slice oa lo oc) (.slice ga lg gc) procs labels) := Lib.hid (HCB.out.fr hf1)
  clear hf1
  try clear cb0 cb1 cb2 cb3 cb4 cb5
  obtain ⟨cb0, cb1, cb2, cb3, cb4, cb5⟩ := HC1.out
  cases LM with
  | false =>
    have HX : Hid (exE c = 2) := Lib.hid (by rw [HE.out]; simp)
    go_wp2_with fail
    go_ret2
    exact ⟨ExP.bad HX.out (by decide), HF1.out⟩
  | true =>
    go_wp2_with fail
    refine (C2.out _).mono ?_
    rintro e w2 ⟨rfl, hf2⟩
    have HF2 : Hid (Fr w w2) := Lib.hid (HF1.out.trans hf2)
    have HC2 : Hid (CdB w2 w.heap.size nm (.slice da ld dc) (.slice oa lo oc) (.slice ga lg gc) procs labels) := Lib.hid (HC1.out.fr hf2)
    clear hf2
    try clear cb0 cb1 cb2 cb3 cb4 cb5
    obtain ⟨cb0, cb1, cb2, cb3, cb4, cb5⟩ := HC2.out
    cases QQ with
    | false =>
      have HX : Hid (exE c = 60) := Lib.hid (by rw [HE.out]; simp)
      go_wp2_with fail
      go_ret2
      exact ⟨ExP.bad HX.out (by decide), HF2.out⟩
    | true =>
      go_wp2_with fail
      refine (C3.out _ HF2.out).mono ?_
      rintro e w3 ⟨rfl, hf3⟩
      have HF3 : Hid (Fr w w3) := Lib.hid (HF2.out.trans hf3)
      have HC3 : Hid (CdB w3 w.heap.size nm (.slice da ld dc) (.slice oa lo oc) (.slice ga lg gc) procs labels) := Lib.hid (HC2.out.fr hf3)
      clear hf3
      try clear cb0 cb1 cb2 cb3 cb4 cb5
      obtain ⟨cb0, cb1, cb2, cb3, cb4, cb5⟩ := HC3.out
      cases AA with
      | false =>
        have HX : Hid (exE c = 60) := Lib.hid (by rw [HE.out]; simp)
        go_wp2_with fail
        go_ret2
        exact ⟨ExP.bad HX.out (by decide), HF3.out⟩
      | true =>
        go_wp2_with fail
        refine (C4.out _ HF3.out).mono ?_
        rintro e w4 ⟨rfl, hf4⟩
        have HF4 : Hid (Fr w w4) := Lib.hid (HF3.out.trans hf4)
        have HC4 : Hid (CdB w4 w.heap.size nm (.slice da ld dc) (.slice oa lo oc) (.slice ga lg gc) procs labels) := Lib.hid (HC3.out.fr hf4)
        clear hf4
        try clear cb0 cb1 cb2 cb3 cb4 cb5
        obtain ⟨cb0, cb1, cb2, cb3, cb4, cb5⟩ := HC4.out
        cases EE with
        | false =>
          have HX : Hid (exE c = 60) := Lib.hid (by rw [HE.out]; simp)
          go_wp2_with fail
          go_ret2
          exact ⟨ExP.bad HX.out (by decide), HF4.out⟩
        | true =>
          go_wp2_with fail
          refine (C5.out _ HF4.out).mono ?_
          rintro e w5 ⟨rfl, hf5⟩
          have HF5 : Hid (Fr w w5) := Lib.hid (HF4.out.trans hf5)
          have HC5 : Hid (CdB w5 w.heap.size nm (.slice da ld dc) (.slice oa lo oc) (.slice ga lg gc) procs labels) := Lib.hid (HC4.out.fr hf5)
          clear hf5
          try clear cb0 cb1 cb2 cb3 cb4 cb5
          obtain ⟨cb0, cb1, cb2, cb3, cb4, cb5⟩ := HC5.out
          cases II with
          | false =>
            have HX : Hid (exE c = 60) := Lib.hid (by rw [HE.out]; simp)
            go_wp2_with fail
            go_ret2
            exact ⟨ExP.bad HX.out (by decide), HF5.out⟩
          | true =>
            go_wp2_with fail
            refine (C6.out (by first | rfl | trivial) _ HF5.out).mono ?_
            rintro e w6 ⟨rfl, hf6⟩
            have HF6 : Hid (Fr w w6) := Lib.hid (HF5.out.trans hf6)
            have HC6 : Hid (CdB w6 w.heap.size nm (.slice da ld dc) (.slice oa lo oc) (.slice ga lg gc) procs labels) := Lib.hid (HC5.out.fr hf6)
            clear hf6
            try clear cb0 cb1 cb2 cb3 cb4 cb5
            obtain ⟨cb0, cb1, cb2, cb3, cb4, cb5⟩ := HC6.out
            cases CC with
            | false =>
              have HX : Hid (exE c = 60) := Lib.hid (by rw [HE.out]; simp)
              go_wp2_with fail
              go_ret2
              exact ⟨ExP.bad HX.out (by decide), HF6.out⟩
            | true =>
              go_wp2_with fail
              refine (C7.out _ HF6.out).mono ?_
              rintro e w7 ⟨rfl, hf7⟩
              have HF7 : Hid (Fr w w7) := Lib.hid (HF6.out.trans hf7)
              have HC7 : Hid (CdB w7 w.heap.size nm (.slice da ld dc) (.slice oa lo oc) (.slice ga lg gc) procs labels) := Lib.hid (HC6.out.fr hf7)
              clear hf7
              try clear cb0 cb1 cb2 cb3 cb4 cb5
              obtain ⟨cb0, cb1, cb2, cb3, cb4, cb5⟩ := HC7.out
              cases PP with
              | false =>
                have HX : Hid (exE c = 60) := Lib.hid (by rw [HE.out]; simp)
                go_wp2_with fail
                go_ret2
                exact ⟨ExP.bad HX.out (by decide), HF7.out⟩
              | true =>
                go_wp2_with fail
                refine (C8.out (by first | rfl | trivial) (by first | rfl | trivial) (by first | rfl | trivial) _ HF7.out).mono ?_
                rintro e w8 ⟨rfl, hf8⟩
                have HF8 : Hid (Fr w w8) := Lib.hid (HF7.out.trans hf8)
                have HC8 : Hid (CdB w8 w.heap.size nm (.slice da ld dc) (.slice oa lo oc) (.slice ga lg gc) procs labels) := Lib.hid (HC7.out.fr hf8)
                clear hf8
                try clear cb0 cb1 cb2 cb3 cb4 cb5
                obtain ⟨cb0, cb1, cb2, cb3, cb4, cb5⟩ := HC8.out
                cases LL with
                | false =>
                  have HX : Hid (exE c = 60) := Lib.hid (by rw [HE.out]; simp)
                  go_wp2_with fail
                  go_ret2
                  exact ⟨ExP.bad HX.out (by decide), HF8.out⟩
                | true =>
                  go_wp2_with fail
                  refine (C9.out (by first | rfl | trivial) (by first | rfl | trivial) _ HF8.out).mono ?_
                  rintro e w9 ⟨hdp, hf9⟩
                  have HF9 : Hid (Fr w w9) := Lib.hid (HF8.out.trans hf9)
                  have HC9 : Hid (CdB w9 w.heap.size nm (.slice da ld dc) (.slice oa lo oc) (.slice ga lg gc) procs labels) := Lib.hid (HC8.out.fr hf9)
                  clear hf9 cb0 cb1 cb2 cb3 cb4 cb5
                  obtain ⟨cb0, cb1, cb2, cb3, cb4, cb5⟩ := HC9.out
                  cases DD with
                  | false =>
                    obtain rfl := hdp.2 rfl
                    have HX : Hid (exE c = 61) := Lib.hid (by rw [HE.out]; simp)
                    go_wp2_with fail
                    go_ret2
                    exact ⟨ExP.bad HX.out (by decide), HF9.out⟩
                  | true =>
                    obtain ⟨g, rfl, hg, hrow⟩ := hdp.1 rfl
                    have HROW := Lib.hid hrow
                    have HG : Hid (w.heap.size ≤ g) := Lib.hid (Nat.le_trans HF8.out.size hg)
                    clear hrow hg hdp
                    go_wp2_with fail
                    refine (C10.out (by first | rfl | trivial) (by first | rfl | trivial) _ HF9.out).mono ?_
                    rintro e w10 ⟨rfl, hf10⟩
                    have HF10 : Hid (Fr w w10) := Lib.hid (HF9.out.trans hf10)
                    have HR10 := Lib.hid (hf10.row HROW.out)
                    clear hf10
                    cases TT with
                    | false =>
                      have HX : Hid (exE c = 61) := Lib.hid (by rw [HE.out]; simp)
                      go_wp2_with fail
                      go_ret2
                      exact ⟨ExP.bad HX.out (by decide), HF10.out⟩
                    | true =>
                      have HX : Hid (exE c = 0) := Lib.hid (by rw [HE.out]; simp)
                      go_wp2_with fail
                      go_ret2
                      exact ⟨⟨fun _ => ⟨g, rfl, HG.out, HR10.out⟩, fun h => absurd HX.out h⟩, HF10.out⟩
set_option maxRecDepth 100000 in
theorem Check_any (c : Cod) (dv ov gv : Value) (w : World) (hc : CodW w c dv ov gv) (hw : wfC c) (hs : c.name.size ≤ 2000000) (ht : ∀ x ∈ c.data, x.t.size ≤ 2000000) :
    Calls Tryz.prog 46 #[codV c dv ov gv] w fun e w' => e = .returned (.int .i64 (exE c : Nat)) ∧ Fr w w' := by
  have CX := Lib.hid (fun W (h : Fr w W) => examine_any c dv ov gv W (hc.fr h) hw hs ht)
  obtain ⟨da, dc, hdv, _, _, _⟩ := hc.d.form
  obtain ⟨oa, oc, hov, _, _, _⟩ := hc.o.form
  obtain ⟨ga, gc, hgv, _, _, _⟩ := hc.g.form
  obtain ⟨ld, hld⟩ : ∃ y, y = c.data.length := ⟨_, rfl⟩
  obtain ⟨lo, hlo⟩ : ∃ y, y = c.ops.length := ⟨_, rfl⟩
  obtain ⟨lg, hlg⟩ : ∃ y, y = c.gl.length := ⟨_, rfl⟩
  rw [← hld] at hdv
  rw [← hlo] at hov CX
  rw [← hlg] at hgv
  subst hdv hov hgv
  unfold codV at CX ⊢
  obtain ⟨nm, hnm⟩ : ∃ y, y = c.name := ⟨_, rfl⟩
  obtain ⟨procs, hpr⟩ : ∃ y, y = c.procs := ⟨_, rfl⟩
  obtain ⟨labels, hlb⟩ : ∃ y, y = c.labels := ⟨_, rfl⟩
  rw [← hnm, ← hpr, ← hlb] at CX ⊢
  obtain ⟨E, hE⟩ : ∃ y, y = exE c := ⟨_, rfl⟩
  have HEE := Lib.hid hE
  rw [← hE]
  have HF0 : Hid (Fr w (w.alloc (.cells #[.string nm, .slice da ld dc, .slice oa lo oc, .slice ga lg gc, .int .i64 procs, .int .i64 labels] 43))) := Lib.hid ((Fr.refl w).alloc _)
  clear hc hw hs ht hld hlo hlg hnm hpr hlb hE
  go_enter Tryz.func46, Tryz.ntmps46
  go_wp2_with fail
  refine (CX.out _ HF0.out).mono ?_
  rintro e w1 ⟨hx, hf1⟩
  have HF1 : Hid (Fr w w1) := Lib.hid (HF0.out.trans hf1)
  have HX := Lib.hid hx
  clear hf1 hx
  by_cases h0 : exE c = 0
  · obtain ⟨g, rfl, _, _⟩ := HX.out.1 h0
    have HR : Hid (E = 0) := Lib.hid (HEE.out.trans h0)
    clear h0
    go_wp2_with fail
    go_ret
    rw [HR.out]
    exact ⟨rfl, HF1.out⟩
  · obtain rfl := HX.out.2 h0
    rw [← HEE.out]
    clear h0
    go_wp2_with fail
    go_ret
    exact ⟨rfl, HF1.out⟩
end Go.Proofs.YtdnckbcknahakaaGreat
