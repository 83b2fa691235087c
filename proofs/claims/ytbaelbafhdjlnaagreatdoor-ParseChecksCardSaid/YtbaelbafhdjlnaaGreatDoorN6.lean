/- Merged by program: DC DD DE. -/
import Derived.Test.YtbaelbafhdjlnaaGreatDoorM6
/- Which nodes are commands: the document. -/
namespace Go.Proofs.YtbaelbafhdjlnaaGreatDoor
open Go.RowKit
set_option linter.unusedVariables false
set_option linter.unusedSimpArgs false

theorem two_eq {n : Int} {len : Nat} (h1 : 1 ≤ n) (hn : wf64 n) (hl : len ≤ 9223372036854775807) : ((len : Int) == IntKind.i64.wrap (2 * n)) = decide ((len : Int) = 2 * n) := by
  unfold wf64 at hn
  by_cases h : 2 * n ≤ 9223372036854775807
  · rw [IntWalk.i64_in _ (by omega)]
    by_cases he : (len : Int) = 2 * n
    · rw [decide_eq_true he, beq_iff_eq]; exact he
    · rw [decide_eq_false he, beq_eq_false_iff_ne]; exact he
  · have hw : IntKind.i64.wrap (2 * n) = 2 * n - 18446744073709551616 := by
      simp only [IntKind.wrap, IntKind.signed, IntKind.bits]
      simp
      omega
    rw [hw, decide_eq_false (by omega), beq_eq_false_iff_ne]
    omega
theorem pairs_alt (n : Int) (ps : PL) (k : Pr) : pairsK n ps k = (decide (1 ≤ n) && decide ((ps.length : Int) = 2 * n) && allK (ps.take (ps.length / 2)) k && allK (ps.drop (ps.length / 2)) .expr) := by
  unfold pairsK
  by_cases h1 : 1 ≤ n
  · by_cases h2 : (ps.length : Int) = 2 * n
    · rw [decide_eq_true (show 0 < n by omega), decide_eq_true (show n = ((ps.length / 2 : Nat) : Int) by omega), decide_eq_true (show ps.length % 2 = 0 by omega), decide_eq_true h1, decide_eq_true h2]
      rfl
    · rw [decide_eq_true h1, decide_eq_false h2, decide_eq_true (show 0 < n by omega)]
      by_cases h3 : n = ((ps.length / 2 : Nat) : Int)
      · rw [decide_eq_false (show ¬ ps.length % 2 = 0 by omega)]; simp
      · rw [decide_eq_false h3]; simp
  · rw [decide_eq_false h1, decide_eq_false (show ¬ 0 < n by omega)]; simp
theorem pairs_expr (n : Int) (ps : PL) : pairsK n ps .expr = (decide (1 ≤ n) && decide ((ps.length : Int) = 2 * n) && allK ps .expr) := by
  rw [pairs_alt, Bool.and_assoc]
  congr 1
  unfold allK
  rw [← List.all_append, List.take_append_drop]
theorem call_one {w : World} {b0 : Option Addr} {len cap : Nat} {l : List Nd} (h : LN w (.slice b0 len cap) l) (hk : hasK (okL l) [.expr] = true) :
    ∃ (b off : Nat) (q : Int), b0 = some ⟨b, off, none⟩ ∧ l.length = 1 ∧ w.cell? ⟨b, off, none⟩ = some (.int .i64 q) ∧ hasK (okL l) [.call] = decide (q = 7) := by
  match l, hk, h with
  | [], hk, _ => rw [okL] at hk; simp [hasK] at hk
  | t :: u :: r, hk, _ => rw [okL, okL] at hk; simp [hasK] at hk
  | [t], hk, h =>
    obtain ⟨b, off, lv, e, hc, _⟩ := h.at_ (i := 0) (t := t) rfl
    have h0 := hc.op
    rw [Nat.zero_mul, Nat.add_zero] at h0
    refine ⟨b, off, t.op, e, rfl, h0, ?_⟩
    rw [okL, okL] at hk ⊢
    simp only [hasK, Bool.and_true] at hk ⊢
    rw [okP_eq] at hk ⊢
    show callR _ _ _ _ = _
    unfold callR
    rw [show exprR t.op t.n t.s (okL t.l) = true from hk, Bool.and_true]
theorem call_none {l : List Nd} (hk : hasK (okL l) [.expr] = false) : hasK (okL l) [.call] = false := by
  match l, hk with
  | [], hk => rw [okL]; rfl
  | t :: u :: r, hk => rw [okL, okL]; simp [hasK]
  | [t], hk =>
    rw [okL, okL] at hk ⊢
    simp only [hasK, Bool.and_true] at hk ⊢
    rw [okP_eq] at hk ⊢
    show callR _ _ _ _ = _
    unfold callR
    rw [show exprR t.op t.n t.s (okL t.l) = false from hk, Bool.and_false]
set_option maxRecDepth 100000 in
set_option maxHeartbeats 8000000 in
theorem formedCommand_of (t : Nd) (lt : Value) (w : World) (hlt : LN w lt t.l) (hs : t.s.size ≤ 2000000) (hn64 : wf64 t.n) (hq : RQ w t.l) :
    Calls Tryz.prog 251 #[ndV t lt] w fun e w' => e = .returned (.bool (cmdR t.op t.n t.s (okL t.l))) ∧ Fr w w' := by
  obtain ⟨o, n, s, l, a⟩ := t
  have hlt : LN w lt l := hlt
  have hs : s.size ≤ 2000000 := hs
  have hn64 : wf64 n := hn64
  have hq : RQ w l := hq
  show Calls _ _ #[.agg #[.int .i64 o, .int .i64 n, .string s, lt, .int .i64 a]] w fun e w' => e = .returned (.bool (cmdR o n s (okL l))) ∧ Fr w w'
  obtain ⟨b0, cap, rfl, hcap, hcm, _⟩ := hlt.form
  obtain ⟨len, hlen⟩ : ∃ x, x = l.length := ⟨_, rfl⟩
  rw [← hlen] at hlt ⊢
  obtain ⟨P, hP⟩ : ∃ x, x = okL l := ⟨_, rfl⟩
  rw [← hP]
  have CZ00 : Hid (∀ W, Fr w W → Calls Tryz.prog 252 #[.agg #[.int .i64 o, .int .i64 n, .string s, .slice b0 len cap, .int .i64 a], .bool false, .bool false] W fun e w' => e = .returned (.bool (bare n s)) ∧ Fr W w') := Lib.hid (fun W h => zero00_any ⟨o, n, s, l, a⟩ (.slice b0 len cap) W)
  have CZ10 : Hid (∀ W, Fr w W → Calls Tryz.prog 252 #[.agg #[.int .i64 o, .int .i64 n, .string s, .slice b0 len cap, .int .i64 a], .bool true, .bool false] W fun e w' => e = .returned (.bool (empS s)) ∧ Fr W w') := Lib.hid (fun W h => zero10_any ⟨o, n, s, l, a⟩ (.slice b0 len cap) W)
  have CZ01 : Hid (∀ W, Fr w W → Calls Tryz.prog 252 #[.agg #[.int .i64 o, .int .i64 n, .string s, .slice b0 len cap, .int .i64 a], .bool false, .bool true] W fun e w' => e = .returned (.bool (decide (n = 0))) ∧ Fr W w') := Lib.hid (fun W h => zero01_any ⟨o, n, s, l, a⟩ (.slice b0 len cap) W)
  have CZ11 : Hid (∀ W, Fr w W → Calls Tryz.prog 252 #[.agg #[.int .i64 o, .int .i64 n, .string s, .slice b0 len cap, .int .i64 a], .bool true, .bool true] W fun e w' => e = .returned (.bool (true)) ∧ Fr W w') := Lib.hid (fun W h => zero11_any ⟨o, n, s, l, a⟩ (.slice b0 len cap) W)
  have CIn : Hid (∀ W, Fr w W → Calls Tryz.prog 253 #[.string s] W fun e w' => e = .returned (.bool (isNm s)) ∧ Fr W w') := Lib.hid (fun W h => RisName_any s W)
  have CP : Hid (∀ W, Fr w W → ∀ ks kv, IV W kv ks → Calls Tryz.prog 254 #[.slice b0 len cap, kv] W fun e w' => e = .returned (.bool (hasK P ks)) ∧ Fr W w') := Lib.hid (fun W h ks kv hk => by rw [hP]; exact parts_any l _ W ks kv (hlt.fr h) hk (hq.fr h))
  have CA : Hid (∀ W, Fr w W → ∀ k : Pr, k.ref = true → Calls Tryz.prog 145 #[.slice b0 len cap, .int .i64 k.num] W fun e w' => e = .returned (.bool (allK P k)) ∧ Fr W w') := Lib.hid (fun W h k hk => by rw [hP]; exact all_any k hk l _ W (hlt.fr h) (hq.fr h))
  have HCM : Hid (len ≤ 9223372036854775807) := Lib.hid (by unfold maxLen at hcm; omega)
  have H31 : Hid (hasK P [.expr] = true → ∃ (b off : Nat) (q : Int), b0 = some ⟨b, off, none⟩ ∧ len = 1 ∧ w.cell? ⟨b, off, none⟩ = some (.int .i64 q) ∧ hasK P [.call] = decide (q = 7)) := Lib.hid (fun h => by
    rw [hP] at h ⊢
    rw [hlen] at hlt ⊢
    exact call_one hlt h)
  have H31b : Hid (hasK P [.expr] = false → hasK P [.call] = false) := Lib.hid (fun h => by
    rw [hP] at h ⊢
    exact call_none h)
  obtain ⟨R, hR⟩ : ∃ r, r = (cmdR o n s P) := ⟨_, rfl⟩
  rw [← hR]
  have HPL : Hid (P.length = len) := Lib.hid (by rw [hP, hlen, okL_len])
  have hn1 := Lib.hid hn64
  clear hlt hq hP hlen hcap hcm hs hn64
  have HG0 : Hid (Fr w w) := Lib.hid (Fr.refl w)
  by_cases g30 : o = 30
  · subst g30
    replace hR : R = (empS s && (decide (1 ≤ n) && decide ((P.length : Int) = 2 * n) && allK P .expr)) := by first | exact hR | (rw [hR]; first | rfl | simp [cmdR, repR, blockR, pairs_expr])
    have HB0 := Lib.hid (Nb.new w (.int .i64 30) (.int .i64 n) (.string s) (.slice b0 len cap) (.int .i64 a))
    cases hv1 : (empS s) with
    | true =>
      rw [hv1] at CZ10
      by_cases h4 : 1 ≤ n
      · have e4 : decide ((1 : Int) ≤ n) = true := decide_eq_true h4
        have e4b : decide (n ≥ (1 : Int)) = true := decide_eq_true h4
        by_cases h5 : (len : Int) = 2 * n
        · have e5 : ((len : Int) == wrap64 (2 * n)) = true := by have hx := two_eq h4 hn1.out HCM.out; rw [decide_eq_true h5, IntWalk.i64_left] at hx; exact hx
          have HR : Hid (R = (allK P .expr)) := Lib.hid (by first | exact hR | (rw [hR]; simp [HPL.out, named, someK, hasK_nil, hv1, h4, h5]))
          clear hR
          try clear h5
          go_enter Tryz.func251, Tryz.ntmps251
          go_wp2_with fail
          refine (CZ00.out _ (by repeat' first | exact Fr.refl _ | exact HG0.out | refine Fr.alloc ?_ _)).mono ?_
          rintro e w1 ⟨rfl, hf1⟩
          have HG1 : Hid (Fr w w1) := Lib.hid (Fr.trans (by repeat' first | exact Fr.refl _ | exact HG0.out | refine Fr.alloc ?_ _) hf1)
          have HB1 : Hid (Nb w1 w.heap.size (.int .i64 30) (.int .i64 n) (.string s) (.slice b0 len cap) (.int .i64 a)) := Lib.hid (Nb.fr (by first | exact HB0.out | exact Nb.al HB0.out _) hf1)
          obtain ⟨k10, k11, k12, k13, k14⟩ := HB1.out.cells
          clear hf1
          go_wp2_with fail
          refine (CZ10.out _ (by repeat' first | exact Fr.refl _ | exact HG1.out | refine Fr.alloc ?_ _)).mono ?_
          rintro e w2 ⟨rfl, hf2⟩
          have HG2 : Hid (Fr w w2) := Lib.hid (Fr.trans (by repeat' first | exact Fr.refl _ | exact HG1.out | refine Fr.alloc ?_ _) hf2)
          have HB2 : Hid (Nb w2 w.heap.size (.int .i64 30) (.int .i64 n) (.string s) (.slice b0 len cap) (.int .i64 a)) := Lib.hid (Nb.fr (by first | exact HB1.out | exact Nb.al HB1.out _) hf2)
          obtain ⟨k20, k21, k22, k23, k24⟩ := HB2.out.cells
          clear hf2
          go_wp2_with fail
          refine (CA.out _ (by repeat' first | exact Fr.refl _ | exact HG2.out | refine Fr.alloc ?_ _) .expr rfl).mono ?_
          rintro e w3 ⟨rfl, hf3⟩
          have HG3 : Hid (Fr w w3) := Lib.hid (Fr.trans (by repeat' first | exact Fr.refl _ | exact HG2.out | refine Fr.alloc ?_ _) hf3)
          have HB3 : Hid (Nb w3 w.heap.size (.int .i64 30) (.int .i64 n) (.string s) (.slice b0 len cap) (.int .i64 a)) := Lib.hid (Nb.fr (by first | exact HB2.out | exact Nb.al HB2.out _) hf3)
          obtain ⟨k30, k31, k32, k33, k34⟩ := HB3.out.cells
          clear hf3
          go_wp2_with fail
          go_ret
          rw [HR.out]
          exact ⟨rfl, (by repeat' first | exact Fr.refl _ | exact HG3.out | refine Fr.alloc ?_ _)⟩
        · have e5 : ((len : Int) == wrap64 (2 * n)) = false := by have hx := two_eq h4 hn1.out HCM.out; rw [decide_eq_false h5, IntWalk.i64_left] at hx; exact hx
          have HR : Hid (R = (false)) := Lib.hid (by first | exact hR | (rw [hR]; simp [HPL.out, named, someK, hasK_nil, hv1, h4, h5]))
          clear hR
          try clear h5
          go_enter Tryz.func251, Tryz.ntmps251
          go_wp2_with fail
          refine (CZ00.out _ (by repeat' first | exact Fr.refl _ | exact HG0.out | refine Fr.alloc ?_ _)).mono ?_
          rintro e w1 ⟨rfl, hf1⟩
          have HG1 : Hid (Fr w w1) := Lib.hid (Fr.trans (by repeat' first | exact Fr.refl _ | exact HG0.out | refine Fr.alloc ?_ _) hf1)
          have HB1 : Hid (Nb w1 w.heap.size (.int .i64 30) (.int .i64 n) (.string s) (.slice b0 len cap) (.int .i64 a)) := Lib.hid (Nb.fr (by first | exact HB0.out | exact Nb.al HB0.out _) hf1)
          obtain ⟨k10, k11, k12, k13, k14⟩ := HB1.out.cells
          clear hf1
          go_wp2_with fail
          refine (CZ10.out _ (by repeat' first | exact Fr.refl _ | exact HG1.out | refine Fr.alloc ?_ _)).mono ?_
          rintro e w2 ⟨rfl, hf2⟩
          have HG2 : Hid (Fr w w2) := Lib.hid (Fr.trans (by repeat' first | exact Fr.refl _ | exact HG1.out | refine Fr.alloc ?_ _) hf2)
          have HB2 : Hid (Nb w2 w.heap.size (.int .i64 30) (.int .i64 n) (.string s) (.slice b0 len cap) (.int .i64 a)) := Lib.hid (Nb.fr (by first | exact HB1.out | exact Nb.al HB1.out _) hf2)
          obtain ⟨k20, k21, k22, k23, k24⟩ := HB2.out.cells
          clear hf2
          go_wp2_with fail
          go_ret
          rw [HR.out]
          exact ⟨rfl, (by repeat' first | exact Fr.refl _ | exact HG2.out | refine Fr.alloc ?_ _)⟩
      · have e4 : decide ((1 : Int) ≤ n) = false := decide_eq_false h4
        have e4b : decide (n ≥ (1 : Int)) = false := decide_eq_false h4
        have HR : Hid (R = (false)) := Lib.hid (by first | exact hR | (rw [hR]; simp [HPL.out, named, someK, hasK_nil, hv1, h4]))
        clear hR
        try clear h5
        go_enter Tryz.func251, Tryz.ntmps251
        go_wp2_with fail
        refine (CZ00.out _ (by repeat' first | exact Fr.refl _ | exact HG0.out | refine Fr.alloc ?_ _)).mono ?_
        rintro e w1 ⟨rfl, hf1⟩
        have HG1 : Hid (Fr w w1) := Lib.hid (Fr.trans (by repeat' first | exact Fr.refl _ | exact HG0.out | refine Fr.alloc ?_ _) hf1)
        have HB1 : Hid (Nb w1 w.heap.size (.int .i64 30) (.int .i64 n) (.string s) (.slice b0 len cap) (.int .i64 a)) := Lib.hid (Nb.fr (by first | exact HB0.out | exact Nb.al HB0.out _) hf1)
        obtain ⟨k10, k11, k12, k13, k14⟩ := HB1.out.cells
        clear hf1
        go_wp2_with fail
        refine (CZ10.out _ (by repeat' first | exact Fr.refl _ | exact HG1.out | refine Fr.alloc ?_ _)).mono ?_
        rintro e w2 ⟨rfl, hf2⟩
        have HG2 : Hid (Fr w w2) := Lib.hid (Fr.trans (by repeat' first | exact Fr.refl _ | exact HG1.out | refine Fr.alloc ?_ _) hf2)
        have HB2 : Hid (Nb w2 w.heap.size (.int .i64 30) (.int .i64 n) (.string s) (.slice b0 len cap) (.int .i64 a)) := Lib.hid (Nb.fr (by first | exact HB1.out | exact Nb.al HB1.out _) hf2)
        obtain ⟨k20, k21, k22, k23, k24⟩ := HB2.out.cells
        clear hf2
        go_wp2_with fail
        go_ret
        rw [HR.out]
        exact ⟨rfl, (by repeat' first | exact Fr.refl _ | exact HG2.out | refine Fr.alloc ?_ _)⟩
    | false =>
      rw [hv1] at CZ10
      have HR : Hid (R = (false)) := Lib.hid (by first | exact hR | (rw [hR]; simp [HPL.out, named, someK, hasK_nil, hv1]))
      clear hR
      try clear h5
      go_enter Tryz.func251, Tryz.ntmps251
      go_wp2_with fail
      refine (CZ00.out _ (by repeat' first | exact Fr.refl _ | exact HG0.out | refine Fr.alloc ?_ _)).mono ?_
      rintro e w1 ⟨rfl, hf1⟩
      have HG1 : Hid (Fr w w1) := Lib.hid (Fr.trans (by repeat' first | exact Fr.refl _ | exact HG0.out | refine Fr.alloc ?_ _) hf1)
      have HB1 : Hid (Nb w1 w.heap.size (.int .i64 30) (.int .i64 n) (.string s) (.slice b0 len cap) (.int .i64 a)) := Lib.hid (Nb.fr (by first | exact HB0.out | exact Nb.al HB0.out _) hf1)
      obtain ⟨k10, k11, k12, k13, k14⟩ := HB1.out.cells
      clear hf1
      go_wp2_with fail
      refine (CZ10.out _ (by repeat' first | exact Fr.refl _ | exact HG1.out | refine Fr.alloc ?_ _)).mono ?_
      rintro e w2 ⟨rfl, hf2⟩
      have HG2 : Hid (Fr w w2) := Lib.hid (Fr.trans (by repeat' first | exact Fr.refl _ | exact HG1.out | refine Fr.alloc ?_ _) hf2)
      have HB2 : Hid (Nb w2 w.heap.size (.int .i64 30) (.int .i64 n) (.string s) (.slice b0 len cap) (.int .i64 a)) := Lib.hid (Nb.fr (by first | exact HB1.out | exact Nb.al HB1.out _) hf2)
      obtain ⟨k20, k21, k22, k23, k24⟩ := HB2.out.cells
      clear hf2
      go_wp2_with fail
      go_ret
      rw [HR.out]
      exact ⟨rfl, (by repeat' first | exact Fr.refl _ | exact HG2.out | refine Fr.alloc ?_ _)⟩
  have z30 : (o == 30) = false := by rw [beq_eq_false_iff_ne]; exact g30
  by_cases g31 : o = 31
  · subst g31
    replace hR : R = (bare n s && hasK P [.call]) := by first | exact hR | (rw [hR]; first | rfl | simp [cmdR, repR, blockR, pairs_expr])
    have HB0 := Lib.hid (Nb.new w (.int .i64 31) (.int .i64 n) (.string s) (.slice b0 len cap) (.int .i64 a))
    cases hv0 : bare n s with
    | true =>
      rw [hv0] at CZ00
      have CP1 := Lib.hid (fun W h kv hk => CP.out W h [.expr] kv hk)
      cases hv1 : hasK P [.expr] with
      | true =>
        rw [hv1] at CP1
        obtain ⟨b, off, q, rfl, rfl, hcell, hcall⟩ := H31.out hv1
        by_cases h7 : q = 7
        · subst h7
          have HR : Hid (R = true) := Lib.hid (by rw [hR]; simp [hv0, hcall])
          clear hR hcall
          go_enter Tryz.func251, Tryz.ntmps251
          go_wp2_with fail
          refine (CZ00.out _ (by repeat' first | exact Fr.refl _ | exact HG0.out | refine Fr.alloc ?_ _)).mono ?_
          rintro e w1 ⟨rfl, hf1⟩
          have HG1 : Hid (Fr w w1) := Lib.hid (Fr.trans (by repeat' first | exact Fr.refl _ | exact HG0.out | refine Fr.alloc ?_ _) hf1)
          have HB1 : Hid (Nb w1 w.heap.size (.int .i64 31) (.int .i64 n) (.string s) (.slice (some ⟨b, off, none⟩) 1 cap) (.int .i64 a)) := Lib.hid (Nb.fr (by first | exact HB0.out | exact Nb.al HB0.out _) hf1)
          obtain ⟨k10, k11, k12, k13, k14⟩ := HB1.out.cells
          clear hf1
          go_wp2_with fail
          refine (CP1.out _ (by repeat' first | exact Fr.refl _ | exact HG1.out | refine Fr.alloc ?_ _) _ (IV.one _ _ .expr _ (by simp) rfl)).mono ?_
          rintro e w2 ⟨rfl, hf2⟩
          have HG2 : Hid (Fr w w2) := Lib.hid (Fr.trans (by repeat' first | exact Fr.refl _ | exact HG1.out | refine Fr.alloc ?_ _) hf2)
          have HB2 : Hid (Nb w2 w.heap.size (.int .i64 31) (.int .i64 n) (.string s) (.slice (some ⟨b, off, none⟩) 1 cap) (.int .i64 a)) := Lib.hid (Nb.fr (by first | exact HB1.out | exact Nb.al HB1.out _) hf2)
          obtain ⟨k20, k21, k22, k23, k24⟩ := HB2.out.cells
          clear hf2
          have hcell2 := HG2.out.cell hcell
          go_wp2_with fail
          go_ret
          rw [HR.out]
          exact ⟨rfl, (by repeat' first | exact Fr.refl _ | exact HG2.out | refine Fr.alloc ?_ _)⟩
        · have e7 : (q == 7) = false := by rw [beq_eq_false_iff_ne]; exact h7
          have HR : Hid (R = false) := Lib.hid (by rw [hR]; simp [hv0, hcall, h7])
          clear hR hcall
          go_enter Tryz.func251, Tryz.ntmps251
          go_wp2_with fail
          refine (CZ00.out _ (by repeat' first | exact Fr.refl _ | exact HG0.out | refine Fr.alloc ?_ _)).mono ?_
          rintro e w1 ⟨rfl, hf1⟩
          have HG1 : Hid (Fr w w1) := Lib.hid (Fr.trans (by repeat' first | exact Fr.refl _ | exact HG0.out | refine Fr.alloc ?_ _) hf1)
          have HB1 : Hid (Nb w1 w.heap.size (.int .i64 31) (.int .i64 n) (.string s) (.slice (some ⟨b, off, none⟩) 1 cap) (.int .i64 a)) := Lib.hid (Nb.fr (by first | exact HB0.out | exact Nb.al HB0.out _) hf1)
          obtain ⟨k10, k11, k12, k13, k14⟩ := HB1.out.cells
          clear hf1
          go_wp2_with fail
          refine (CP1.out _ (by repeat' first | exact Fr.refl _ | exact HG1.out | refine Fr.alloc ?_ _) _ (IV.one _ _ .expr _ (by simp) rfl)).mono ?_
          rintro e w2 ⟨rfl, hf2⟩
          have HG2 : Hid (Fr w w2) := Lib.hid (Fr.trans (by repeat' first | exact Fr.refl _ | exact HG1.out | refine Fr.alloc ?_ _) hf2)
          have HB2 : Hid (Nb w2 w.heap.size (.int .i64 31) (.int .i64 n) (.string s) (.slice (some ⟨b, off, none⟩) 1 cap) (.int .i64 a)) := Lib.hid (Nb.fr (by first | exact HB1.out | exact Nb.al HB1.out _) hf2)
          obtain ⟨k20, k21, k22, k23, k24⟩ := HB2.out.cells
          clear hf2
          have hcell2 := HG2.out.cell hcell
          go_wp2_with fail
          go_ret
          rw [HR.out]
          exact ⟨rfl, (by repeat' first | exact Fr.refl _ | exact HG2.out | refine Fr.alloc ?_ _)⟩
      | false =>
        rw [hv1] at CP1
        have HR : Hid (R = false) := Lib.hid (by rw [hR]; simp [hv0, H31b.out hv1])
        clear hR
        go_enter Tryz.func251, Tryz.ntmps251
        go_wp2_with fail
        refine (CZ00.out _ (by repeat' first | exact Fr.refl _ | exact HG0.out | refine Fr.alloc ?_ _)).mono ?_
        rintro e w1 ⟨rfl, hf1⟩
        have HG1 : Hid (Fr w w1) := Lib.hid (Fr.trans (by repeat' first | exact Fr.refl _ | exact HG0.out | refine Fr.alloc ?_ _) hf1)
        have HB1 : Hid (Nb w1 w.heap.size (.int .i64 31) (.int .i64 n) (.string s) (.slice b0 len cap) (.int .i64 a)) := Lib.hid (Nb.fr (by first | exact HB0.out | exact Nb.al HB0.out _) hf1)
        obtain ⟨k10, k11, k12, k13, k14⟩ := HB1.out.cells
        clear hf1
        go_wp2_with fail
        refine (CP1.out _ (by repeat' first | exact Fr.refl _ | exact HG1.out | refine Fr.alloc ?_ _) _ (IV.one _ _ .expr _ (by simp) rfl)).mono ?_
        rintro e w2 ⟨rfl, hf2⟩
        have HG2 : Hid (Fr w w2) := Lib.hid (Fr.trans (by repeat' first | exact Fr.refl _ | exact HG1.out | refine Fr.alloc ?_ _) hf2)
        have HB2 : Hid (Nb w2 w.heap.size (.int .i64 31) (.int .i64 n) (.string s) (.slice b0 len cap) (.int .i64 a)) := Lib.hid (Nb.fr (by first | exact HB1.out | exact Nb.al HB1.out _) hf2)
        obtain ⟨k20, k21, k22, k23, k24⟩ := HB2.out.cells
        clear hf2
        go_wp2_with fail
        go_ret
        rw [HR.out]
        exact ⟨rfl, (by repeat' first | exact Fr.refl _ | exact HG2.out | refine Fr.alloc ?_ _)⟩
    | false =>
      rw [hv0] at CZ00
      have HR : Hid (R = false) := Lib.hid (by rw [hR]; simp [hv0])
      clear hR
      go_enter Tryz.func251, Tryz.ntmps251
      go_wp2_with fail
      refine (CZ00.out _ (by repeat' first | exact Fr.refl _ | exact HG0.out | refine Fr.alloc ?_ _)).mono ?_
      rintro e w1 ⟨rfl, hf1⟩
      have HG1 : Hid (Fr w w1) := Lib.hid (Fr.trans (by repeat' first | exact Fr.refl _ | exact HG0.out | refine Fr.alloc ?_ _) hf1)
      have HB1 : Hid (Nb w1 w.heap.size (.int .i64 31) (.int .i64 n) (.string s) (.slice b0 len cap) (.int .i64 a)) := Lib.hid (Nb.fr (by first | exact HB0.out | exact Nb.al HB0.out _) hf1)
      obtain ⟨k10, k11, k12, k13, k14⟩ := HB1.out.cells
      clear hf1
      go_wp2_with fail
      go_ret
      rw [HR.out]
      exact ⟨rfl, (by repeat' first | exact Fr.refl _ | exact HG1.out | refine Fr.alloc ?_ _)⟩
  have z31 : (o == 31) = false := by rw [beq_eq_false_iff_ne]; exact g31
  by_cases g32 : o = 32
  · subst g32
    replace hR : R = (bare n s && hasK P [.expr, .cmd]) := by first | exact hR | (rw [hR]; first | rfl | simp [cmdR, repR, blockR, pairs_expr])
    have HB0 := Lib.hid (Nb.new w (.int .i64 32) (.int .i64 n) (.string s) (.slice b0 len cap) (.int .i64 a))
    cases hv0 : (bare n s) with
    | true =>
      rw [hv0] at CZ00
      have HR : Hid (R = (hasK P [.expr, .cmd])) := Lib.hid (by first | exact hR | (rw [hR]; simp [HPL.out, named, someK, hasK_nil, hv0]))
      clear hR
      try clear h5
      go_enter Tryz.func251, Tryz.ntmps251
      go_wp2_with fail
      refine (CZ00.out _ (by repeat' first | exact Fr.refl _ | exact HG0.out | refine Fr.alloc ?_ _)).mono ?_
      rintro e w1 ⟨rfl, hf1⟩
      have HG1 : Hid (Fr w w1) := Lib.hid (Fr.trans (by repeat' first | exact Fr.refl _ | exact HG0.out | refine Fr.alloc ?_ _) hf1)
      have HB1 : Hid (Nb w1 w.heap.size (.int .i64 32) (.int .i64 n) (.string s) (.slice b0 len cap) (.int .i64 a)) := Lib.hid (Nb.fr (by first | exact HB0.out | exact Nb.al HB0.out _) hf1)
      obtain ⟨k10, k11, k12, k13, k14⟩ := HB1.out.cells
      clear hf1
      go_wp2_with fail
      refine (CP.out _ (by repeat' first | exact Fr.refl _ | exact HG1.out | refine Fr.alloc ?_ _) [.expr, .cmd] _ (IV.two _ _ .expr .cmd _ (by simp) rfl)).mono ?_
      rintro e w2 ⟨rfl, hf2⟩
      have HG2 : Hid (Fr w w2) := Lib.hid (Fr.trans (by repeat' first | exact Fr.refl _ | exact HG1.out | refine Fr.alloc ?_ _) hf2)
      have HB2 : Hid (Nb w2 w.heap.size (.int .i64 32) (.int .i64 n) (.string s) (.slice b0 len cap) (.int .i64 a)) := Lib.hid (Nb.fr (by first | exact HB1.out | exact Nb.al HB1.out _) hf2)
      obtain ⟨k20, k21, k22, k23, k24⟩ := HB2.out.cells
      clear hf2
      go_wp2_with fail
      go_ret
      rw [HR.out]
      exact ⟨rfl, (by repeat' first | exact Fr.refl _ | exact HG2.out | refine Fr.alloc ?_ _)⟩
    | false =>
      rw [hv0] at CZ00
      have HR : Hid (R = (false)) := Lib.hid (by first | exact hR | (rw [hR]; simp [HPL.out, named, someK, hasK_nil, hv0]))
      clear hR
      try clear h5
      go_enter Tryz.func251, Tryz.ntmps251
      go_wp2_with fail
      refine (CZ00.out _ (by repeat' first | exact Fr.refl _ | exact HG0.out | refine Fr.alloc ?_ _)).mono ?_
      rintro e w1 ⟨rfl, hf1⟩
      have HG1 : Hid (Fr w w1) := Lib.hid (Fr.trans (by repeat' first | exact Fr.refl _ | exact HG0.out | refine Fr.alloc ?_ _) hf1)
      have HB1 : Hid (Nb w1 w.heap.size (.int .i64 32) (.int .i64 n) (.string s) (.slice b0 len cap) (.int .i64 a)) := Lib.hid (Nb.fr (by first | exact HB0.out | exact Nb.al HB0.out _) hf1)
      obtain ⟨k10, k11, k12, k13, k14⟩ := HB1.out.cells
      clear hf1
      go_wp2_with fail
      go_ret
      rw [HR.out]
      exact ⟨rfl, (by repeat' first | exact Fr.refl _ | exact HG1.out | refine Fr.alloc ?_ _)⟩
  have z32 : (o == 32) = false := by rw [beq_eq_false_iff_ne]; exact g32
  by_cases g33 : o = 33
  · subst g33
    replace hR : R = (bare n s && hasK P [.expr, .cmd]) := by first | exact hR | (rw [hR]; first | rfl | simp [cmdR, repR, blockR, pairs_expr])
    have HB0 := Lib.hid (Nb.new w (.int .i64 33) (.int .i64 n) (.string s) (.slice b0 len cap) (.int .i64 a))
    cases hv0 : (bare n s) with
    | true =>
      rw [hv0] at CZ00
      have HR : Hid (R = (hasK P [.expr, .cmd])) := Lib.hid (by first | exact hR | (rw [hR]; simp [HPL.out, named, someK, hasK_nil, hv0]))
      clear hR
      try clear h5
      go_enter Tryz.func251, Tryz.ntmps251
      go_wp2_with fail
      refine (CZ00.out _ (by repeat' first | exact Fr.refl _ | exact HG0.out | refine Fr.alloc ?_ _)).mono ?_
      rintro e w1 ⟨rfl, hf1⟩
      have HG1 : Hid (Fr w w1) := Lib.hid (Fr.trans (by repeat' first | exact Fr.refl _ | exact HG0.out | refine Fr.alloc ?_ _) hf1)
      have HB1 : Hid (Nb w1 w.heap.size (.int .i64 33) (.int .i64 n) (.string s) (.slice b0 len cap) (.int .i64 a)) := Lib.hid (Nb.fr (by first | exact HB0.out | exact Nb.al HB0.out _) hf1)
      obtain ⟨k10, k11, k12, k13, k14⟩ := HB1.out.cells
      clear hf1
      go_wp2_with fail
      refine (CP.out _ (by repeat' first | exact Fr.refl _ | exact HG1.out | refine Fr.alloc ?_ _) [.expr, .cmd] _ (IV.two _ _ .expr .cmd _ (by simp) rfl)).mono ?_
      rintro e w2 ⟨rfl, hf2⟩
      have HG2 : Hid (Fr w w2) := Lib.hid (Fr.trans (by repeat' first | exact Fr.refl _ | exact HG1.out | refine Fr.alloc ?_ _) hf2)
      have HB2 : Hid (Nb w2 w.heap.size (.int .i64 33) (.int .i64 n) (.string s) (.slice b0 len cap) (.int .i64 a)) := Lib.hid (Nb.fr (by first | exact HB1.out | exact Nb.al HB1.out _) hf2)
      obtain ⟨k20, k21, k22, k23, k24⟩ := HB2.out.cells
      clear hf2
      go_wp2_with fail
      go_ret
      rw [HR.out]
      exact ⟨rfl, (by repeat' first | exact Fr.refl _ | exact HG2.out | refine Fr.alloc ?_ _)⟩
    | false =>
      rw [hv0] at CZ00
      have HR : Hid (R = (false)) := Lib.hid (by first | exact hR | (rw [hR]; simp [HPL.out, named, someK, hasK_nil, hv0]))
      clear hR
      try clear h5
      go_enter Tryz.func251, Tryz.ntmps251
      go_wp2_with fail
      refine (CZ00.out _ (by repeat' first | exact Fr.refl _ | exact HG0.out | refine Fr.alloc ?_ _)).mono ?_
      rintro e w1 ⟨rfl, hf1⟩
      have HG1 : Hid (Fr w w1) := Lib.hid (Fr.trans (by repeat' first | exact Fr.refl _ | exact HG0.out | refine Fr.alloc ?_ _) hf1)
      have HB1 : Hid (Nb w1 w.heap.size (.int .i64 33) (.int .i64 n) (.string s) (.slice b0 len cap) (.int .i64 a)) := Lib.hid (Nb.fr (by first | exact HB0.out | exact Nb.al HB0.out _) hf1)
      obtain ⟨k10, k11, k12, k13, k14⟩ := HB1.out.cells
      clear hf1
      go_wp2_with fail
      go_ret
      rw [HR.out]
      exact ⟨rfl, (by repeat' first | exact Fr.refl _ | exact HG1.out | refine Fr.alloc ?_ _)⟩
  have z33 : (o == 33) = false := by rw [beq_eq_false_iff_ne]; exact g33
  by_cases g35 : o = 35
  · subst g35
    replace hR : R = (bare n s && hasK P [.expr, .cmd]) := by first | exact hR | (rw [hR]; first | rfl | simp [cmdR, repR, blockR, pairs_expr])
    have HB0 := Lib.hid (Nb.new w (.int .i64 35) (.int .i64 n) (.string s) (.slice b0 len cap) (.int .i64 a))
    cases hv0 : (bare n s) with
    | true =>
      rw [hv0] at CZ00
      have HR : Hid (R = (hasK P [.expr, .cmd])) := Lib.hid (by first | exact hR | (rw [hR]; simp [HPL.out, named, someK, hasK_nil, hv0]))
      clear hR
      try clear h5
      go_enter Tryz.func251, Tryz.ntmps251
      go_wp2_with fail
      refine (CZ00.out _ (by repeat' first | exact Fr.refl _ | exact HG0.out | refine Fr.alloc ?_ _)).mono ?_
      rintro e w1 ⟨rfl, hf1⟩
      have HG1 : Hid (Fr w w1) := Lib.hid (Fr.trans (by repeat' first | exact Fr.refl _ | exact HG0.out | refine Fr.alloc ?_ _) hf1)
      have HB1 : Hid (Nb w1 w.heap.size (.int .i64 35) (.int .i64 n) (.string s) (.slice b0 len cap) (.int .i64 a)) := Lib.hid (Nb.fr (by first | exact HB0.out | exact Nb.al HB0.out _) hf1)
      obtain ⟨k10, k11, k12, k13, k14⟩ := HB1.out.cells
      clear hf1
      go_wp2_with fail
      refine (CP.out _ (by repeat' first | exact Fr.refl _ | exact HG1.out | refine Fr.alloc ?_ _) [.expr, .cmd] _ (IV.two _ _ .expr .cmd _ (by simp) rfl)).mono ?_
      rintro e w2 ⟨rfl, hf2⟩
      have HG2 : Hid (Fr w w2) := Lib.hid (Fr.trans (by repeat' first | exact Fr.refl _ | exact HG1.out | refine Fr.alloc ?_ _) hf2)
      have HB2 : Hid (Nb w2 w.heap.size (.int .i64 35) (.int .i64 n) (.string s) (.slice b0 len cap) (.int .i64 a)) := Lib.hid (Nb.fr (by first | exact HB1.out | exact Nb.al HB1.out _) hf2)
      obtain ⟨k20, k21, k22, k23, k24⟩ := HB2.out.cells
      clear hf2
      go_wp2_with fail
      go_ret
      rw [HR.out]
      exact ⟨rfl, (by repeat' first | exact Fr.refl _ | exact HG2.out | refine Fr.alloc ?_ _)⟩
    | false =>
      rw [hv0] at CZ00
      have HR : Hid (R = (false)) := Lib.hid (by first | exact hR | (rw [hR]; simp [HPL.out, named, someK, hasK_nil, hv0]))
      clear hR
      try clear h5
      go_enter Tryz.func251, Tryz.ntmps251
      go_wp2_with fail
      refine (CZ00.out _ (by repeat' first | exact Fr.refl _ | exact HG0.out | refine Fr.alloc ?_ _)).mono ?_
      rintro e w1 ⟨rfl, hf1⟩
      have HG1 : Hid (Fr w w1) := Lib.hid (Fr.trans (by repeat' first | exact Fr.refl _ | exact HG0.out | refine Fr.alloc ?_ _) hf1)
      have HB1 : Hid (Nb w1 w.heap.size (.int .i64 35) (.int .i64 n) (.string s) (.slice b0 len cap) (.int .i64 a)) := Lib.hid (Nb.fr (by first | exact HB0.out | exact Nb.al HB0.out _) hf1)
      obtain ⟨k10, k11, k12, k13, k14⟩ := HB1.out.cells
      clear hf1
      go_wp2_with fail
      go_ret
      rw [HR.out]
      exact ⟨rfl, (by repeat' first | exact Fr.refl _ | exact HG1.out | refine Fr.alloc ?_ _)⟩
  have z35 : (o == 35) = false := by rw [beq_eq_false_iff_ne]; exact g35
  by_cases g36 : o = 36
  · subst g36
    replace hR : R = (bare n s && hasK P [.expr, .cmd]) := by first | exact hR | (rw [hR]; first | rfl | simp [cmdR, repR, blockR, pairs_expr])
    have HB0 := Lib.hid (Nb.new w (.int .i64 36) (.int .i64 n) (.string s) (.slice b0 len cap) (.int .i64 a))
    cases hv0 : (bare n s) with
    | true =>
      rw [hv0] at CZ00
      have HR : Hid (R = (hasK P [.expr, .cmd])) := Lib.hid (by first | exact hR | (rw [hR]; simp [HPL.out, named, someK, hasK_nil, hv0]))
      clear hR
      try clear h5
      go_enter Tryz.func251, Tryz.ntmps251
      go_wp2_with fail
      refine (CZ00.out _ (by repeat' first | exact Fr.refl _ | exact HG0.out | refine Fr.alloc ?_ _)).mono ?_
      rintro e w1 ⟨rfl, hf1⟩
      have HG1 : Hid (Fr w w1) := Lib.hid (Fr.trans (by repeat' first | exact Fr.refl _ | exact HG0.out | refine Fr.alloc ?_ _) hf1)
      have HB1 : Hid (Nb w1 w.heap.size (.int .i64 36) (.int .i64 n) (.string s) (.slice b0 len cap) (.int .i64 a)) := Lib.hid (Nb.fr (by first | exact HB0.out | exact Nb.al HB0.out _) hf1)
      obtain ⟨k10, k11, k12, k13, k14⟩ := HB1.out.cells
      clear hf1
      go_wp2_with fail
      refine (CP.out _ (by repeat' first | exact Fr.refl _ | exact HG1.out | refine Fr.alloc ?_ _) [.expr, .cmd] _ (IV.two _ _ .expr .cmd _ (by simp) rfl)).mono ?_
      rintro e w2 ⟨rfl, hf2⟩
      have HG2 : Hid (Fr w w2) := Lib.hid (Fr.trans (by repeat' first | exact Fr.refl _ | exact HG1.out | refine Fr.alloc ?_ _) hf2)
      have HB2 : Hid (Nb w2 w.heap.size (.int .i64 36) (.int .i64 n) (.string s) (.slice b0 len cap) (.int .i64 a)) := Lib.hid (Nb.fr (by first | exact HB1.out | exact Nb.al HB1.out _) hf2)
      obtain ⟨k20, k21, k22, k23, k24⟩ := HB2.out.cells
      clear hf2
      go_wp2_with fail
      go_ret
      rw [HR.out]
      exact ⟨rfl, (by repeat' first | exact Fr.refl _ | exact HG2.out | refine Fr.alloc ?_ _)⟩
    | false =>
      rw [hv0] at CZ00
      have HR : Hid (R = (false)) := Lib.hid (by first | exact hR | (rw [hR]; simp [HPL.out, named, someK, hasK_nil, hv0]))
      clear hR
      try clear h5
      go_enter Tryz.func251, Tryz.ntmps251
      go_wp2_with fail
      refine (CZ00.out _ (by repeat' first | exact Fr.refl _ | exact HG0.out | refine Fr.alloc ?_ _)).mono ?_
      rintro e w1 ⟨rfl, hf1⟩
      have HG1 : Hid (Fr w w1) := Lib.hid (Fr.trans (by repeat' first | exact Fr.refl _ | exact HG0.out | refine Fr.alloc ?_ _) hf1)
      have HB1 : Hid (Nb w1 w.heap.size (.int .i64 36) (.int .i64 n) (.string s) (.slice b0 len cap) (.int .i64 a)) := Lib.hid (Nb.fr (by first | exact HB0.out | exact Nb.al HB0.out _) hf1)
      obtain ⟨k10, k11, k12, k13, k14⟩ := HB1.out.cells
      clear hf1
      go_wp2_with fail
      go_ret
      rw [HR.out]
      exact ⟨rfl, (by repeat' first | exact Fr.refl _ | exact HG1.out | refine Fr.alloc ?_ _)⟩
  have z36 : (o == 36) = false := by rw [beq_eq_false_iff_ne]; exact g36
  by_cases g42 : o = 42
  · subst g42
    replace hR : R = (bare n s && hasK P [.expr, .cmd]) := by first | exact hR | (rw [hR]; first | rfl | simp [cmdR, repR, blockR, pairs_expr])
    have HB0 := Lib.hid (Nb.new w (.int .i64 42) (.int .i64 n) (.string s) (.slice b0 len cap) (.int .i64 a))
    cases hv0 : (bare n s) with
    | true =>
      rw [hv0] at CZ00
      have HR : Hid (R = (hasK P [.expr, .cmd])) := Lib.hid (by first | exact hR | (rw [hR]; simp [HPL.out, named, someK, hasK_nil, hv0]))
      clear hR
      try clear h5
      go_enter Tryz.func251, Tryz.ntmps251
      go_wp2_with fail
      refine (CZ00.out _ (by repeat' first | exact Fr.refl _ | exact HG0.out | refine Fr.alloc ?_ _)).mono ?_
      rintro e w1 ⟨rfl, hf1⟩
      have HG1 : Hid (Fr w w1) := Lib.hid (Fr.trans (by repeat' first | exact Fr.refl _ | exact HG0.out | refine Fr.alloc ?_ _) hf1)
      have HB1 : Hid (Nb w1 w.heap.size (.int .i64 42) (.int .i64 n) (.string s) (.slice b0 len cap) (.int .i64 a)) := Lib.hid (Nb.fr (by first | exact HB0.out | exact Nb.al HB0.out _) hf1)
      obtain ⟨k10, k11, k12, k13, k14⟩ := HB1.out.cells
      clear hf1
      go_wp2_with fail
      refine (CP.out _ (by repeat' first | exact Fr.refl _ | exact HG1.out | refine Fr.alloc ?_ _) [.expr, .cmd] _ (IV.two _ _ .expr .cmd _ (by simp) rfl)).mono ?_
      rintro e w2 ⟨rfl, hf2⟩
      have HG2 : Hid (Fr w w2) := Lib.hid (Fr.trans (by repeat' first | exact Fr.refl _ | exact HG1.out | refine Fr.alloc ?_ _) hf2)
      have HB2 : Hid (Nb w2 w.heap.size (.int .i64 42) (.int .i64 n) (.string s) (.slice b0 len cap) (.int .i64 a)) := Lib.hid (Nb.fr (by first | exact HB1.out | exact Nb.al HB1.out _) hf2)
      obtain ⟨k20, k21, k22, k23, k24⟩ := HB2.out.cells
      clear hf2
      go_wp2_with fail
      go_ret
      rw [HR.out]
      exact ⟨rfl, (by repeat' first | exact Fr.refl _ | exact HG2.out | refine Fr.alloc ?_ _)⟩
    | false =>
      rw [hv0] at CZ00
      have HR : Hid (R = (false)) := Lib.hid (by first | exact hR | (rw [hR]; simp [HPL.out, named, someK, hasK_nil, hv0]))
      clear hR
      try clear h5
      go_enter Tryz.func251, Tryz.ntmps251
      go_wp2_with fail
      refine (CZ00.out _ (by repeat' first | exact Fr.refl _ | exact HG0.out | refine Fr.alloc ?_ _)).mono ?_
      rintro e w1 ⟨rfl, hf1⟩
      have HG1 : Hid (Fr w w1) := Lib.hid (Fr.trans (by repeat' first | exact Fr.refl _ | exact HG0.out | refine Fr.alloc ?_ _) hf1)
      have HB1 : Hid (Nb w1 w.heap.size (.int .i64 42) (.int .i64 n) (.string s) (.slice b0 len cap) (.int .i64 a)) := Lib.hid (Nb.fr (by first | exact HB0.out | exact Nb.al HB0.out _) hf1)
      obtain ⟨k10, k11, k12, k13, k14⟩ := HB1.out.cells
      clear hf1
      go_wp2_with fail
      go_ret
      rw [HR.out]
      exact ⟨rfl, (by repeat' first | exact Fr.refl _ | exact HG1.out | refine Fr.alloc ?_ _)⟩
  have z42 : (o == 42) = false := by rw [beq_eq_false_iff_ne]; exact g42
  by_cases g34 : o = 34
  · subst g34
    replace hR : R = (bare n s && hasK P [.expr, .cmd, .cmd]) := by first | exact hR | (rw [hR]; first | rfl | simp [cmdR, repR, blockR, pairs_expr])
    have HB0 := Lib.hid (Nb.new w (.int .i64 34) (.int .i64 n) (.string s) (.slice b0 len cap) (.int .i64 a))
    cases hv0 : (bare n s) with
    | true =>
      rw [hv0] at CZ00
      have HR : Hid (R = (hasK P [.expr, .cmd, .cmd])) := Lib.hid (by first | exact hR | (rw [hR]; simp [HPL.out, named, someK, hasK_nil, hv0]))
      clear hR
      try clear h5
      go_enter Tryz.func251, Tryz.ntmps251
      go_wp2_with fail
      refine (CZ00.out _ (by repeat' first | exact Fr.refl _ | exact HG0.out | refine Fr.alloc ?_ _)).mono ?_
      rintro e w1 ⟨rfl, hf1⟩
      have HG1 : Hid (Fr w w1) := Lib.hid (Fr.trans (by repeat' first | exact Fr.refl _ | exact HG0.out | refine Fr.alloc ?_ _) hf1)
      have HB1 : Hid (Nb w1 w.heap.size (.int .i64 34) (.int .i64 n) (.string s) (.slice b0 len cap) (.int .i64 a)) := Lib.hid (Nb.fr (by first | exact HB0.out | exact Nb.al HB0.out _) hf1)
      obtain ⟨k10, k11, k12, k13, k14⟩ := HB1.out.cells
      clear hf1
      go_wp2_with fail
      refine (CP.out _ (by repeat' first | exact Fr.refl _ | exact HG1.out | refine Fr.alloc ?_ _) [.expr, .cmd, .cmd] _ (IV.three _ _ .expr .cmd .cmd _ (by simp) rfl)).mono ?_
      rintro e w2 ⟨rfl, hf2⟩
      have HG2 : Hid (Fr w w2) := Lib.hid (Fr.trans (by repeat' first | exact Fr.refl _ | exact HG1.out | refine Fr.alloc ?_ _) hf2)
      have HB2 : Hid (Nb w2 w.heap.size (.int .i64 34) (.int .i64 n) (.string s) (.slice b0 len cap) (.int .i64 a)) := Lib.hid (Nb.fr (by first | exact HB1.out | exact Nb.al HB1.out _) hf2)
      obtain ⟨k20, k21, k22, k23, k24⟩ := HB2.out.cells
      clear hf2
      go_wp2_with fail
      go_ret
      rw [HR.out]
      exact ⟨rfl, (by repeat' first | exact Fr.refl _ | exact HG2.out | refine Fr.alloc ?_ _)⟩
    | false =>
      rw [hv0] at CZ00
      have HR : Hid (R = (false)) := Lib.hid (by first | exact hR | (rw [hR]; simp [HPL.out, named, someK, hasK_nil, hv0]))
      clear hR
      try clear h5
      go_enter Tryz.func251, Tryz.ntmps251
      go_wp2_with fail
      refine (CZ00.out _ (by repeat' first | exact Fr.refl _ | exact HG0.out | refine Fr.alloc ?_ _)).mono ?_
      rintro e w1 ⟨rfl, hf1⟩
      have HG1 : Hid (Fr w w1) := Lib.hid (Fr.trans (by repeat' first | exact Fr.refl _ | exact HG0.out | refine Fr.alloc ?_ _) hf1)
      have HB1 : Hid (Nb w1 w.heap.size (.int .i64 34) (.int .i64 n) (.string s) (.slice b0 len cap) (.int .i64 a)) := Lib.hid (Nb.fr (by first | exact HB0.out | exact Nb.al HB0.out _) hf1)
      obtain ⟨k10, k11, k12, k13, k14⟩ := HB1.out.cells
      clear hf1
      go_wp2_with fail
      go_ret
      rw [HR.out]
      exact ⟨rfl, (by repeat' first | exact Fr.refl _ | exact HG1.out | refine Fr.alloc ?_ _)⟩
  have z34 : (o == 34) = false := by rw [beq_eq_false_iff_ne]; exact g34
  by_cases g37 : o = 37
  · subst g37
    replace hR : R = (bare n s && hasK P [.rep]) := by first | exact hR | (rw [hR]; first | rfl | simp [cmdR, repR, blockR, pairs_expr])
    have HB0 := Lib.hid (Nb.new w (.int .i64 37) (.int .i64 n) (.string s) (.slice b0 len cap) (.int .i64 a))
    cases hv0 : (bare n s) with
    | true =>
      rw [hv0] at CZ00
      have HR : Hid (R = (hasK P [.rep])) := Lib.hid (by first | exact hR | (rw [hR]; simp [HPL.out, named, someK, hasK_nil, hv0]))
      clear hR
      try clear h5
      go_enter Tryz.func251, Tryz.ntmps251
      go_wp2_with fail
      refine (CZ00.out _ (by repeat' first | exact Fr.refl _ | exact HG0.out | refine Fr.alloc ?_ _)).mono ?_
      rintro e w1 ⟨rfl, hf1⟩
      have HG1 : Hid (Fr w w1) := Lib.hid (Fr.trans (by repeat' first | exact Fr.refl _ | exact HG0.out | refine Fr.alloc ?_ _) hf1)
      have HB1 : Hid (Nb w1 w.heap.size (.int .i64 37) (.int .i64 n) (.string s) (.slice b0 len cap) (.int .i64 a)) := Lib.hid (Nb.fr (by first | exact HB0.out | exact Nb.al HB0.out _) hf1)
      obtain ⟨k10, k11, k12, k13, k14⟩ := HB1.out.cells
      clear hf1
      go_wp2_with fail
      refine (CP.out _ (by repeat' first | exact Fr.refl _ | exact HG1.out | refine Fr.alloc ?_ _) [.rep] _ (IV.one _ _ .rep _ (by simp) rfl)).mono ?_
      rintro e w2 ⟨rfl, hf2⟩
      have HG2 : Hid (Fr w w2) := Lib.hid (Fr.trans (by repeat' first | exact Fr.refl _ | exact HG1.out | refine Fr.alloc ?_ _) hf2)
      have HB2 : Hid (Nb w2 w.heap.size (.int .i64 37) (.int .i64 n) (.string s) (.slice b0 len cap) (.int .i64 a)) := Lib.hid (Nb.fr (by first | exact HB1.out | exact Nb.al HB1.out _) hf2)
      obtain ⟨k20, k21, k22, k23, k24⟩ := HB2.out.cells
      clear hf2
      go_wp2_with fail
      go_ret
      rw [HR.out]
      exact ⟨rfl, (by repeat' first | exact Fr.refl _ | exact HG2.out | refine Fr.alloc ?_ _)⟩
    | false =>
      rw [hv0] at CZ00
      have HR : Hid (R = (false)) := Lib.hid (by first | exact hR | (rw [hR]; simp [HPL.out, named, someK, hasK_nil, hv0]))
      clear hR
      try clear h5
      go_enter Tryz.func251, Tryz.ntmps251
      go_wp2_with fail
      refine (CZ00.out _ (by repeat' first | exact Fr.refl _ | exact HG0.out | refine Fr.alloc ?_ _)).mono ?_
      rintro e w1 ⟨rfl, hf1⟩
      have HG1 : Hid (Fr w w1) := Lib.hid (Fr.trans (by repeat' first | exact Fr.refl _ | exact HG0.out | refine Fr.alloc ?_ _) hf1)
      have HB1 : Hid (Nb w1 w.heap.size (.int .i64 37) (.int .i64 n) (.string s) (.slice b0 len cap) (.int .i64 a)) := Lib.hid (Nb.fr (by first | exact HB0.out | exact Nb.al HB0.out _) hf1)
      obtain ⟨k10, k11, k12, k13, k14⟩ := HB1.out.cells
      clear hf1
      go_wp2_with fail
      go_ret
      rw [HR.out]
      exact ⟨rfl, (by repeat' first | exact Fr.refl _ | exact HG1.out | refine Fr.alloc ?_ _)⟩
  have z37 : (o == 37) = false := by rw [beq_eq_false_iff_ne]; exact g37
  by_cases g38 : o = 38
  · subst g38
    replace hR : R = (bare n s && hasK P [.rep, .expr]) := by first | exact hR | (rw [hR]; first | rfl | simp [cmdR, repR, blockR, pairs_expr])
    have HB0 := Lib.hid (Nb.new w (.int .i64 38) (.int .i64 n) (.string s) (.slice b0 len cap) (.int .i64 a))
    cases hv0 : (bare n s) with
    | true =>
      rw [hv0] at CZ00
      have HR : Hid (R = (hasK P [.rep, .expr])) := Lib.hid (by first | exact hR | (rw [hR]; simp [HPL.out, named, someK, hasK_nil, hv0]))
      clear hR
      try clear h5
      go_enter Tryz.func251, Tryz.ntmps251
      go_wp2_with fail
      refine (CZ00.out _ (by repeat' first | exact Fr.refl _ | exact HG0.out | refine Fr.alloc ?_ _)).mono ?_
      rintro e w1 ⟨rfl, hf1⟩
      have HG1 : Hid (Fr w w1) := Lib.hid (Fr.trans (by repeat' first | exact Fr.refl _ | exact HG0.out | refine Fr.alloc ?_ _) hf1)
      have HB1 : Hid (Nb w1 w.heap.size (.int .i64 38) (.int .i64 n) (.string s) (.slice b0 len cap) (.int .i64 a)) := Lib.hid (Nb.fr (by first | exact HB0.out | exact Nb.al HB0.out _) hf1)
      obtain ⟨k10, k11, k12, k13, k14⟩ := HB1.out.cells
      clear hf1
      go_wp2_with fail
      refine (CP.out _ (by repeat' first | exact Fr.refl _ | exact HG1.out | refine Fr.alloc ?_ _) [.rep, .expr] _ (IV.two _ _ .rep .expr _ (by simp) rfl)).mono ?_
      rintro e w2 ⟨rfl, hf2⟩
      have HG2 : Hid (Fr w w2) := Lib.hid (Fr.trans (by repeat' first | exact Fr.refl _ | exact HG1.out | refine Fr.alloc ?_ _) hf2)
      have HB2 : Hid (Nb w2 w.heap.size (.int .i64 38) (.int .i64 n) (.string s) (.slice b0 len cap) (.int .i64 a)) := Lib.hid (Nb.fr (by first | exact HB1.out | exact Nb.al HB1.out _) hf2)
      obtain ⟨k20, k21, k22, k23, k24⟩ := HB2.out.cells
      clear hf2
      go_wp2_with fail
      go_ret
      rw [HR.out]
      exact ⟨rfl, (by repeat' first | exact Fr.refl _ | exact HG2.out | refine Fr.alloc ?_ _)⟩
    | false =>
      rw [hv0] at CZ00
      have HR : Hid (R = (false)) := Lib.hid (by first | exact hR | (rw [hR]; simp [HPL.out, named, someK, hasK_nil, hv0]))
      clear hR
      try clear h5
      go_enter Tryz.func251, Tryz.ntmps251
      go_wp2_with fail
      refine (CZ00.out _ (by repeat' first | exact Fr.refl _ | exact HG0.out | refine Fr.alloc ?_ _)).mono ?_
      rintro e w1 ⟨rfl, hf1⟩
      have HG1 : Hid (Fr w w1) := Lib.hid (Fr.trans (by repeat' first | exact Fr.refl _ | exact HG0.out | refine Fr.alloc ?_ _) hf1)
      have HB1 : Hid (Nb w1 w.heap.size (.int .i64 38) (.int .i64 n) (.string s) (.slice b0 len cap) (.int .i64 a)) := Lib.hid (Nb.fr (by first | exact HB0.out | exact Nb.al HB0.out _) hf1)
      obtain ⟨k10, k11, k12, k13, k14⟩ := HB1.out.cells
      clear hf1
      go_wp2_with fail
      go_ret
      rw [HR.out]
      exact ⟨rfl, (by repeat' first | exact Fr.refl _ | exact HG1.out | refine Fr.alloc ?_ _)⟩
  have z38 : (o == 38) = false := by rw [beq_eq_false_iff_ne]; exact g38
  by_cases g39 : o = 39
  · subst g39
    replace hR : R = (bare n s && hasK P [.rep, .expr]) := by first | exact hR | (rw [hR]; first | rfl | simp [cmdR, repR, blockR, pairs_expr])
    have HB0 := Lib.hid (Nb.new w (.int .i64 39) (.int .i64 n) (.string s) (.slice b0 len cap) (.int .i64 a))
    cases hv0 : (bare n s) with
    | true =>
      rw [hv0] at CZ00
      have HR : Hid (R = (hasK P [.rep, .expr])) := Lib.hid (by first | exact hR | (rw [hR]; simp [HPL.out, named, someK, hasK_nil, hv0]))
      clear hR
      try clear h5
      go_enter Tryz.func251, Tryz.ntmps251
      go_wp2_with fail
      refine (CZ00.out _ (by repeat' first | exact Fr.refl _ | exact HG0.out | refine Fr.alloc ?_ _)).mono ?_
      rintro e w1 ⟨rfl, hf1⟩
      have HG1 : Hid (Fr w w1) := Lib.hid (Fr.trans (by repeat' first | exact Fr.refl _ | exact HG0.out | refine Fr.alloc ?_ _) hf1)
      have HB1 : Hid (Nb w1 w.heap.size (.int .i64 39) (.int .i64 n) (.string s) (.slice b0 len cap) (.int .i64 a)) := Lib.hid (Nb.fr (by first | exact HB0.out | exact Nb.al HB0.out _) hf1)
      obtain ⟨k10, k11, k12, k13, k14⟩ := HB1.out.cells
      clear hf1
      go_wp2_with fail
      refine (CP.out _ (by repeat' first | exact Fr.refl _ | exact HG1.out | refine Fr.alloc ?_ _) [.rep, .expr] _ (IV.two _ _ .rep .expr _ (by simp) rfl)).mono ?_
      rintro e w2 ⟨rfl, hf2⟩
      have HG2 : Hid (Fr w w2) := Lib.hid (Fr.trans (by repeat' first | exact Fr.refl _ | exact HG1.out | refine Fr.alloc ?_ _) hf2)
      have HB2 : Hid (Nb w2 w.heap.size (.int .i64 39) (.int .i64 n) (.string s) (.slice b0 len cap) (.int .i64 a)) := Lib.hid (Nb.fr (by first | exact HB1.out | exact Nb.al HB1.out _) hf2)
      obtain ⟨k20, k21, k22, k23, k24⟩ := HB2.out.cells
      clear hf2
      go_wp2_with fail
      go_ret
      rw [HR.out]
      exact ⟨rfl, (by repeat' first | exact Fr.refl _ | exact HG2.out | refine Fr.alloc ?_ _)⟩
    | false =>
      rw [hv0] at CZ00
      have HR : Hid (R = (false)) := Lib.hid (by first | exact hR | (rw [hR]; simp [HPL.out, named, someK, hasK_nil, hv0]))
      clear hR
      try clear h5
      go_enter Tryz.func251, Tryz.ntmps251
      go_wp2_with fail
      refine (CZ00.out _ (by repeat' first | exact Fr.refl _ | exact HG0.out | refine Fr.alloc ?_ _)).mono ?_
      rintro e w1 ⟨rfl, hf1⟩
      have HG1 : Hid (Fr w w1) := Lib.hid (Fr.trans (by repeat' first | exact Fr.refl _ | exact HG0.out | refine Fr.alloc ?_ _) hf1)
      have HB1 : Hid (Nb w1 w.heap.size (.int .i64 39) (.int .i64 n) (.string s) (.slice b0 len cap) (.int .i64 a)) := Lib.hid (Nb.fr (by first | exact HB0.out | exact Nb.al HB0.out _) hf1)
      obtain ⟨k10, k11, k12, k13, k14⟩ := HB1.out.cells
      clear hf1
      go_wp2_with fail
      go_ret
      rw [HR.out]
      exact ⟨rfl, (by repeat' first | exact Fr.refl _ | exact HG1.out | refine Fr.alloc ?_ _)⟩
  have z39 : (o == 39) = false := by rw [beq_eq_false_iff_ne]; exact g39
  by_cases g40 : o = 40
  · subst g40
    replace hR : R = (forR n s P) := by first | exact hR | (rw [hR]; first | rfl | simp [cmdR, repR, blockR, pairs_expr])
    have HB0 := Lib.hid (Nb.new w (.int .i64 40) (.int .i64 n) (.string s) (.slice b0 len cap) (.int .i64 a))
    cases hv2 : isNm s with
    | true =>
      rw [hv2] at CIn
      have CP1 := Lib.hid (fun W h kv hk => CP.out W h [.expr, .expr, .cmd] kv hk)
      have CP2 := Lib.hid (fun W h kv hk => CP.out W h [.expr, .expr, .expr, .cmd] kv hk)
      by_cases h0 : n = 0
      · subst h0
        cases hv3 : hasK P [.expr, .expr, .cmd] with
        | true =>
          rw [hv3] at CP1
          have HR : Hid (R = true) := Lib.hid (by rw [hR]; simp [forR, hv2, hv3])
          clear hR
          go_enter Tryz.func251, Tryz.ntmps251
          go_wp2_with fail
          refine (CZ00.out _ (by repeat' first | exact Fr.refl _ | exact HG0.out | refine Fr.alloc ?_ _)).mono ?_
          rintro e w1 ⟨rfl, hf1⟩
          have HG1 : Hid (Fr w w1) := Lib.hid (Fr.trans (by repeat' first | exact Fr.refl _ | exact HG0.out | refine Fr.alloc ?_ _) hf1)
          have HB1 : Hid (Nb w1 w.heap.size (.int .i64 40) (.int .i64 0) (.string s) (.slice b0 len cap) (.int .i64 a)) := Lib.hid (Nb.fr (by first | exact HB0.out | exact Nb.al HB0.out _) hf1)
          obtain ⟨k10, k11, k12, k13, k14⟩ := HB1.out.cells
          clear hf1
          go_wp2_with fail
          refine (CZ11.out _ (by repeat' first | exact Fr.refl _ | exact HG1.out | refine Fr.alloc ?_ _)).mono ?_
          rintro e w2 ⟨rfl, hf2⟩
          have HG2 : Hid (Fr w w2) := Lib.hid (Fr.trans (by repeat' first | exact Fr.refl _ | exact HG1.out | refine Fr.alloc ?_ _) hf2)
          have HB2 : Hid (Nb w2 w.heap.size (.int .i64 40) (.int .i64 0) (.string s) (.slice b0 len cap) (.int .i64 a)) := Lib.hid (Nb.fr (by first | exact HB1.out | exact Nb.al HB1.out _) hf2)
          obtain ⟨k20, k21, k22, k23, k24⟩ := HB2.out.cells
          clear hf2
          go_wp2_with fail
          refine (CIn.out _ (by repeat' first | exact Fr.refl _ | exact HG2.out | refine Fr.alloc ?_ _)).mono ?_
          rintro e w3 ⟨rfl, hf3⟩
          have HG3 : Hid (Fr w w3) := Lib.hid (Fr.trans (by repeat' first | exact Fr.refl _ | exact HG2.out | refine Fr.alloc ?_ _) hf3)
          have HB3 : Hid (Nb w3 w.heap.size (.int .i64 40) (.int .i64 0) (.string s) (.slice b0 len cap) (.int .i64 a)) := Lib.hid (Nb.fr (by first | exact HB2.out | exact Nb.al HB2.out _) hf3)
          obtain ⟨k30, k31, k32, k33, k34⟩ := HB3.out.cells
          clear hf3
          go_wp2_with fail
          refine (CP1.out _ (by repeat' first | exact Fr.refl _ | exact HG3.out | refine Fr.alloc ?_ _) _ (IV.three _ _ .expr .expr .cmd _ (by simp) rfl)).mono ?_
          rintro e w4 ⟨rfl, hf4⟩
          have HG4 : Hid (Fr w w4) := Lib.hid (Fr.trans (by repeat' first | exact Fr.refl _ | exact HG3.out | refine Fr.alloc ?_ _) hf4)
          have HB4 : Hid (Nb w4 w.heap.size (.int .i64 40) (.int .i64 0) (.string s) (.slice b0 len cap) (.int .i64 a)) := Lib.hid (Nb.fr (by first | exact HB3.out | exact Nb.al HB3.out _) hf4)
          obtain ⟨k40, k41, k42, k43, k44⟩ := HB4.out.cells
          clear hf4
          go_wp2_with fail
          go_ret
          rw [HR.out]
          exact ⟨rfl, (by repeat' first | exact Fr.refl _ | exact HG4.out | refine Fr.alloc ?_ _)⟩
        | false =>
          rw [hv3] at CP1
          have HR : Hid (R = false) := Lib.hid (by rw [hR]; simp [forR, hv2, hv3])
          clear hR
          go_enter Tryz.func251, Tryz.ntmps251
          go_wp2_with fail
          refine (CZ00.out _ (by repeat' first | exact Fr.refl _ | exact HG0.out | refine Fr.alloc ?_ _)).mono ?_
          rintro e w1 ⟨rfl, hf1⟩
          have HG1 : Hid (Fr w w1) := Lib.hid (Fr.trans (by repeat' first | exact Fr.refl _ | exact HG0.out | refine Fr.alloc ?_ _) hf1)
          have HB1 : Hid (Nb w1 w.heap.size (.int .i64 40) (.int .i64 0) (.string s) (.slice b0 len cap) (.int .i64 a)) := Lib.hid (Nb.fr (by first | exact HB0.out | exact Nb.al HB0.out _) hf1)
          obtain ⟨k10, k11, k12, k13, k14⟩ := HB1.out.cells
          clear hf1
          go_wp2_with fail
          refine (CZ11.out _ (by repeat' first | exact Fr.refl _ | exact HG1.out | refine Fr.alloc ?_ _)).mono ?_
          rintro e w2 ⟨rfl, hf2⟩
          have HG2 : Hid (Fr w w2) := Lib.hid (Fr.trans (by repeat' first | exact Fr.refl _ | exact HG1.out | refine Fr.alloc ?_ _) hf2)
          have HB2 : Hid (Nb w2 w.heap.size (.int .i64 40) (.int .i64 0) (.string s) (.slice b0 len cap) (.int .i64 a)) := Lib.hid (Nb.fr (by first | exact HB1.out | exact Nb.al HB1.out _) hf2)
          obtain ⟨k20, k21, k22, k23, k24⟩ := HB2.out.cells
          clear hf2
          go_wp2_with fail
          refine (CIn.out _ (by repeat' first | exact Fr.refl _ | exact HG2.out | refine Fr.alloc ?_ _)).mono ?_
          rintro e w3 ⟨rfl, hf3⟩
          have HG3 : Hid (Fr w w3) := Lib.hid (Fr.trans (by repeat' first | exact Fr.refl _ | exact HG2.out | refine Fr.alloc ?_ _) hf3)
          have HB3 : Hid (Nb w3 w.heap.size (.int .i64 40) (.int .i64 0) (.string s) (.slice b0 len cap) (.int .i64 a)) := Lib.hid (Nb.fr (by first | exact HB2.out | exact Nb.al HB2.out _) hf3)
          obtain ⟨k30, k31, k32, k33, k34⟩ := HB3.out.cells
          clear hf3
          go_wp2_with fail
          refine (CP1.out _ (by repeat' first | exact Fr.refl _ | exact HG3.out | refine Fr.alloc ?_ _) _ (IV.three _ _ .expr .expr .cmd _ (by simp) rfl)).mono ?_
          rintro e w4 ⟨rfl, hf4⟩
          have HG4 : Hid (Fr w w4) := Lib.hid (Fr.trans (by repeat' first | exact Fr.refl _ | exact HG3.out | refine Fr.alloc ?_ _) hf4)
          have HB4 : Hid (Nb w4 w.heap.size (.int .i64 40) (.int .i64 0) (.string s) (.slice b0 len cap) (.int .i64 a)) := Lib.hid (Nb.fr (by first | exact HB3.out | exact Nb.al HB3.out _) hf4)
          obtain ⟨k40, k41, k42, k43, k44⟩ := HB4.out.cells
          clear hf4
          go_wp2_with fail
          go_ret
          rw [HR.out]
          exact ⟨rfl, (by repeat' first | exact Fr.refl _ | exact HG4.out | refine Fr.alloc ?_ _)⟩
      · have e0 : (n == 0) = false := by rw [beq_eq_false_iff_ne]; exact h0
        by_cases h1 : n = 1
        · subst h1
          have HR : Hid (R = hasK P [.expr, .expr, .expr, .cmd]) := Lib.hid (by rw [hR]; simp [forR, hv2])
          clear hR
          go_enter Tryz.func251, Tryz.ntmps251
          go_wp2_with fail
          refine (CZ00.out _ (by repeat' first | exact Fr.refl _ | exact HG0.out | refine Fr.alloc ?_ _)).mono ?_
          rintro e w1 ⟨rfl, hf1⟩
          have HG1 : Hid (Fr w w1) := Lib.hid (Fr.trans (by repeat' first | exact Fr.refl _ | exact HG0.out | refine Fr.alloc ?_ _) hf1)
          have HB1 : Hid (Nb w1 w.heap.size (.int .i64 40) (.int .i64 1) (.string s) (.slice b0 len cap) (.int .i64 a)) := Lib.hid (Nb.fr (by first | exact HB0.out | exact Nb.al HB0.out _) hf1)
          obtain ⟨k10, k11, k12, k13, k14⟩ := HB1.out.cells
          clear hf1
          go_wp2_with fail
          refine (CZ11.out _ (by repeat' first | exact Fr.refl _ | exact HG1.out | refine Fr.alloc ?_ _)).mono ?_
          rintro e w2 ⟨rfl, hf2⟩
          have HG2 : Hid (Fr w w2) := Lib.hid (Fr.trans (by repeat' first | exact Fr.refl _ | exact HG1.out | refine Fr.alloc ?_ _) hf2)
          have HB2 : Hid (Nb w2 w.heap.size (.int .i64 40) (.int .i64 1) (.string s) (.slice b0 len cap) (.int .i64 a)) := Lib.hid (Nb.fr (by first | exact HB1.out | exact Nb.al HB1.out _) hf2)
          obtain ⟨k20, k21, k22, k23, k24⟩ := HB2.out.cells
          clear hf2
          go_wp2_with fail
          refine (CIn.out _ (by repeat' first | exact Fr.refl _ | exact HG2.out | refine Fr.alloc ?_ _)).mono ?_
          rintro e w3 ⟨rfl, hf3⟩
          have HG3 : Hid (Fr w w3) := Lib.hid (Fr.trans (by repeat' first | exact Fr.refl _ | exact HG2.out | refine Fr.alloc ?_ _) hf3)
          have HB3 : Hid (Nb w3 w.heap.size (.int .i64 40) (.int .i64 1) (.string s) (.slice b0 len cap) (.int .i64 a)) := Lib.hid (Nb.fr (by first | exact HB2.out | exact Nb.al HB2.out _) hf3)
          obtain ⟨k30, k31, k32, k33, k34⟩ := HB3.out.cells
          clear hf3
          go_wp2_with fail
          refine (CP2.out _ (by repeat' first | exact Fr.refl _ | exact HG3.out | refine Fr.alloc ?_ _) _ (IV.four _ _ .expr .expr .expr .cmd _ (by simp) rfl)).mono ?_
          rintro e w4 ⟨rfl, hf4⟩
          have HG4 : Hid (Fr w w4) := Lib.hid (Fr.trans (by repeat' first | exact Fr.refl _ | exact HG3.out | refine Fr.alloc ?_ _) hf4)
          have HB4 : Hid (Nb w4 w.heap.size (.int .i64 40) (.int .i64 1) (.string s) (.slice b0 len cap) (.int .i64 a)) := Lib.hid (Nb.fr (by first | exact HB3.out | exact Nb.al HB3.out _) hf4)
          obtain ⟨k40, k41, k42, k43, k44⟩ := HB4.out.cells
          clear hf4
          go_wp2_with fail
          go_ret
          rw [HR.out]
          exact ⟨rfl, (by repeat' first | exact Fr.refl _ | exact HG4.out | refine Fr.alloc ?_ _)⟩
        · have e1 : (n == 1) = false := by rw [beq_eq_false_iff_ne]; exact h1
          have HR : Hid (R = false) := Lib.hid (by rw [hR]; simp [forR, h0, h1])
          clear hR
          go_enter Tryz.func251, Tryz.ntmps251
          go_wp2_with fail
          refine (CZ00.out _ (by repeat' first | exact Fr.refl _ | exact HG0.out | refine Fr.alloc ?_ _)).mono ?_
          rintro e w1 ⟨rfl, hf1⟩
          have HG1 : Hid (Fr w w1) := Lib.hid (Fr.trans (by repeat' first | exact Fr.refl _ | exact HG0.out | refine Fr.alloc ?_ _) hf1)
          have HB1 : Hid (Nb w1 w.heap.size (.int .i64 40) (.int .i64 n) (.string s) (.slice b0 len cap) (.int .i64 a)) := Lib.hid (Nb.fr (by first | exact HB0.out | exact Nb.al HB0.out _) hf1)
          obtain ⟨k10, k11, k12, k13, k14⟩ := HB1.out.cells
          clear hf1
          go_wp2_with fail
          refine (CZ11.out _ (by repeat' first | exact Fr.refl _ | exact HG1.out | refine Fr.alloc ?_ _)).mono ?_
          rintro e w2 ⟨rfl, hf2⟩
          have HG2 : Hid (Fr w w2) := Lib.hid (Fr.trans (by repeat' first | exact Fr.refl _ | exact HG1.out | refine Fr.alloc ?_ _) hf2)
          have HB2 : Hid (Nb w2 w.heap.size (.int .i64 40) (.int .i64 n) (.string s) (.slice b0 len cap) (.int .i64 a)) := Lib.hid (Nb.fr (by first | exact HB1.out | exact Nb.al HB1.out _) hf2)
          obtain ⟨k20, k21, k22, k23, k24⟩ := HB2.out.cells
          clear hf2
          go_wp2_with fail
          refine (CIn.out _ (by repeat' first | exact Fr.refl _ | exact HG2.out | refine Fr.alloc ?_ _)).mono ?_
          rintro e w3 ⟨rfl, hf3⟩
          have HG3 : Hid (Fr w w3) := Lib.hid (Fr.trans (by repeat' first | exact Fr.refl _ | exact HG2.out | refine Fr.alloc ?_ _) hf3)
          have HB3 : Hid (Nb w3 w.heap.size (.int .i64 40) (.int .i64 n) (.string s) (.slice b0 len cap) (.int .i64 a)) := Lib.hid (Nb.fr (by first | exact HB2.out | exact Nb.al HB2.out _) hf3)
          obtain ⟨k30, k31, k32, k33, k34⟩ := HB3.out.cells
          clear hf3
          go_wp2_with fail
          go_ret
          rw [HR.out]
          exact ⟨rfl, (by repeat' first | exact Fr.refl _ | exact HG3.out | refine Fr.alloc ?_ _)⟩
    | false =>
      rw [hv2] at CIn
      have HR : Hid (R = false) := Lib.hid (by rw [hR]; simp [forR, hv2])
      clear hR
      go_enter Tryz.func251, Tryz.ntmps251
      go_wp2_with fail
      refine (CZ00.out _ (by repeat' first | exact Fr.refl _ | exact HG0.out | refine Fr.alloc ?_ _)).mono ?_
      rintro e w1 ⟨rfl, hf1⟩
      have HG1 : Hid (Fr w w1) := Lib.hid (Fr.trans (by repeat' first | exact Fr.refl _ | exact HG0.out | refine Fr.alloc ?_ _) hf1)
      have HB1 : Hid (Nb w1 w.heap.size (.int .i64 40) (.int .i64 n) (.string s) (.slice b0 len cap) (.int .i64 a)) := Lib.hid (Nb.fr (by first | exact HB0.out | exact Nb.al HB0.out _) hf1)
      obtain ⟨k10, k11, k12, k13, k14⟩ := HB1.out.cells
      clear hf1
      go_wp2_with fail
      refine (CZ11.out _ (by repeat' first | exact Fr.refl _ | exact HG1.out | refine Fr.alloc ?_ _)).mono ?_
      rintro e w2 ⟨rfl, hf2⟩
      have HG2 : Hid (Fr w w2) := Lib.hid (Fr.trans (by repeat' first | exact Fr.refl _ | exact HG1.out | refine Fr.alloc ?_ _) hf2)
      have HB2 : Hid (Nb w2 w.heap.size (.int .i64 40) (.int .i64 n) (.string s) (.slice b0 len cap) (.int .i64 a)) := Lib.hid (Nb.fr (by first | exact HB1.out | exact Nb.al HB1.out _) hf2)
      obtain ⟨k20, k21, k22, k23, k24⟩ := HB2.out.cells
      clear hf2
      go_wp2_with fail
      refine (CIn.out _ (by repeat' first | exact Fr.refl _ | exact HG2.out | refine Fr.alloc ?_ _)).mono ?_
      rintro e w3 ⟨rfl, hf3⟩
      have HG3 : Hid (Fr w w3) := Lib.hid (Fr.trans (by repeat' first | exact Fr.refl _ | exact HG2.out | refine Fr.alloc ?_ _) hf3)
      have HB3 : Hid (Nb w3 w.heap.size (.int .i64 40) (.int .i64 n) (.string s) (.slice b0 len cap) (.int .i64 a)) := Lib.hid (Nb.fr (by first | exact HB2.out | exact Nb.al HB2.out _) hf3)
      obtain ⟨k30, k31, k32, k33, k34⟩ := HB3.out.cells
      clear hf3
      go_wp2_with fail
      go_ret
      rw [HR.out]
      exact ⟨rfl, (by repeat' first | exact Fr.refl _ | exact HG3.out | refine Fr.alloc ?_ _)⟩
  have z40 : (o == 40) = false := by rw [beq_eq_false_iff_ne]; exact g40
  by_cases g41 : o = 41
  · subst g41
    replace hR : R = (bare n s && hasK P [.expr, .block]) := by first | exact hR | (rw [hR]; first | rfl | simp [cmdR, repR, blockR, pairs_expr])
    have HB0 := Lib.hid (Nb.new w (.int .i64 41) (.int .i64 n) (.string s) (.slice b0 len cap) (.int .i64 a))
    cases hv0 : (bare n s) with
    | true =>
      rw [hv0] at CZ00
      have HR : Hid (R = (hasK P [.expr, .block])) := Lib.hid (by first | exact hR | (rw [hR]; simp [HPL.out, named, someK, hasK_nil, hv0]))
      clear hR
      try clear h5
      go_enter Tryz.func251, Tryz.ntmps251
      go_wp2_with fail
      refine (CZ00.out _ (by repeat' first | exact Fr.refl _ | exact HG0.out | refine Fr.alloc ?_ _)).mono ?_
      rintro e w1 ⟨rfl, hf1⟩
      have HG1 : Hid (Fr w w1) := Lib.hid (Fr.trans (by repeat' first | exact Fr.refl _ | exact HG0.out | refine Fr.alloc ?_ _) hf1)
      have HB1 : Hid (Nb w1 w.heap.size (.int .i64 41) (.int .i64 n) (.string s) (.slice b0 len cap) (.int .i64 a)) := Lib.hid (Nb.fr (by first | exact HB0.out | exact Nb.al HB0.out _) hf1)
      obtain ⟨k10, k11, k12, k13, k14⟩ := HB1.out.cells
      clear hf1
      go_wp2_with fail
      refine (CP.out _ (by repeat' first | exact Fr.refl _ | exact HG1.out | refine Fr.alloc ?_ _) [.expr, .block] _ (IV.two _ _ .expr .block _ (by simp) rfl)).mono ?_
      rintro e w2 ⟨rfl, hf2⟩
      have HG2 : Hid (Fr w w2) := Lib.hid (Fr.trans (by repeat' first | exact Fr.refl _ | exact HG1.out | refine Fr.alloc ?_ _) hf2)
      have HB2 : Hid (Nb w2 w.heap.size (.int .i64 41) (.int .i64 n) (.string s) (.slice b0 len cap) (.int .i64 a)) := Lib.hid (Nb.fr (by first | exact HB1.out | exact Nb.al HB1.out _) hf2)
      obtain ⟨k20, k21, k22, k23, k24⟩ := HB2.out.cells
      clear hf2
      go_wp2_with fail
      go_ret
      rw [HR.out]
      exact ⟨rfl, (by repeat' first | exact Fr.refl _ | exact HG2.out | refine Fr.alloc ?_ _)⟩
    | false =>
      rw [hv0] at CZ00
      have HR : Hid (R = (false)) := Lib.hid (by first | exact hR | (rw [hR]; simp [HPL.out, named, someK, hasK_nil, hv0]))
      clear hR
      try clear h5
      go_enter Tryz.func251, Tryz.ntmps251
      go_wp2_with fail
      refine (CZ00.out _ (by repeat' first | exact Fr.refl _ | exact HG0.out | refine Fr.alloc ?_ _)).mono ?_
      rintro e w1 ⟨rfl, hf1⟩
      have HG1 : Hid (Fr w w1) := Lib.hid (Fr.trans (by repeat' first | exact Fr.refl _ | exact HG0.out | refine Fr.alloc ?_ _) hf1)
      have HB1 : Hid (Nb w1 w.heap.size (.int .i64 41) (.int .i64 n) (.string s) (.slice b0 len cap) (.int .i64 a)) := Lib.hid (Nb.fr (by first | exact HB0.out | exact Nb.al HB0.out _) hf1)
      obtain ⟨k10, k11, k12, k13, k14⟩ := HB1.out.cells
      clear hf1
      go_wp2_with fail
      go_ret
      rw [HR.out]
      exact ⟨rfl, (by repeat' first | exact Fr.refl _ | exact HG1.out | refine Fr.alloc ?_ _)⟩
  have z41 : (o == 41) = false := by rw [beq_eq_false_iff_ne]; exact g41
  by_cases g43 : o = 43
  · subst g43
    replace hR : R = (bare n s && hasK P [.cmd]) := by first | exact hR | (rw [hR]; first | rfl | simp [cmdR, repR, blockR, pairs_expr])
    have HB0 := Lib.hid (Nb.new w (.int .i64 43) (.int .i64 n) (.string s) (.slice b0 len cap) (.int .i64 a))
    cases hv0 : (bare n s) with
    | true =>
      rw [hv0] at CZ00
      have HR : Hid (R = (hasK P [.cmd])) := Lib.hid (by first | exact hR | (rw [hR]; simp [HPL.out, named, someK, hasK_nil, hv0]))
      clear hR
      try clear h5
      go_enter Tryz.func251, Tryz.ntmps251
      go_wp2_with fail
      refine (CZ00.out _ (by repeat' first | exact Fr.refl _ | exact HG0.out | refine Fr.alloc ?_ _)).mono ?_
      rintro e w1 ⟨rfl, hf1⟩
      have HG1 : Hid (Fr w w1) := Lib.hid (Fr.trans (by repeat' first | exact Fr.refl _ | exact HG0.out | refine Fr.alloc ?_ _) hf1)
      have HB1 : Hid (Nb w1 w.heap.size (.int .i64 43) (.int .i64 n) (.string s) (.slice b0 len cap) (.int .i64 a)) := Lib.hid (Nb.fr (by first | exact HB0.out | exact Nb.al HB0.out _) hf1)
      obtain ⟨k10, k11, k12, k13, k14⟩ := HB1.out.cells
      clear hf1
      go_wp2_with fail
      refine (CP.out _ (by repeat' first | exact Fr.refl _ | exact HG1.out | refine Fr.alloc ?_ _) [.cmd] _ (IV.one _ _ .cmd _ (by simp) rfl)).mono ?_
      rintro e w2 ⟨rfl, hf2⟩
      have HG2 : Hid (Fr w w2) := Lib.hid (Fr.trans (by repeat' first | exact Fr.refl _ | exact HG1.out | refine Fr.alloc ?_ _) hf2)
      have HB2 : Hid (Nb w2 w.heap.size (.int .i64 43) (.int .i64 n) (.string s) (.slice b0 len cap) (.int .i64 a)) := Lib.hid (Nb.fr (by first | exact HB1.out | exact Nb.al HB1.out _) hf2)
      obtain ⟨k20, k21, k22, k23, k24⟩ := HB2.out.cells
      clear hf2
      go_wp2_with fail
      go_ret
      rw [HR.out]
      exact ⟨rfl, (by repeat' first | exact Fr.refl _ | exact HG2.out | refine Fr.alloc ?_ _)⟩
    | false =>
      rw [hv0] at CZ00
      have HR : Hid (R = (false)) := Lib.hid (by first | exact hR | (rw [hR]; simp [HPL.out, named, someK, hasK_nil, hv0]))
      clear hR
      try clear h5
      go_enter Tryz.func251, Tryz.ntmps251
      go_wp2_with fail
      refine (CZ00.out _ (by repeat' first | exact Fr.refl _ | exact HG0.out | refine Fr.alloc ?_ _)).mono ?_
      rintro e w1 ⟨rfl, hf1⟩
      have HG1 : Hid (Fr w w1) := Lib.hid (Fr.trans (by repeat' first | exact Fr.refl _ | exact HG0.out | refine Fr.alloc ?_ _) hf1)
      have HB1 : Hid (Nb w1 w.heap.size (.int .i64 43) (.int .i64 n) (.string s) (.slice b0 len cap) (.int .i64 a)) := Lib.hid (Nb.fr (by first | exact HB0.out | exact Nb.al HB0.out _) hf1)
      obtain ⟨k10, k11, k12, k13, k14⟩ := HB1.out.cells
      clear hf1
      go_wp2_with fail
      go_ret
      rw [HR.out]
      exact ⟨rfl, (by repeat' first | exact Fr.refl _ | exact HG1.out | refine Fr.alloc ?_ _)⟩
  have z43 : (o == 43) = false := by rw [beq_eq_false_iff_ne]; exact g43
  by_cases g44 : o = 44
  · subst g44
    replace hR : R = (bare n s && hasK P []) := by first | exact hR | (rw [hR]; first | rfl | simp [cmdR, repR, blockR, pairs_expr])
    have HB0 := Lib.hid (Nb.new w (.int .i64 44) (.int .i64 n) (.string s) (.slice b0 len cap) (.int .i64 a))
    cases hv0 : (bare n s) with
    | true =>
      rw [hv0] at CZ00
      by_cases hl0 : len = 0
      · subst hl0
        skip
        have HR : Hid (R = (true)) := Lib.hid (by first | exact hR | (rw [hR]; simp [HPL.out, named, someK, hasK_nil, hv0]))
        clear hR
        try clear h5
        go_enter Tryz.func251, Tryz.ntmps251
        go_wp2_with fail
        refine (CZ00.out _ (by repeat' first | exact Fr.refl _ | exact HG0.out | refine Fr.alloc ?_ _)).mono ?_
        rintro e w1 ⟨rfl, hf1⟩
        have HG1 : Hid (Fr w w1) := Lib.hid (Fr.trans (by repeat' first | exact Fr.refl _ | exact HG0.out | refine Fr.alloc ?_ _) hf1)
        have HB1 : Hid (Nb w1 w.heap.size (.int .i64 44) (.int .i64 n) (.string s) (.slice b0 0 cap) (.int .i64 a)) := Lib.hid (Nb.fr (by first | exact HB0.out | exact Nb.al HB0.out _) hf1)
        obtain ⟨k10, k11, k12, k13, k14⟩ := HB1.out.cells
        clear hf1
        go_wp2_with fail
        go_ret
        rw [HR.out]
        exact ⟨rfl, (by repeat' first | exact Fr.refl _ | exact HG1.out | refine Fr.alloc ?_ _)⟩
      · have el0 : ((len : Int) == 0) = false := by rw [beq_eq_false_iff_ne]; omega
        have HR : Hid (R = (false)) := Lib.hid (by first | exact hR | (rw [hR]; simp [HPL.out, named, someK, hasK_nil, hv0, hl0]))
        clear hR
        try clear h5
        go_enter Tryz.func251, Tryz.ntmps251
        go_wp2_with fail
        refine (CZ00.out _ (by repeat' first | exact Fr.refl _ | exact HG0.out | refine Fr.alloc ?_ _)).mono ?_
        rintro e w1 ⟨rfl, hf1⟩
        have HG1 : Hid (Fr w w1) := Lib.hid (Fr.trans (by repeat' first | exact Fr.refl _ | exact HG0.out | refine Fr.alloc ?_ _) hf1)
        have HB1 : Hid (Nb w1 w.heap.size (.int .i64 44) (.int .i64 n) (.string s) (.slice b0 len cap) (.int .i64 a)) := Lib.hid (Nb.fr (by first | exact HB0.out | exact Nb.al HB0.out _) hf1)
        obtain ⟨k10, k11, k12, k13, k14⟩ := HB1.out.cells
        clear hf1
        go_wp2_with fail
        go_ret
        rw [HR.out]
        exact ⟨rfl, (by repeat' first | exact Fr.refl _ | exact HG1.out | refine Fr.alloc ?_ _)⟩
    | false =>
      rw [hv0] at CZ00
      have HR : Hid (R = (false)) := Lib.hid (by first | exact hR | (rw [hR]; simp [HPL.out, named, someK, hasK_nil, hv0]))
      clear hR
      try clear h5
      go_enter Tryz.func251, Tryz.ntmps251
      go_wp2_with fail
      refine (CZ00.out _ (by repeat' first | exact Fr.refl _ | exact HG0.out | refine Fr.alloc ?_ _)).mono ?_
      rintro e w1 ⟨rfl, hf1⟩
      have HG1 : Hid (Fr w w1) := Lib.hid (Fr.trans (by repeat' first | exact Fr.refl _ | exact HG0.out | refine Fr.alloc ?_ _) hf1)
      have HB1 : Hid (Nb w1 w.heap.size (.int .i64 44) (.int .i64 n) (.string s) (.slice b0 len cap) (.int .i64 a)) := Lib.hid (Nb.fr (by first | exact HB0.out | exact Nb.al HB0.out _) hf1)
      obtain ⟨k10, k11, k12, k13, k14⟩ := HB1.out.cells
      clear hf1
      go_wp2_with fail
      go_ret
      rw [HR.out]
      exact ⟨rfl, (by repeat' first | exact Fr.refl _ | exact HG1.out | refine Fr.alloc ?_ _)⟩
  have z44 : (o == 44) = false := by rw [beq_eq_false_iff_ne]; exact g44
  by_cases g45 : o = 45
  · subst g45
    replace hR : R = (bare n s && hasK P []) := by first | exact hR | (rw [hR]; first | rfl | simp [cmdR, repR, blockR, pairs_expr])
    have HB0 := Lib.hid (Nb.new w (.int .i64 45) (.int .i64 n) (.string s) (.slice b0 len cap) (.int .i64 a))
    cases hv0 : (bare n s) with
    | true =>
      rw [hv0] at CZ00
      by_cases hl0 : len = 0
      · subst hl0
        skip
        have HR : Hid (R = (true)) := Lib.hid (by first | exact hR | (rw [hR]; simp [HPL.out, named, someK, hasK_nil, hv0]))
        clear hR
        try clear h5
        go_enter Tryz.func251, Tryz.ntmps251
        go_wp2_with fail
        refine (CZ00.out _ (by repeat' first | exact Fr.refl _ | exact HG0.out | refine Fr.alloc ?_ _)).mono ?_
        rintro e w1 ⟨rfl, hf1⟩
        have HG1 : Hid (Fr w w1) := Lib.hid (Fr.trans (by repeat' first | exact Fr.refl _ | exact HG0.out | refine Fr.alloc ?_ _) hf1)
        have HB1 : Hid (Nb w1 w.heap.size (.int .i64 45) (.int .i64 n) (.string s) (.slice b0 0 cap) (.int .i64 a)) := Lib.hid (Nb.fr (by first | exact HB0.out | exact Nb.al HB0.out _) hf1)
        obtain ⟨k10, k11, k12, k13, k14⟩ := HB1.out.cells
        clear hf1
        go_wp2_with fail
        go_ret
        rw [HR.out]
        exact ⟨rfl, (by repeat' first | exact Fr.refl _ | exact HG1.out | refine Fr.alloc ?_ _)⟩
      · have el0 : ((len : Int) == 0) = false := by rw [beq_eq_false_iff_ne]; omega
        have HR : Hid (R = (false)) := Lib.hid (by first | exact hR | (rw [hR]; simp [HPL.out, named, someK, hasK_nil, hv0, hl0]))
        clear hR
        try clear h5
        go_enter Tryz.func251, Tryz.ntmps251
        go_wp2_with fail
        refine (CZ00.out _ (by repeat' first | exact Fr.refl _ | exact HG0.out | refine Fr.alloc ?_ _)).mono ?_
        rintro e w1 ⟨rfl, hf1⟩
        have HG1 : Hid (Fr w w1) := Lib.hid (Fr.trans (by repeat' first | exact Fr.refl _ | exact HG0.out | refine Fr.alloc ?_ _) hf1)
        have HB1 : Hid (Nb w1 w.heap.size (.int .i64 45) (.int .i64 n) (.string s) (.slice b0 len cap) (.int .i64 a)) := Lib.hid (Nb.fr (by first | exact HB0.out | exact Nb.al HB0.out _) hf1)
        obtain ⟨k10, k11, k12, k13, k14⟩ := HB1.out.cells
        clear hf1
        go_wp2_with fail
        go_ret
        rw [HR.out]
        exact ⟨rfl, (by repeat' first | exact Fr.refl _ | exact HG1.out | refine Fr.alloc ?_ _)⟩
    | false =>
      rw [hv0] at CZ00
      have HR : Hid (R = (false)) := Lib.hid (by first | exact hR | (rw [hR]; simp [HPL.out, named, someK, hasK_nil, hv0]))
      clear hR
      try clear h5
      go_enter Tryz.func251, Tryz.ntmps251
      go_wp2_with fail
      refine (CZ00.out _ (by repeat' first | exact Fr.refl _ | exact HG0.out | refine Fr.alloc ?_ _)).mono ?_
      rintro e w1 ⟨rfl, hf1⟩
      have HG1 : Hid (Fr w w1) := Lib.hid (Fr.trans (by repeat' first | exact Fr.refl _ | exact HG0.out | refine Fr.alloc ?_ _) hf1)
      have HB1 : Hid (Nb w1 w.heap.size (.int .i64 45) (.int .i64 n) (.string s) (.slice b0 len cap) (.int .i64 a)) := Lib.hid (Nb.fr (by first | exact HB0.out | exact Nb.al HB0.out _) hf1)
      obtain ⟨k10, k11, k12, k13, k14⟩ := HB1.out.cells
      clear hf1
      go_wp2_with fail
      go_ret
      rw [HR.out]
      exact ⟨rfl, (by repeat' first | exact Fr.refl _ | exact HG1.out | refine Fr.alloc ?_ _)⟩
  have z45 : (o == 45) = false := by rw [beq_eq_false_iff_ne]; exact g45
  by_cases g46 : o = 46
  · subst g46
    replace hR : R = (bare n s && hasK P []) := by first | exact hR | (rw [hR]; first | rfl | simp [cmdR, repR, blockR, pairs_expr])
    have HB0 := Lib.hid (Nb.new w (.int .i64 46) (.int .i64 n) (.string s) (.slice b0 len cap) (.int .i64 a))
    cases hv0 : (bare n s) with
    | true =>
      rw [hv0] at CZ00
      by_cases hl0 : len = 0
      · subst hl0
        skip
        have HR : Hid (R = (true)) := Lib.hid (by first | exact hR | (rw [hR]; simp [HPL.out, named, someK, hasK_nil, hv0]))
        clear hR
        try clear h5
        go_enter Tryz.func251, Tryz.ntmps251
        go_wp2_with fail
        refine (CZ00.out _ (by repeat' first | exact Fr.refl _ | exact HG0.out | refine Fr.alloc ?_ _)).mono ?_
        rintro e w1 ⟨rfl, hf1⟩
        have HG1 : Hid (Fr w w1) := Lib.hid (Fr.trans (by repeat' first | exact Fr.refl _ | exact HG0.out | refine Fr.alloc ?_ _) hf1)
        have HB1 : Hid (Nb w1 w.heap.size (.int .i64 46) (.int .i64 n) (.string s) (.slice b0 0 cap) (.int .i64 a)) := Lib.hid (Nb.fr (by first | exact HB0.out | exact Nb.al HB0.out _) hf1)
        obtain ⟨k10, k11, k12, k13, k14⟩ := HB1.out.cells
        clear hf1
        go_wp2_with fail
        go_ret
        rw [HR.out]
        exact ⟨rfl, (by repeat' first | exact Fr.refl _ | exact HG1.out | refine Fr.alloc ?_ _)⟩
      · have el0 : ((len : Int) == 0) = false := by rw [beq_eq_false_iff_ne]; omega
        have HR : Hid (R = (false)) := Lib.hid (by first | exact hR | (rw [hR]; simp [HPL.out, named, someK, hasK_nil, hv0, hl0]))
        clear hR
        try clear h5
        go_enter Tryz.func251, Tryz.ntmps251
        go_wp2_with fail
        refine (CZ00.out _ (by repeat' first | exact Fr.refl _ | exact HG0.out | refine Fr.alloc ?_ _)).mono ?_
        rintro e w1 ⟨rfl, hf1⟩
        have HG1 : Hid (Fr w w1) := Lib.hid (Fr.trans (by repeat' first | exact Fr.refl _ | exact HG0.out | refine Fr.alloc ?_ _) hf1)
        have HB1 : Hid (Nb w1 w.heap.size (.int .i64 46) (.int .i64 n) (.string s) (.slice b0 len cap) (.int .i64 a)) := Lib.hid (Nb.fr (by first | exact HB0.out | exact Nb.al HB0.out _) hf1)
        obtain ⟨k10, k11, k12, k13, k14⟩ := HB1.out.cells
        clear hf1
        go_wp2_with fail
        go_ret
        rw [HR.out]
        exact ⟨rfl, (by repeat' first | exact Fr.refl _ | exact HG1.out | refine Fr.alloc ?_ _)⟩
    | false =>
      rw [hv0] at CZ00
      have HR : Hid (R = (false)) := Lib.hid (by first | exact hR | (rw [hR]; simp [HPL.out, named, someK, hasK_nil, hv0]))
      clear hR
      try clear h5
      go_enter Tryz.func251, Tryz.ntmps251
      go_wp2_with fail
      refine (CZ00.out _ (by repeat' first | exact Fr.refl _ | exact HG0.out | refine Fr.alloc ?_ _)).mono ?_
      rintro e w1 ⟨rfl, hf1⟩
      have HG1 : Hid (Fr w w1) := Lib.hid (Fr.trans (by repeat' first | exact Fr.refl _ | exact HG0.out | refine Fr.alloc ?_ _) hf1)
      have HB1 : Hid (Nb w1 w.heap.size (.int .i64 46) (.int .i64 n) (.string s) (.slice b0 len cap) (.int .i64 a)) := Lib.hid (Nb.fr (by first | exact HB0.out | exact Nb.al HB0.out _) hf1)
      obtain ⟨k10, k11, k12, k13, k14⟩ := HB1.out.cells
      clear hf1
      go_wp2_with fail
      go_ret
      rw [HR.out]
      exact ⟨rfl, (by repeat' first | exact Fr.refl _ | exact HG1.out | refine Fr.alloc ?_ _)⟩
  have z46 : (o == 46) = false := by rw [beq_eq_false_iff_ne]; exact g46
  by_cases g47 : o = 47
  · subst g47
    replace hR : R = (bare n s && hasK P []) := by first | exact hR | (rw [hR]; first | rfl | simp [cmdR, repR, blockR, pairs_expr])
    have HB0 := Lib.hid (Nb.new w (.int .i64 47) (.int .i64 n) (.string s) (.slice b0 len cap) (.int .i64 a))
    cases hv0 : (bare n s) with
    | true =>
      rw [hv0] at CZ00
      by_cases hl0 : len = 0
      · subst hl0
        skip
        have HR : Hid (R = (true)) := Lib.hid (by first | exact hR | (rw [hR]; simp [HPL.out, named, someK, hasK_nil, hv0]))
        clear hR
        try clear h5
        go_enter Tryz.func251, Tryz.ntmps251
        go_wp2_with fail
        refine (CZ00.out _ (by repeat' first | exact Fr.refl _ | exact HG0.out | refine Fr.alloc ?_ _)).mono ?_
        rintro e w1 ⟨rfl, hf1⟩
        have HG1 : Hid (Fr w w1) := Lib.hid (Fr.trans (by repeat' first | exact Fr.refl _ | exact HG0.out | refine Fr.alloc ?_ _) hf1)
        have HB1 : Hid (Nb w1 w.heap.size (.int .i64 47) (.int .i64 n) (.string s) (.slice b0 0 cap) (.int .i64 a)) := Lib.hid (Nb.fr (by first | exact HB0.out | exact Nb.al HB0.out _) hf1)
        obtain ⟨k10, k11, k12, k13, k14⟩ := HB1.out.cells
        clear hf1
        go_wp2_with fail
        go_ret
        rw [HR.out]
        exact ⟨rfl, (by repeat' first | exact Fr.refl _ | exact HG1.out | refine Fr.alloc ?_ _)⟩
      · have el0 : ((len : Int) == 0) = false := by rw [beq_eq_false_iff_ne]; omega
        have HR : Hid (R = (false)) := Lib.hid (by first | exact hR | (rw [hR]; simp [HPL.out, named, someK, hasK_nil, hv0, hl0]))
        clear hR
        try clear h5
        go_enter Tryz.func251, Tryz.ntmps251
        go_wp2_with fail
        refine (CZ00.out _ (by repeat' first | exact Fr.refl _ | exact HG0.out | refine Fr.alloc ?_ _)).mono ?_
        rintro e w1 ⟨rfl, hf1⟩
        have HG1 : Hid (Fr w w1) := Lib.hid (Fr.trans (by repeat' first | exact Fr.refl _ | exact HG0.out | refine Fr.alloc ?_ _) hf1)
        have HB1 : Hid (Nb w1 w.heap.size (.int .i64 47) (.int .i64 n) (.string s) (.slice b0 len cap) (.int .i64 a)) := Lib.hid (Nb.fr (by first | exact HB0.out | exact Nb.al HB0.out _) hf1)
        obtain ⟨k10, k11, k12, k13, k14⟩ := HB1.out.cells
        clear hf1
        go_wp2_with fail
        go_ret
        rw [HR.out]
        exact ⟨rfl, (by repeat' first | exact Fr.refl _ | exact HG1.out | refine Fr.alloc ?_ _)⟩
    | false =>
      rw [hv0] at CZ00
      have HR : Hid (R = (false)) := Lib.hid (by first | exact hR | (rw [hR]; simp [HPL.out, named, someK, hasK_nil, hv0]))
      clear hR
      try clear h5
      go_enter Tryz.func251, Tryz.ntmps251
      go_wp2_with fail
      refine (CZ00.out _ (by repeat' first | exact Fr.refl _ | exact HG0.out | refine Fr.alloc ?_ _)).mono ?_
      rintro e w1 ⟨rfl, hf1⟩
      have HG1 : Hid (Fr w w1) := Lib.hid (Fr.trans (by repeat' first | exact Fr.refl _ | exact HG0.out | refine Fr.alloc ?_ _) hf1)
      have HB1 : Hid (Nb w1 w.heap.size (.int .i64 47) (.int .i64 n) (.string s) (.slice b0 len cap) (.int .i64 a)) := Lib.hid (Nb.fr (by first | exact HB0.out | exact Nb.al HB0.out _) hf1)
      obtain ⟨k10, k11, k12, k13, k14⟩ := HB1.out.cells
      clear hf1
      go_wp2_with fail
      go_ret
      rw [HR.out]
      exact ⟨rfl, (by repeat' first | exact Fr.refl _ | exact HG1.out | refine Fr.alloc ?_ _)⟩
  have z47 : (o == 47) = false := by rw [beq_eq_false_iff_ne]; exact g47
  by_cases g51 : o = 51
  · subst g51
    replace hR : R = (bare n s && hasK P []) := by first | exact hR | (rw [hR]; first | rfl | simp [cmdR, repR, blockR, pairs_expr])
    have HB0 := Lib.hid (Nb.new w (.int .i64 51) (.int .i64 n) (.string s) (.slice b0 len cap) (.int .i64 a))
    cases hv0 : (bare n s) with
    | true =>
      rw [hv0] at CZ00
      by_cases hl0 : len = 0
      · subst hl0
        skip
        have HR : Hid (R = (true)) := Lib.hid (by first | exact hR | (rw [hR]; simp [HPL.out, named, someK, hasK_nil, hv0]))
        clear hR
        try clear h5
        go_enter Tryz.func251, Tryz.ntmps251
        go_wp2_with fail
        refine (CZ00.out _ (by repeat' first | exact Fr.refl _ | exact HG0.out | refine Fr.alloc ?_ _)).mono ?_
        rintro e w1 ⟨rfl, hf1⟩
        have HG1 : Hid (Fr w w1) := Lib.hid (Fr.trans (by repeat' first | exact Fr.refl _ | exact HG0.out | refine Fr.alloc ?_ _) hf1)
        have HB1 : Hid (Nb w1 w.heap.size (.int .i64 51) (.int .i64 n) (.string s) (.slice b0 0 cap) (.int .i64 a)) := Lib.hid (Nb.fr (by first | exact HB0.out | exact Nb.al HB0.out _) hf1)
        obtain ⟨k10, k11, k12, k13, k14⟩ := HB1.out.cells
        clear hf1
        go_wp2_with fail
        go_ret
        rw [HR.out]
        exact ⟨rfl, (by repeat' first | exact Fr.refl _ | exact HG1.out | refine Fr.alloc ?_ _)⟩
      · have el0 : ((len : Int) == 0) = false := by rw [beq_eq_false_iff_ne]; omega
        have HR : Hid (R = (false)) := Lib.hid (by first | exact hR | (rw [hR]; simp [HPL.out, named, someK, hasK_nil, hv0, hl0]))
        clear hR
        try clear h5
        go_enter Tryz.func251, Tryz.ntmps251
        go_wp2_with fail
        refine (CZ00.out _ (by repeat' first | exact Fr.refl _ | exact HG0.out | refine Fr.alloc ?_ _)).mono ?_
        rintro e w1 ⟨rfl, hf1⟩
        have HG1 : Hid (Fr w w1) := Lib.hid (Fr.trans (by repeat' first | exact Fr.refl _ | exact HG0.out | refine Fr.alloc ?_ _) hf1)
        have HB1 : Hid (Nb w1 w.heap.size (.int .i64 51) (.int .i64 n) (.string s) (.slice b0 len cap) (.int .i64 a)) := Lib.hid (Nb.fr (by first | exact HB0.out | exact Nb.al HB0.out _) hf1)
        obtain ⟨k10, k11, k12, k13, k14⟩ := HB1.out.cells
        clear hf1
        go_wp2_with fail
        go_ret
        rw [HR.out]
        exact ⟨rfl, (by repeat' first | exact Fr.refl _ | exact HG1.out | refine Fr.alloc ?_ _)⟩
    | false =>
      rw [hv0] at CZ00
      have HR : Hid (R = (false)) := Lib.hid (by first | exact hR | (rw [hR]; simp [HPL.out, named, someK, hasK_nil, hv0]))
      clear hR
      try clear h5
      go_enter Tryz.func251, Tryz.ntmps251
      go_wp2_with fail
      refine (CZ00.out _ (by repeat' first | exact Fr.refl _ | exact HG0.out | refine Fr.alloc ?_ _)).mono ?_
      rintro e w1 ⟨rfl, hf1⟩
      have HG1 : Hid (Fr w w1) := Lib.hid (Fr.trans (by repeat' first | exact Fr.refl _ | exact HG0.out | refine Fr.alloc ?_ _) hf1)
      have HB1 : Hid (Nb w1 w.heap.size (.int .i64 51) (.int .i64 n) (.string s) (.slice b0 len cap) (.int .i64 a)) := Lib.hid (Nb.fr (by first | exact HB0.out | exact Nb.al HB0.out _) hf1)
      obtain ⟨k10, k11, k12, k13, k14⟩ := HB1.out.cells
      clear hf1
      go_wp2_with fail
      go_ret
      rw [HR.out]
      exact ⟨rfl, (by repeat' first | exact Fr.refl _ | exact HG1.out | refine Fr.alloc ?_ _)⟩
  have z51 : (o == 51) = false := by rw [beq_eq_false_iff_ne]; exact g51
  by_cases g53 : o = 53
  · subst g53
    replace hR : R = (bare n s && hasK P []) := by first | exact hR | (rw [hR]; first | rfl | simp [cmdR, repR, blockR, pairs_expr])
    have HB0 := Lib.hid (Nb.new w (.int .i64 53) (.int .i64 n) (.string s) (.slice b0 len cap) (.int .i64 a))
    cases hv0 : (bare n s) with
    | true =>
      rw [hv0] at CZ00
      by_cases hl0 : len = 0
      · subst hl0
        skip
        have HR : Hid (R = (true)) := Lib.hid (by first | exact hR | (rw [hR]; simp [HPL.out, named, someK, hasK_nil, hv0]))
        clear hR
        try clear h5
        go_enter Tryz.func251, Tryz.ntmps251
        go_wp2_with fail
        refine (CZ00.out _ (by repeat' first | exact Fr.refl _ | exact HG0.out | refine Fr.alloc ?_ _)).mono ?_
        rintro e w1 ⟨rfl, hf1⟩
        have HG1 : Hid (Fr w w1) := Lib.hid (Fr.trans (by repeat' first | exact Fr.refl _ | exact HG0.out | refine Fr.alloc ?_ _) hf1)
        have HB1 : Hid (Nb w1 w.heap.size (.int .i64 53) (.int .i64 n) (.string s) (.slice b0 0 cap) (.int .i64 a)) := Lib.hid (Nb.fr (by first | exact HB0.out | exact Nb.al HB0.out _) hf1)
        obtain ⟨k10, k11, k12, k13, k14⟩ := HB1.out.cells
        clear hf1
        go_wp2_with fail
        go_ret
        rw [HR.out]
        exact ⟨rfl, (by repeat' first | exact Fr.refl _ | exact HG1.out | refine Fr.alloc ?_ _)⟩
      · have el0 : ((len : Int) == 0) = false := by rw [beq_eq_false_iff_ne]; omega
        have HR : Hid (R = (false)) := Lib.hid (by first | exact hR | (rw [hR]; simp [HPL.out, named, someK, hasK_nil, hv0, hl0]))
        clear hR
        try clear h5
        go_enter Tryz.func251, Tryz.ntmps251
        go_wp2_with fail
        refine (CZ00.out _ (by repeat' first | exact Fr.refl _ | exact HG0.out | refine Fr.alloc ?_ _)).mono ?_
        rintro e w1 ⟨rfl, hf1⟩
        have HG1 : Hid (Fr w w1) := Lib.hid (Fr.trans (by repeat' first | exact Fr.refl _ | exact HG0.out | refine Fr.alloc ?_ _) hf1)
        have HB1 : Hid (Nb w1 w.heap.size (.int .i64 53) (.int .i64 n) (.string s) (.slice b0 len cap) (.int .i64 a)) := Lib.hid (Nb.fr (by first | exact HB0.out | exact Nb.al HB0.out _) hf1)
        obtain ⟨k10, k11, k12, k13, k14⟩ := HB1.out.cells
        clear hf1
        go_wp2_with fail
        go_ret
        rw [HR.out]
        exact ⟨rfl, (by repeat' first | exact Fr.refl _ | exact HG1.out | refine Fr.alloc ?_ _)⟩
    | false =>
      rw [hv0] at CZ00
      have HR : Hid (R = (false)) := Lib.hid (by first | exact hR | (rw [hR]; simp [HPL.out, named, someK, hasK_nil, hv0]))
      clear hR
      try clear h5
      go_enter Tryz.func251, Tryz.ntmps251
      go_wp2_with fail
      refine (CZ00.out _ (by repeat' first | exact Fr.refl _ | exact HG0.out | refine Fr.alloc ?_ _)).mono ?_
      rintro e w1 ⟨rfl, hf1⟩
      have HG1 : Hid (Fr w w1) := Lib.hid (Fr.trans (by repeat' first | exact Fr.refl _ | exact HG0.out | refine Fr.alloc ?_ _) hf1)
      have HB1 : Hid (Nb w1 w.heap.size (.int .i64 53) (.int .i64 n) (.string s) (.slice b0 len cap) (.int .i64 a)) := Lib.hid (Nb.fr (by first | exact HB0.out | exact Nb.al HB0.out _) hf1)
      obtain ⟨k10, k11, k12, k13, k14⟩ := HB1.out.cells
      clear hf1
      go_wp2_with fail
      go_ret
      rw [HR.out]
      exact ⟨rfl, (by repeat' first | exact Fr.refl _ | exact HG1.out | refine Fr.alloc ?_ _)⟩
  have z53 : (o == 53) = false := by rw [beq_eq_false_iff_ne]; exact g53
  by_cases g48 : o = 48
  · subst g48
    replace hR : R = (bare n s && hasK P [.expr]) := by first | exact hR | (rw [hR]; first | rfl | simp [cmdR, repR, blockR, pairs_expr])
    have HB0 := Lib.hid (Nb.new w (.int .i64 48) (.int .i64 n) (.string s) (.slice b0 len cap) (.int .i64 a))
    cases hv0 : (bare n s) with
    | true =>
      rw [hv0] at CZ00
      have HR : Hid (R = (hasK P [.expr])) := Lib.hid (by first | exact hR | (rw [hR]; simp [HPL.out, named, someK, hasK_nil, hv0]))
      clear hR
      try clear h5
      go_enter Tryz.func251, Tryz.ntmps251
      go_wp2_with fail
      refine (CZ00.out _ (by repeat' first | exact Fr.refl _ | exact HG0.out | refine Fr.alloc ?_ _)).mono ?_
      rintro e w1 ⟨rfl, hf1⟩
      have HG1 : Hid (Fr w w1) := Lib.hid (Fr.trans (by repeat' first | exact Fr.refl _ | exact HG0.out | refine Fr.alloc ?_ _) hf1)
      have HB1 : Hid (Nb w1 w.heap.size (.int .i64 48) (.int .i64 n) (.string s) (.slice b0 len cap) (.int .i64 a)) := Lib.hid (Nb.fr (by first | exact HB0.out | exact Nb.al HB0.out _) hf1)
      obtain ⟨k10, k11, k12, k13, k14⟩ := HB1.out.cells
      clear hf1
      go_wp2_with fail
      refine (CP.out _ (by repeat' first | exact Fr.refl _ | exact HG1.out | refine Fr.alloc ?_ _) [.expr] _ (IV.one _ _ .expr _ (by simp) rfl)).mono ?_
      rintro e w2 ⟨rfl, hf2⟩
      have HG2 : Hid (Fr w w2) := Lib.hid (Fr.trans (by repeat' first | exact Fr.refl _ | exact HG1.out | refine Fr.alloc ?_ _) hf2)
      have HB2 : Hid (Nb w2 w.heap.size (.int .i64 48) (.int .i64 n) (.string s) (.slice b0 len cap) (.int .i64 a)) := Lib.hid (Nb.fr (by first | exact HB1.out | exact Nb.al HB1.out _) hf2)
      obtain ⟨k20, k21, k22, k23, k24⟩ := HB2.out.cells
      clear hf2
      go_wp2_with fail
      go_ret
      rw [HR.out]
      exact ⟨rfl, (by repeat' first | exact Fr.refl _ | exact HG2.out | refine Fr.alloc ?_ _)⟩
    | false =>
      rw [hv0] at CZ00
      have HR : Hid (R = (false)) := Lib.hid (by first | exact hR | (rw [hR]; simp [HPL.out, named, someK, hasK_nil, hv0]))
      clear hR
      try clear h5
      go_enter Tryz.func251, Tryz.ntmps251
      go_wp2_with fail
      refine (CZ00.out _ (by repeat' first | exact Fr.refl _ | exact HG0.out | refine Fr.alloc ?_ _)).mono ?_
      rintro e w1 ⟨rfl, hf1⟩
      have HG1 : Hid (Fr w w1) := Lib.hid (Fr.trans (by repeat' first | exact Fr.refl _ | exact HG0.out | refine Fr.alloc ?_ _) hf1)
      have HB1 : Hid (Nb w1 w.heap.size (.int .i64 48) (.int .i64 n) (.string s) (.slice b0 len cap) (.int .i64 a)) := Lib.hid (Nb.fr (by first | exact HB0.out | exact Nb.al HB0.out _) hf1)
      obtain ⟨k10, k11, k12, k13, k14⟩ := HB1.out.cells
      clear hf1
      go_wp2_with fail
      go_ret
      rw [HR.out]
      exact ⟨rfl, (by repeat' first | exact Fr.refl _ | exact HG1.out | refine Fr.alloc ?_ _)⟩
  have z48 : (o == 48) = false := by rw [beq_eq_false_iff_ne]; exact g48
  by_cases g49 : o = 49
  · subst g49
    replace hR : R = (named n s && hasK P []) := by first | exact hR | (rw [hR]; first | rfl | simp [cmdR, repR, blockR, pairs_expr])
    have HB0 := Lib.hid (Nb.new w (.int .i64 49) (.int .i64 n) (.string s) (.slice b0 len cap) (.int .i64 a))
    cases hv1 : (decide (n = 0)) with
    | true =>
      rw [hv1] at CZ01
      cases hv2 : (isNm s) with
      | true =>
        rw [hv2] at CIn
        by_cases hl0 : len = 0
        · subst hl0
          skip
          have HR : Hid (R = (true)) := Lib.hid (by first | exact hR | (rw [hR]; simp [HPL.out, named, someK, hasK_nil, hv1, hv2]))
          clear hR
          try clear h5
          go_enter Tryz.func251, Tryz.ntmps251
          go_wp2_with fail
          refine (CZ00.out _ (by repeat' first | exact Fr.refl _ | exact HG0.out | refine Fr.alloc ?_ _)).mono ?_
          rintro e w1 ⟨rfl, hf1⟩
          have HG1 : Hid (Fr w w1) := Lib.hid (Fr.trans (by repeat' first | exact Fr.refl _ | exact HG0.out | refine Fr.alloc ?_ _) hf1)
          have HB1 : Hid (Nb w1 w.heap.size (.int .i64 49) (.int .i64 n) (.string s) (.slice b0 0 cap) (.int .i64 a)) := Lib.hid (Nb.fr (by first | exact HB0.out | exact Nb.al HB0.out _) hf1)
          obtain ⟨k10, k11, k12, k13, k14⟩ := HB1.out.cells
          clear hf1
          go_wp2_with fail
          refine (CZ01.out _ (by repeat' first | exact Fr.refl _ | exact HG1.out | refine Fr.alloc ?_ _)).mono ?_
          rintro e w2 ⟨rfl, hf2⟩
          have HG2 : Hid (Fr w w2) := Lib.hid (Fr.trans (by repeat' first | exact Fr.refl _ | exact HG1.out | refine Fr.alloc ?_ _) hf2)
          have HB2 : Hid (Nb w2 w.heap.size (.int .i64 49) (.int .i64 n) (.string s) (.slice b0 0 cap) (.int .i64 a)) := Lib.hid (Nb.fr (by first | exact HB1.out | exact Nb.al HB1.out _) hf2)
          obtain ⟨k20, k21, k22, k23, k24⟩ := HB2.out.cells
          clear hf2
          go_wp2_with fail
          refine (CIn.out _ (by repeat' first | exact Fr.refl _ | exact HG2.out | refine Fr.alloc ?_ _)).mono ?_
          rintro e w3 ⟨rfl, hf3⟩
          have HG3 : Hid (Fr w w3) := Lib.hid (Fr.trans (by repeat' first | exact Fr.refl _ | exact HG2.out | refine Fr.alloc ?_ _) hf3)
          have HB3 : Hid (Nb w3 w.heap.size (.int .i64 49) (.int .i64 n) (.string s) (.slice b0 0 cap) (.int .i64 a)) := Lib.hid (Nb.fr (by first | exact HB2.out | exact Nb.al HB2.out _) hf3)
          obtain ⟨k30, k31, k32, k33, k34⟩ := HB3.out.cells
          clear hf3
          go_wp2_with fail
          go_ret
          rw [HR.out]
          exact ⟨rfl, (by repeat' first | exact Fr.refl _ | exact HG3.out | refine Fr.alloc ?_ _)⟩
        · have el0 : ((len : Int) == 0) = false := by rw [beq_eq_false_iff_ne]; omega
          have HR : Hid (R = (false)) := Lib.hid (by first | exact hR | (rw [hR]; simp [HPL.out, named, someK, hasK_nil, hv1, hv2, hl0]))
          clear hR
          try clear h5
          go_enter Tryz.func251, Tryz.ntmps251
          go_wp2_with fail
          refine (CZ00.out _ (by repeat' first | exact Fr.refl _ | exact HG0.out | refine Fr.alloc ?_ _)).mono ?_
          rintro e w1 ⟨rfl, hf1⟩
          have HG1 : Hid (Fr w w1) := Lib.hid (Fr.trans (by repeat' first | exact Fr.refl _ | exact HG0.out | refine Fr.alloc ?_ _) hf1)
          have HB1 : Hid (Nb w1 w.heap.size (.int .i64 49) (.int .i64 n) (.string s) (.slice b0 len cap) (.int .i64 a)) := Lib.hid (Nb.fr (by first | exact HB0.out | exact Nb.al HB0.out _) hf1)
          obtain ⟨k10, k11, k12, k13, k14⟩ := HB1.out.cells
          clear hf1
          go_wp2_with fail
          refine (CZ01.out _ (by repeat' first | exact Fr.refl _ | exact HG1.out | refine Fr.alloc ?_ _)).mono ?_
          rintro e w2 ⟨rfl, hf2⟩
          have HG2 : Hid (Fr w w2) := Lib.hid (Fr.trans (by repeat' first | exact Fr.refl _ | exact HG1.out | refine Fr.alloc ?_ _) hf2)
          have HB2 : Hid (Nb w2 w.heap.size (.int .i64 49) (.int .i64 n) (.string s) (.slice b0 len cap) (.int .i64 a)) := Lib.hid (Nb.fr (by first | exact HB1.out | exact Nb.al HB1.out _) hf2)
          obtain ⟨k20, k21, k22, k23, k24⟩ := HB2.out.cells
          clear hf2
          go_wp2_with fail
          refine (CIn.out _ (by repeat' first | exact Fr.refl _ | exact HG2.out | refine Fr.alloc ?_ _)).mono ?_
          rintro e w3 ⟨rfl, hf3⟩
          have HG3 : Hid (Fr w w3) := Lib.hid (Fr.trans (by repeat' first | exact Fr.refl _ | exact HG2.out | refine Fr.alloc ?_ _) hf3)
          have HB3 : Hid (Nb w3 w.heap.size (.int .i64 49) (.int .i64 n) (.string s) (.slice b0 len cap) (.int .i64 a)) := Lib.hid (Nb.fr (by first | exact HB2.out | exact Nb.al HB2.out _) hf3)
          obtain ⟨k30, k31, k32, k33, k34⟩ := HB3.out.cells
          clear hf3
          go_wp2_with fail
          go_ret
          rw [HR.out]
          exact ⟨rfl, (by repeat' first | exact Fr.refl _ | exact HG3.out | refine Fr.alloc ?_ _)⟩
      | false =>
        rw [hv2] at CIn
        have HR : Hid (R = (false)) := Lib.hid (by first | exact hR | (rw [hR]; simp [HPL.out, named, someK, hasK_nil, hv1, hv2]))
        clear hR
        try clear h5
        go_enter Tryz.func251, Tryz.ntmps251
        go_wp2_with fail
        refine (CZ00.out _ (by repeat' first | exact Fr.refl _ | exact HG0.out | refine Fr.alloc ?_ _)).mono ?_
        rintro e w1 ⟨rfl, hf1⟩
        have HG1 : Hid (Fr w w1) := Lib.hid (Fr.trans (by repeat' first | exact Fr.refl _ | exact HG0.out | refine Fr.alloc ?_ _) hf1)
        have HB1 : Hid (Nb w1 w.heap.size (.int .i64 49) (.int .i64 n) (.string s) (.slice b0 len cap) (.int .i64 a)) := Lib.hid (Nb.fr (by first | exact HB0.out | exact Nb.al HB0.out _) hf1)
        obtain ⟨k10, k11, k12, k13, k14⟩ := HB1.out.cells
        clear hf1
        go_wp2_with fail
        refine (CZ01.out _ (by repeat' first | exact Fr.refl _ | exact HG1.out | refine Fr.alloc ?_ _)).mono ?_
        rintro e w2 ⟨rfl, hf2⟩
        have HG2 : Hid (Fr w w2) := Lib.hid (Fr.trans (by repeat' first | exact Fr.refl _ | exact HG1.out | refine Fr.alloc ?_ _) hf2)
        have HB2 : Hid (Nb w2 w.heap.size (.int .i64 49) (.int .i64 n) (.string s) (.slice b0 len cap) (.int .i64 a)) := Lib.hid (Nb.fr (by first | exact HB1.out | exact Nb.al HB1.out _) hf2)
        obtain ⟨k20, k21, k22, k23, k24⟩ := HB2.out.cells
        clear hf2
        go_wp2_with fail
        refine (CIn.out _ (by repeat' first | exact Fr.refl _ | exact HG2.out | refine Fr.alloc ?_ _)).mono ?_
        rintro e w3 ⟨rfl, hf3⟩
        have HG3 : Hid (Fr w w3) := Lib.hid (Fr.trans (by repeat' first | exact Fr.refl _ | exact HG2.out | refine Fr.alloc ?_ _) hf3)
        have HB3 : Hid (Nb w3 w.heap.size (.int .i64 49) (.int .i64 n) (.string s) (.slice b0 len cap) (.int .i64 a)) := Lib.hid (Nb.fr (by first | exact HB2.out | exact Nb.al HB2.out _) hf3)
        obtain ⟨k30, k31, k32, k33, k34⟩ := HB3.out.cells
        clear hf3
        go_wp2_with fail
        go_ret
        rw [HR.out]
        exact ⟨rfl, (by repeat' first | exact Fr.refl _ | exact HG3.out | refine Fr.alloc ?_ _)⟩
    | false =>
      rw [hv1] at CZ01
      have HR : Hid (R = (false)) := Lib.hid (by first | exact hR | (rw [hR]; simp [HPL.out, named, someK, hasK_nil, hv1]))
      clear hR
      try clear h5
      go_enter Tryz.func251, Tryz.ntmps251
      go_wp2_with fail
      refine (CZ00.out _ (by repeat' first | exact Fr.refl _ | exact HG0.out | refine Fr.alloc ?_ _)).mono ?_
      rintro e w1 ⟨rfl, hf1⟩
      have HG1 : Hid (Fr w w1) := Lib.hid (Fr.trans (by repeat' first | exact Fr.refl _ | exact HG0.out | refine Fr.alloc ?_ _) hf1)
      have HB1 : Hid (Nb w1 w.heap.size (.int .i64 49) (.int .i64 n) (.string s) (.slice b0 len cap) (.int .i64 a)) := Lib.hid (Nb.fr (by first | exact HB0.out | exact Nb.al HB0.out _) hf1)
      obtain ⟨k10, k11, k12, k13, k14⟩ := HB1.out.cells
      clear hf1
      go_wp2_with fail
      refine (CZ01.out _ (by repeat' first | exact Fr.refl _ | exact HG1.out | refine Fr.alloc ?_ _)).mono ?_
      rintro e w2 ⟨rfl, hf2⟩
      have HG2 : Hid (Fr w w2) := Lib.hid (Fr.trans (by repeat' first | exact Fr.refl _ | exact HG1.out | refine Fr.alloc ?_ _) hf2)
      have HB2 : Hid (Nb w2 w.heap.size (.int .i64 49) (.int .i64 n) (.string s) (.slice b0 len cap) (.int .i64 a)) := Lib.hid (Nb.fr (by first | exact HB1.out | exact Nb.al HB1.out _) hf2)
      obtain ⟨k20, k21, k22, k23, k24⟩ := HB2.out.cells
      clear hf2
      go_wp2_with fail
      go_ret
      rw [HR.out]
      exact ⟨rfl, (by repeat' first | exact Fr.refl _ | exact HG2.out | refine Fr.alloc ?_ _)⟩
  have z49 : (o == 49) = false := by rw [beq_eq_false_iff_ne]; exact g49
  by_cases g50 : o = 50
  · subst g50
    replace hR : R = (named n s && hasK P [.cmd]) := by first | exact hR | (rw [hR]; first | rfl | simp [cmdR, repR, blockR, pairs_expr])
    have HB0 := Lib.hid (Nb.new w (.int .i64 50) (.int .i64 n) (.string s) (.slice b0 len cap) (.int .i64 a))
    cases hv1 : (decide (n = 0)) with
    | true =>
      rw [hv1] at CZ01
      cases hv2 : (isNm s) with
      | true =>
        rw [hv2] at CIn
        have HR : Hid (R = (hasK P [.cmd])) := Lib.hid (by first | exact hR | (rw [hR]; simp [HPL.out, named, someK, hasK_nil, hv1, hv2]))
        clear hR
        try clear h5
        go_enter Tryz.func251, Tryz.ntmps251
        go_wp2_with fail
        refine (CZ00.out _ (by repeat' first | exact Fr.refl _ | exact HG0.out | refine Fr.alloc ?_ _)).mono ?_
        rintro e w1 ⟨rfl, hf1⟩
        have HG1 : Hid (Fr w w1) := Lib.hid (Fr.trans (by repeat' first | exact Fr.refl _ | exact HG0.out | refine Fr.alloc ?_ _) hf1)
        have HB1 : Hid (Nb w1 w.heap.size (.int .i64 50) (.int .i64 n) (.string s) (.slice b0 len cap) (.int .i64 a)) := Lib.hid (Nb.fr (by first | exact HB0.out | exact Nb.al HB0.out _) hf1)
        obtain ⟨k10, k11, k12, k13, k14⟩ := HB1.out.cells
        clear hf1
        go_wp2_with fail
        refine (CZ01.out _ (by repeat' first | exact Fr.refl _ | exact HG1.out | refine Fr.alloc ?_ _)).mono ?_
        rintro e w2 ⟨rfl, hf2⟩
        have HG2 : Hid (Fr w w2) := Lib.hid (Fr.trans (by repeat' first | exact Fr.refl _ | exact HG1.out | refine Fr.alloc ?_ _) hf2)
        have HB2 : Hid (Nb w2 w.heap.size (.int .i64 50) (.int .i64 n) (.string s) (.slice b0 len cap) (.int .i64 a)) := Lib.hid (Nb.fr (by first | exact HB1.out | exact Nb.al HB1.out _) hf2)
        obtain ⟨k20, k21, k22, k23, k24⟩ := HB2.out.cells
        clear hf2
        go_wp2_with fail
        refine (CIn.out _ (by repeat' first | exact Fr.refl _ | exact HG2.out | refine Fr.alloc ?_ _)).mono ?_
        rintro e w3 ⟨rfl, hf3⟩
        have HG3 : Hid (Fr w w3) := Lib.hid (Fr.trans (by repeat' first | exact Fr.refl _ | exact HG2.out | refine Fr.alloc ?_ _) hf3)
        have HB3 : Hid (Nb w3 w.heap.size (.int .i64 50) (.int .i64 n) (.string s) (.slice b0 len cap) (.int .i64 a)) := Lib.hid (Nb.fr (by first | exact HB2.out | exact Nb.al HB2.out _) hf3)
        obtain ⟨k30, k31, k32, k33, k34⟩ := HB3.out.cells
        clear hf3
        go_wp2_with fail
        refine (CP.out _ (by repeat' first | exact Fr.refl _ | exact HG3.out | refine Fr.alloc ?_ _) [.cmd] _ (IV.one _ _ .cmd _ (by simp) rfl)).mono ?_
        rintro e w4 ⟨rfl, hf4⟩
        have HG4 : Hid (Fr w w4) := Lib.hid (Fr.trans (by repeat' first | exact Fr.refl _ | exact HG3.out | refine Fr.alloc ?_ _) hf4)
        have HB4 : Hid (Nb w4 w.heap.size (.int .i64 50) (.int .i64 n) (.string s) (.slice b0 len cap) (.int .i64 a)) := Lib.hid (Nb.fr (by first | exact HB3.out | exact Nb.al HB3.out _) hf4)
        obtain ⟨k40, k41, k42, k43, k44⟩ := HB4.out.cells
        clear hf4
        go_wp2_with fail
        go_ret
        rw [HR.out]
        exact ⟨rfl, (by repeat' first | exact Fr.refl _ | exact HG4.out | refine Fr.alloc ?_ _)⟩
      | false =>
        rw [hv2] at CIn
        have HR : Hid (R = (false)) := Lib.hid (by first | exact hR | (rw [hR]; simp [HPL.out, named, someK, hasK_nil, hv1, hv2]))
        clear hR
        try clear h5
        go_enter Tryz.func251, Tryz.ntmps251
        go_wp2_with fail
        refine (CZ00.out _ (by repeat' first | exact Fr.refl _ | exact HG0.out | refine Fr.alloc ?_ _)).mono ?_
        rintro e w1 ⟨rfl, hf1⟩
        have HG1 : Hid (Fr w w1) := Lib.hid (Fr.trans (by repeat' first | exact Fr.refl _ | exact HG0.out | refine Fr.alloc ?_ _) hf1)
        have HB1 : Hid (Nb w1 w.heap.size (.int .i64 50) (.int .i64 n) (.string s) (.slice b0 len cap) (.int .i64 a)) := Lib.hid (Nb.fr (by first | exact HB0.out | exact Nb.al HB0.out _) hf1)
        obtain ⟨k10, k11, k12, k13, k14⟩ := HB1.out.cells
        clear hf1
        go_wp2_with fail
        refine (CZ01.out _ (by repeat' first | exact Fr.refl _ | exact HG1.out | refine Fr.alloc ?_ _)).mono ?_
        rintro e w2 ⟨rfl, hf2⟩
        have HG2 : Hid (Fr w w2) := Lib.hid (Fr.trans (by repeat' first | exact Fr.refl _ | exact HG1.out | refine Fr.alloc ?_ _) hf2)
        have HB2 : Hid (Nb w2 w.heap.size (.int .i64 50) (.int .i64 n) (.string s) (.slice b0 len cap) (.int .i64 a)) := Lib.hid (Nb.fr (by first | exact HB1.out | exact Nb.al HB1.out _) hf2)
        obtain ⟨k20, k21, k22, k23, k24⟩ := HB2.out.cells
        clear hf2
        go_wp2_with fail
        refine (CIn.out _ (by repeat' first | exact Fr.refl _ | exact HG2.out | refine Fr.alloc ?_ _)).mono ?_
        rintro e w3 ⟨rfl, hf3⟩
        have HG3 : Hid (Fr w w3) := Lib.hid (Fr.trans (by repeat' first | exact Fr.refl _ | exact HG2.out | refine Fr.alloc ?_ _) hf3)
        have HB3 : Hid (Nb w3 w.heap.size (.int .i64 50) (.int .i64 n) (.string s) (.slice b0 len cap) (.int .i64 a)) := Lib.hid (Nb.fr (by first | exact HB2.out | exact Nb.al HB2.out _) hf3)
        obtain ⟨k30, k31, k32, k33, k34⟩ := HB3.out.cells
        clear hf3
        go_wp2_with fail
        go_ret
        rw [HR.out]
        exact ⟨rfl, (by repeat' first | exact Fr.refl _ | exact HG3.out | refine Fr.alloc ?_ _)⟩
    | false =>
      rw [hv1] at CZ01
      have HR : Hid (R = (false)) := Lib.hid (by first | exact hR | (rw [hR]; simp [HPL.out, named, someK, hasK_nil, hv1]))
      clear hR
      try clear h5
      go_enter Tryz.func251, Tryz.ntmps251
      go_wp2_with fail
      refine (CZ00.out _ (by repeat' first | exact Fr.refl _ | exact HG0.out | refine Fr.alloc ?_ _)).mono ?_
      rintro e w1 ⟨rfl, hf1⟩
      have HG1 : Hid (Fr w w1) := Lib.hid (Fr.trans (by repeat' first | exact Fr.refl _ | exact HG0.out | refine Fr.alloc ?_ _) hf1)
      have HB1 : Hid (Nb w1 w.heap.size (.int .i64 50) (.int .i64 n) (.string s) (.slice b0 len cap) (.int .i64 a)) := Lib.hid (Nb.fr (by first | exact HB0.out | exact Nb.al HB0.out _) hf1)
      obtain ⟨k10, k11, k12, k13, k14⟩ := HB1.out.cells
      clear hf1
      go_wp2_with fail
      refine (CZ01.out _ (by repeat' first | exact Fr.refl _ | exact HG1.out | refine Fr.alloc ?_ _)).mono ?_
      rintro e w2 ⟨rfl, hf2⟩
      have HG2 : Hid (Fr w w2) := Lib.hid (Fr.trans (by repeat' first | exact Fr.refl _ | exact HG1.out | refine Fr.alloc ?_ _) hf2)
      have HB2 : Hid (Nb w2 w.heap.size (.int .i64 50) (.int .i64 n) (.string s) (.slice b0 len cap) (.int .i64 a)) := Lib.hid (Nb.fr (by first | exact HB1.out | exact Nb.al HB1.out _) hf2)
      obtain ⟨k20, k21, k22, k23, k24⟩ := HB2.out.cells
      clear hf2
      go_wp2_with fail
      go_ret
      rw [HR.out]
      exact ⟨rfl, (by repeat' first | exact Fr.refl _ | exact HG2.out | refine Fr.alloc ?_ _)⟩
  have z50 : (o == 50) = false := by rw [beq_eq_false_iff_ne]; exact g50
  by_cases g52 : o = 52
  · subst g52
    replace hR : R = (bare n s && someK P .item) := by first | exact hR | (rw [hR]; first | rfl | simp [cmdR, repR, blockR, pairs_expr])
    have HB0 := Lib.hid (Nb.new w (.int .i64 52) (.int .i64 n) (.string s) (.slice b0 len cap) (.int .i64 a))
    cases hv0 : (bare n s) with
    | true =>
      rw [hv0] at CZ00
      by_cases hl1 : 0 < len
      · have el1 : decide ((1 : Int) ≤ len) = true := decide_eq_true (by omega)
        have HR : Hid (R = (allK P .item)) := Lib.hid (by first | exact hR | (rw [hR]; simp [HPL.out, named, someK, hasK_nil, hv0, hl1]))
        clear hR
        try clear h5
        go_enter Tryz.func251, Tryz.ntmps251
        go_wp2_with fail
        refine (CZ00.out _ (by repeat' first | exact Fr.refl _ | exact HG0.out | refine Fr.alloc ?_ _)).mono ?_
        rintro e w1 ⟨rfl, hf1⟩
        have HG1 : Hid (Fr w w1) := Lib.hid (Fr.trans (by repeat' first | exact Fr.refl _ | exact HG0.out | refine Fr.alloc ?_ _) hf1)
        have HB1 : Hid (Nb w1 w.heap.size (.int .i64 52) (.int .i64 n) (.string s) (.slice b0 len cap) (.int .i64 a)) := Lib.hid (Nb.fr (by first | exact HB0.out | exact Nb.al HB0.out _) hf1)
        obtain ⟨k10, k11, k12, k13, k14⟩ := HB1.out.cells
        clear hf1
        go_wp2_with fail
        refine (CA.out _ (by repeat' first | exact Fr.refl _ | exact HG1.out | refine Fr.alloc ?_ _) .item rfl).mono ?_
        rintro e w2 ⟨rfl, hf2⟩
        have HG2 : Hid (Fr w w2) := Lib.hid (Fr.trans (by repeat' first | exact Fr.refl _ | exact HG1.out | refine Fr.alloc ?_ _) hf2)
        have HB2 : Hid (Nb w2 w.heap.size (.int .i64 52) (.int .i64 n) (.string s) (.slice b0 len cap) (.int .i64 a)) := Lib.hid (Nb.fr (by first | exact HB1.out | exact Nb.al HB1.out _) hf2)
        obtain ⟨k20, k21, k22, k23, k24⟩ := HB2.out.cells
        clear hf2
        go_wp2_with fail
        go_ret
        rw [HR.out]
        exact ⟨rfl, (by repeat' first | exact Fr.refl _ | exact HG2.out | refine Fr.alloc ?_ _)⟩
      · have el1 : decide ((1 : Int) ≤ len) = false := decide_eq_false (by omega)
        have HR : Hid (R = (false)) := Lib.hid (by first | exact hR | (rw [hR]; simp [HPL.out, named, someK, hasK_nil, hv0, hl1]))
        clear hR
        try clear h5
        go_enter Tryz.func251, Tryz.ntmps251
        go_wp2_with fail
        refine (CZ00.out _ (by repeat' first | exact Fr.refl _ | exact HG0.out | refine Fr.alloc ?_ _)).mono ?_
        rintro e w1 ⟨rfl, hf1⟩
        have HG1 : Hid (Fr w w1) := Lib.hid (Fr.trans (by repeat' first | exact Fr.refl _ | exact HG0.out | refine Fr.alloc ?_ _) hf1)
        have HB1 : Hid (Nb w1 w.heap.size (.int .i64 52) (.int .i64 n) (.string s) (.slice b0 len cap) (.int .i64 a)) := Lib.hid (Nb.fr (by first | exact HB0.out | exact Nb.al HB0.out _) hf1)
        obtain ⟨k10, k11, k12, k13, k14⟩ := HB1.out.cells
        clear hf1
        go_wp2_with fail
        go_ret
        rw [HR.out]
        exact ⟨rfl, (by repeat' first | exact Fr.refl _ | exact HG1.out | refine Fr.alloc ?_ _)⟩
    | false =>
      rw [hv0] at CZ00
      have HR : Hid (R = (false)) := Lib.hid (by first | exact hR | (rw [hR]; simp [HPL.out, named, someK, hasK_nil, hv0]))
      clear hR
      try clear h5
      go_enter Tryz.func251, Tryz.ntmps251
      go_wp2_with fail
      refine (CZ00.out _ (by repeat' first | exact Fr.refl _ | exact HG0.out | refine Fr.alloc ?_ _)).mono ?_
      rintro e w1 ⟨rfl, hf1⟩
      have HG1 : Hid (Fr w w1) := Lib.hid (Fr.trans (by repeat' first | exact Fr.refl _ | exact HG0.out | refine Fr.alloc ?_ _) hf1)
      have HB1 : Hid (Nb w1 w.heap.size (.int .i64 52) (.int .i64 n) (.string s) (.slice b0 len cap) (.int .i64 a)) := Lib.hid (Nb.fr (by first | exact HB0.out | exact Nb.al HB0.out _) hf1)
      obtain ⟨k10, k11, k12, k13, k14⟩ := HB1.out.cells
      clear hf1
      go_wp2_with fail
      go_ret
      rw [HR.out]
      exact ⟨rfl, (by repeat' first | exact Fr.refl _ | exact HG1.out | refine Fr.alloc ?_ _)⟩
  have z52 : (o == 52) = false := by rw [beq_eq_false_iff_ne]; exact g52
  replace hR : R = (false) := by first | (rw [hR]; simp [cmdR, repR, blockR, pairs_expr, g30, g31, g32, g33, g35, g36, g42, g34, g37, g38, g39, g40, g41, g43, g44, g45, g46, g47, g51, g53, g48, g49, g50, g52]; done) | (rw [hR]; rfl)
  clear g30 g31 g32 g33 g35 g36 g42 g34 g37 g38 g39 g40 g41 g43 g44 g45 g46 g47 g51 g53 g48 g49 g50 g52
  have HB0 := Lib.hid (Nb.new w (.int .i64 o) (.int .i64 n) (.string s) (.slice b0 len cap) (.int .i64 a))
  have HR : Hid (R = (false)) := Lib.hid (by first | exact hR | (rw [hR]; simp [HPL.out, named, someK, hasK_nil]))
  clear hR
  try clear h5
  go_enter Tryz.func251, Tryz.ntmps251
  go_wp2_with fail
  refine (CZ00.out _ (by repeat' first | exact Fr.refl _ | exact HG0.out | refine Fr.alloc ?_ _)).mono ?_
  rintro e w1 ⟨rfl, hf1⟩
  have HG1 : Hid (Fr w w1) := Lib.hid (Fr.trans (by repeat' first | exact Fr.refl _ | exact HG0.out | refine Fr.alloc ?_ _) hf1)
  have HB1 : Hid (Nb w1 w.heap.size (.int .i64 o) (.int .i64 n) (.string s) (.slice b0 len cap) (.int .i64 a)) := Lib.hid (Nb.fr (by first | exact HB0.out | exact Nb.al HB0.out _) hf1)
  obtain ⟨k10, k11, k12, k13, k14⟩ := HB1.out.cells
  clear hf1
  go_wp2_with fail
  go_ret
  rw [HR.out]
  exact ⟨rfl, (by repeat' first | exact Fr.refl _ | exact HG1.out | refine Fr.alloc ?_ _)⟩
end Go.Proofs.YtbaelbafhdjlnaaGreatDoor

/- Which nodes are declarations, and which stand at a place: the document. -/
namespace Go.Proofs.YtbaelbafhdjlnaaGreatDoor
open Go.RowKit
set_option linter.unusedVariables false
set_option linter.unusedSimpArgs false

set_option maxRecDepth 100000 in
set_option maxHeartbeats 8000000 in
theorem formedDecl_of (t : Nd) (lt : Value) (w : World) (hlt : LN w lt t.l) (hs : t.s.size ≤ 2000000) (hn64 : wf64 t.n) (hq : RQ w t.l) :
    Calls Tryz.prog 255 #[ndV t lt] w fun e w' => e = .returned (.bool (declR t.op t.n t.s (okL t.l))) ∧ Fr w w' := by
  obtain ⟨o, n, s, l, a⟩ := t
  have hlt : LN w lt l := hlt
  have hs : s.size ≤ 2000000 := hs
  have hn64 : wf64 n := hn64
  have hq : RQ w l := hq
  show Calls _ _ #[.agg #[.int .i64 o, .int .i64 n, .string s, lt, .int .i64 a]] w fun e w' => e = .returned (.bool (declR o n s (okL l))) ∧ Fr w w'
  obtain ⟨b0, cap, rfl, hcap, hcm, _⟩ := hlt.form
  obtain ⟨len, hlen⟩ : ∃ x, x = l.length := ⟨_, rfl⟩
  rw [← hlen] at hlt ⊢
  obtain ⟨P, hP⟩ : ∃ x, x = okL l := ⟨_, rfl⟩
  rw [← hP]
  have CZ00 : Hid (∀ W, Fr w W → Calls Tryz.prog 252 #[.agg #[.int .i64 o, .int .i64 n, .string s, .slice b0 len cap, .int .i64 a], .bool false, .bool false] W fun e w' => e = .returned (.bool (bare n s)) ∧ Fr W w') := Lib.hid (fun W h => zero00_any ⟨o, n, s, l, a⟩ (.slice b0 len cap) W)
  have CZ11 : Hid (∀ W, Fr w W → Calls Tryz.prog 252 #[.agg #[.int .i64 o, .int .i64 n, .string s, .slice b0 len cap, .int .i64 a], .bool true, .bool true] W fun e w' => e = .returned (.bool (true)) ∧ Fr W w') := Lib.hid (fun W h => zero11_any ⟨o, n, s, l, a⟩ (.slice b0 len cap) W)
  have CIn : Hid (∀ W, Fr w W → Calls Tryz.prog 253 #[.string s] W fun e w' => e = .returned (.bool (isNm s)) ∧ Fr W w') := Lib.hid (fun W h => RisName_any s W)
  have CA : Hid (∀ W, Fr w W → ∀ k : Pr, k.ref = true → Calls Tryz.prog 145 #[.slice b0 len cap, .int .i64 k.num] W fun e w' => e = .returned (.bool (allK P k)) ∧ Fr W w') := Lib.hid (fun W h k hk => by rw [hP]; exact all_any k hk l _ W (hlt.fr h) (hq.fr h))
  have HCM : Hid (len ≤ 9223372036854775807) := Lib.hid (by unfold maxLen at hcm; omega)
  have HCAP : Hid (len ≤ cap) := Lib.hid (by rw [hlen]; exact hcap)
  have H64 : Hid (0 < len → ∃ (k b off : Nat) (t : Nd) (la : Option Addr) (ll lc : Nat), len = k + 1 ∧ b0 = some ⟨b, off, none⟩ ∧ (∀ p, lastK P p = okP t p) ∧ NdC w b (off + k * 5) t (.slice la ll lc) ∧ (∀ W, Fr w W → ∀ p : Pr, p.ref = true → Calls Tryz.prog 210 #[.agg #[.int .i64 t.op, .int .i64 t.n, .string t.s, .slice la ll lc, .int .i64 t.a], .int .i64 p.num] W fun e w' => e = .returned (.bool (okP t p)) ∧ Fr W w') ∧ (∀ W, Fr w W → Calls Tryz.prog 145 #[.slice b0 k cap, .int .i64 6] W fun e w' => e = .returned (.bool (allK (P.take k) .name)) ∧ Fr W w')) := Lib.hid (fun h0 => by
    rw [hlen] at h0 hlt ⊢
    rw [hP]
    obtain ⟨k, hk⟩ : ∃ k, l.length = k + 1 := ⟨l.length - 1, by omega⟩
    obtain ⟨t, ht⟩ : ∃ t, l[k]? = some t := ⟨_, List.getElem?_eq_getElem (by omega)⟩
    have hmem := List.mem_of_getElem? ht
    have CA : ∀ W, Fr w W → Calls Tryz.prog 145 #[.slice b0 k cap, .int .i64 6] W fun e w' => e = .returned (.bool (allK ((okL l).take k) .name)) ∧ Fr W w' := fun W h => by
      rw [okL_take]
      exact all_any .name rfl (l.take k) _ W ((hlt.fr h).take_ k (by omega)) ((hq.fr h).sub fun t ht => List.mem_of_mem_take ht)
    obtain ⟨b, off, lv, rfl, hc5, hln, _⟩ := hlt.at_ ht
    obtain ⟨la, lc, rfl, _, _, _⟩ := hln.form
    exact ⟨k, b, off, t, la, _, lc, hk, rfl, fun p => lastK_some p (by rw [hk]; exact ht), hc5, fun W hW p hp => hq W hW t hmem _ (hln.fr hW) p hp, CA⟩)
  obtain ⟨R, hR⟩ : ∃ r, r = (declR o n s P) := ⟨_, rfl⟩
  rw [← hR]
  have HPL : Hid (P.length = len) := Lib.hid (by rw [hP, hlen, okL_len])
  have hn1 := Lib.hid hn64
  clear hlt hq hP hlen hcap hcm hs hn64
  have HG0 : Hid (Fr w w) := Lib.hid (Fr.refl w)
  by_cases g60 : o = 60
  · subst g60
    replace hR : R = (bare n s && allK P .const) := by first | exact hR | (rw [hR]; first | rfl | simp [declR])
    have HB0 := Lib.hid (Nb.new w (.int .i64 60) (.int .i64 n) (.string s) (.slice b0 len cap) (.int .i64 a))
    cases hv0 : (bare n s) with
    | true =>
      rw [hv0] at CZ00
      have HR : Hid (R = (allK P .const)) := Lib.hid (by first | exact hR | (rw [hR]; simp [HPL.out, named, someK, hasK_nil, hv0]))
      clear hR
      try clear h5
      go_enter Tryz.func255, Tryz.ntmps255
      go_wp2_with fail
      refine (CZ00.out _ (by repeat' first | exact Fr.refl _ | exact HG0.out | refine Fr.alloc ?_ _)).mono ?_
      rintro e w1 ⟨rfl, hf1⟩
      have HG1 : Hid (Fr w w1) := Lib.hid (Fr.trans (by repeat' first | exact Fr.refl _ | exact HG0.out | refine Fr.alloc ?_ _) hf1)
      have HB1 : Hid (Nb w1 w.heap.size (.int .i64 60) (.int .i64 n) (.string s) (.slice b0 len cap) (.int .i64 a)) := Lib.hid (Nb.fr (by first | exact HB0.out | exact Nb.al HB0.out _) hf1)
      obtain ⟨k10, k11, k12, k13, k14⟩ := HB1.out.cells
      clear hf1
      go_wp2_with fail
      refine (CA.out _ (by repeat' first | exact Fr.refl _ | exact HG1.out | refine Fr.alloc ?_ _) .const rfl).mono ?_
      rintro e w2 ⟨rfl, hf2⟩
      have HG2 : Hid (Fr w w2) := Lib.hid (Fr.trans (by repeat' first | exact Fr.refl _ | exact HG1.out | refine Fr.alloc ?_ _) hf2)
      have HB2 : Hid (Nb w2 w.heap.size (.int .i64 60) (.int .i64 n) (.string s) (.slice b0 len cap) (.int .i64 a)) := Lib.hid (Nb.fr (by first | exact HB1.out | exact Nb.al HB1.out _) hf2)
      obtain ⟨k20, k21, k22, k23, k24⟩ := HB2.out.cells
      clear hf2
      go_wp2_with fail
      go_ret
      rw [HR.out]
      exact ⟨rfl, (by repeat' first | exact Fr.refl _ | exact HG2.out | refine Fr.alloc ?_ _)⟩
    | false =>
      rw [hv0] at CZ00
      have HR : Hid (R = (false)) := Lib.hid (by first | exact hR | (rw [hR]; simp [HPL.out, named, someK, hasK_nil, hv0]))
      clear hR
      try clear h5
      go_enter Tryz.func255, Tryz.ntmps255
      go_wp2_with fail
      refine (CZ00.out _ (by repeat' first | exact Fr.refl _ | exact HG0.out | refine Fr.alloc ?_ _)).mono ?_
      rintro e w1 ⟨rfl, hf1⟩
      have HG1 : Hid (Fr w w1) := Lib.hid (Fr.trans (by repeat' first | exact Fr.refl _ | exact HG0.out | refine Fr.alloc ?_ _) hf1)
      have HB1 : Hid (Nb w1 w.heap.size (.int .i64 60) (.int .i64 n) (.string s) (.slice b0 len cap) (.int .i64 a)) := Lib.hid (Nb.fr (by first | exact HB0.out | exact Nb.al HB0.out _) hf1)
      obtain ⟨k10, k11, k12, k13, k14⟩ := HB1.out.cells
      clear hf1
      go_wp2_with fail
      go_ret
      rw [HR.out]
      exact ⟨rfl, (by repeat' first | exact Fr.refl _ | exact HG1.out | refine Fr.alloc ?_ _)⟩
  have z60 : (o == 60) = false := by rw [beq_eq_false_iff_ne]; exact g60
  by_cases g61 : o = 61
  · subst g61
    replace hR : R = (bare n s && allK P .const) := by first | exact hR | (rw [hR]; first | rfl | simp [declR])
    have HB0 := Lib.hid (Nb.new w (.int .i64 61) (.int .i64 n) (.string s) (.slice b0 len cap) (.int .i64 a))
    cases hv0 : (bare n s) with
    | true =>
      rw [hv0] at CZ00
      have HR : Hid (R = (allK P .const)) := Lib.hid (by first | exact hR | (rw [hR]; simp [HPL.out, named, someK, hasK_nil, hv0]))
      clear hR
      try clear h5
      go_enter Tryz.func255, Tryz.ntmps255
      go_wp2_with fail
      refine (CZ00.out _ (by repeat' first | exact Fr.refl _ | exact HG0.out | refine Fr.alloc ?_ _)).mono ?_
      rintro e w1 ⟨rfl, hf1⟩
      have HG1 : Hid (Fr w w1) := Lib.hid (Fr.trans (by repeat' first | exact Fr.refl _ | exact HG0.out | refine Fr.alloc ?_ _) hf1)
      have HB1 : Hid (Nb w1 w.heap.size (.int .i64 61) (.int .i64 n) (.string s) (.slice b0 len cap) (.int .i64 a)) := Lib.hid (Nb.fr (by first | exact HB0.out | exact Nb.al HB0.out _) hf1)
      obtain ⟨k10, k11, k12, k13, k14⟩ := HB1.out.cells
      clear hf1
      go_wp2_with fail
      refine (CA.out _ (by repeat' first | exact Fr.refl _ | exact HG1.out | refine Fr.alloc ?_ _) .const rfl).mono ?_
      rintro e w2 ⟨rfl, hf2⟩
      have HG2 : Hid (Fr w w2) := Lib.hid (Fr.trans (by repeat' first | exact Fr.refl _ | exact HG1.out | refine Fr.alloc ?_ _) hf2)
      have HB2 : Hid (Nb w2 w.heap.size (.int .i64 61) (.int .i64 n) (.string s) (.slice b0 len cap) (.int .i64 a)) := Lib.hid (Nb.fr (by first | exact HB1.out | exact Nb.al HB1.out _) hf2)
      obtain ⟨k20, k21, k22, k23, k24⟩ := HB2.out.cells
      clear hf2
      go_wp2_with fail
      go_ret
      rw [HR.out]
      exact ⟨rfl, (by repeat' first | exact Fr.refl _ | exact HG2.out | refine Fr.alloc ?_ _)⟩
    | false =>
      rw [hv0] at CZ00
      have HR : Hid (R = (false)) := Lib.hid (by first | exact hR | (rw [hR]; simp [HPL.out, named, someK, hasK_nil, hv0]))
      clear hR
      try clear h5
      go_enter Tryz.func255, Tryz.ntmps255
      go_wp2_with fail
      refine (CZ00.out _ (by repeat' first | exact Fr.refl _ | exact HG0.out | refine Fr.alloc ?_ _)).mono ?_
      rintro e w1 ⟨rfl, hf1⟩
      have HG1 : Hid (Fr w w1) := Lib.hid (Fr.trans (by repeat' first | exact Fr.refl _ | exact HG0.out | refine Fr.alloc ?_ _) hf1)
      have HB1 : Hid (Nb w1 w.heap.size (.int .i64 61) (.int .i64 n) (.string s) (.slice b0 len cap) (.int .i64 a)) := Lib.hid (Nb.fr (by first | exact HB0.out | exact Nb.al HB0.out _) hf1)
      obtain ⟨k10, k11, k12, k13, k14⟩ := HB1.out.cells
      clear hf1
      go_wp2_with fail
      go_ret
      rw [HR.out]
      exact ⟨rfl, (by repeat' first | exact Fr.refl _ | exact HG1.out | refine Fr.alloc ?_ _)⟩
  have z61 : (o == 61) = false := by rw [beq_eq_false_iff_ne]; exact g61
  by_cases g62 : o = 62
  · subst g62
    replace hR : R = (bare n s && allK P .const) := by first | exact hR | (rw [hR]; first | rfl | simp [declR])
    have HB0 := Lib.hid (Nb.new w (.int .i64 62) (.int .i64 n) (.string s) (.slice b0 len cap) (.int .i64 a))
    cases hv0 : (bare n s) with
    | true =>
      rw [hv0] at CZ00
      have HR : Hid (R = (allK P .const)) := Lib.hid (by first | exact hR | (rw [hR]; simp [HPL.out, named, someK, hasK_nil, hv0]))
      clear hR
      try clear h5
      go_enter Tryz.func255, Tryz.ntmps255
      go_wp2_with fail
      refine (CZ00.out _ (by repeat' first | exact Fr.refl _ | exact HG0.out | refine Fr.alloc ?_ _)).mono ?_
      rintro e w1 ⟨rfl, hf1⟩
      have HG1 : Hid (Fr w w1) := Lib.hid (Fr.trans (by repeat' first | exact Fr.refl _ | exact HG0.out | refine Fr.alloc ?_ _) hf1)
      have HB1 : Hid (Nb w1 w.heap.size (.int .i64 62) (.int .i64 n) (.string s) (.slice b0 len cap) (.int .i64 a)) := Lib.hid (Nb.fr (by first | exact HB0.out | exact Nb.al HB0.out _) hf1)
      obtain ⟨k10, k11, k12, k13, k14⟩ := HB1.out.cells
      clear hf1
      go_wp2_with fail
      refine (CA.out _ (by repeat' first | exact Fr.refl _ | exact HG1.out | refine Fr.alloc ?_ _) .const rfl).mono ?_
      rintro e w2 ⟨rfl, hf2⟩
      have HG2 : Hid (Fr w w2) := Lib.hid (Fr.trans (by repeat' first | exact Fr.refl _ | exact HG1.out | refine Fr.alloc ?_ _) hf2)
      have HB2 : Hid (Nb w2 w.heap.size (.int .i64 62) (.int .i64 n) (.string s) (.slice b0 len cap) (.int .i64 a)) := Lib.hid (Nb.fr (by first | exact HB1.out | exact Nb.al HB1.out _) hf2)
      obtain ⟨k20, k21, k22, k23, k24⟩ := HB2.out.cells
      clear hf2
      go_wp2_with fail
      go_ret
      rw [HR.out]
      exact ⟨rfl, (by repeat' first | exact Fr.refl _ | exact HG2.out | refine Fr.alloc ?_ _)⟩
    | false =>
      rw [hv0] at CZ00
      have HR : Hid (R = (false)) := Lib.hid (by first | exact hR | (rw [hR]; simp [HPL.out, named, someK, hasK_nil, hv0]))
      clear hR
      try clear h5
      go_enter Tryz.func255, Tryz.ntmps255
      go_wp2_with fail
      refine (CZ00.out _ (by repeat' first | exact Fr.refl _ | exact HG0.out | refine Fr.alloc ?_ _)).mono ?_
      rintro e w1 ⟨rfl, hf1⟩
      have HG1 : Hid (Fr w w1) := Lib.hid (Fr.trans (by repeat' first | exact Fr.refl _ | exact HG0.out | refine Fr.alloc ?_ _) hf1)
      have HB1 : Hid (Nb w1 w.heap.size (.int .i64 62) (.int .i64 n) (.string s) (.slice b0 len cap) (.int .i64 a)) := Lib.hid (Nb.fr (by first | exact HB0.out | exact Nb.al HB0.out _) hf1)
      obtain ⟨k10, k11, k12, k13, k14⟩ := HB1.out.cells
      clear hf1
      go_wp2_with fail
      go_ret
      rw [HR.out]
      exact ⟨rfl, (by repeat' first | exact Fr.refl _ | exact HG1.out | refine Fr.alloc ?_ _)⟩
  have z62 : (o == 62) = false := by rw [beq_eq_false_iff_ne]; exact g62
  by_cases g64 : o = 64
  · subst g64
    replace hR : R = (procK n s P) := by first | exact hR | (rw [hR]; first | rfl | simp [declR])
    have HB0 := Lib.hid (Nb.new w (.int .i64 64) (.int .i64 n) (.string s) (.slice b0 len cap) (.int .i64 a))
    cases hv1 : isNm s with
    | false =>
      rw [hv1] at CIn
      have HR : Hid (R = (false)) := Lib.hid (by first | exact hR | (rw [hR]; simp [procK, hv1]))
      clear hR
      go_enter Tryz.func255, Tryz.ntmps255
      go_wp2_with fail
      refine (CZ11.out _ (by repeat' first | exact Fr.refl _ | exact HG0.out | refine Fr.alloc ?_ _)).mono ?_
      rintro e w1 ⟨rfl, hf1⟩
      have HG1 : Hid (Fr w w1) := Lib.hid (Fr.trans (by repeat' first | exact Fr.refl _ | exact HG0.out | refine Fr.alloc ?_ _) hf1)
      have HB1 : Hid (Nb w1 w.heap.size (.int .i64 64) (.int .i64 n) (.string s) (.slice b0 len cap) (.int .i64 a)) := Lib.hid (Nb.fr (by first | exact HB0.out | exact Nb.al HB0.out _) hf1)
      obtain ⟨k10, k11, k12, k13, k14⟩ := HB1.out.cells
      clear hf1
      go_wp2_with fail
      refine (CIn.out _ (by repeat' first | exact Fr.refl _ | exact HG1.out | refine Fr.alloc ?_ _)).mono ?_
      rintro e w2 ⟨rfl, hf2⟩
      have HG2 : Hid (Fr w w2) := Lib.hid (Fr.trans (by repeat' first | exact Fr.refl _ | exact HG1.out | refine Fr.alloc ?_ _) hf2)
      have HB2 : Hid (Nb w2 w.heap.size (.int .i64 64) (.int .i64 n) (.string s) (.slice b0 len cap) (.int .i64 a)) := Lib.hid (Nb.fr (by first | exact HB1.out | exact Nb.al HB1.out _) hf2)
      obtain ⟨k20, k21, k22, k23, k24⟩ := HB2.out.cells
      clear hf2
      go_wp2_with fail
      go_ret
      rw [HR.out]
      exact ⟨rfl, (by repeat' first | exact Fr.refl _ | exact HG2.out | refine Fr.alloc ?_ _)⟩
    | true =>
      rw [hv1] at CIn
      by_cases hl0 : len = 0
      · subst hl0
        have HR : Hid (R = (false)) := Lib.hid (by first | exact hR | (rw [hR]; simp [procK, hv1, HPL.out]))
        clear hR
        go_enter Tryz.func255, Tryz.ntmps255
        go_wp2_with fail
        refine (CZ11.out _ (by repeat' first | exact Fr.refl _ | exact HG0.out | refine Fr.alloc ?_ _)).mono ?_
        rintro e w1 ⟨rfl, hf1⟩
        have HG1 : Hid (Fr w w1) := Lib.hid (Fr.trans (by repeat' first | exact Fr.refl _ | exact HG0.out | refine Fr.alloc ?_ _) hf1)
        have HB1 : Hid (Nb w1 w.heap.size (.int .i64 64) (.int .i64 n) (.string s) (.slice b0 0 cap) (.int .i64 a)) := Lib.hid (Nb.fr (by first | exact HB0.out | exact Nb.al HB0.out _) hf1)
        obtain ⟨k10, k11, k12, k13, k14⟩ := HB1.out.cells
        clear hf1
        go_wp2_with fail
        refine (CIn.out _ (by repeat' first | exact Fr.refl _ | exact HG1.out | refine Fr.alloc ?_ _)).mono ?_
        rintro e w2 ⟨rfl, hf2⟩
        have HG2 : Hid (Fr w w2) := Lib.hid (Fr.trans (by repeat' first | exact Fr.refl _ | exact HG1.out | refine Fr.alloc ?_ _) hf2)
        have HB2 : Hid (Nb w2 w.heap.size (.int .i64 64) (.int .i64 n) (.string s) (.slice b0 0 cap) (.int .i64 a)) := Lib.hid (Nb.fr (by first | exact HB1.out | exact Nb.al HB1.out _) hf2)
        obtain ⟨k20, k21, k22, k23, k24⟩ := HB2.out.cells
        clear hf2
        go_wp2_with fail
        go_ret
        rw [HR.out]
        exact ⟨rfl, (by repeat' first | exact Fr.refl _ | exact HG2.out | refine Fr.alloc ?_ _)⟩
      · obtain ⟨k, b, off, t, la, ll, lc, hlk, rfl, hlast, hc5, hCL, hCA⟩ := H64.out (by omega)
        have HC5 := Lib.hid hc5
        have CL := Lib.hid hCL
        have CA1 := Lib.hid hCA
        unfold procK at hR
        rw [HPL.out, show len - 1 = k by omega, hlast, hlast] at hR
        have hcm2 := HCM.out
        have i1 : IntKind.i64.wrap ((len : Int) - 1) = (k : Int) := by rw [show (len : Int) - 1 = (k : Int) by omega]; exact IntWalk.i64_in _ (by omega)
        have i2 : decide ((k : Int) < 0) = false := decide_eq_false (by omega)
        have hl1 : 0 < len := by omega
        have hkl : k < len := by omega
        have hkc : (k : Int) ≤ cap := by have := HCAP.out; omega
        have hkc2 : (k : Int) < len := by omega
        clear hlk hlast hc5 hCL hCA hcm2 hl0
        cases hv2 : allK (P.take k) .name with
        | false =>
          rw [hv2] at CA1
          have HR : Hid (R = (false)) := Lib.hid (by first | exact hR | (rw [hR]; simp [hv1, hv2, hl1]))
          clear hR
          go_enter Tryz.func255, Tryz.ntmps255
          go_wp2_with fail
          refine (CZ11.out _ (by repeat' first | exact Fr.refl _ | exact HG0.out | refine Fr.alloc ?_ _)).mono ?_
          rintro e w1 ⟨rfl, hf1⟩
          have HG1 : Hid (Fr w w1) := Lib.hid (Fr.trans (by repeat' first | exact Fr.refl _ | exact HG0.out | refine Fr.alloc ?_ _) hf1)
          have HB1 : Hid (Nb w1 w.heap.size (.int .i64 64) (.int .i64 n) (.string s) (.slice (some ⟨b, off, none⟩) len cap) (.int .i64 a)) := Lib.hid (Nb.fr (by first | exact HB0.out | exact Nb.al HB0.out _) hf1)
          obtain ⟨k10, k11, k12, k13, k14⟩ := HB1.out.cells
          clear hf1
          go_wp2_with fail
          refine (CIn.out _ (by repeat' first | exact Fr.refl _ | exact HG1.out | refine Fr.alloc ?_ _)).mono ?_
          rintro e w2 ⟨rfl, hf2⟩
          have HG2 : Hid (Fr w w2) := Lib.hid (Fr.trans (by repeat' first | exact Fr.refl _ | exact HG1.out | refine Fr.alloc ?_ _) hf2)
          have HB2 : Hid (Nb w2 w.heap.size (.int .i64 64) (.int .i64 n) (.string s) (.slice (some ⟨b, off, none⟩) len cap) (.int .i64 a)) := Lib.hid (Nb.fr (by first | exact HB1.out | exact Nb.al HB1.out _) hf2)
          obtain ⟨k20, k21, k22, k23, k24⟩ := HB2.out.cells
          clear hf2
          go_wp2_with fail
          refine (CA1.out _ (by repeat' first | exact Fr.refl _ | exact HG2.out | refine Fr.alloc ?_ _)).mono ?_
          rintro e w3 ⟨rfl, hf3⟩
          have HG3 : Hid (Fr w w3) := Lib.hid (Fr.trans (by repeat' first | exact Fr.refl _ | exact HG2.out | refine Fr.alloc ?_ _) hf3)
          have HB3 : Hid (Nb w3 w.heap.size (.int .i64 64) (.int .i64 n) (.string s) (.slice (some ⟨b, off, none⟩) len cap) (.int .i64 a)) := Lib.hid (Nb.fr (by first | exact HB2.out | exact Nb.al HB2.out _) hf3)
          obtain ⟨k30, k31, k32, k33, k34⟩ := HB3.out.cells
          clear hf3
          go_wp2_with fail
          go_ret
          rw [HR.out]
          exact ⟨rfl, (by repeat' first | exact Fr.refl _ | exact HG3.out | refine Fr.alloc ?_ _)⟩
        | true =>
          rw [hv2] at CA1
          have CL1 := Lib.hid (fun W h => CL.out W h .expr rfl)
          have CL2 := Lib.hid (fun W h => CL.out W h .cmd rfl)
          by_cases h0 : n = 0
          · subst h0
            cases hv3 : okP t .expr with
            | true =>
              rw [hv3] at CL1
              have HR : Hid (R = (true)) := Lib.hid (by first | exact hR | (rw [hR]; simp [hv1, hv2, hv3, hl1]))
              clear hR
              go_enter Tryz.func255, Tryz.ntmps255
              go_wp2_with fail
              refine (CZ11.out _ (by repeat' first | exact Fr.refl _ | exact HG0.out | refine Fr.alloc ?_ _)).mono ?_
              rintro e w1 ⟨rfl, hf1⟩
              have HG1 : Hid (Fr w w1) := Lib.hid (Fr.trans (by repeat' first | exact Fr.refl _ | exact HG0.out | refine Fr.alloc ?_ _) hf1)
              have HB1 : Hid (Nb w1 w.heap.size (.int .i64 64) (.int .i64 0) (.string s) (.slice (some ⟨b, off, none⟩) len cap) (.int .i64 a)) := Lib.hid (Nb.fr (by first | exact HB0.out | exact Nb.al HB0.out _) hf1)
              obtain ⟨k10, k11, k12, k13, k14⟩ := HB1.out.cells
              clear hf1
              go_wp2_with fail
              refine (CIn.out _ (by repeat' first | exact Fr.refl _ | exact HG1.out | refine Fr.alloc ?_ _)).mono ?_
              rintro e w2 ⟨rfl, hf2⟩
              have HG2 : Hid (Fr w w2) := Lib.hid (Fr.trans (by repeat' first | exact Fr.refl _ | exact HG1.out | refine Fr.alloc ?_ _) hf2)
              have HB2 : Hid (Nb w2 w.heap.size (.int .i64 64) (.int .i64 0) (.string s) (.slice (some ⟨b, off, none⟩) len cap) (.int .i64 a)) := Lib.hid (Nb.fr (by first | exact HB1.out | exact Nb.al HB1.out _) hf2)
              obtain ⟨k20, k21, k22, k23, k24⟩ := HB2.out.cells
              clear hf2
              go_wp2_with fail
              refine (CA1.out _ (by repeat' first | exact Fr.refl _ | exact HG2.out | refine Fr.alloc ?_ _)).mono ?_
              rintro e w3 ⟨rfl, hf3⟩
              have HG3 : Hid (Fr w w3) := Lib.hid (Fr.trans (by repeat' first | exact Fr.refl _ | exact HG2.out | refine Fr.alloc ?_ _) hf3)
              have HB3 : Hid (Nb w3 w.heap.size (.int .i64 64) (.int .i64 0) (.string s) (.slice (some ⟨b, off, none⟩) len cap) (.int .i64 a)) := Lib.hid (Nb.fr (by first | exact HB2.out | exact Nb.al HB2.out _) hf3)
              obtain ⟨k30, k31, k32, k33, k34⟩ := HB3.out.cells
              clear hf3
              obtain ⟨x0, x1, x2, x3, x4⟩ := HC5.out.fr HG3.out
              go_wp2_with fail
              refine (CL1.out _ (by repeat' first | exact Fr.refl _ | exact HG3.out | refine Fr.alloc ?_ _)).mono ?_
              rintro e w4 ⟨rfl, hf4⟩
              have HG4 : Hid (Fr w w4) := Lib.hid (Fr.trans (by repeat' first | exact Fr.refl _ | exact HG3.out | refine Fr.alloc ?_ _) hf4)
              have HB4 : Hid (Nb w4 w.heap.size (.int .i64 64) (.int .i64 0) (.string s) (.slice (some ⟨b, off, none⟩) len cap) (.int .i64 a)) := Lib.hid (Nb.fr (by first | exact HB3.out | exact Nb.al HB3.out _) hf4)
              obtain ⟨k40, k41, k42, k43, k44⟩ := HB4.out.cells
              clear hf4
              go_wp2_with fail
              go_ret
              rw [HR.out]
              exact ⟨rfl, (by repeat' first | exact Fr.refl _ | exact HG4.out | refine Fr.alloc ?_ _)⟩
            | false =>
              rw [hv3] at CL1
              have HR : Hid (R = (false)) := Lib.hid (by first | exact hR | (rw [hR]; simp [hv1, hv2, hv3]))
              clear hR
              go_enter Tryz.func255, Tryz.ntmps255
              go_wp2_with fail
              refine (CZ11.out _ (by repeat' first | exact Fr.refl _ | exact HG0.out | refine Fr.alloc ?_ _)).mono ?_
              rintro e w1 ⟨rfl, hf1⟩
              have HG1 : Hid (Fr w w1) := Lib.hid (Fr.trans (by repeat' first | exact Fr.refl _ | exact HG0.out | refine Fr.alloc ?_ _) hf1)
              have HB1 : Hid (Nb w1 w.heap.size (.int .i64 64) (.int .i64 0) (.string s) (.slice (some ⟨b, off, none⟩) len cap) (.int .i64 a)) := Lib.hid (Nb.fr (by first | exact HB0.out | exact Nb.al HB0.out _) hf1)
              obtain ⟨k10, k11, k12, k13, k14⟩ := HB1.out.cells
              clear hf1
              go_wp2_with fail
              refine (CIn.out _ (by repeat' first | exact Fr.refl _ | exact HG1.out | refine Fr.alloc ?_ _)).mono ?_
              rintro e w2 ⟨rfl, hf2⟩
              have HG2 : Hid (Fr w w2) := Lib.hid (Fr.trans (by repeat' first | exact Fr.refl _ | exact HG1.out | refine Fr.alloc ?_ _) hf2)
              have HB2 : Hid (Nb w2 w.heap.size (.int .i64 64) (.int .i64 0) (.string s) (.slice (some ⟨b, off, none⟩) len cap) (.int .i64 a)) := Lib.hid (Nb.fr (by first | exact HB1.out | exact Nb.al HB1.out _) hf2)
              obtain ⟨k20, k21, k22, k23, k24⟩ := HB2.out.cells
              clear hf2
              go_wp2_with fail
              refine (CA1.out _ (by repeat' first | exact Fr.refl _ | exact HG2.out | refine Fr.alloc ?_ _)).mono ?_
              rintro e w3 ⟨rfl, hf3⟩
              have HG3 : Hid (Fr w w3) := Lib.hid (Fr.trans (by repeat' first | exact Fr.refl _ | exact HG2.out | refine Fr.alloc ?_ _) hf3)
              have HB3 : Hid (Nb w3 w.heap.size (.int .i64 64) (.int .i64 0) (.string s) (.slice (some ⟨b, off, none⟩) len cap) (.int .i64 a)) := Lib.hid (Nb.fr (by first | exact HB2.out | exact Nb.al HB2.out _) hf3)
              obtain ⟨k30, k31, k32, k33, k34⟩ := HB3.out.cells
              clear hf3
              obtain ⟨x0, x1, x2, x3, x4⟩ := HC5.out.fr HG3.out
              go_wp2_with fail
              refine (CL1.out _ (by repeat' first | exact Fr.refl _ | exact HG3.out | refine Fr.alloc ?_ _)).mono ?_
              rintro e w4 ⟨rfl, hf4⟩
              have HG4 : Hid (Fr w w4) := Lib.hid (Fr.trans (by repeat' first | exact Fr.refl _ | exact HG3.out | refine Fr.alloc ?_ _) hf4)
              have HB4 : Hid (Nb w4 w.heap.size (.int .i64 64) (.int .i64 0) (.string s) (.slice (some ⟨b, off, none⟩) len cap) (.int .i64 a)) := Lib.hid (Nb.fr (by first | exact HB3.out | exact Nb.al HB3.out _) hf4)
              obtain ⟨k40, k41, k42, k43, k44⟩ := HB4.out.cells
              clear hf4
              go_wp2_with fail
              go_ret
              rw [HR.out]
              exact ⟨rfl, (by repeat' first | exact Fr.refl _ | exact HG4.out | refine Fr.alloc ?_ _)⟩
          · have e0 : (n == 0) = false := by rw [beq_eq_false_iff_ne]; exact h0
            by_cases h1 : n = 1
            · subst h1
              have HR : Hid (R = (okP t .cmd)) := Lib.hid (by first | exact hR | (rw [hR]; simp [hv1, hv2, hl1]))
              clear hR
              go_enter Tryz.func255, Tryz.ntmps255
              go_wp2_with fail
              refine (CZ11.out _ (by repeat' first | exact Fr.refl _ | exact HG0.out | refine Fr.alloc ?_ _)).mono ?_
              rintro e w1 ⟨rfl, hf1⟩
              have HG1 : Hid (Fr w w1) := Lib.hid (Fr.trans (by repeat' first | exact Fr.refl _ | exact HG0.out | refine Fr.alloc ?_ _) hf1)
              have HB1 : Hid (Nb w1 w.heap.size (.int .i64 64) (.int .i64 1) (.string s) (.slice (some ⟨b, off, none⟩) len cap) (.int .i64 a)) := Lib.hid (Nb.fr (by first | exact HB0.out | exact Nb.al HB0.out _) hf1)
              obtain ⟨k10, k11, k12, k13, k14⟩ := HB1.out.cells
              clear hf1
              go_wp2_with fail
              refine (CIn.out _ (by repeat' first | exact Fr.refl _ | exact HG1.out | refine Fr.alloc ?_ _)).mono ?_
              rintro e w2 ⟨rfl, hf2⟩
              have HG2 : Hid (Fr w w2) := Lib.hid (Fr.trans (by repeat' first | exact Fr.refl _ | exact HG1.out | refine Fr.alloc ?_ _) hf2)
              have HB2 : Hid (Nb w2 w.heap.size (.int .i64 64) (.int .i64 1) (.string s) (.slice (some ⟨b, off, none⟩) len cap) (.int .i64 a)) := Lib.hid (Nb.fr (by first | exact HB1.out | exact Nb.al HB1.out _) hf2)
              obtain ⟨k20, k21, k22, k23, k24⟩ := HB2.out.cells
              clear hf2
              go_wp2_with fail
              refine (CA1.out _ (by repeat' first | exact Fr.refl _ | exact HG2.out | refine Fr.alloc ?_ _)).mono ?_
              rintro e w3 ⟨rfl, hf3⟩
              have HG3 : Hid (Fr w w3) := Lib.hid (Fr.trans (by repeat' first | exact Fr.refl _ | exact HG2.out | refine Fr.alloc ?_ _) hf3)
              have HB3 : Hid (Nb w3 w.heap.size (.int .i64 64) (.int .i64 1) (.string s) (.slice (some ⟨b, off, none⟩) len cap) (.int .i64 a)) := Lib.hid (Nb.fr (by first | exact HB2.out | exact Nb.al HB2.out _) hf3)
              obtain ⟨k30, k31, k32, k33, k34⟩ := HB3.out.cells
              clear hf3
              obtain ⟨x0, x1, x2, x3, x4⟩ := HC5.out.fr HG3.out
              go_wp2_with fail
              refine (CL2.out _ (by repeat' first | exact Fr.refl _ | exact HG3.out | refine Fr.alloc ?_ _)).mono ?_
              rintro e w4 ⟨rfl, hf4⟩
              have HG4 : Hid (Fr w w4) := Lib.hid (Fr.trans (by repeat' first | exact Fr.refl _ | exact HG3.out | refine Fr.alloc ?_ _) hf4)
              have HB4 : Hid (Nb w4 w.heap.size (.int .i64 64) (.int .i64 1) (.string s) (.slice (some ⟨b, off, none⟩) len cap) (.int .i64 a)) := Lib.hid (Nb.fr (by first | exact HB3.out | exact Nb.al HB3.out _) hf4)
              obtain ⟨k40, k41, k42, k43, k44⟩ := HB4.out.cells
              clear hf4
              go_wp2_with fail
              go_ret
              rw [HR.out]
              exact ⟨rfl, (by repeat' first | exact Fr.refl _ | exact HG4.out | refine Fr.alloc ?_ _)⟩
            · have e1 : (n == 1) = false := by rw [beq_eq_false_iff_ne]; exact h1
              have HR : Hid (R = (false)) := Lib.hid (by first | exact hR | (rw [hR]; simp [h0, h1]))
              clear hR
              go_enter Tryz.func255, Tryz.ntmps255
              go_wp2_with fail
              refine (CZ11.out _ (by repeat' first | exact Fr.refl _ | exact HG0.out | refine Fr.alloc ?_ _)).mono ?_
              rintro e w1 ⟨rfl, hf1⟩
              have HG1 : Hid (Fr w w1) := Lib.hid (Fr.trans (by repeat' first | exact Fr.refl _ | exact HG0.out | refine Fr.alloc ?_ _) hf1)
              have HB1 : Hid (Nb w1 w.heap.size (.int .i64 64) (.int .i64 n) (.string s) (.slice (some ⟨b, off, none⟩) len cap) (.int .i64 a)) := Lib.hid (Nb.fr (by first | exact HB0.out | exact Nb.al HB0.out _) hf1)
              obtain ⟨k10, k11, k12, k13, k14⟩ := HB1.out.cells
              clear hf1
              go_wp2_with fail
              refine (CIn.out _ (by repeat' first | exact Fr.refl _ | exact HG1.out | refine Fr.alloc ?_ _)).mono ?_
              rintro e w2 ⟨rfl, hf2⟩
              have HG2 : Hid (Fr w w2) := Lib.hid (Fr.trans (by repeat' first | exact Fr.refl _ | exact HG1.out | refine Fr.alloc ?_ _) hf2)
              have HB2 : Hid (Nb w2 w.heap.size (.int .i64 64) (.int .i64 n) (.string s) (.slice (some ⟨b, off, none⟩) len cap) (.int .i64 a)) := Lib.hid (Nb.fr (by first | exact HB1.out | exact Nb.al HB1.out _) hf2)
              obtain ⟨k20, k21, k22, k23, k24⟩ := HB2.out.cells
              clear hf2
              go_wp2_with fail
              refine (CA1.out _ (by repeat' first | exact Fr.refl _ | exact HG2.out | refine Fr.alloc ?_ _)).mono ?_
              rintro e w3 ⟨rfl, hf3⟩
              have HG3 : Hid (Fr w w3) := Lib.hid (Fr.trans (by repeat' first | exact Fr.refl _ | exact HG2.out | refine Fr.alloc ?_ _) hf3)
              have HB3 : Hid (Nb w3 w.heap.size (.int .i64 64) (.int .i64 n) (.string s) (.slice (some ⟨b, off, none⟩) len cap) (.int .i64 a)) := Lib.hid (Nb.fr (by first | exact HB2.out | exact Nb.al HB2.out _) hf3)
              obtain ⟨k30, k31, k32, k33, k34⟩ := HB3.out.cells
              clear hf3
              obtain ⟨x0, x1, x2, x3, x4⟩ := HC5.out.fr HG3.out
              go_wp2_with fail
              go_ret
              rw [HR.out]
              exact ⟨rfl, (by repeat' first | exact Fr.refl _ | exact HG3.out | refine Fr.alloc ?_ _)⟩
  have z64 : (o == 64) = false := by rw [beq_eq_false_iff_ne]; exact g64
  replace hR : R = (false) := by first | (rw [hR]; simp [declR, g60, g61, g62, g64]; done) | (rw [hR]; rfl)
  clear g60 g61 g62 g64
  have HB0 := Lib.hid (Nb.new w (.int .i64 o) (.int .i64 n) (.string s) (.slice b0 len cap) (.int .i64 a))
  have HR : Hid (R = (false)) := Lib.hid (by first | exact hR | (rw [hR]; simp [HPL.out, named, someK, hasK_nil]))
  clear hR
  try clear h5
  go_enter Tryz.func255, Tryz.ntmps255
  go_wp2_with fail
  go_ret
  rw [HR.out]
  exact ⟨rfl, (by repeat' first | exact Fr.refl _ | exact HG0.out | refine Fr.alloc ?_ _)⟩
set_option maxRecDepth 100000 in
set_option maxHeartbeats 8000000 in
theorem formed_expr (t : Nd) (lt : Value) (w : World) (hlt : LN w lt t.l) (hs : t.s.size ≤ 2000000) (hn64 : wf64 t.n) (hq : RQ w t.l) :
    Calls Tryz.prog 210 #[ndV t lt, .int .i64 1] w fun e w' => e = .returned (.bool (nodeR .expr t.op t.n t.s (okL t.l))) ∧ Fr w w' := by
  obtain ⟨o, n, s, l, a⟩ := t
  have hlt : LN w lt l := hlt
  have hs : s.size ≤ 2000000 := hs
  have hn64 : wf64 n := hn64
  have hq : RQ w l := hq
  show Calls _ _ #[.agg #[.int .i64 o, .int .i64 n, .string s, lt, .int .i64 a], .int .i64 1] w fun e w' => e = .returned (.bool (nodeR .expr o n s (okL l))) ∧ Fr w w'
  obtain ⟨b0, cap, rfl, hcap, hcm, _⟩ := hlt.form
  obtain ⟨len, hlen⟩ : ∃ x, x = l.length := ⟨_, rfl⟩
  rw [← hlen] at hlt ⊢
  obtain ⟨P, hP⟩ : ∃ x, x = okL l := ⟨_, rfl⟩
  rw [← hP]
  have CFE : Hid (∀ W, Fr w W → Calls Tryz.prog 250 #[.agg #[.int .i64 o, .int .i64 n, .string s, .slice b0 len cap, .int .i64 a]] W fun e w' => e = .returned (.bool (exprR o n s P)) ∧ Fr W w') := Lib.hid (fun W h => by rw [hP]; exact formedExpr_of ⟨o, n, s, l, a⟩ _ W (hlt.fr h) hs hn64 (hq.fr h))
  obtain ⟨R, hR⟩ : ∃ r, r = (nodeR .expr o n s P) := ⟨_, rfl⟩
  rw [← hR]
  have HPL : Hid (P.length = len) := Lib.hid (by rw [hP, hlen, okL_len])
  have hn1 := Lib.hid hn64
  clear hlt hq hP hlen hcap hcm hs hn64
  have HG0 : Hid (Fr w w) := Lib.hid (Fr.refl w)
  replace hR : R = (exprR o n s P) := by first | (rw [hR]; simp [nodeR]; done) | (rw [hR]; rfl)
  have HB0 := Lib.hid (Nb.new w (.int .i64 o) (.int .i64 n) (.string s) (.slice b0 len cap) (.int .i64 a))
  have HR : Hid (R = (exprR o n s P)) := Lib.hid (by first | exact hR | (rw [hR]; simp [HPL.out, named, someK, hasK_nil]))
  clear hR
  try clear h5
  go_enter Tryz.func210, Tryz.ntmps210
  go_wp2_with fail
  refine (CFE.out _ (by repeat' first | exact Fr.refl _ | exact HG0.out | refine Fr.alloc ?_ _)).mono ?_
  rintro e w1 ⟨rfl, hf1⟩
  have HG1 : Hid (Fr w w1) := Lib.hid (Fr.trans (by repeat' first | exact Fr.refl _ | exact HG0.out | refine Fr.alloc ?_ _) hf1)
  have HB1 : Hid (Nb w1 w.heap.size (.int .i64 o) (.int .i64 n) (.string s) (.slice b0 len cap) (.int .i64 a)) := Lib.hid (Nb.fr (by first | exact HB0.out | exact Nb.al HB0.out _) hf1)
  obtain ⟨k10, k11, k12, k13, k14⟩ := HB1.out.cells
  clear hf1
  go_wp2_with fail
  go_ret
  rw [HR.out]
  exact ⟨rfl, (by repeat' first | exact Fr.refl _ | exact HG1.out | refine Fr.alloc ?_ _)⟩
set_option maxRecDepth 100000 in
set_option maxHeartbeats 8000000 in
theorem formed_cmd (t : Nd) (lt : Value) (w : World) (hlt : LN w lt t.l) (hs : t.s.size ≤ 2000000) (hn64 : wf64 t.n) (hq : RQ w t.l) :
    Calls Tryz.prog 210 #[ndV t lt, .int .i64 2] w fun e w' => e = .returned (.bool (nodeR .cmd t.op t.n t.s (okL t.l))) ∧ Fr w w' := by
  obtain ⟨o, n, s, l, a⟩ := t
  have hlt : LN w lt l := hlt
  have hs : s.size ≤ 2000000 := hs
  have hn64 : wf64 n := hn64
  have hq : RQ w l := hq
  show Calls _ _ #[.agg #[.int .i64 o, .int .i64 n, .string s, lt, .int .i64 a], .int .i64 2] w fun e w' => e = .returned (.bool (nodeR .cmd o n s (okL l))) ∧ Fr w w'
  obtain ⟨b0, cap, rfl, hcap, hcm, _⟩ := hlt.form
  obtain ⟨len, hlen⟩ : ∃ x, x = l.length := ⟨_, rfl⟩
  rw [← hlen] at hlt ⊢
  obtain ⟨P, hP⟩ : ∃ x, x = okL l := ⟨_, rfl⟩
  rw [← hP]
  have CFC : Hid (∀ W, Fr w W → Calls Tryz.prog 251 #[.agg #[.int .i64 o, .int .i64 n, .string s, .slice b0 len cap, .int .i64 a]] W fun e w' => e = .returned (.bool (cmdR o n s P)) ∧ Fr W w') := Lib.hid (fun W h => by rw [hP]; exact formedCommand_of ⟨o, n, s, l, a⟩ _ W (hlt.fr h) hs hn64 (hq.fr h))
  obtain ⟨R, hR⟩ : ∃ r, r = (nodeR .cmd o n s P) := ⟨_, rfl⟩
  rw [← hR]
  have HPL : Hid (P.length = len) := Lib.hid (by rw [hP, hlen, okL_len])
  have hn1 := Lib.hid hn64
  clear hlt hq hP hlen hcap hcm hs hn64
  have HG0 : Hid (Fr w w) := Lib.hid (Fr.refl w)
  replace hR : R = (cmdR o n s P) := by first | (rw [hR]; simp [nodeR]; done) | (rw [hR]; rfl)
  have HB0 := Lib.hid (Nb.new w (.int .i64 o) (.int .i64 n) (.string s) (.slice b0 len cap) (.int .i64 a))
  have HR : Hid (R = (cmdR o n s P)) := Lib.hid (by first | exact hR | (rw [hR]; simp [HPL.out, named, someK, hasK_nil]))
  clear hR
  try clear h5
  go_enter Tryz.func210, Tryz.ntmps210
  go_wp2_with fail
  refine (CFC.out _ (by repeat' first | exact Fr.refl _ | exact HG0.out | refine Fr.alloc ?_ _)).mono ?_
  rintro e w1 ⟨rfl, hf1⟩
  have HG1 : Hid (Fr w w1) := Lib.hid (Fr.trans (by repeat' first | exact Fr.refl _ | exact HG0.out | refine Fr.alloc ?_ _) hf1)
  have HB1 : Hid (Nb w1 w.heap.size (.int .i64 o) (.int .i64 n) (.string s) (.slice b0 len cap) (.int .i64 a)) := Lib.hid (Nb.fr (by first | exact HB0.out | exact Nb.al HB0.out _) hf1)
  obtain ⟨k10, k11, k12, k13, k14⟩ := HB1.out.cells
  clear hf1
  go_wp2_with fail
  go_ret
  rw [HR.out]
  exact ⟨rfl, (by repeat' first | exact Fr.refl _ | exact HG1.out | refine Fr.alloc ?_ _)⟩
set_option maxRecDepth 100000 in
set_option maxHeartbeats 8000000 in
theorem formed_decl (t : Nd) (lt : Value) (w : World) (hlt : LN w lt t.l) (hs : t.s.size ≤ 2000000) (hn64 : wf64 t.n) (hq : RQ w t.l) :
    Calls Tryz.prog 210 #[ndV t lt, .int .i64 8] w fun e w' => e = .returned (.bool (nodeR .decl t.op t.n t.s (okL t.l))) ∧ Fr w w' := by
  obtain ⟨o, n, s, l, a⟩ := t
  have hlt : LN w lt l := hlt
  have hs : s.size ≤ 2000000 := hs
  have hn64 : wf64 n := hn64
  have hq : RQ w l := hq
  show Calls _ _ #[.agg #[.int .i64 o, .int .i64 n, .string s, lt, .int .i64 a], .int .i64 8] w fun e w' => e = .returned (.bool (nodeR .decl o n s (okL l))) ∧ Fr w w'
  obtain ⟨b0, cap, rfl, hcap, hcm, _⟩ := hlt.form
  obtain ⟨len, hlen⟩ : ∃ x, x = l.length := ⟨_, rfl⟩
  rw [← hlen] at hlt ⊢
  obtain ⟨P, hP⟩ : ∃ x, x = okL l := ⟨_, rfl⟩
  rw [← hP]
  have CFD : Hid (∀ W, Fr w W → Calls Tryz.prog 255 #[.agg #[.int .i64 o, .int .i64 n, .string s, .slice b0 len cap, .int .i64 a]] W fun e w' => e = .returned (.bool (declR o n s P)) ∧ Fr W w') := Lib.hid (fun W h => by rw [hP]; exact formedDecl_of ⟨o, n, s, l, a⟩ _ W (hlt.fr h) hs hn64 (hq.fr h))
  obtain ⟨R, hR⟩ : ∃ r, r = (nodeR .decl o n s P) := ⟨_, rfl⟩
  rw [← hR]
  have HPL : Hid (P.length = len) := Lib.hid (by rw [hP, hlen, okL_len])
  have hn1 := Lib.hid hn64
  clear hlt hq hP hlen hcap hcm hs hn64
  have HG0 : Hid (Fr w w) := Lib.hid (Fr.refl w)
  replace hR : R = (declR o n s P) := by first | (rw [hR]; simp [nodeR]; done) | (rw [hR]; rfl)
  have HB0 := Lib.hid (Nb.new w (.int .i64 o) (.int .i64 n) (.string s) (.slice b0 len cap) (.int .i64 a))
  have HR : Hid (R = (declR o n s P)) := Lib.hid (by first | exact hR | (rw [hR]; simp [HPL.out, named, someK, hasK_nil]))
  clear hR
  try clear h5
  go_enter Tryz.func210, Tryz.ntmps210
  go_wp2_with fail
  refine (CFD.out _ (by repeat' first | exact Fr.refl _ | exact HG0.out | refine Fr.alloc ?_ _)).mono ?_
  rintro e w1 ⟨rfl, hf1⟩
  have HG1 : Hid (Fr w w1) := Lib.hid (Fr.trans (by repeat' first | exact Fr.refl _ | exact HG0.out | refine Fr.alloc ?_ _) hf1)
  have HB1 : Hid (Nb w1 w.heap.size (.int .i64 o) (.int .i64 n) (.string s) (.slice b0 len cap) (.int .i64 a)) := Lib.hid (Nb.fr (by first | exact HB0.out | exact Nb.al HB0.out _) hf1)
  obtain ⟨k10, k11, k12, k13, k14⟩ := HB1.out.cells
  clear hf1
  go_wp2_with fail
  go_ret
  rw [HR.out]
  exact ⟨rfl, (by repeat' first | exact Fr.refl _ | exact HG1.out | refine Fr.alloc ?_ _)⟩
set_option maxRecDepth 100000 in
set_option maxHeartbeats 8000000 in
theorem formed_name (t : Nd) (lt : Value) (w : World) (hlt : LN w lt t.l) (hs : t.s.size ≤ 2000000) (hn64 : wf64 t.n) (hq : RQ w t.l) :
    Calls Tryz.prog 210 #[ndV t lt, .int .i64 6] w fun e w' => e = .returned (.bool (nodeR .name t.op t.n t.s (okL t.l))) ∧ Fr w w' := by
  obtain ⟨o, n, s, l, a⟩ := t
  have hlt : LN w lt l := hlt
  have hs : s.size ≤ 2000000 := hs
  have hn64 : wf64 n := hn64
  have hq : RQ w l := hq
  show Calls _ _ #[.agg #[.int .i64 o, .int .i64 n, .string s, lt, .int .i64 a], .int .i64 6] w fun e w' => e = .returned (.bool (nodeR .name o n s (okL l))) ∧ Fr w w'
  obtain ⟨b0, cap, rfl, hcap, hcm, _⟩ := hlt.form
  obtain ⟨len, hlen⟩ : ∃ x, x = l.length := ⟨_, rfl⟩
  rw [← hlen] at hlt ⊢
  obtain ⟨P, hP⟩ : ∃ x, x = okL l := ⟨_, rfl⟩
  rw [← hP]
  have CFE : Hid (∀ W, Fr w W → Calls Tryz.prog 250 #[.agg #[.int .i64 o, .int .i64 n, .string s, .slice b0 len cap, .int .i64 a]] W fun e w' => e = .returned (.bool (exprR o n s P)) ∧ Fr W w') := Lib.hid (fun W h => by rw [hP]; exact formedExpr_of ⟨o, n, s, l, a⟩ _ W (hlt.fr h) hs hn64 (hq.fr h))
  obtain ⟨R, hR⟩ : ∃ r, r = (nodeR .name o n s P) := ⟨_, rfl⟩
  rw [← hR]
  have HPL : Hid (P.length = len) := Lib.hid (by rw [hP, hlen, okL_len])
  have hn1 := Lib.hid hn64
  clear hlt hq hP hlen hcap hcm hs hn64
  have HG0 : Hid (Fr w w) := Lib.hid (Fr.refl w)
  by_cases g6 : o = 6
  · subst g6
    replace hR : R = (exprR 6 n s P) := by first | exact hR | (rw [hR]; first | rfl | simp [nodeR, nameR, exprR])
    have HB0 := Lib.hid (Nb.new w (.int .i64 6) (.int .i64 n) (.string s) (.slice b0 len cap) (.int .i64 a))
    have HR : Hid (R = (exprR 6 n s P)) := Lib.hid (by first | exact hR | (rw [hR]; simp [HPL.out, named, someK, hasK_nil]))
    clear hR
    try clear h5
    go_enter Tryz.func210, Tryz.ntmps210
    go_wp2_with fail
    refine (CFE.out _ (by repeat' first | exact Fr.refl _ | exact HG0.out | refine Fr.alloc ?_ _)).mono ?_
    rintro e w1 ⟨rfl, hf1⟩
    have HG1 : Hid (Fr w w1) := Lib.hid (Fr.trans (by repeat' first | exact Fr.refl _ | exact HG0.out | refine Fr.alloc ?_ _) hf1)
    have HB1 : Hid (Nb w1 w.heap.size (.int .i64 6) (.int .i64 n) (.string s) (.slice b0 len cap) (.int .i64 a)) := Lib.hid (Nb.fr (by first | exact HB0.out | exact Nb.al HB0.out _) hf1)
    obtain ⟨k10, k11, k12, k13, k14⟩ := HB1.out.cells
    clear hf1
    go_wp2_with fail
    go_ret
    rw [HR.out]
    exact ⟨rfl, (by repeat' first | exact Fr.refl _ | exact HG1.out | refine Fr.alloc ?_ _)⟩
  have z6 : (o == 6) = false := by rw [beq_eq_false_iff_ne]; exact g6
  replace hR : R = (false) := by first | (rw [hR]; simp [nodeR, nameR, exprR, g6]; done) | (rw [hR]; rfl)
  clear g6
  have HB0 := Lib.hid (Nb.new w (.int .i64 o) (.int .i64 n) (.string s) (.slice b0 len cap) (.int .i64 a))
  have HR : Hid (R = (false)) := Lib.hid (by first | exact hR | (rw [hR]; simp [HPL.out, named, someK, hasK_nil]))
  clear hR
  try clear h5
  go_enter Tryz.func210, Tryz.ntmps210
  go_wp2_with fail
  go_ret
  rw [HR.out]
  exact ⟨rfl, (by repeat' first | exact Fr.refl _ | exact HG0.out | refine Fr.alloc ?_ _)⟩
set_option maxRecDepth 100000 in
set_option maxHeartbeats 8000000 in
theorem formed_block (t : Nd) (lt : Value) (w : World) (hlt : LN w lt t.l) (hs : t.s.size ≤ 2000000) (hn64 : wf64 t.n) (hq : RQ w t.l) :
    Calls Tryz.prog 210 #[ndV t lt, .int .i64 5] w fun e w' => e = .returned (.bool (nodeR .block t.op t.n t.s (okL t.l))) ∧ Fr w w' := by
  obtain ⟨o, n, s, l, a⟩ := t
  have hlt : LN w lt l := hlt
  have hs : s.size ≤ 2000000 := hs
  have hn64 : wf64 n := hn64
  have hq : RQ w l := hq
  show Calls _ _ #[.agg #[.int .i64 o, .int .i64 n, .string s, lt, .int .i64 a], .int .i64 5] w fun e w' => e = .returned (.bool (nodeR .block o n s (okL l))) ∧ Fr w w'
  obtain ⟨b0, cap, rfl, hcap, hcm, _⟩ := hlt.form
  obtain ⟨len, hlen⟩ : ∃ x, x = l.length := ⟨_, rfl⟩
  rw [← hlen] at hlt ⊢
  obtain ⟨P, hP⟩ : ∃ x, x = okL l := ⟨_, rfl⟩
  rw [← hP]
  have CFC : Hid (∀ W, Fr w W → Calls Tryz.prog 251 #[.agg #[.int .i64 o, .int .i64 n, .string s, .slice b0 len cap, .int .i64 a]] W fun e w' => e = .returned (.bool (cmdR o n s P)) ∧ Fr W w') := Lib.hid (fun W h => by rw [hP]; exact formedCommand_of ⟨o, n, s, l, a⟩ _ W (hlt.fr h) hs hn64 (hq.fr h))
  obtain ⟨R, hR⟩ : ∃ r, r = (nodeR .block o n s P) := ⟨_, rfl⟩
  rw [← hR]
  have HPL : Hid (P.length = len) := Lib.hid (by rw [hP, hlen, okL_len])
  have hn1 := Lib.hid hn64
  clear hlt hq hP hlen hcap hcm hs hn64
  have HG0 : Hid (Fr w w) := Lib.hid (Fr.refl w)
  by_cases g52 : o = 52
  · subst g52
    replace hR : R = (cmdR 52 n s P) := by first | exact hR | (rw [hR]; first | rfl | simp [nodeR, blockR, cmdR, repR])
    have HB0 := Lib.hid (Nb.new w (.int .i64 52) (.int .i64 n) (.string s) (.slice b0 len cap) (.int .i64 a))
    have HR : Hid (R = (cmdR 52 n s P)) := Lib.hid (by first | exact hR | (rw [hR]; simp [HPL.out, named, someK, hasK_nil]))
    clear hR
    try clear h5
    go_enter Tryz.func210, Tryz.ntmps210
    go_wp2_with fail
    refine (CFC.out _ (by repeat' first | exact Fr.refl _ | exact HG0.out | refine Fr.alloc ?_ _)).mono ?_
    rintro e w1 ⟨rfl, hf1⟩
    have HG1 : Hid (Fr w w1) := Lib.hid (Fr.trans (by repeat' first | exact Fr.refl _ | exact HG0.out | refine Fr.alloc ?_ _) hf1)
    have HB1 : Hid (Nb w1 w.heap.size (.int .i64 52) (.int .i64 n) (.string s) (.slice b0 len cap) (.int .i64 a)) := Lib.hid (Nb.fr (by first | exact HB0.out | exact Nb.al HB0.out _) hf1)
    obtain ⟨k10, k11, k12, k13, k14⟩ := HB1.out.cells
    clear hf1
    go_wp2_with fail
    go_ret
    rw [HR.out]
    exact ⟨rfl, (by repeat' first | exact Fr.refl _ | exact HG1.out | refine Fr.alloc ?_ _)⟩
  have z52 : (o == 52) = false := by rw [beq_eq_false_iff_ne]; exact g52
  replace hR : R = (false) := by first | (rw [hR]; simp [nodeR, blockR, cmdR, repR, g52]; done) | (rw [hR]; rfl)
  clear g52
  have HB0 := Lib.hid (Nb.new w (.int .i64 o) (.int .i64 n) (.string s) (.slice b0 len cap) (.int .i64 a))
  have HR : Hid (R = (false)) := Lib.hid (by first | exact hR | (rw [hR]; simp [HPL.out, named, someK, hasK_nil]))
  clear hR
  try clear h5
  go_enter Tryz.func210, Tryz.ntmps210
  go_wp2_with fail
  go_ret
  rw [HR.out]
  exact ⟨rfl, (by repeat' first | exact Fr.refl _ | exact HG0.out | refine Fr.alloc ?_ _)⟩
set_option maxRecDepth 100000 in
set_option maxHeartbeats 8000000 in
theorem formed_rep (t : Nd) (lt : Value) (w : World) (hlt : LN w lt t.l) (hs : t.s.size ≤ 2000000) (hn64 : wf64 t.n) (hq : RQ w t.l) :
    Calls Tryz.prog 210 #[ndV t lt, .int .i64 4] w fun e w' => e = .returned (.bool (nodeR .rep t.op t.n t.s (okL t.l))) ∧ Fr w w' := by
  obtain ⟨o, n, s, l, a⟩ := t
  have hlt : LN w lt l := hlt
  have hs : s.size ≤ 2000000 := hs
  have hn64 : wf64 n := hn64
  have hq : RQ w l := hq
  show Calls _ _ #[.agg #[.int .i64 o, .int .i64 n, .string s, lt, .int .i64 a], .int .i64 4] w fun e w' => e = .returned (.bool (nodeR .rep o n s (okL l))) ∧ Fr w w'
  obtain ⟨b0, cap, rfl, hcap, hcm, _⟩ := hlt.form
  obtain ⟨len, hlen⟩ : ∃ x, x = l.length := ⟨_, rfl⟩
  rw [← hlen] at hlt ⊢
  obtain ⟨P, hP⟩ : ∃ x, x = okL l := ⟨_, rfl⟩
  rw [← hP]
  have CFC : Hid (∀ W, Fr w W → Calls Tryz.prog 251 #[.agg #[.int .i64 o, .int .i64 n, .string s, .slice b0 len cap, .int .i64 a]] W fun e w' => e = .returned (.bool (cmdR o n s P)) ∧ Fr W w') := Lib.hid (fun W h => by rw [hP]; exact formedCommand_of ⟨o, n, s, l, a⟩ _ W (hlt.fr h) hs hn64 (hq.fr h))
  obtain ⟨R, hR⟩ : ∃ r, r = (nodeR .rep o n s P) := ⟨_, rfl⟩
  rw [← hR]
  have HPL : Hid (P.length = len) := Lib.hid (by rw [hP, hlen, okL_len])
  have hn1 := Lib.hid hn64
  clear hlt hq hP hlen hcap hcm hs hn64
  have HG0 : Hid (Fr w w) := Lib.hid (Fr.refl w)
  by_cases g30 : o = 30
  · subst g30
    replace hR : R = (cmdR 30 n s P) := by first | exact hR | (rw [hR]; first | rfl | simp [nodeR, repR, cmdR, blockR])
    have HB0 := Lib.hid (Nb.new w (.int .i64 30) (.int .i64 n) (.string s) (.slice b0 len cap) (.int .i64 a))
    have HR : Hid (R = (cmdR 30 n s P)) := Lib.hid (by first | exact hR | (rw [hR]; simp [HPL.out, named, someK, hasK_nil]))
    clear hR
    try clear h5
    go_enter Tryz.func210, Tryz.ntmps210
    go_wp2_with fail
    refine (CFC.out _ (by repeat' first | exact Fr.refl _ | exact HG0.out | refine Fr.alloc ?_ _)).mono ?_
    rintro e w1 ⟨rfl, hf1⟩
    have HG1 : Hid (Fr w w1) := Lib.hid (Fr.trans (by repeat' first | exact Fr.refl _ | exact HG0.out | refine Fr.alloc ?_ _) hf1)
    have HB1 : Hid (Nb w1 w.heap.size (.int .i64 30) (.int .i64 n) (.string s) (.slice b0 len cap) (.int .i64 a)) := Lib.hid (Nb.fr (by first | exact HB0.out | exact Nb.al HB0.out _) hf1)
    obtain ⟨k10, k11, k12, k13, k14⟩ := HB1.out.cells
    clear hf1
    go_wp2_with fail
    go_ret
    rw [HR.out]
    exact ⟨rfl, (by repeat' first | exact Fr.refl _ | exact HG1.out | refine Fr.alloc ?_ _)⟩
  have z30 : (o == 30) = false := by rw [beq_eq_false_iff_ne]; exact g30
  by_cases g31 : o = 31
  · subst g31
    replace hR : R = (cmdR 31 n s P) := by first | exact hR | (rw [hR]; first | rfl | simp [nodeR, repR, cmdR, blockR])
    have HB0 := Lib.hid (Nb.new w (.int .i64 31) (.int .i64 n) (.string s) (.slice b0 len cap) (.int .i64 a))
    have HR : Hid (R = (cmdR 31 n s P)) := Lib.hid (by first | exact hR | (rw [hR]; simp [HPL.out, named, someK, hasK_nil]))
    clear hR
    try clear h5
    go_enter Tryz.func210, Tryz.ntmps210
    go_wp2_with fail
    refine (CFC.out _ (by repeat' first | exact Fr.refl _ | exact HG0.out | refine Fr.alloc ?_ _)).mono ?_
    rintro e w1 ⟨rfl, hf1⟩
    have HG1 : Hid (Fr w w1) := Lib.hid (Fr.trans (by repeat' first | exact Fr.refl _ | exact HG0.out | refine Fr.alloc ?_ _) hf1)
    have HB1 : Hid (Nb w1 w.heap.size (.int .i64 31) (.int .i64 n) (.string s) (.slice b0 len cap) (.int .i64 a)) := Lib.hid (Nb.fr (by first | exact HB0.out | exact Nb.al HB0.out _) hf1)
    obtain ⟨k10, k11, k12, k13, k14⟩ := HB1.out.cells
    clear hf1
    go_wp2_with fail
    go_ret
    rw [HR.out]
    exact ⟨rfl, (by repeat' first | exact Fr.refl _ | exact HG1.out | refine Fr.alloc ?_ _)⟩
  have z31 : (o == 31) = false := by rw [beq_eq_false_iff_ne]; exact g31
  by_cases g52 : o = 52
  · subst g52
    replace hR : R = (cmdR 52 n s P) := by first | exact hR | (rw [hR]; first | rfl | simp [nodeR, repR, cmdR, blockR])
    have HB0 := Lib.hid (Nb.new w (.int .i64 52) (.int .i64 n) (.string s) (.slice b0 len cap) (.int .i64 a))
    have HR : Hid (R = (cmdR 52 n s P)) := Lib.hid (by first | exact hR | (rw [hR]; simp [HPL.out, named, someK, hasK_nil]))
    clear hR
    try clear h5
    go_enter Tryz.func210, Tryz.ntmps210
    go_wp2_with fail
    refine (CFC.out _ (by repeat' first | exact Fr.refl _ | exact HG0.out | refine Fr.alloc ?_ _)).mono ?_
    rintro e w1 ⟨rfl, hf1⟩
    have HG1 : Hid (Fr w w1) := Lib.hid (Fr.trans (by repeat' first | exact Fr.refl _ | exact HG0.out | refine Fr.alloc ?_ _) hf1)
    have HB1 : Hid (Nb w1 w.heap.size (.int .i64 52) (.int .i64 n) (.string s) (.slice b0 len cap) (.int .i64 a)) := Lib.hid (Nb.fr (by first | exact HB0.out | exact Nb.al HB0.out _) hf1)
    obtain ⟨k10, k11, k12, k13, k14⟩ := HB1.out.cells
    clear hf1
    go_wp2_with fail
    go_ret
    rw [HR.out]
    exact ⟨rfl, (by repeat' first | exact Fr.refl _ | exact HG1.out | refine Fr.alloc ?_ _)⟩
  have z52 : (o == 52) = false := by rw [beq_eq_false_iff_ne]; exact g52
  by_cases g44 : o = 44
  · subst g44
    replace hR : R = (cmdR 44 n s P) := by first | exact hR | (rw [hR]; first | rfl | simp [nodeR, repR, cmdR, blockR])
    have HB0 := Lib.hid (Nb.new w (.int .i64 44) (.int .i64 n) (.string s) (.slice b0 len cap) (.int .i64 a))
    have HR : Hid (R = (cmdR 44 n s P)) := Lib.hid (by first | exact hR | (rw [hR]; simp [HPL.out, named, someK, hasK_nil]))
    clear hR
    try clear h5
    go_enter Tryz.func210, Tryz.ntmps210
    go_wp2_with fail
    refine (CFC.out _ (by repeat' first | exact Fr.refl _ | exact HG0.out | refine Fr.alloc ?_ _)).mono ?_
    rintro e w1 ⟨rfl, hf1⟩
    have HG1 : Hid (Fr w w1) := Lib.hid (Fr.trans (by repeat' first | exact Fr.refl _ | exact HG0.out | refine Fr.alloc ?_ _) hf1)
    have HB1 : Hid (Nb w1 w.heap.size (.int .i64 44) (.int .i64 n) (.string s) (.slice b0 len cap) (.int .i64 a)) := Lib.hid (Nb.fr (by first | exact HB0.out | exact Nb.al HB0.out _) hf1)
    obtain ⟨k10, k11, k12, k13, k14⟩ := HB1.out.cells
    clear hf1
    go_wp2_with fail
    go_ret
    rw [HR.out]
    exact ⟨rfl, (by repeat' first | exact Fr.refl _ | exact HG1.out | refine Fr.alloc ?_ _)⟩
  have z44 : (o == 44) = false := by rw [beq_eq_false_iff_ne]; exact g44
  by_cases g45 : o = 45
  · subst g45
    replace hR : R = (cmdR 45 n s P) := by first | exact hR | (rw [hR]; first | rfl | simp [nodeR, repR, cmdR, blockR])
    have HB0 := Lib.hid (Nb.new w (.int .i64 45) (.int .i64 n) (.string s) (.slice b0 len cap) (.int .i64 a))
    have HR : Hid (R = (cmdR 45 n s P)) := Lib.hid (by first | exact hR | (rw [hR]; simp [HPL.out, named, someK, hasK_nil]))
    clear hR
    try clear h5
    go_enter Tryz.func210, Tryz.ntmps210
    go_wp2_with fail
    refine (CFC.out _ (by repeat' first | exact Fr.refl _ | exact HG0.out | refine Fr.alloc ?_ _)).mono ?_
    rintro e w1 ⟨rfl, hf1⟩
    have HG1 : Hid (Fr w w1) := Lib.hid (Fr.trans (by repeat' first | exact Fr.refl _ | exact HG0.out | refine Fr.alloc ?_ _) hf1)
    have HB1 : Hid (Nb w1 w.heap.size (.int .i64 45) (.int .i64 n) (.string s) (.slice b0 len cap) (.int .i64 a)) := Lib.hid (Nb.fr (by first | exact HB0.out | exact Nb.al HB0.out _) hf1)
    obtain ⟨k10, k11, k12, k13, k14⟩ := HB1.out.cells
    clear hf1
    go_wp2_with fail
    go_ret
    rw [HR.out]
    exact ⟨rfl, (by repeat' first | exact Fr.refl _ | exact HG1.out | refine Fr.alloc ?_ _)⟩
  have z45 : (o == 45) = false := by rw [beq_eq_false_iff_ne]; exact g45
  by_cases g46 : o = 46
  · subst g46
    replace hR : R = (cmdR 46 n s P) := by first | exact hR | (rw [hR]; first | rfl | simp [nodeR, repR, cmdR, blockR])
    have HB0 := Lib.hid (Nb.new w (.int .i64 46) (.int .i64 n) (.string s) (.slice b0 len cap) (.int .i64 a))
    have HR : Hid (R = (cmdR 46 n s P)) := Lib.hid (by first | exact hR | (rw [hR]; simp [HPL.out, named, someK, hasK_nil]))
    clear hR
    try clear h5
    go_enter Tryz.func210, Tryz.ntmps210
    go_wp2_with fail
    refine (CFC.out _ (by repeat' first | exact Fr.refl _ | exact HG0.out | refine Fr.alloc ?_ _)).mono ?_
    rintro e w1 ⟨rfl, hf1⟩
    have HG1 : Hid (Fr w w1) := Lib.hid (Fr.trans (by repeat' first | exact Fr.refl _ | exact HG0.out | refine Fr.alloc ?_ _) hf1)
    have HB1 : Hid (Nb w1 w.heap.size (.int .i64 46) (.int .i64 n) (.string s) (.slice b0 len cap) (.int .i64 a)) := Lib.hid (Nb.fr (by first | exact HB0.out | exact Nb.al HB0.out _) hf1)
    obtain ⟨k10, k11, k12, k13, k14⟩ := HB1.out.cells
    clear hf1
    go_wp2_with fail
    go_ret
    rw [HR.out]
    exact ⟨rfl, (by repeat' first | exact Fr.refl _ | exact HG1.out | refine Fr.alloc ?_ _)⟩
  have z46 : (o == 46) = false := by rw [beq_eq_false_iff_ne]; exact g46
  by_cases g47 : o = 47
  · subst g47
    replace hR : R = (cmdR 47 n s P) := by first | exact hR | (rw [hR]; first | rfl | simp [nodeR, repR, cmdR, blockR])
    have HB0 := Lib.hid (Nb.new w (.int .i64 47) (.int .i64 n) (.string s) (.slice b0 len cap) (.int .i64 a))
    have HR : Hid (R = (cmdR 47 n s P)) := Lib.hid (by first | exact hR | (rw [hR]; simp [HPL.out, named, someK, hasK_nil]))
    clear hR
    try clear h5
    go_enter Tryz.func210, Tryz.ntmps210
    go_wp2_with fail
    refine (CFC.out _ (by repeat' first | exact Fr.refl _ | exact HG0.out | refine Fr.alloc ?_ _)).mono ?_
    rintro e w1 ⟨rfl, hf1⟩
    have HG1 : Hid (Fr w w1) := Lib.hid (Fr.trans (by repeat' first | exact Fr.refl _ | exact HG0.out | refine Fr.alloc ?_ _) hf1)
    have HB1 : Hid (Nb w1 w.heap.size (.int .i64 47) (.int .i64 n) (.string s) (.slice b0 len cap) (.int .i64 a)) := Lib.hid (Nb.fr (by first | exact HB0.out | exact Nb.al HB0.out _) hf1)
    obtain ⟨k10, k11, k12, k13, k14⟩ := HB1.out.cells
    clear hf1
    go_wp2_with fail
    go_ret
    rw [HR.out]
    exact ⟨rfl, (by repeat' first | exact Fr.refl _ | exact HG1.out | refine Fr.alloc ?_ _)⟩
  have z47 : (o == 47) = false := by rw [beq_eq_false_iff_ne]; exact g47
  by_cases g51 : o = 51
  · subst g51
    replace hR : R = (cmdR 51 n s P) := by first | exact hR | (rw [hR]; first | rfl | simp [nodeR, repR, cmdR, blockR])
    have HB0 := Lib.hid (Nb.new w (.int .i64 51) (.int .i64 n) (.string s) (.slice b0 len cap) (.int .i64 a))
    have HR : Hid (R = (cmdR 51 n s P)) := Lib.hid (by first | exact hR | (rw [hR]; simp [HPL.out, named, someK, hasK_nil]))
    clear hR
    try clear h5
    go_enter Tryz.func210, Tryz.ntmps210
    go_wp2_with fail
    refine (CFC.out _ (by repeat' first | exact Fr.refl _ | exact HG0.out | refine Fr.alloc ?_ _)).mono ?_
    rintro e w1 ⟨rfl, hf1⟩
    have HG1 : Hid (Fr w w1) := Lib.hid (Fr.trans (by repeat' first | exact Fr.refl _ | exact HG0.out | refine Fr.alloc ?_ _) hf1)
    have HB1 : Hid (Nb w1 w.heap.size (.int .i64 51) (.int .i64 n) (.string s) (.slice b0 len cap) (.int .i64 a)) := Lib.hid (Nb.fr (by first | exact HB0.out | exact Nb.al HB0.out _) hf1)
    obtain ⟨k10, k11, k12, k13, k14⟩ := HB1.out.cells
    clear hf1
    go_wp2_with fail
    go_ret
    rw [HR.out]
    exact ⟨rfl, (by repeat' first | exact Fr.refl _ | exact HG1.out | refine Fr.alloc ?_ _)⟩
  have z51 : (o == 51) = false := by rw [beq_eq_false_iff_ne]; exact g51
  by_cases g48 : o = 48
  · subst g48
    replace hR : R = (cmdR 48 n s P) := by first | exact hR | (rw [hR]; first | rfl | simp [nodeR, repR, cmdR, blockR])
    have HB0 := Lib.hid (Nb.new w (.int .i64 48) (.int .i64 n) (.string s) (.slice b0 len cap) (.int .i64 a))
    have HR : Hid (R = (cmdR 48 n s P)) := Lib.hid (by first | exact hR | (rw [hR]; simp [HPL.out, named, someK, hasK_nil]))
    clear hR
    try clear h5
    go_enter Tryz.func210, Tryz.ntmps210
    go_wp2_with fail
    refine (CFC.out _ (by repeat' first | exact Fr.refl _ | exact HG0.out | refine Fr.alloc ?_ _)).mono ?_
    rintro e w1 ⟨rfl, hf1⟩
    have HG1 : Hid (Fr w w1) := Lib.hid (Fr.trans (by repeat' first | exact Fr.refl _ | exact HG0.out | refine Fr.alloc ?_ _) hf1)
    have HB1 : Hid (Nb w1 w.heap.size (.int .i64 48) (.int .i64 n) (.string s) (.slice b0 len cap) (.int .i64 a)) := Lib.hid (Nb.fr (by first | exact HB0.out | exact Nb.al HB0.out _) hf1)
    obtain ⟨k10, k11, k12, k13, k14⟩ := HB1.out.cells
    clear hf1
    go_wp2_with fail
    go_ret
    rw [HR.out]
    exact ⟨rfl, (by repeat' first | exact Fr.refl _ | exact HG1.out | refine Fr.alloc ?_ _)⟩
  have z48 : (o == 48) = false := by rw [beq_eq_false_iff_ne]; exact g48
  by_cases g49 : o = 49
  · subst g49
    replace hR : R = (cmdR 49 n s P) := by first | exact hR | (rw [hR]; first | rfl | simp [nodeR, repR, cmdR, blockR])
    have HB0 := Lib.hid (Nb.new w (.int .i64 49) (.int .i64 n) (.string s) (.slice b0 len cap) (.int .i64 a))
    have HR : Hid (R = (cmdR 49 n s P)) := Lib.hid (by first | exact hR | (rw [hR]; simp [HPL.out, named, someK, hasK_nil]))
    clear hR
    try clear h5
    go_enter Tryz.func210, Tryz.ntmps210
    go_wp2_with fail
    refine (CFC.out _ (by repeat' first | exact Fr.refl _ | exact HG0.out | refine Fr.alloc ?_ _)).mono ?_
    rintro e w1 ⟨rfl, hf1⟩
    have HG1 : Hid (Fr w w1) := Lib.hid (Fr.trans (by repeat' first | exact Fr.refl _ | exact HG0.out | refine Fr.alloc ?_ _) hf1)
    have HB1 : Hid (Nb w1 w.heap.size (.int .i64 49) (.int .i64 n) (.string s) (.slice b0 len cap) (.int .i64 a)) := Lib.hid (Nb.fr (by first | exact HB0.out | exact Nb.al HB0.out _) hf1)
    obtain ⟨k10, k11, k12, k13, k14⟩ := HB1.out.cells
    clear hf1
    go_wp2_with fail
    go_ret
    rw [HR.out]
    exact ⟨rfl, (by repeat' first | exact Fr.refl _ | exact HG1.out | refine Fr.alloc ?_ _)⟩
  have z49 : (o == 49) = false := by rw [beq_eq_false_iff_ne]; exact g49
  by_cases g37 : o = 37
  · subst g37
    replace hR : R = (cmdR 37 n s P) := by first | exact hR | (rw [hR]; first | rfl | simp [nodeR, repR, cmdR, blockR])
    have HB0 := Lib.hid (Nb.new w (.int .i64 37) (.int .i64 n) (.string s) (.slice b0 len cap) (.int .i64 a))
    have HR : Hid (R = (cmdR 37 n s P)) := Lib.hid (by first | exact hR | (rw [hR]; simp [HPL.out, named, someK, hasK_nil]))
    clear hR
    try clear h5
    go_enter Tryz.func210, Tryz.ntmps210
    go_wp2_with fail
    refine (CFC.out _ (by repeat' first | exact Fr.refl _ | exact HG0.out | refine Fr.alloc ?_ _)).mono ?_
    rintro e w1 ⟨rfl, hf1⟩
    have HG1 : Hid (Fr w w1) := Lib.hid (Fr.trans (by repeat' first | exact Fr.refl _ | exact HG0.out | refine Fr.alloc ?_ _) hf1)
    have HB1 : Hid (Nb w1 w.heap.size (.int .i64 37) (.int .i64 n) (.string s) (.slice b0 len cap) (.int .i64 a)) := Lib.hid (Nb.fr (by first | exact HB0.out | exact Nb.al HB0.out _) hf1)
    obtain ⟨k10, k11, k12, k13, k14⟩ := HB1.out.cells
    clear hf1
    go_wp2_with fail
    go_ret
    rw [HR.out]
    exact ⟨rfl, (by repeat' first | exact Fr.refl _ | exact HG1.out | refine Fr.alloc ?_ _)⟩
  have z37 : (o == 37) = false := by rw [beq_eq_false_iff_ne]; exact g37
  by_cases g38 : o = 38
  · subst g38
    replace hR : R = (cmdR 38 n s P) := by first | exact hR | (rw [hR]; first | rfl | simp [nodeR, repR, cmdR, blockR])
    have HB0 := Lib.hid (Nb.new w (.int .i64 38) (.int .i64 n) (.string s) (.slice b0 len cap) (.int .i64 a))
    have HR : Hid (R = (cmdR 38 n s P)) := Lib.hid (by first | exact hR | (rw [hR]; simp [HPL.out, named, someK, hasK_nil]))
    clear hR
    try clear h5
    go_enter Tryz.func210, Tryz.ntmps210
    go_wp2_with fail
    refine (CFC.out _ (by repeat' first | exact Fr.refl _ | exact HG0.out | refine Fr.alloc ?_ _)).mono ?_
    rintro e w1 ⟨rfl, hf1⟩
    have HG1 : Hid (Fr w w1) := Lib.hid (Fr.trans (by repeat' first | exact Fr.refl _ | exact HG0.out | refine Fr.alloc ?_ _) hf1)
    have HB1 : Hid (Nb w1 w.heap.size (.int .i64 38) (.int .i64 n) (.string s) (.slice b0 len cap) (.int .i64 a)) := Lib.hid (Nb.fr (by first | exact HB0.out | exact Nb.al HB0.out _) hf1)
    obtain ⟨k10, k11, k12, k13, k14⟩ := HB1.out.cells
    clear hf1
    go_wp2_with fail
    go_ret
    rw [HR.out]
    exact ⟨rfl, (by repeat' first | exact Fr.refl _ | exact HG1.out | refine Fr.alloc ?_ _)⟩
  have z38 : (o == 38) = false := by rw [beq_eq_false_iff_ne]; exact g38
  by_cases g39 : o = 39
  · subst g39
    replace hR : R = (cmdR 39 n s P) := by first | exact hR | (rw [hR]; first | rfl | simp [nodeR, repR, cmdR, blockR])
    have HB0 := Lib.hid (Nb.new w (.int .i64 39) (.int .i64 n) (.string s) (.slice b0 len cap) (.int .i64 a))
    have HR : Hid (R = (cmdR 39 n s P)) := Lib.hid (by first | exact hR | (rw [hR]; simp [HPL.out, named, someK, hasK_nil]))
    clear hR
    try clear h5
    go_enter Tryz.func210, Tryz.ntmps210
    go_wp2_with fail
    refine (CFC.out _ (by repeat' first | exact Fr.refl _ | exact HG0.out | refine Fr.alloc ?_ _)).mono ?_
    rintro e w1 ⟨rfl, hf1⟩
    have HG1 : Hid (Fr w w1) := Lib.hid (Fr.trans (by repeat' first | exact Fr.refl _ | exact HG0.out | refine Fr.alloc ?_ _) hf1)
    have HB1 : Hid (Nb w1 w.heap.size (.int .i64 39) (.int .i64 n) (.string s) (.slice b0 len cap) (.int .i64 a)) := Lib.hid (Nb.fr (by first | exact HB0.out | exact Nb.al HB0.out _) hf1)
    obtain ⟨k10, k11, k12, k13, k14⟩ := HB1.out.cells
    clear hf1
    go_wp2_with fail
    go_ret
    rw [HR.out]
    exact ⟨rfl, (by repeat' first | exact Fr.refl _ | exact HG1.out | refine Fr.alloc ?_ _)⟩
  have z39 : (o == 39) = false := by rw [beq_eq_false_iff_ne]; exact g39
  replace hR : R = (false) := by first | (rw [hR]; simp [nodeR, repR, cmdR, blockR, g30, g31, g52, g44, g45, g46, g47, g51, g48, g49, g37, g38, g39]; done) | (rw [hR]; rfl)
  clear g30 g31 g52 g44 g45 g46 g47 g51 g48 g49 g37 g38 g39
  have HB0 := Lib.hid (Nb.new w (.int .i64 o) (.int .i64 n) (.string s) (.slice b0 len cap) (.int .i64 a))
  have HR : Hid (R = (false)) := Lib.hid (by first | exact hR | (rw [hR]; simp [HPL.out, named, someK, hasK_nil]))
  clear hR
  try clear h5
  go_enter Tryz.func210, Tryz.ntmps210
  go_wp2_with fail
  go_ret
  rw [HR.out]
  exact ⟨rfl, (by repeat' first | exact Fr.refl _ | exact HG0.out | refine Fr.alloc ?_ _)⟩
set_option maxRecDepth 100000 in
set_option maxHeartbeats 8000000 in
theorem formed_const (t : Nd) (lt : Value) (w : World) (hlt : LN w lt t.l) (hs : t.s.size ≤ 2000000) (hn64 : wf64 t.n) (hq : RQ w t.l) :
    Calls Tryz.prog 210 #[ndV t lt, .int .i64 7] w fun e w' => e = .returned (.bool (nodeR .const t.op t.n t.s (okL t.l))) ∧ Fr w w' := by
  obtain ⟨o, n, s, l, a⟩ := t
  have hlt : LN w lt l := hlt
  have hs : s.size ≤ 2000000 := hs
  have hn64 : wf64 n := hn64
  have hq : RQ w l := hq
  show Calls _ _ #[.agg #[.int .i64 o, .int .i64 n, .string s, lt, .int .i64 a], .int .i64 7] w fun e w' => e = .returned (.bool (nodeR .const o n s (okL l))) ∧ Fr w w'
  obtain ⟨b0, cap, rfl, hcap, hcm, _⟩ := hlt.form
  obtain ⟨len, hlen⟩ : ∃ x, x = l.length := ⟨_, rfl⟩
  rw [← hlen] at hlt ⊢
  obtain ⟨P, hP⟩ : ∃ x, x = okL l := ⟨_, rfl⟩
  rw [← hP]
  have CZ01 : Hid (∀ W, Fr w W → Calls Tryz.prog 252 #[.agg #[.int .i64 o, .int .i64 n, .string s, .slice b0 len cap, .int .i64 a], .bool false, .bool true] W fun e w' => e = .returned (.bool (decide (n = 0))) ∧ Fr W w') := Lib.hid (fun W h => zero01_any ⟨o, n, s, l, a⟩ (.slice b0 len cap) W)
  have CIn : Hid (∀ W, Fr w W → Calls Tryz.prog 253 #[.string s] W fun e w' => e = .returned (.bool (isNm s)) ∧ Fr W w') := Lib.hid (fun W h => RisName_any s W)
  have CP : Hid (∀ W, Fr w W → ∀ ks kv, IV W kv ks → Calls Tryz.prog 254 #[.slice b0 len cap, kv] W fun e w' => e = .returned (.bool (hasK P ks)) ∧ Fr W w') := Lib.hid (fun W h ks kv hk => by rw [hP]; exact parts_any l _ W ks kv (hlt.fr h) hk (hq.fr h))
  obtain ⟨R, hR⟩ : ∃ r, r = (nodeR .const o n s P) := ⟨_, rfl⟩
  rw [← hR]
  have HPL : Hid (P.length = len) := Lib.hid (by rw [hP, hlen, okL_len])
  have hn1 := Lib.hid hn64
  clear hlt hq hP hlen hcap hcm hs hn64
  have HG0 : Hid (Fr w w) := Lib.hid (Fr.refl w)
  by_cases g63 : o = 63
  · subst g63
    replace hR : R = (named n s && hasK P [.expr]) := by first | exact hR | (rw [hR]; first | rfl | simp [nodeR, constR])
    have HB0 := Lib.hid (Nb.new w (.int .i64 63) (.int .i64 n) (.string s) (.slice b0 len cap) (.int .i64 a))
    cases hv0 : (decide (n = 0)) with
    | true =>
      rw [hv0] at CZ01
      cases hv1 : (isNm s) with
      | true =>
        rw [hv1] at CIn
        have HR : Hid (R = (hasK P [.expr])) := Lib.hid (by first | exact hR | (rw [hR]; simp [HPL.out, named, someK, hasK_nil, hv0, hv1]))
        clear hR
        try clear h5
        go_enter Tryz.func210, Tryz.ntmps210
        go_wp2_with fail
        refine (CZ01.out _ (by repeat' first | exact Fr.refl _ | exact HG0.out | refine Fr.alloc ?_ _)).mono ?_
        rintro e w1 ⟨rfl, hf1⟩
        have HG1 : Hid (Fr w w1) := Lib.hid (Fr.trans (by repeat' first | exact Fr.refl _ | exact HG0.out | refine Fr.alloc ?_ _) hf1)
        have HB1 : Hid (Nb w1 w.heap.size (.int .i64 63) (.int .i64 n) (.string s) (.slice b0 len cap) (.int .i64 a)) := Lib.hid (Nb.fr (by first | exact HB0.out | exact Nb.al HB0.out _) hf1)
        obtain ⟨k10, k11, k12, k13, k14⟩ := HB1.out.cells
        clear hf1
        go_wp2_with fail
        refine (CIn.out _ (by repeat' first | exact Fr.refl _ | exact HG1.out | refine Fr.alloc ?_ _)).mono ?_
        rintro e w2 ⟨rfl, hf2⟩
        have HG2 : Hid (Fr w w2) := Lib.hid (Fr.trans (by repeat' first | exact Fr.refl _ | exact HG1.out | refine Fr.alloc ?_ _) hf2)
        have HB2 : Hid (Nb w2 w.heap.size (.int .i64 63) (.int .i64 n) (.string s) (.slice b0 len cap) (.int .i64 a)) := Lib.hid (Nb.fr (by first | exact HB1.out | exact Nb.al HB1.out _) hf2)
        obtain ⟨k20, k21, k22, k23, k24⟩ := HB2.out.cells
        clear hf2
        go_wp2_with fail
        refine (CP.out _ (by repeat' first | exact Fr.refl _ | exact HG2.out | refine Fr.alloc ?_ _) [.expr] _ (IV.one _ _ .expr _ (by simp) rfl)).mono ?_
        rintro e w3 ⟨rfl, hf3⟩
        have HG3 : Hid (Fr w w3) := Lib.hid (Fr.trans (by repeat' first | exact Fr.refl _ | exact HG2.out | refine Fr.alloc ?_ _) hf3)
        have HB3 : Hid (Nb w3 w.heap.size (.int .i64 63) (.int .i64 n) (.string s) (.slice b0 len cap) (.int .i64 a)) := Lib.hid (Nb.fr (by first | exact HB2.out | exact Nb.al HB2.out _) hf3)
        obtain ⟨k30, k31, k32, k33, k34⟩ := HB3.out.cells
        clear hf3
        go_wp2_with fail
        go_ret
        rw [HR.out]
        exact ⟨rfl, (by repeat' first | exact Fr.refl _ | exact HG3.out | refine Fr.alloc ?_ _)⟩
      | false =>
        rw [hv1] at CIn
        have HR : Hid (R = (false)) := Lib.hid (by first | exact hR | (rw [hR]; simp [HPL.out, named, someK, hasK_nil, hv0, hv1]))
        clear hR
        try clear h5
        go_enter Tryz.func210, Tryz.ntmps210
        go_wp2_with fail
        refine (CZ01.out _ (by repeat' first | exact Fr.refl _ | exact HG0.out | refine Fr.alloc ?_ _)).mono ?_
        rintro e w1 ⟨rfl, hf1⟩
        have HG1 : Hid (Fr w w1) := Lib.hid (Fr.trans (by repeat' first | exact Fr.refl _ | exact HG0.out | refine Fr.alloc ?_ _) hf1)
        have HB1 : Hid (Nb w1 w.heap.size (.int .i64 63) (.int .i64 n) (.string s) (.slice b0 len cap) (.int .i64 a)) := Lib.hid (Nb.fr (by first | exact HB0.out | exact Nb.al HB0.out _) hf1)
        obtain ⟨k10, k11, k12, k13, k14⟩ := HB1.out.cells
        clear hf1
        go_wp2_with fail
        refine (CIn.out _ (by repeat' first | exact Fr.refl _ | exact HG1.out | refine Fr.alloc ?_ _)).mono ?_
        rintro e w2 ⟨rfl, hf2⟩
        have HG2 : Hid (Fr w w2) := Lib.hid (Fr.trans (by repeat' first | exact Fr.refl _ | exact HG1.out | refine Fr.alloc ?_ _) hf2)
        have HB2 : Hid (Nb w2 w.heap.size (.int .i64 63) (.int .i64 n) (.string s) (.slice b0 len cap) (.int .i64 a)) := Lib.hid (Nb.fr (by first | exact HB1.out | exact Nb.al HB1.out _) hf2)
        obtain ⟨k20, k21, k22, k23, k24⟩ := HB2.out.cells
        clear hf2
        go_wp2_with fail
        go_ret
        rw [HR.out]
        exact ⟨rfl, (by repeat' first | exact Fr.refl _ | exact HG2.out | refine Fr.alloc ?_ _)⟩
    | false =>
      rw [hv0] at CZ01
      have HR : Hid (R = (false)) := Lib.hid (by first | exact hR | (rw [hR]; simp [HPL.out, named, someK, hasK_nil, hv0]))
      clear hR
      try clear h5
      go_enter Tryz.func210, Tryz.ntmps210
      go_wp2_with fail
      refine (CZ01.out _ (by repeat' first | exact Fr.refl _ | exact HG0.out | refine Fr.alloc ?_ _)).mono ?_
      rintro e w1 ⟨rfl, hf1⟩
      have HG1 : Hid (Fr w w1) := Lib.hid (Fr.trans (by repeat' first | exact Fr.refl _ | exact HG0.out | refine Fr.alloc ?_ _) hf1)
      have HB1 : Hid (Nb w1 w.heap.size (.int .i64 63) (.int .i64 n) (.string s) (.slice b0 len cap) (.int .i64 a)) := Lib.hid (Nb.fr (by first | exact HB0.out | exact Nb.al HB0.out _) hf1)
      obtain ⟨k10, k11, k12, k13, k14⟩ := HB1.out.cells
      clear hf1
      go_wp2_with fail
      go_ret
      rw [HR.out]
      exact ⟨rfl, (by repeat' first | exact Fr.refl _ | exact HG1.out | refine Fr.alloc ?_ _)⟩
  have z63 : (o == 63) = false := by rw [beq_eq_false_iff_ne]; exact g63
  replace hR : R = (false) := by first | (rw [hR]; simp [nodeR, constR, g63]; done) | (rw [hR]; rfl)
  clear g63
  have HB0 := Lib.hid (Nb.new w (.int .i64 o) (.int .i64 n) (.string s) (.slice b0 len cap) (.int .i64 a))
  have HR : Hid (R = (false)) := Lib.hid (by first | exact hR | (rw [hR]; simp [HPL.out, named, someK, hasK_nil]))
  clear hR
  try clear h5
  go_enter Tryz.func210, Tryz.ntmps210
  go_wp2_with fail
  go_ret
  rw [HR.out]
  exact ⟨rfl, (by repeat' first | exact Fr.refl _ | exact HG0.out | refine Fr.alloc ?_ _)⟩
set_option maxRecDepth 100000 in
set_option maxHeartbeats 8000000 in
theorem formed_item (t : Nd) (lt : Value) (w : World) (hlt : LN w lt t.l) (hs : t.s.size ≤ 2000000) (hn64 : wf64 t.n) (hq : RQ w t.l) :
    Calls Tryz.prog 210 #[ndV t lt, .int .i64 3] w fun e w' => e = .returned (.bool (nodeR .item t.op t.n t.s (okL t.l))) ∧ Fr w w' := by
  obtain ⟨o, n, s, l, a⟩ := t
  have hlt : LN w lt l := hlt
  have hs : s.size ≤ 2000000 := hs
  have hn64 : wf64 n := hn64
  have hq : RQ w l := hq
  show Calls _ _ #[.agg #[.int .i64 o, .int .i64 n, .string s, lt, .int .i64 a], .int .i64 3] w fun e w' => e = .returned (.bool (nodeR .item o n s (okL l))) ∧ Fr w w'
  obtain ⟨b0, cap, rfl, hcap, hcm, _⟩ := hlt.form
  obtain ⟨len, hlen⟩ : ∃ x, x = l.length := ⟨_, rfl⟩
  rw [← hlen] at hlt ⊢
  obtain ⟨P, hP⟩ : ∃ x, x = okL l := ⟨_, rfl⟩
  rw [← hP]
  have CZ10 : Hid (∀ W, Fr w W → Calls Tryz.prog 252 #[.agg #[.int .i64 o, .int .i64 n, .string s, .slice b0 len cap, .int .i64 a], .bool true, .bool false] W fun e w' => e = .returned (.bool (empS s)) ∧ Fr W w') := Lib.hid (fun W h => zero10_any ⟨o, n, s, l, a⟩ (.slice b0 len cap) W)
  have CZ01 : Hid (∀ W, Fr w W → Calls Tryz.prog 252 #[.agg #[.int .i64 o, .int .i64 n, .string s, .slice b0 len cap, .int .i64 a], .bool false, .bool true] W fun e w' => e = .returned (.bool (decide (n = 0))) ∧ Fr W w') := Lib.hid (fun W h => zero01_any ⟨o, n, s, l, a⟩ (.slice b0 len cap) W)
  have CIn : Hid (∀ W, Fr w W → Calls Tryz.prog 253 #[.string s] W fun e w' => e = .returned (.bool (isNm s)) ∧ Fr W w') := Lib.hid (fun W h => RisName_any s W)
  have CP : Hid (∀ W, Fr w W → ∀ ks kv, IV W kv ks → Calls Tryz.prog 254 #[.slice b0 len cap, kv] W fun e w' => e = .returned (.bool (hasK P ks)) ∧ Fr W w') := Lib.hid (fun W h ks kv hk => by rw [hP]; exact parts_any l _ W ks kv (hlt.fr h) hk (hq.fr h))
  have CFC : Hid (∀ W, Fr w W → Calls Tryz.prog 251 #[.agg #[.int .i64 o, .int .i64 n, .string s, .slice b0 len cap, .int .i64 a]] W fun e w' => e = .returned (.bool (cmdR o n s P)) ∧ Fr W w') := Lib.hid (fun W h => by rw [hP]; exact formedCommand_of ⟨o, n, s, l, a⟩ _ W (hlt.fr h) hs hn64 (hq.fr h))
  have HCM : Hid (len ≤ 9223372036854775807) := Lib.hid (by unfold maxLen at hcm; omega)
  have HCAP : Hid (len ≤ cap) := Lib.hid (by rw [hlen]; exact hcap)
  have CA1 : Hid (∀ W, Fr w W → Calls Tryz.prog 145 #[.slice b0 (len / 2) cap, .int .i64 6] W fun e w' => e = .returned (.bool (allK (P.take (len / 2)) .name)) ∧ Fr W w') := Lib.hid (fun W h => by
    rw [hlen] at hlt ⊢
    rw [hP, okL_take]
    exact all_any .name rfl (l.take (l.length / 2)) _ W ((hlt.fr h).take_ _ (by omega)) ((hq.fr h).sub fun t ht => List.mem_of_mem_take ht))
  have CA2 : Hid (0 < len → ∃ b off, b0 = some ⟨b, off, none⟩ ∧ ∀ W, Fr w W → Calls Tryz.prog 145 #[.slice (some ⟨b, off + len / 2 * 5, none⟩) (len - len / 2) (cap - len / 2), .int .i64 1] W fun e w' => e = .returned (.bool (allK (P.drop (len / 2)) .expr)) ∧ Fr W w') := Lib.hid (fun h0 => by
    rw [hlen] at h0 hlt ⊢
    obtain ⟨t, ht⟩ : ∃ t, l[0]? = some t := ⟨_, List.getElem?_eq_getElem (by omega)⟩
    obtain ⟨b, off, lv, rfl, _⟩ := hlt.at_ ht
    refine ⟨b, off, rfl, fun W h => ?_⟩
    rw [hP, okL_drop]
    exact all_any .expr rfl (l.drop (l.length / 2)) _ W ((hlt.fr h).drop_ _ (by omega)) ((hq.fr h).sub fun t ht => List.mem_of_mem_drop ht))
  obtain ⟨R, hR⟩ : ∃ r, r = (nodeR .item o n s P) := ⟨_, rfl⟩
  rw [← hR]
  have HPL : Hid (P.length = len) := Lib.hid (by rw [hP, hlen, okL_len])
  have hn1 := Lib.hid hn64
  clear hlt hq hP hlen hcap hcm hs hn64
  have HG0 : Hid (Fr w w) := Lib.hid (Fr.refl w)
  by_cases g54 : o = 54
  · subst g54
    replace hR : R = (empS s && (decide (1 ≤ n) && decide ((P.length : Int) = 2 * n) && allK (P.take (len / 2)) .name && allK (P.drop (len / 2)) .expr)) := by first | exact hR | (rw [hR]; first | rfl | simp [nodeR, itemR, pairs_alt, HPL.out])
    have HB0 := Lib.hid (Nb.new w (.int .i64 54) (.int .i64 n) (.string s) (.slice b0 len cap) (.int .i64 a))
    obtain ⟨h, hh⟩ : ∃ x, x = len / 2 := ⟨_, rfl⟩
    rw [← hh] at CA1 CA2 hR
    have HH := Lib.hid hh
    clear hh
    cases hv0 : empS s with
    | false =>
      rw [hv0] at CZ10
      have HR : Hid (R = (false)) := Lib.hid (by first | exact hR | (rw [hR]; simp [hv0]))
      clear hR
      go_enter Tryz.func210, Tryz.ntmps210
      go_wp2_with fail
      refine (CZ10.out _ (by repeat' first | exact Fr.refl _ | exact HG0.out | refine Fr.alloc ?_ _)).mono ?_
      rintro e w1 ⟨rfl, hf1⟩
      have HG1 : Hid (Fr w w1) := Lib.hid (Fr.trans (by repeat' first | exact Fr.refl _ | exact HG0.out | refine Fr.alloc ?_ _) hf1)
      have HB1 : Hid (Nb w1 w.heap.size (.int .i64 54) (.int .i64 n) (.string s) (.slice b0 len cap) (.int .i64 a)) := Lib.hid (Nb.fr (by first | exact HB0.out | exact Nb.al HB0.out _) hf1)
      obtain ⟨k10, k11, k12, k13, k14⟩ := HB1.out.cells
      clear hf1
      go_wp2_with fail
      go_ret
      rw [HR.out]
      exact ⟨rfl, (by repeat' first | exact Fr.refl _ | exact HG1.out | refine Fr.alloc ?_ _)⟩
    | true =>
      rw [hv0] at CZ10
      by_cases h4 : 1 ≤ n
      · have e4 : decide ((1 : Int) ≤ n) = true := decide_eq_true h4
        have e4b : decide (n ≥ (1 : Int)) = true := decide_eq_true h4
        by_cases h5 : (len : Int) = 2 * n
        · have e5 : ((len : Int) == wrap64 (2 * n)) = true := by have hx := two_eq h4 hn1.out HCM.out; rw [decide_eq_true h5, IntWalk.i64_left] at hx; exact hx
          have hnh : n = (h : Int) := by have := HH.out; omega
          have h1h : 1 ≤ h := by omega
          have h2h : len = 2 * h := by omega
          subst hnh
          have hlc : len ≤ cap := HCAP.out
          obtain ⟨b, off, rfl, hC2⟩ := CA2.out (by omega)
          have HC2 := Lib.hid hC2
          have f1 : (h : Int) ≤ cap := by omega
          have f2 : (h : Int) ≤ len := by omega
          have f3 : ¬ cap = h := by omega
          have f4 : (0 : Int) ≤ h := by omega
          have H5 := Lib.hid h5
          clear hC2 h5 h2h hlc
          cases hv1 : allK (P.take h) .name with
          | false =>
            rw [hv1] at CA1
            have HR : Hid (R = (false)) := Lib.hid (by first | exact hR | (rw [hR]; simp [hv0, hv1]))
            clear hR
            go_enter Tryz.func210, Tryz.ntmps210
            go_wp2_with fail
            refine (CZ10.out _ (by repeat' first | exact Fr.refl _ | exact HG0.out | refine Fr.alloc ?_ _)).mono ?_
            rintro e w1 ⟨rfl, hf1⟩
            have HG1 : Hid (Fr w w1) := Lib.hid (Fr.trans (by repeat' first | exact Fr.refl _ | exact HG0.out | refine Fr.alloc ?_ _) hf1)
            have HB1 : Hid (Nb w1 w.heap.size (.int .i64 54) (.int .i64 (h : Int)) (.string s) (.slice (some ⟨b, off, none⟩) len cap) (.int .i64 a)) := Lib.hid (Nb.fr (by first | exact HB0.out | exact Nb.al HB0.out _) hf1)
            obtain ⟨k10, k11, k12, k13, k14⟩ := HB1.out.cells
            clear hf1
            go_wp2_with fail
            refine (CA1.out _ (by repeat' first | exact Fr.refl _ | exact HG1.out | refine Fr.alloc ?_ _)).mono ?_
            rintro e w2 ⟨rfl, hf2⟩
            have HG2 : Hid (Fr w w2) := Lib.hid (Fr.trans (by repeat' first | exact Fr.refl _ | exact HG1.out | refine Fr.alloc ?_ _) hf2)
            have HB2 : Hid (Nb w2 w.heap.size (.int .i64 54) (.int .i64 (h : Int)) (.string s) (.slice (some ⟨b, off, none⟩) len cap) (.int .i64 a)) := Lib.hid (Nb.fr (by first | exact HB1.out | exact Nb.al HB1.out _) hf2)
            obtain ⟨k20, k21, k22, k23, k24⟩ := HB2.out.cells
            clear hf2
            go_wp2_with fail
            go_ret
            rw [HR.out]
            exact ⟨rfl, (by repeat' first | exact Fr.refl _ | exact HG2.out | refine Fr.alloc ?_ _)⟩
          | true =>
            rw [hv1] at CA1
            have HR : Hid (R = allK (P.drop h) .expr) := Lib.hid (by rw [hR, hv0, hv1, decide_eq_true h4, decide_eq_true (show ((P.length : Nat) : Int) = 2 * (h : Int) by rw [HPL.out]; exact H5.out)]; rfl)
            clear hR
            go_enter Tryz.func210, Tryz.ntmps210
            go_wp2_with fail
            refine (CZ10.out _ (by repeat' first | exact Fr.refl _ | exact HG0.out | refine Fr.alloc ?_ _)).mono ?_
            rintro e w1 ⟨rfl, hf1⟩
            have HG1 : Hid (Fr w w1) := Lib.hid (Fr.trans (by repeat' first | exact Fr.refl _ | exact HG0.out | refine Fr.alloc ?_ _) hf1)
            have HB1 : Hid (Nb w1 w.heap.size (.int .i64 54) (.int .i64 (h : Int)) (.string s) (.slice (some ⟨b, off, none⟩) len cap) (.int .i64 a)) := Lib.hid (Nb.fr (by first | exact HB0.out | exact Nb.al HB0.out _) hf1)
            obtain ⟨k10, k11, k12, k13, k14⟩ := HB1.out.cells
            clear hf1
            go_wp2_with fail
            refine (CA1.out _ (by repeat' first | exact Fr.refl _ | exact HG1.out | refine Fr.alloc ?_ _)).mono ?_
            rintro e w2 ⟨rfl, hf2⟩
            have HG2 : Hid (Fr w w2) := Lib.hid (Fr.trans (by repeat' first | exact Fr.refl _ | exact HG1.out | refine Fr.alloc ?_ _) hf2)
            have HB2 : Hid (Nb w2 w.heap.size (.int .i64 54) (.int .i64 (h : Int)) (.string s) (.slice (some ⟨b, off, none⟩) len cap) (.int .i64 a)) := Lib.hid (Nb.fr (by first | exact HB1.out | exact Nb.al HB1.out _) hf2)
            obtain ⟨k20, k21, k22, k23, k24⟩ := HB2.out.cells
            clear hf2
            go_wp2_with fail
            refine (HC2.out _ (by repeat' first | exact Fr.refl _ | exact HG2.out | refine Fr.alloc ?_ _)).mono ?_
            rintro e w3 ⟨rfl, hf3⟩
            have HG3 : Hid (Fr w w3) := Lib.hid (Fr.trans (by repeat' first | exact Fr.refl _ | exact HG2.out | refine Fr.alloc ?_ _) hf3)
            have HB3 : Hid (Nb w3 w.heap.size (.int .i64 54) (.int .i64 (h : Int)) (.string s) (.slice (some ⟨b, off, none⟩) len cap) (.int .i64 a)) := Lib.hid (Nb.fr (by first | exact HB2.out | exact Nb.al HB2.out _) hf3)
            obtain ⟨k30, k31, k32, k33, k34⟩ := HB3.out.cells
            clear hf3
            go_wp2_with fail
            go_ret
            rw [HR.out]
            exact ⟨rfl, (by repeat' first | exact Fr.refl _ | exact HG3.out | refine Fr.alloc ?_ _)⟩
        · have e5 : ((len : Int) == wrap64 (2 * n)) = false := by have hx := two_eq h4 hn1.out HCM.out; rw [decide_eq_false h5, IntWalk.i64_left] at hx; exact hx
          have HR : Hid (R = (false)) := Lib.hid (by first | exact hR | (rw [hR]; simp [hv0, HPL.out, h5]))
          clear hR
          clear h5
          go_enter Tryz.func210, Tryz.ntmps210
          go_wp2_with fail
          refine (CZ10.out _ (by repeat' first | exact Fr.refl _ | exact HG0.out | refine Fr.alloc ?_ _)).mono ?_
          rintro e w1 ⟨rfl, hf1⟩
          have HG1 : Hid (Fr w w1) := Lib.hid (Fr.trans (by repeat' first | exact Fr.refl _ | exact HG0.out | refine Fr.alloc ?_ _) hf1)
          have HB1 : Hid (Nb w1 w.heap.size (.int .i64 54) (.int .i64 n) (.string s) (.slice b0 len cap) (.int .i64 a)) := Lib.hid (Nb.fr (by first | exact HB0.out | exact Nb.al HB0.out _) hf1)
          obtain ⟨k10, k11, k12, k13, k14⟩ := HB1.out.cells
          clear hf1
          go_wp2_with fail
          go_ret
          rw [HR.out]
          exact ⟨rfl, (by repeat' first | exact Fr.refl _ | exact HG1.out | refine Fr.alloc ?_ _)⟩
      · have e4 : decide ((1 : Int) ≤ n) = false := decide_eq_false h4
        have e4b : decide (n ≥ (1 : Int)) = false := decide_eq_false h4
        have HR : Hid (R = (false)) := Lib.hid (by first | exact hR | (rw [hR]; simp [hv0, h4]))
        clear hR
        go_enter Tryz.func210, Tryz.ntmps210
        go_wp2_with fail
        refine (CZ10.out _ (by repeat' first | exact Fr.refl _ | exact HG0.out | refine Fr.alloc ?_ _)).mono ?_
        rintro e w1 ⟨rfl, hf1⟩
        have HG1 : Hid (Fr w w1) := Lib.hid (Fr.trans (by repeat' first | exact Fr.refl _ | exact HG0.out | refine Fr.alloc ?_ _) hf1)
        have HB1 : Hid (Nb w1 w.heap.size (.int .i64 54) (.int .i64 n) (.string s) (.slice b0 len cap) (.int .i64 a)) := Lib.hid (Nb.fr (by first | exact HB0.out | exact Nb.al HB0.out _) hf1)
        obtain ⟨k10, k11, k12, k13, k14⟩ := HB1.out.cells
        clear hf1
        go_wp2_with fail
        go_ret
        rw [HR.out]
        exact ⟨rfl, (by repeat' first | exact Fr.refl _ | exact HG1.out | refine Fr.alloc ?_ _)⟩
  have z54 : (o == 54) = false := by rw [beq_eq_false_iff_ne]; exact g54
  by_cases g55 : o = 55
  · subst g55
    replace hR : R = (named n s && hasK P [.expr]) := by first | exact hR | (rw [hR]; first | rfl | simp [nodeR, itemR, pairs_alt, HPL.out])
    have HB0 := Lib.hid (Nb.new w (.int .i64 55) (.int .i64 n) (.string s) (.slice b0 len cap) (.int .i64 a))
    cases hv0 : (decide (n = 0)) with
    | true =>
      rw [hv0] at CZ01
      cases hv1 : (isNm s) with
      | true =>
        rw [hv1] at CIn
        have HR : Hid (R = (hasK P [.expr])) := Lib.hid (by first | exact hR | (rw [hR]; simp [HPL.out, named, someK, hasK_nil, hv0, hv1]))
        clear hR
        try clear h5
        go_enter Tryz.func210, Tryz.ntmps210
        go_wp2_with fail
        refine (CZ01.out _ (by repeat' first | exact Fr.refl _ | exact HG0.out | refine Fr.alloc ?_ _)).mono ?_
        rintro e w1 ⟨rfl, hf1⟩
        have HG1 : Hid (Fr w w1) := Lib.hid (Fr.trans (by repeat' first | exact Fr.refl _ | exact HG0.out | refine Fr.alloc ?_ _) hf1)
        have HB1 : Hid (Nb w1 w.heap.size (.int .i64 55) (.int .i64 n) (.string s) (.slice b0 len cap) (.int .i64 a)) := Lib.hid (Nb.fr (by first | exact HB0.out | exact Nb.al HB0.out _) hf1)
        obtain ⟨k10, k11, k12, k13, k14⟩ := HB1.out.cells
        clear hf1
        go_wp2_with fail
        refine (CIn.out _ (by repeat' first | exact Fr.refl _ | exact HG1.out | refine Fr.alloc ?_ _)).mono ?_
        rintro e w2 ⟨rfl, hf2⟩
        have HG2 : Hid (Fr w w2) := Lib.hid (Fr.trans (by repeat' first | exact Fr.refl _ | exact HG1.out | refine Fr.alloc ?_ _) hf2)
        have HB2 : Hid (Nb w2 w.heap.size (.int .i64 55) (.int .i64 n) (.string s) (.slice b0 len cap) (.int .i64 a)) := Lib.hid (Nb.fr (by first | exact HB1.out | exact Nb.al HB1.out _) hf2)
        obtain ⟨k20, k21, k22, k23, k24⟩ := HB2.out.cells
        clear hf2
        go_wp2_with fail
        refine (CP.out _ (by repeat' first | exact Fr.refl _ | exact HG2.out | refine Fr.alloc ?_ _) [.expr] _ (IV.one _ _ .expr _ (by simp) rfl)).mono ?_
        rintro e w3 ⟨rfl, hf3⟩
        have HG3 : Hid (Fr w w3) := Lib.hid (Fr.trans (by repeat' first | exact Fr.refl _ | exact HG2.out | refine Fr.alloc ?_ _) hf3)
        have HB3 : Hid (Nb w3 w.heap.size (.int .i64 55) (.int .i64 n) (.string s) (.slice b0 len cap) (.int .i64 a)) := Lib.hid (Nb.fr (by first | exact HB2.out | exact Nb.al HB2.out _) hf3)
        obtain ⟨k30, k31, k32, k33, k34⟩ := HB3.out.cells
        clear hf3
        go_wp2_with fail
        go_ret
        rw [HR.out]
        exact ⟨rfl, (by repeat' first | exact Fr.refl _ | exact HG3.out | refine Fr.alloc ?_ _)⟩
      | false =>
        rw [hv1] at CIn
        have HR : Hid (R = (false)) := Lib.hid (by first | exact hR | (rw [hR]; simp [HPL.out, named, someK, hasK_nil, hv0, hv1]))
        clear hR
        try clear h5
        go_enter Tryz.func210, Tryz.ntmps210
        go_wp2_with fail
        refine (CZ01.out _ (by repeat' first | exact Fr.refl _ | exact HG0.out | refine Fr.alloc ?_ _)).mono ?_
        rintro e w1 ⟨rfl, hf1⟩
        have HG1 : Hid (Fr w w1) := Lib.hid (Fr.trans (by repeat' first | exact Fr.refl _ | exact HG0.out | refine Fr.alloc ?_ _) hf1)
        have HB1 : Hid (Nb w1 w.heap.size (.int .i64 55) (.int .i64 n) (.string s) (.slice b0 len cap) (.int .i64 a)) := Lib.hid (Nb.fr (by first | exact HB0.out | exact Nb.al HB0.out _) hf1)
        obtain ⟨k10, k11, k12, k13, k14⟩ := HB1.out.cells
        clear hf1
        go_wp2_with fail
        refine (CIn.out _ (by repeat' first | exact Fr.refl _ | exact HG1.out | refine Fr.alloc ?_ _)).mono ?_
        rintro e w2 ⟨rfl, hf2⟩
        have HG2 : Hid (Fr w w2) := Lib.hid (Fr.trans (by repeat' first | exact Fr.refl _ | exact HG1.out | refine Fr.alloc ?_ _) hf2)
        have HB2 : Hid (Nb w2 w.heap.size (.int .i64 55) (.int .i64 n) (.string s) (.slice b0 len cap) (.int .i64 a)) := Lib.hid (Nb.fr (by first | exact HB1.out | exact Nb.al HB1.out _) hf2)
        obtain ⟨k20, k21, k22, k23, k24⟩ := HB2.out.cells
        clear hf2
        go_wp2_with fail
        go_ret
        rw [HR.out]
        exact ⟨rfl, (by repeat' first | exact Fr.refl _ | exact HG2.out | refine Fr.alloc ?_ _)⟩
    | false =>
      rw [hv0] at CZ01
      have HR : Hid (R = (false)) := Lib.hid (by first | exact hR | (rw [hR]; simp [HPL.out, named, someK, hasK_nil, hv0]))
      clear hR
      try clear h5
      go_enter Tryz.func210, Tryz.ntmps210
      go_wp2_with fail
      refine (CZ01.out _ (by repeat' first | exact Fr.refl _ | exact HG0.out | refine Fr.alloc ?_ _)).mono ?_
      rintro e w1 ⟨rfl, hf1⟩
      have HG1 : Hid (Fr w w1) := Lib.hid (Fr.trans (by repeat' first | exact Fr.refl _ | exact HG0.out | refine Fr.alloc ?_ _) hf1)
      have HB1 : Hid (Nb w1 w.heap.size (.int .i64 55) (.int .i64 n) (.string s) (.slice b0 len cap) (.int .i64 a)) := Lib.hid (Nb.fr (by first | exact HB0.out | exact Nb.al HB0.out _) hf1)
      obtain ⟨k10, k11, k12, k13, k14⟩ := HB1.out.cells
      clear hf1
      go_wp2_with fail
      go_ret
      rw [HR.out]
      exact ⟨rfl, (by repeat' first | exact Fr.refl _ | exact HG1.out | refine Fr.alloc ?_ _)⟩
  have z55 : (o == 55) = false := by rw [beq_eq_false_iff_ne]; exact g55
  replace hR : R = (cmdR o n s P) := by first | (rw [hR]; simp [nodeR, itemR, pairs_alt, HPL.out, g54, g55]; done) | (rw [hR]; rfl)
  clear g54 g55
  have HB0 := Lib.hid (Nb.new w (.int .i64 o) (.int .i64 n) (.string s) (.slice b0 len cap) (.int .i64 a))
  have HR : Hid (R = (cmdR o n s P)) := Lib.hid (by first | exact hR | (rw [hR]; simp [HPL.out, named, someK, hasK_nil]))
  clear hR
  try clear h5
  go_enter Tryz.func210, Tryz.ntmps210
  go_wp2_with fail
  refine (CFC.out _ (by repeat' first | exact Fr.refl _ | exact HG0.out | refine Fr.alloc ?_ _)).mono ?_
  rintro e w1 ⟨rfl, hf1⟩
  have HG1 : Hid (Fr w w1) := Lib.hid (Fr.trans (by repeat' first | exact Fr.refl _ | exact HG0.out | refine Fr.alloc ?_ _) hf1)
  have HB1 : Hid (Nb w1 w.heap.size (.int .i64 o) (.int .i64 n) (.string s) (.slice b0 len cap) (.int .i64 a)) := Lib.hid (Nb.fr (by first | exact HB0.out | exact Nb.al HB0.out _) hf1)
  obtain ⟨k10, k11, k12, k13, k14⟩ := HB1.out.cells
  clear hf1
  go_wp2_with fail
  go_ret
  rw [HR.out]
  exact ⟨rfl, (by repeat' first | exact Fr.refl _ | exact HG1.out | refine Fr.alloc ?_ _)⟩
/-- The document's test of nodes, of any tree, at any place. -/
theorem formed_any : ∀ (m : Nat), m ≤ 2000000 → ∀ (t : Nd), t.bulk ≤ m → wfN t → ∀ (p : Pr), p.ref = true → ∀ (lt : Value) (w : World), LN w lt t.l →
    Calls Tryz.prog 210 #[ndV t lt, .int .i64 p.num] w fun e w' => e = .returned (.bool (okP t p)) ∧ Fr w w' := by
  intro m
  induction m using Nat.strongRecOn with
  | _ m ih =>
    intro hm t ht hwf p hp lt w hlt
    have hbe := t.bulk_eq
    have hs : t.s.size ≤ 2000000 := by omega
    have hq : RQ w t.l := by
      intro W hW u hu lu hlu q hqr
      have hub := bulks_mem hu
      exact ih u.bulk (by omega) (by omega) u (Nat.le_refl _) (hlt.wf u hu) q hqr lu W hlu
    rw [okP_eq]
    cases p with
    | expr => exact formed_expr t lt w hlt hs hwf.n hq
    | name => exact formed_name t lt w hlt hs hwf.n hq
    | call => cases hp
    | block => exact formed_block t lt w hlt hs hwf.n hq
    | item => exact formed_item t lt w hlt hs hwf.n hq
    | cmd => exact formed_cmd t lt w hlt hs hwf.n hq
    | rep => exact formed_rep t lt w hlt hs hwf.n hq
    | const => exact formed_const t lt w hlt hs hwf.n hq
    | decl => exact formed_decl t lt w hlt hs hwf.n hq
    | few => cases hp
theorem RQ_all (w : World) (l : List Nd) (hb : bulks l ≤ 2000000) (hw : ∀ t ∈ l, wfN t) : RQ w l := by
  intro W hW t ht lt hlt p hp
  have := bulks_mem ht
  exact formed_any t.bulk (by omega) t (Nat.le_refl _) (hw t ht) p hp lt W hlt
end Go.Proofs.YtbaelbafhdjlnaaGreatDoor

/- Nodes with too many parts; checks of sections and expressions: the document; both sides say the same. -/
namespace Go.Proofs.YtbaelbafhdjlnaaGreatDoor
open Go.RowKit
set_option linter.unusedVariables false
set_option linter.unusedSimpArgs false

def mostN (o : Int) (len : Nat) : Nat := if o = 54 ∨ o = 30 then 16 else if o = 7 ∨ o = 64 then 9 else if o = 16 then 100 else len
mutual
def grN : Nd → Bool
  | ⟨o, _, _, l, _⟩ => decide (mostN o l.length < l.length) || grL l
def grL : List Nd → Bool
  | [] => false
  | t :: r => grN t || grL r
end
theorem grN_eq (t : Nd) : grN t = (decide (mostN t.op t.l.length < t.l.length) || grL t.l) := by
  obtain ⟨o, n, s, l, a⟩ := t
  rw [grN]; rfl
theorem grL_drop {l : List Nd} {j : Nat} {t : Nd} (ht : l[j]? = some t) : grL (l.drop j) = (grN t || grL (l.drop (j + 1))) := by
  rw [drop1 ht, grL]
set_option maxHeartbeats 8000000 in
theorem great_any : ∀ (m : Nat), m ≤ 2000000 → ∀ (l : List Nd), bulks l ≤ m → ∀ (v : Value) (w : World), LN w v l →
    Calls Tryz.prog 146 #[v] w fun e w' => e = .returned (.bool (grL l)) ∧ Fr w w' := by
  intro m
  induction m using Nat.strongRecOn with
  | _ m ih =>
    intro hm2 l hl v w hv
    have IH := Lib.hid ih
    have HV := Lib.hid hv
    have HB := Lib.hid hl
    obtain ⟨a, cap, rfl, hc, hm, _⟩ := hv.form
    unfold maxLen at hm
    obtain ⟨n, hn⟩ : ∃ n, n = l.length := ⟨_, rfl⟩
    have HN := Lib.hid hn
    rw [← hn] at hc HV ⊢
    obtain ⟨D, hD⟩ : ∃ d, d = grL l := ⟨_, rfl⟩
    have HD := Lib.hid hD
    rw [← hD]
    clear hn hv hD ih hl
    go_enter Tryz.func146, Tryz.ntmps146
    go_wp2_with fail
    go_loopw [3] (fun i wr => ∃ j : Nat, j ≤ n ∧ i = .int .i64 j ∧ Hid (D = grL (l.drop j)) ∧ Fr w wr) (fun i _ => n - (intOf i).toNat)
    case atStart => exact ⟨0, Nat.zero_le _, rfl, Lib.hid (by rw [HD.out]; rfl), Fr.refl _⟩
    case round =>
      obtain ⟨j, hj, rfl, HJ, hfr⟩ := hrel
      by_cases hlt : j < n
      · obtain ⟨t, ht⟩ : ∃ t, l[j]? = some t := ⟨_, List.getElem?_eq_getElem (by rw [← HN.out]; exact hlt)⟩
        have hstep := grL_drop ht
        rw [grN_eq] at hstep
        have htb := bulks_mem (List.mem_of_getElem? ht)
        have hbe := t.bulk_eq
        have hbl := HB.out
        obtain ⟨b, off, lv, rfl, hc5, hln, _⟩ := (HV.out.fr hfr).at_ ht
        obtain ⟨x0, x1, x2, x3, x4⟩ := hc5
        obtain ⟨la, lc, rfl, _, hlm, _⟩ := hln.form
        unfold maxLen at hlm
        obtain ⟨D1, hD1⟩ : ∃ d, d = grL t.l := ⟨_, rfl⟩
        have HL := Lib.hid hln
        have HC : Hid (∀ W, Fr wr W → Calls Tryz.prog 146 #[.slice la t.l.length lc] W fun e w' => e = .returned (.bool D1) ∧ Fr W w') := Lib.hid (fun W hW => by
          rw [hD1]; exact IH.out (bulks t.l) (by omega) (by omega) t.l (Nat.le_refl _) _ W (HL.out.fr hW))
        rw [← hD1] at hstep
        obtain ⟨ll, hll⟩ : ∃ x : Nat, x = t.l.length := ⟨_, rfl⟩
        rw [← hll] at x3 HC hstep
        obtain ⟨q0, hq0⟩ : ∃ x, x = t.op := ⟨_, rfl⟩
        obtain ⟨q1, hq1⟩ : ∃ x, x = t.n := ⟨_, rfl⟩
        obtain ⟨q2, hq2⟩ : ∃ x, x = t.s := ⟨_, rfl⟩
        obtain ⟨q4, hq4⟩ : ∃ x, x = t.a := ⟨_, rfl⟩
        rw [← hq0] at x0 hstep
        rw [← hq1] at x1
        rw [← hq2] at x2
        rw [← hq4] at x4
        have hll9 : ll ≤ 9223372036854775807 := by have := bulks_len t.l; omega
        have HB0 := Lib.hid (Nb.new wr (.int .i64 q0) (.int .i64 q1) (.string q2) (.slice la ll lc) (.int .i64 q4))
        clear hln ht hD1 hll hq0 hq1 hq2 hq4 htb hbe hbl hlm
        by_cases g54 : q0 = 54
        · subst g54
          by_cases hk : 16 < ll
          · have f1 : decide ((16 : Int) < (ll : Int)) = true := decide_eq_true (by omega)
            have f2 : decide ((ll : Int) > 16) = true := decide_eq_true (by omega)
            have HT : Hid (D = true) := Lib.hid (by rw [HJ.out, hstep]; simp [mostN, hk])
            clear hstep
            go_wp2_with fail
            go_ret
            rw [HT.out]
            exact ⟨rfl, Fr.trans hfr (by repeat' first | exact Fr.refl _ | refine Fr.alloc ?_ _)⟩
          · have f1 : decide ((16 : Int) < (ll : Int)) = false := decide_eq_false (by omega)
            have f2 : decide ((ll : Int) > 16) = false := decide_eq_false (by omega)
            have HST : Hid (grL (l.drop j) = (D1 || grL (l.drop (j + 1)))) := Lib.hid (by rw [hstep]; simp [mostN, hk])
            clear hstep
            cases D1 with
            | true =>
              have HT : Hid (D = true) := Lib.hid (by rw [HJ.out, HST.out]; rfl)
              go_wp2_with fail
              refine (HC.out _ (by repeat' first | exact Fr.refl _ | refine Fr.alloc ?_ _)).mono ?_
              rintro e w1 ⟨rfl, hf1⟩
              have hfin := hfr.trans (Fr.trans (by repeat' first | exact Fr.refl _ | refine Fr.alloc ?_ _) hf1)
              go_wp2_with fail
              go_ret
              rw [HT.out]
              exact ⟨rfl, hfin⟩
            | false =>
              have HJ2 : Hid (D = grL (l.drop (j + 1))) := Lib.hid (by rw [HJ.out, HST.out, Bool.false_or])
              go_wp2_with fail
              refine (HC.out _ (by repeat' first | exact Fr.refl _ | refine Fr.alloc ?_ _)).mono ?_
              rintro e w1 ⟨rfl, hf1⟩
              have hfin := hfr.trans (Fr.trans (by repeat' first | exact Fr.refl _ | refine Fr.alloc ?_ _) hf1)
              go_wp2_with fail
              go_roundw
              case rel => exact ⟨j + 1, by omega, by go_num, HJ2, hfin⟩
              case measure => simp [intOf]; omega
        have z54 : (q0 == 54) = false := by rw [beq_eq_false_iff_ne]; exact g54
        by_cases g30 : q0 = 30
        · subst g30
          by_cases hk : 16 < ll
          · have f1 : decide ((16 : Int) < (ll : Int)) = true := decide_eq_true (by omega)
            have f2 : decide ((ll : Int) > 16) = true := decide_eq_true (by omega)
            have HT : Hid (D = true) := Lib.hid (by rw [HJ.out, hstep]; simp [mostN, hk])
            clear hstep
            go_wp2_with fail
            go_ret
            rw [HT.out]
            exact ⟨rfl, Fr.trans hfr (by repeat' first | exact Fr.refl _ | refine Fr.alloc ?_ _)⟩
          · have f1 : decide ((16 : Int) < (ll : Int)) = false := decide_eq_false (by omega)
            have f2 : decide ((ll : Int) > 16) = false := decide_eq_false (by omega)
            have HST : Hid (grL (l.drop j) = (D1 || grL (l.drop (j + 1)))) := Lib.hid (by rw [hstep]; simp [mostN, hk])
            clear hstep
            cases D1 with
            | true =>
              have HT : Hid (D = true) := Lib.hid (by rw [HJ.out, HST.out]; rfl)
              go_wp2_with fail
              refine (HC.out _ (by repeat' first | exact Fr.refl _ | refine Fr.alloc ?_ _)).mono ?_
              rintro e w1 ⟨rfl, hf1⟩
              have hfin := hfr.trans (Fr.trans (by repeat' first | exact Fr.refl _ | refine Fr.alloc ?_ _) hf1)
              go_wp2_with fail
              go_ret
              rw [HT.out]
              exact ⟨rfl, hfin⟩
            | false =>
              have HJ2 : Hid (D = grL (l.drop (j + 1))) := Lib.hid (by rw [HJ.out, HST.out, Bool.false_or])
              go_wp2_with fail
              refine (HC.out _ (by repeat' first | exact Fr.refl _ | refine Fr.alloc ?_ _)).mono ?_
              rintro e w1 ⟨rfl, hf1⟩
              have hfin := hfr.trans (Fr.trans (by repeat' first | exact Fr.refl _ | refine Fr.alloc ?_ _) hf1)
              go_wp2_with fail
              go_roundw
              case rel => exact ⟨j + 1, by omega, by go_num, HJ2, hfin⟩
              case measure => simp [intOf]; omega
        have z30 : (q0 == 30) = false := by rw [beq_eq_false_iff_ne]; exact g30
        by_cases g7 : q0 = 7
        · subst g7
          by_cases hk : 9 < ll
          · have f1 : decide ((9 : Int) < (ll : Int)) = true := decide_eq_true (by omega)
            have f2 : decide ((ll : Int) > 9) = true := decide_eq_true (by omega)
            have HT : Hid (D = true) := Lib.hid (by rw [HJ.out, hstep]; simp [mostN, hk])
            clear hstep
            go_wp2_with fail
            go_ret
            rw [HT.out]
            exact ⟨rfl, Fr.trans hfr (by repeat' first | exact Fr.refl _ | refine Fr.alloc ?_ _)⟩
          · have f1 : decide ((9 : Int) < (ll : Int)) = false := decide_eq_false (by omega)
            have f2 : decide ((ll : Int) > 9) = false := decide_eq_false (by omega)
            have HST : Hid (grL (l.drop j) = (D1 || grL (l.drop (j + 1)))) := Lib.hid (by rw [hstep]; simp [mostN, hk])
            clear hstep
            cases D1 with
            | true =>
              have HT : Hid (D = true) := Lib.hid (by rw [HJ.out, HST.out]; rfl)
              go_wp2_with fail
              refine (HC.out _ (by repeat' first | exact Fr.refl _ | refine Fr.alloc ?_ _)).mono ?_
              rintro e w1 ⟨rfl, hf1⟩
              have hfin := hfr.trans (Fr.trans (by repeat' first | exact Fr.refl _ | refine Fr.alloc ?_ _) hf1)
              go_wp2_with fail
              go_ret
              rw [HT.out]
              exact ⟨rfl, hfin⟩
            | false =>
              have HJ2 : Hid (D = grL (l.drop (j + 1))) := Lib.hid (by rw [HJ.out, HST.out, Bool.false_or])
              go_wp2_with fail
              refine (HC.out _ (by repeat' first | exact Fr.refl _ | refine Fr.alloc ?_ _)).mono ?_
              rintro e w1 ⟨rfl, hf1⟩
              have hfin := hfr.trans (Fr.trans (by repeat' first | exact Fr.refl _ | refine Fr.alloc ?_ _) hf1)
              go_wp2_with fail
              go_roundw
              case rel => exact ⟨j + 1, by omega, by go_num, HJ2, hfin⟩
              case measure => simp [intOf]; omega
        have z7 : (q0 == 7) = false := by rw [beq_eq_false_iff_ne]; exact g7
        by_cases g64 : q0 = 64
        · subst g64
          by_cases hk : 9 < ll
          · have f1 : decide ((9 : Int) < (ll : Int)) = true := decide_eq_true (by omega)
            have f2 : decide ((ll : Int) > 9) = true := decide_eq_true (by omega)
            have HT : Hid (D = true) := Lib.hid (by rw [HJ.out, hstep]; simp [mostN, hk])
            clear hstep
            go_wp2_with fail
            go_ret
            rw [HT.out]
            exact ⟨rfl, Fr.trans hfr (by repeat' first | exact Fr.refl _ | refine Fr.alloc ?_ _)⟩
          · have f1 : decide ((9 : Int) < (ll : Int)) = false := decide_eq_false (by omega)
            have f2 : decide ((ll : Int) > 9) = false := decide_eq_false (by omega)
            have HST : Hid (grL (l.drop j) = (D1 || grL (l.drop (j + 1)))) := Lib.hid (by rw [hstep]; simp [mostN, hk])
            clear hstep
            cases D1 with
            | true =>
              have HT : Hid (D = true) := Lib.hid (by rw [HJ.out, HST.out]; rfl)
              go_wp2_with fail
              refine (HC.out _ (by repeat' first | exact Fr.refl _ | refine Fr.alloc ?_ _)).mono ?_
              rintro e w1 ⟨rfl, hf1⟩
              have hfin := hfr.trans (Fr.trans (by repeat' first | exact Fr.refl _ | refine Fr.alloc ?_ _) hf1)
              go_wp2_with fail
              go_ret
              rw [HT.out]
              exact ⟨rfl, hfin⟩
            | false =>
              have HJ2 : Hid (D = grL (l.drop (j + 1))) := Lib.hid (by rw [HJ.out, HST.out, Bool.false_or])
              go_wp2_with fail
              refine (HC.out _ (by repeat' first | exact Fr.refl _ | refine Fr.alloc ?_ _)).mono ?_
              rintro e w1 ⟨rfl, hf1⟩
              have hfin := hfr.trans (Fr.trans (by repeat' first | exact Fr.refl _ | refine Fr.alloc ?_ _) hf1)
              go_wp2_with fail
              go_roundw
              case rel => exact ⟨j + 1, by omega, by go_num, HJ2, hfin⟩
              case measure => simp [intOf]; omega
        have z64 : (q0 == 64) = false := by rw [beq_eq_false_iff_ne]; exact g64
        by_cases g16 : q0 = 16
        · subst g16
          by_cases hk : 100 < ll
          · have f1 : decide ((100 : Int) < (ll : Int)) = true := decide_eq_true (by omega)
            have f2 : decide ((ll : Int) > 100) = true := decide_eq_true (by omega)
            have HT : Hid (D = true) := Lib.hid (by rw [HJ.out, hstep]; simp [mostN, hk])
            clear hstep
            go_wp2_with fail
            go_ret
            rw [HT.out]
            exact ⟨rfl, Fr.trans hfr (by repeat' first | exact Fr.refl _ | refine Fr.alloc ?_ _)⟩
          · have f1 : decide ((100 : Int) < (ll : Int)) = false := decide_eq_false (by omega)
            have f2 : decide ((ll : Int) > 100) = false := decide_eq_false (by omega)
            have HST : Hid (grL (l.drop j) = (D1 || grL (l.drop (j + 1)))) := Lib.hid (by rw [hstep]; simp [mostN, hk])
            clear hstep
            cases D1 with
            | true =>
              have HT : Hid (D = true) := Lib.hid (by rw [HJ.out, HST.out]; rfl)
              go_wp2_with fail
              refine (HC.out _ (by repeat' first | exact Fr.refl _ | refine Fr.alloc ?_ _)).mono ?_
              rintro e w1 ⟨rfl, hf1⟩
              have hfin := hfr.trans (Fr.trans (by repeat' first | exact Fr.refl _ | refine Fr.alloc ?_ _) hf1)
              go_wp2_with fail
              go_ret
              rw [HT.out]
              exact ⟨rfl, hfin⟩
            | false =>
              have HJ2 : Hid (D = grL (l.drop (j + 1))) := Lib.hid (by rw [HJ.out, HST.out, Bool.false_or])
              go_wp2_with fail
              refine (HC.out _ (by repeat' first | exact Fr.refl _ | refine Fr.alloc ?_ _)).mono ?_
              rintro e w1 ⟨rfl, hf1⟩
              have hfin := hfr.trans (Fr.trans (by repeat' first | exact Fr.refl _ | refine Fr.alloc ?_ _) hf1)
              go_wp2_with fail
              go_roundw
              case rel => exact ⟨j + 1, by omega, by go_num, HJ2, hfin⟩
              case measure => simp [intOf]; omega
        have z16 : (q0 == 16) = false := by rw [beq_eq_false_iff_ne]; exact g16
        replace hstep : grL (l.drop j) = (decide (ll < ll) || D1 || grL (l.drop (j + 1))) := by rw [hstep]; simp [mostN, g54, g30, g7, g64, g16]
        clear g54 g30 g7 g64 g16
        have hk : ¬ ll < ll := Nat.lt_irrefl _
        have f1 : decide (((ll : Int) : Int) < (ll : Int)) = false := decide_eq_false (by omega)
        have f2 : decide ((ll : Int) > (ll : Int)) = false := decide_eq_false (by omega)
        have HST : Hid (grL (l.drop j) = (D1 || grL (l.drop (j + 1)))) := Lib.hid (by rw [hstep]; simp [mostN, hk])
        clear hstep
        cases D1 with
        | true =>
          have HT : Hid (D = true) := Lib.hid (by rw [HJ.out, HST.out]; rfl)
          go_wp2_with fail
          refine (HC.out _ (by repeat' first | exact Fr.refl _ | refine Fr.alloc ?_ _)).mono ?_
          rintro e w1 ⟨rfl, hf1⟩
          have hfin := hfr.trans (Fr.trans (by repeat' first | exact Fr.refl _ | refine Fr.alloc ?_ _) hf1)
          go_wp2_with fail
          go_ret
          rw [HT.out]
          exact ⟨rfl, hfin⟩
        | false =>
          have HJ2 : Hid (D = grL (l.drop (j + 1))) := Lib.hid (by rw [HJ.out, HST.out, Bool.false_or])
          go_wp2_with fail
          refine (HC.out _ (by repeat' first | exact Fr.refl _ | refine Fr.alloc ?_ _)).mono ?_
          rintro e w1 ⟨rfl, hf1⟩
          have hfin := hfr.trans (Fr.trans (by repeat' first | exact Fr.refl _ | refine Fr.alloc ?_ _) hf1)
          go_wp2_with fail
          go_roundw
          case rel => exact ⟨j + 1, by omega, by go_num, HJ2, hfin⟩
          case measure => simp [intOf]; omega
      · obtain rfl : j = n := by omega
        have HR : Hid (D = false) := Lib.hid (by rw [HJ.out, List.drop_eq_nil_of_le (by rw [← HN.out]; exact Nat.le_refl _), grL])
        go_wp2_with fail
        go_ret
        rw [HR.out]
        exact ⟨rfl, hfr⟩
/-- What is wrong with trees at a place, as the document looks. -/
noncomputable def rchk (l : List Nd) (p : Pr) : Nat := if allK (okL l) p = false then 3 else if grL l = true then 2 else if 20000 < cntL l 0 20000 then 2 else if deepL 40 l = true then 31 else 0
set_option maxHeartbeats 4000000 in
theorem check_any (p : Pr) (hp : p.ref = true) (l : List Nd) (v : Value) (w : World) (hv : LN w v l) (hb : bulks l ≤ 2000000) :
    Calls Tryz.prog 69 #[v, .int .i64 p.num] w fun e w' => e = .returned (.int .i64 (rchk l p : Nat)) ∧ Fr w w' := by
  have hq := RQ_all w l hb hv.wf
  have CA := Lib.hid (fun W (h : Fr w W) => all_any p hp l v W (hv.fr h) (hq.fr h))
  have CG := Lib.hid (fun W (h : Fr w W) => great_any (bulks l) hb l (Nat.le_refl _) v W (hv.fr h))
  have CN := Lib.hid (fun W (h : Fr w W) => Nodes_any (bulks l) (by omega) l (Nat.le_refl _) v 20000 W (by omega) (hv.fr h))
  have CD := Lib.hid (fun W (h : Fr w W) => Deep_any 40 (by omega) l v W (hv.fr h))
  obtain ⟨a, cap, rfl, hc, hm, _⟩ := hv.form
  obtain ⟨n, hn⟩ : ∃ n, n = l.length := ⟨_, rfl⟩
  obtain ⟨R, hR⟩ : ∃ r, r = rchk l p := ⟨_, rfl⟩
  rw [← hR]
  unfold rchk at hR
  obtain ⟨D0, hD0⟩ : ∃ d, d = allK (okL l) p := ⟨_, rfl⟩
  obtain ⟨D1, hD1⟩ : ∃ d, d = grL l := ⟨_, rfl⟩
  obtain ⟨S, hS⟩ : ∃ d, d = cntL l 0 20000 := ⟨_, rfl⟩
  obtain ⟨D2, hD2⟩ : ∃ d, d = deepL 40 l := ⟨_, rfl⟩
  obtain ⟨pn, hpn⟩ : ∃ x, x = p.num := ⟨_, rfl⟩
  rw [← hD0] at CA hR
  rw [← hD1] at CG hR
  rw [← hS] at CN hR
  rw [← hD2] at CD hR
  rw [← hpn] at CA ⊢
  rw [← hn] at CA CG CN CD ⊢
  have CN' : Hid (∀ W, Fr w W → Calls Tryz.prog 62 #[.slice a n cap, .int .i64 20000] W fun e w' => e = .returned (.int .i64 (S : Nat)) ∧ Fr W w') := CN
  have CD' : Hid (∀ W, Fr w W → Calls Tryz.prog 44 #[.slice a n cap, .int .i64 40] W fun e w' => e = .returned (.bool D2) ∧ Fr W w') := CD
  clear hv hq hb hD0 hD1 hS hD2 hn hm hc hpn CN CD
  cases D0 with
  | false =>
    have HR : Hid (R = 3) := Lib.hid (by rw [hR]; simp)
    clear hR
    go_enter Tryz.func69, Tryz.ntmps69
    go_wp2_with fail
    refine (CA.out _ (Fr.refl _)).mono ?_
    rintro e w1 ⟨rfl, hf1⟩
    go_wp2_with fail
    go_ret
    rw [HR.out]
    exact ⟨rfl, hf1⟩
  | true =>
    cases D1 with
    | true =>
      have HR : Hid (R = 2) := Lib.hid (by rw [hR]; simp)
      clear hR
      go_enter Tryz.func69, Tryz.ntmps69
      go_wp2_with fail
      refine (CA.out _ (Fr.refl _)).mono ?_
      rintro e w1 ⟨rfl, hf1⟩
      have HG1 : Hid (Fr w w1) := Lib.hid (Fr.trans (Fr.refl _) hf1)
      clear hf1
      go_wp2_with fail
      refine (CG.out _ HG1.out).mono ?_
      rintro e w2 ⟨rfl, hf2⟩
      have HG2 : Hid (Fr w w2) := Lib.hid (Fr.trans HG1.out hf2)
      clear hf2
      go_wp2_with fail
      go_ret
      rw [HR.out]
      exact ⟨rfl, HG2.out⟩
    | false =>
      by_cases h3 : 20000 < S
      · have e3 : decide ((20000 : Int) < (S : Int)) = true := decide_eq_true (by omega)
        have e3b : decide ((S : Int) > 20000) = true := decide_eq_true (by omega)
        have HR : Hid (R = 2) := Lib.hid (by rw [hR]; simp [h3])
        clear hR
        go_enter Tryz.func69, Tryz.ntmps69
        go_wp2_with fail
        refine (CA.out _ (Fr.refl _)).mono ?_
        rintro e w1 ⟨rfl, hf1⟩
        have HG1 : Hid (Fr w w1) := Lib.hid (Fr.trans (Fr.refl _) hf1)
        clear hf1
        go_wp2_with fail
        refine (CG.out _ HG1.out).mono ?_
        rintro e w2 ⟨rfl, hf2⟩
        have HG2 : Hid (Fr w w2) := Lib.hid (Fr.trans HG1.out hf2)
        clear hf2
        go_wp2_with fail
        refine (CN'.out _ HG2.out).mono ?_
        rintro e w3 ⟨rfl, hf3⟩
        have HG3 : Hid (Fr w w3) := Lib.hid (Fr.trans HG2.out hf3)
        clear hf3
        go_wp2_with fail
        go_ret
        rw [HR.out]
        exact ⟨rfl, HG3.out⟩
      · have e3 : decide ((20000 : Int) < (S : Int)) = false := decide_eq_false (by omega)
        have e3b : decide ((S : Int) > 20000) = false := decide_eq_false (by omega)
        cases D2 with
        | true =>
          have HR : Hid (R = 31) := Lib.hid (by rw [hR]; simp [h3])
          clear hR
          go_enter Tryz.func69, Tryz.ntmps69
          go_wp2_with fail
          refine (CA.out _ (Fr.refl _)).mono ?_
          rintro e w1 ⟨rfl, hf1⟩
          have HG1 : Hid (Fr w w1) := Lib.hid (Fr.trans (Fr.refl _) hf1)
          clear hf1
          go_wp2_with fail
          refine (CG.out _ HG1.out).mono ?_
          rintro e w2 ⟨rfl, hf2⟩
          have HG2 : Hid (Fr w w2) := Lib.hid (Fr.trans HG1.out hf2)
          clear hf2
          go_wp2_with fail
          refine (CN'.out _ HG2.out).mono ?_
          rintro e w3 ⟨rfl, hf3⟩
          have HG3 : Hid (Fr w w3) := Lib.hid (Fr.trans HG2.out hf3)
          clear hf3
          go_wp2_with fail
          refine (CD'.out _ HG3.out).mono ?_
          rintro e w4 ⟨rfl, hf4⟩
          have HG4 : Hid (Fr w w4) := Lib.hid (Fr.trans HG3.out hf4)
          clear hf4
          go_wp2_with fail
          go_ret
          rw [HR.out]
          exact ⟨rfl, HG4.out⟩
        | false =>
          have HR : Hid (R = 0) := Lib.hid (by rw [hR]; simp [h3])
          clear hR
          go_enter Tryz.func69, Tryz.ntmps69
          go_wp2_with fail
          refine (CA.out _ (Fr.refl _)).mono ?_
          rintro e w1 ⟨rfl, hf1⟩
          have HG1 : Hid (Fr w w1) := Lib.hid (Fr.trans (Fr.refl _) hf1)
          clear hf1
          go_wp2_with fail
          refine (CG.out _ HG1.out).mono ?_
          rintro e w2 ⟨rfl, hf2⟩
          have HG2 : Hid (Fr w w2) := Lib.hid (Fr.trans HG1.out hf2)
          clear hf2
          go_wp2_with fail
          refine (CN'.out _ HG2.out).mono ?_
          rintro e w3 ⟨rfl, hf3⟩
          have HG3 : Hid (Fr w w3) := Lib.hid (Fr.trans HG2.out hf3)
          clear hf3
          go_wp2_with fail
          refine (CD'.out _ HG3.out).mono ?_
          rintro e w4 ⟨rfl, hf4⟩
          have HG4 : Hid (Fr w w4) := Lib.hid (Fr.trans HG3.out hf4)
          clear hf4
          go_wp2_with fail
          go_ret
          rw [HR.out]
          exact ⟨rfl, HG4.out⟩
set_option maxHeartbeats 2000000 in
theorem RCheckExpr_any (t : Nd) (lt : Value) (w : World) (hlt : LN w lt t.l) (hw : wfN t) (hb : t.bulk ≤ 2000000) :
    Calls Tryz.prog 25 #[ndV t lt] w fun e w' => e = .returned (.int .i64 (rchk [t] .expr : Nat)) ∧ Fr w w' := by
  have CL : Hid (∀ W, Fr w W → ∀ B, B = W.heap.size → Calls Tryz.prog 69 #[.slice (some ⟨B, 0, none⟩) 1 1, .int .i64 1] (W.alloc (.cells #[.int .i64 t.op, .int .i64 t.n, .string t.s, lt, .int .i64 t.a] 32)) fun e w' => e = .returned (.int .i64 (rchk [t] .expr : Nat)) ∧ Fr (W.alloc (.cells #[.int .i64 t.op, .int .i64 t.n, .string t.s, lt, .int .i64 t.a] 32)) w') := Lib.hid (fun W h B hB => check_any .expr rfl [t] _ (W.alloc (.cells #[.int .i64 t.op, .int .i64 t.n, .string t.s, lt, .int .i64 t.a] 32)) (LN.one hB hw (hlt.fr h)) (by rw [bulks, bulks]; omega))
  obtain ⟨a, cap, rfl, hc, hm, _⟩ := hlt.form
  obtain ⟨n, hn⟩ : ∃ n, n = t.l.length := ⟨_, rfl⟩
  obtain ⟨R, hR⟩ : ∃ r, r = rchk [t] .expr := ⟨_, rfl⟩
  rw [← hR] at CL ⊢
  rw [← hn] at CL ⊢
  unfold ndV
  obtain ⟨q0, hq0⟩ : ∃ x, x = t.op := ⟨_, rfl⟩
  obtain ⟨q1, hq1⟩ : ∃ x, x = t.n := ⟨_, rfl⟩
  obtain ⟨q2, hq2⟩ : ∃ x, x = t.s := ⟨_, rfl⟩
  obtain ⟨q4, hq4⟩ : ∃ x, x = t.a := ⟨_, rfl⟩
  rw [← hq0, ← hq1, ← hq2, ← hq4] at CL
  rw [← hq0, ← hq1, ← hq2, ← hq4]
  clear hq0 hq1 hq2 hq4 hn hm hc hlt hw hb hR
  go_enter Tryz.func25, Tryz.ntmps25
  go_wp2_with fail
  refine (CL.out _ (by repeat' first | exact Fr.refl _ | refine Fr.alloc ?_ _) _ (by simp)).mono ?_
  rintro e w1 ⟨rfl, hf1⟩
  have hfin : Fr w w1 := Fr.trans (by repeat' first | exact Fr.refl _ | refine Fr.alloc ?_ _) hf1
  go_wp2_with fail
  go_ret
  exact ⟨rfl, hfin⟩
set_option maxHeartbeats 2000000 in
theorem RCheck_any (s : ByteArray) (l : List Nd) (v : Value) (w : World) (hs : s.size ≤ 2000000) (hv : LN w v l) (hb : bulks l ≤ 2000000) :
    Calls Tryz.prog 23 #[.agg #[.string s, v]] w fun e w' => e = .returned (.int .i64 ((if qtb s = false then 3 else rchk l .decl : Nat) : Nat)) ∧ Fr w w' := by
  have CQ := Lib.hid (fun W => quotes_any s hs W)
  have CL : Hid (∀ W, Fr w W → Calls Tryz.prog 69 #[v, .int .i64 8] W fun e w' => e = .returned (.int .i64 (rchk l .decl : Nat)) ∧ Fr W w') := Lib.hid (fun W (h : Fr w W) => check_any .decl rfl l v W (hv.fr h) hb)
  obtain ⟨a, cap, rfl, hc, hm, _⟩ := hv.form
  obtain ⟨n, hn⟩ : ∃ n, n = l.length := ⟨_, rfl⟩
  obtain ⟨D0, hD0⟩ : ∃ d, d = qtb s := ⟨_, rfl⟩
  obtain ⟨L, hL⟩ : ∃ d, d = rchk l .decl := ⟨_, rfl⟩
  rw [← hD0] at CQ ⊢
  rw [← hL] at CL ⊢
  rw [← hn] at CL ⊢
  clear hv hb hD0 hL hn hm hc hs
  have HS0 : Hid (SecB (w.alloc (.cells #[.string s, .slice a n cap] 24)) w.heap.size (.string s) (.slice a n cap)) := Lib.hid (SecB.new w _ _)
  cases D0 with
  | false =>
    rw [if_pos rfl]
    go_enter Tryz.func23, Tryz.ntmps23
    go_wp2_with fail
    refine (CQ.out _).mono ?_
    rintro e w1 ⟨rfl, hf1⟩
    have hfin : Fr w w1 := Fr.trans (by repeat' first | exact Fr.refl _ | refine Fr.alloc ?_ _) hf1
    go_wp2_with fail
    go_ret
    exact ⟨rfl, hfin⟩
  | true =>
    rw [if_neg (by decide)]
    go_enter Tryz.func23, Tryz.ntmps23
    go_wp2_with fail
    refine (CQ.out _).mono ?_
    rintro e w1 ⟨rfl, hf1⟩
    have HG1 : Hid (Fr w w1) := Lib.hid (Fr.trans (by repeat' first | exact Fr.refl _ | refine Fr.alloc ?_ _) hf1)
    have HS1 := Lib.hid (HS0.out.fr hf1)
    obtain ⟨k0, k1⟩ := HS1.out.cells
    clear hf1
    go_wp2_with fail
    refine (CL.out _ HG1.out).mono ?_
    rintro e w2 ⟨rfl, hf2⟩
    have hfin : Fr w w2 := HG1.out.trans hf2
    go_wp2_with fail
    go_ret
    exact ⟨rfl, hfin⟩
/-! Both sides say the same. -/
theorem cntL_nds : ∀ (m : Nat) (l : List Nd), bulks l ≤ m → ∀ (n k : Nat), (n + ndsL l ≤ k → cntL l n k = n + ndsL l) ∧ (k < n + ndsL l → k < cntL l n k ∨ k < n) := by
  intro m
  induction m using Nat.strongRecOn with
  | _ m ih =>
    intro l hl
    induction l with
    | nil => intro n k; rw [cntL, ndsL]; omega
    | cons t r ihr =>
      intro n k
      rw [bulks] at hl
      have hbe := t.bulk_eq
      have h1 := ih (bulks t.l) (by omega) t.l (Nat.le_refl _) 0 (k - n)
      rw [cntL, ndsL, ndsN_eq, cntN_eq]
      by_cases hnk : n ≤ k
      · rw [if_pos hnk]
        have h2 := ihr (by omega) (n + 1 + cntL t.l 0 (k - n)) k
        have h3 := cntL_lo r (n + 1 + cntL t.l 0 (k - n)) k
        omega
      · rw [if_neg hnk]; omega
theorem cnt_iff (l : List Nd) : 20000 < cntL l 0 20000 ↔ 20000 < ndsL l := by
  have h := cntL_nds _ l (Nat.le_refl _) 0 20000
  omega
theorem deepL_lvl : ∀ (k : Nat) (l : List Nd), deepL k l = decide (k < lvlL l) := by
  intro k
  induction k with
  | zero =>
    intro l
    rw [deepL]
    induction l with
    | nil => rw [lvlL]; rfl
    | cons t r _ => rw [lvlL, lvlN_eq]; simp; omega
  | succ k ih =>
    intro l
    rw [deepL]
    induction l with
    | nil => rw [lvlL]; rfl
    | cons t r ihr =>
      rw [List.any_cons, ihr, ih, lvlL, lvlN_eq, Bool.eq_iff_iff]
      simp
      omega
theorem dp_deep (l : List Nd) : dpL l = deepL 40 l := by
  rw [deepL]
  unfold dpL
  congr 1
  funext t
  rw [deepL_lvl, Bool.eq_iff_iff]
  simp
  omega
/-- Each part is of a kind. -/
def Good (ps : PL) : Prop := ∀ f ∈ ps, ∃ q : Pr, q ≠ .few ∧ f q = true
theorem allK_good {ps : PL} {k : Pr} (hk : k ≠ .few) (h : allK ps k = true) : Good ps := fun f hf => ⟨k, hk, by unfold allK at h; exact List.all_eq_true.1 h f hf⟩
theorem hasK_good : ∀ {ps : PL} {ks : List Pr}, (∀ k ∈ ks, k ≠ .few) → hasK ps ks = true → Good ps
  | [], _, _, _ => fun f hf => by cases hf
  | f :: r, [], _, h => by rw [hasK] at h; · cases h
                           all_goals simp
  | f :: r, k :: q, hk, h => by
    rw [hasK, Bool.and_eq_true] at h
    intro g hg
    rcases List.mem_cons.1 hg with rfl | hg
    · exact ⟨k, hk k (by simp), h.1⟩
    · exact hasK_good (fun k hk' => hk k (by simp [hk'])) h.2 g hg
theorem pairs_good {n : Int} {ps : PL} {k : Pr} (hk : k ≠ .few) (h : pairsK n ps k = true) : Good ps ∧ (ps.length : Int) = 2 * n := by
  rw [pairs_alt] at h
  simp only [Bool.and_eq_true, decide_eq_true_eq] at h
  refine ⟨fun f hf => ?_, h.1.1.2⟩
  rw [← List.take_append_drop (ps.length / 2) ps, List.mem_append] at hf
  rcases hf with hf | hf
  · exact allK_good hk h.1.2 f hf
  · exact allK_good (by simp) h.2 f hf
theorem proc_good {n : Int} {s : ByteArray} {ps : PL} (h : procK n s ps = true) : Good ps := by
  unfold procK at h
  simp only [Bool.and_eq_true, decide_eq_true_eq] at h
  obtain ⟨⟨⟨_, h0⟩, h1⟩, h2⟩ := h
  have hl : ∃ q : Pr, q ≠ .few ∧ lastK ps q = true := by
    split at h2
    · exact ⟨.expr, by simp, h2⟩
    · split at h2
      · exact ⟨.cmd, by simp, h2⟩
      · cases h2
  obtain ⟨q, hq, h2⟩ := hl
  intro f hf
  rw [← List.take_append_drop (ps.length - 1) ps, List.mem_append] at hf
  rcases hf with hf | hf
  · exact allK_good (by simp) h1 f hf
  · obtain ⟨x, hx⟩ : ∃ x, ps[ps.length - 1]? = some x := ⟨_, List.getElem?_eq_getElem (by omega)⟩
    rw [List.drop_eq_getElem_cons (by omega), show ps.length - 1 + 1 = ps.length by omega, List.drop_length] at hf
    simp at hf
    subst hf
    unfold lastK at h2
    rw [List.getElem?_eq_getElem (by omega)] at h2
    exact ⟨q, hq, h2⟩
/-- A node that is of a kind has parts that are so, and as many on both sides. -/
def Fine (o n : Int) (ps : PL) : Prop := Good ps ∧ (o = 54 ∨ o = 30 → (ps.length : Int) = 2 * n)
theorem plain_fine {o n : Int} {ps : PL} (h : plainR o ps = true) : Fine o n ps := by
  unfold plainR at h
  split at h
  · exact ⟨hasK_good (by simp) h, by omega⟩
  split at h
  · unfold someK at h; rw [Bool.and_eq_true] at h; exact ⟨allK_good (by simp) h.2, by omega⟩
  split at h
  · exact ⟨hasK_good (by simp) h, by omega⟩
  split at h
  · exact ⟨hasK_good (by simp) h, by omega⟩
  split at h
  · exact ⟨hasK_good (by simp) h, by omega⟩
  split at h
  · exact ⟨hasK_good (by simp) h, by omega⟩
  · cases h
theorem name_fine {o n : Int} {s : ByteArray} {ps : PL} (h : nameR o n s ps = true) : Fine o n ps := by
  unfold nameR at h
  simp only [Bool.and_eq_true, decide_eq_true_eq] at h
  exact ⟨hasK_good (by simp) h.2, by omega⟩
theorem expr_fine {o n : Int} {s : ByteArray} {ps : PL} (h : exprR o n s ps = true) : Fine o n ps := by
  unfold exprR at h
  split at h
  · rw [Bool.and_eq_true] at h; exact ⟨hasK_good (by simp) h.2, by omega⟩
  split at h
  · rw [Bool.and_eq_true] at h; exact ⟨hasK_good (by simp) h.2, by omega⟩
  split at h
  · exact name_fine h
  split at h
  · rw [Bool.and_eq_true] at h; exact ⟨hasK_good (by simp) h.2, by omega⟩
  split at h
  · rw [Bool.and_eq_true] at h; exact ⟨hasK_good (by simp) h.2, by omega⟩
  · rw [Bool.and_eq_true] at h; exact plain_fine h.2
theorem block_fine {o n : Int} {s : ByteArray} {ps : PL} (h : blockR o n s ps = true) : Fine o n ps := by
  unfold blockR someK at h
  simp only [Bool.and_eq_true, decide_eq_true_eq] at h
  exact ⟨allK_good (by simp) h.2.2, by omega⟩
theorem rep_fine {o n : Int} {s : ByteArray} {ps : PL} (h : repR o n s ps = true) : Fine o n ps := by
  unfold repR at h
  split at h
  · rw [Bool.and_eq_true] at h; have := pairs_good (by simp) h.2; exact ⟨this.1, fun _ => this.2⟩
  split at h
  · rw [Bool.and_eq_true] at h; exact ⟨hasK_good (by simp) h.2, by omega⟩
  split at h
  · exact block_fine h
  split at h
  · rw [Bool.and_eq_true] at h; exact ⟨hasK_good (by simp) h.2, by omega⟩
  split at h
  · rw [Bool.and_eq_true] at h; exact ⟨hasK_good (by simp) h.2, by omega⟩
  split at h
  · rw [Bool.and_eq_true] at h; exact ⟨hasK_good (by simp) h.2, by omega⟩
  split at h
  · rw [Bool.and_eq_true] at h; exact ⟨hasK_good (by simp) h.2, by omega⟩
  split at h
  · rw [Bool.and_eq_true] at h; exact ⟨hasK_good (by simp) h.2, by omega⟩
  · cases h
theorem for_good {n : Int} {s : ByteArray} {ps : PL} (h : forR n s ps = true) : Good ps := by
  unfold forR at h
  rw [Bool.and_eq_true] at h
  obtain ⟨_, h⟩ := h
  split at h
  · exact hasK_good (by simp) h
  split at h
  · exact hasK_good (by simp) h
  · cases h
theorem cmd_fine {o n : Int} {s : ByteArray} {ps : PL} (h : cmdR o n s ps = true) : Fine o n ps := by
  unfold cmdR at h
  split at h
  · exact ⟨for_good h, by omega⟩
  split at h
  · rw [Bool.and_eq_true] at h; exact ⟨hasK_good (by simp) h.2, by omega⟩
  split at h
  · rw [Bool.and_eq_true] at h; exact ⟨hasK_good (by simp) h.2, by omega⟩
  split at h
  · rw [Bool.and_eq_true] at h; exact ⟨hasK_good (by simp) h.2, by omega⟩
  split at h
  · rw [Bool.and_eq_true] at h; exact ⟨hasK_good (by simp) h.2, by omega⟩
  split at h
  · rw [Bool.and_eq_true] at h; exact ⟨hasK_good (by simp) h.2, by omega⟩
  split at h
  · rw [Bool.and_eq_true] at h; exact ⟨hasK_good (by simp) h.2, by omega⟩
  · exact rep_fine h
theorem node_fine {p : Pr} (hp : p ≠ .few) {o n : Int} {s : ByteArray} {ps : PL} (h : nodeR p o n s ps = true) : Fine o n ps := by
  cases p with
  | expr => exact expr_fine h
  | name => exact name_fine h
  | call =>
    have h : (decide (o = 7) && exprR o n s ps) = true := h
    rw [Bool.and_eq_true] at h
    exact expr_fine h.2
  | block => exact block_fine h
  | item =>
    have h : itemR o n s ps = true := h
    unfold itemR at h
    split at h
    · rw [Bool.and_eq_true] at h; have := pairs_good (by simp) h.2; exact ⟨this.1, fun _ => this.2⟩
    split at h
    · rw [Bool.and_eq_true] at h; exact ⟨hasK_good (by simp) h.2, by omega⟩
    · exact cmd_fine h
  | cmd => exact cmd_fine h
  | rep => exact rep_fine h
  | const =>
    have h : (decide (o = 63) && named n s && hasK ps [.expr]) = true := h
    simp only [Bool.and_eq_true, decide_eq_true_eq] at h
    exact ⟨hasK_good (by simp) h.2, by omega⟩
  | decl =>
    have h : declR o n s ps = true := h
    unfold declR at h
    split at h
    · rw [Bool.and_eq_true] at h; exact ⟨allK_good (by simp) h.2, by omega⟩
    split at h
    · exact ⟨proc_good h, by omega⟩
    · cases h
  | few => exact absurd rfl hp
/-- Too many parts: both sides. -/
theorem few_gr : ∀ (m : Nat) (t : Nd), t.bulk ≤ m → ∀ p : Pr, p ≠ .few → okP t p = true → okP t .few = !grN t := by
  intro m
  induction m using Nat.strongRecOn with
  | _ m ih =>
    intro t ht p hp h
    rw [okP_eq] at h
    obtain ⟨hg, hl⟩ := node_fine hp h
    have hbe := t.bulk_eq
    rw [okL_len] at hl
    have hparts : ∀ q : List Nd, (∀ u ∈ q, u ∈ t.l) → allK (okL q) .few = !grL q := by
      intro q
      induction q with
      | nil => intro _; rw [okL, grL]; rfl
      | cons u r ihr =>
        intro hsub
        have hu : u ∈ t.l := hsub u (by simp)
        have hub := bulks_mem hu
        obtain ⟨k, hk, hok⟩ := hg (okP u) (by rw [okL_map]; exact List.mem_map.2 ⟨u, hu, rfl⟩)
        rw [okL, grL]
        show (okP u .few && allK (okL r) .few) = _
        rw [ih u.bulk (by omega) u (Nat.le_refl _) k hk hok, ihr (fun x hx => hsub x (by simp [hx]))]
        cases grN u <;> simp
    rw [okP_eq, grN_eq]
    show fewR _ _ _ = _
    unfold fewR mostN
    rw [hparts t.l (fun _ h => h), okL_len, Bool.not_or]
    congr 1
    by_cases h7 : t.op = 7 ∨ t.op = 64
    · rw [if_pos h7, if_neg (show ¬ (t.op = 54 ∨ t.op = 30) by omega), if_pos h7, Bool.eq_iff_iff]; simp
    · rw [if_neg h7]
      by_cases h54 : t.op = 54 ∨ t.op = 30
      · rw [if_pos h54, if_pos h54, Bool.eq_iff_iff]
        have := hl h54
        simp
        omega
      · rw [if_neg h54, if_neg h54, if_neg h7]
        by_cases h16 : t.op = 16
        · rw [if_pos h16, if_pos h16, Bool.eq_iff_iff]; simp
        · rw [if_neg h16, if_neg h16]; simp
theorem few_all {l : List Nd} {p : Pr} (hp : p ≠ .few) (h : allK (okL l) p = true) : allK (okL l) .few = !grL l := by
  induction l with
  | nil => rw [okL, grL]; rfl
  | cons u r ih =>
    rw [okL] at h ⊢
    have h : (okP u p && allK (okL r) p) = true := h
    rw [Bool.and_eq_true] at h
    rw [grL]
    show (okP u .few && allK (okL r) .few) = _
    rw [few_gr _ u (Nat.le_refl _) p hp h.1, ih h.2]
    cases grN u <;> simp
theorem lim_same {l : List Nd} {p : Pr} (hp : p ≠ .few) : (if allK (okL l) p = false then 3 else limE l) = rchk l p := by
  unfold rchk
  cases h : allK (okL l) p with
  | false => rfl
  | true =>
    simp only [Bool.true_eq_false, if_false]
    unfold limE
    rw [few_all hp h, dp_deep]
    by_cases hc : 20000 < ndsL l
    · have hc2 := (cnt_iff l).2 hc
      cases grL l <;> simp [hc, hc2]
    · have hc2 : ¬ 20000 < cntL l 0 20000 := fun h => hc ((cnt_iff l).1 h)
      cases grL l <;> simp [hc, hc2]
theorem chkE_same (s : ByteArray) (l : List Nd) : chkE s l = if qtb s = false then 3 else rchk l .decl := by
  unfold chkE
  rw [← lim_same (by simp)]
theorem chkN_same (t : Nd) (p : Pr) (hp : p ≠ .few) : chkN t p = rchk [t] p := by
  unfold chkN
  rw [← lim_same hp]
  rw [show allK (okL [t]) p = okP t p by rw [okL, okL]; simp [allK]]
end Go.Proofs.YtbaelbafhdjlnaaGreatDoor
