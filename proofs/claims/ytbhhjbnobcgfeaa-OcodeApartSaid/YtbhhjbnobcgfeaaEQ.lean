/- Lists compared, by the library and by the reference. -/
import Derived.Test.YtbhhjbnobcgfeaaFJ
namespace Go.Proofs.Ytbhhjbnobcgfeaa
open Go.RowKit
set_option linter.unusedVariables false
set_option linter.unusedSimpArgs false

def eqG {α : Type} (f : α → α → Bool) (l q : List α) : Bool := match l, q with
  | [], [] => true
  | x :: r, y :: s => f x y && eqG f r s
  | _, _ => false
theorem eqG_len {α : Type} (f : α → α → Bool) : ∀ (l q : List α), l.length ≠ q.length → eqG f l q = false
  | [], [], h => absurd rfl h
  | [], _ :: _, _ => rfl
  | _ :: _, [], _ => rfl
  | x :: r, y :: s, h => by rw [eqG, eqG_len f r s (by simpa using h), Bool.and_false]
theorem eqG_drop {α : Type} (f : α → α → Bool) {l q : List α} {j : Nat} {x y : α} (hx : l[j]? = some x) (hy : q[j]? = some y) : eqG f (l.drop j) (q.drop j) = (f x y && eqG f (l.drop (j + 1)) (q.drop (j + 1))) := by
  obtain ⟨h1, rfl⟩ := List.getElem?_eq_some_iff.1 hx
  obtain ⟨h2, rfl⟩ := List.getElem?_eq_some_iff.1 hy
  rw [List.drop_eq_getElem_cons h1, List.drop_eq_getElem_cons h2, eqG]
theorem eqG_symm {α : Type} {f : α → α → Bool} (hf : ∀ x y, f x y = f y x) : ∀ (l q : List α), eqG f l q = eqG f q l
  | [], [] => rfl
  | [], _ :: _ => rfl
  | _ :: _, [] => rfl
  | x :: r, y :: s => by rw [eqG, eqG, hf x y, eqG_symm hf r s]
def eqN (x y : Int) : Bool := x == y
def eqO (x y : Op3) : Bool := x.op == y.op && (x.n == y.n && x.m == y.m)
def eqE (x y : En2) : Bool := x.g == y.g && x.p == y.p
def eqS (x y : ByteArray) : Bool := x.toList == y.toList
theorem beq_symm (x y : Int) : (x == y) = (y == x) := by rw [Bool.eq_iff_iff, beq_iff_eq, beq_iff_eq]; exact eq_comm
theorem eqN_symm (x y : Int) : eqN x y = eqN y x := beq_symm x y
theorem eqO_symm (x y : Op3) : eqO x y = eqO y x := by unfold eqO; rw [beq_symm x.op, beq_symm x.n, beq_symm x.m]
theorem eqE_symm (x y : En2) : eqE x y = eqE y x := by unfold eqE; rw [beq_symm x.g, beq_symm x.p]
theorem eqS_symm (x y : ByteArray) : eqS x y = eqS y x := by unfold eqS; rw [Bool.eq_iff_iff, beq_iff_eq, beq_iff_eq]; exact eq_comm
set_option maxRecDepth 100000 in
set_option maxHeartbeats 4000000 in
theorem EqInt_any (l q : List Int) (v1 v2 : Value) (w : World) (h1 : IntsV w v1 l) (h2 : IntsV w v2 q) (hb1 : l.length ≤ 140737488351232) (hb2 : q.length ≤ 140737488351232) :
    Calls Try.prog 73 #[v1, v2] w fun e w' => e = .returned (.bool (eqG eqN l q)) ∧ Fr w w' := by
  have HV := Lib.hid h1
  have HU := Lib.hid h2
  obtain ⟨a, cap, rfl, _, _, _⟩ := h1.form
  obtain ⟨a2, cap2, rfl, _, _, _⟩ := h2.form
  obtain ⟨n, hn⟩ : ∃ n, n = l.length := ⟨_, rfl⟩
  obtain ⟨m, hm⟩ : ∃ m, m = q.length := ⟨_, rfl⟩
  have HN := Lib.hid hn
  have HM := Lib.hid hm
  rw [← hn] at HV hb1 ⊢
  rw [← hm] at HU hb2 ⊢
  obtain ⟨R, hR⟩ : ∃ r, r = eqG eqN l q := ⟨_, rfl⟩
  have HR := Lib.hid hR
  rw [← hR]
  by_cases he : n = m
  · have HE := Lib.hid he
    have e0 : ((n : Int) != (m : Int)) = false := by simp [he]
    clear hn hm h1 h2 hR he
    go_enter Try.func73, Try.ntmps73
    go_wp2_with fail
    go_loopw [13] (fun i wr => ∃ j : Nat, j ≤ n ∧ i = .int .i64 j ∧ Hid (R = eqG eqN (l.drop j) (q.drop j)) ∧ Fr w wr) (fun i _ => n - (intOf i).toNat)
    case atStart => exact ⟨0, Nat.zero_le _, rfl, Lib.hid (by rw [HR.out]; rfl), Fr.refl _⟩
    case round =>
      obtain ⟨j, hj, rfl, HJ, hfr⟩ := hrel
      by_cases hlt : j < n
      · obtain ⟨x, hx⟩ : ∃ t, l[j]? = some t := ⟨_, List.getElem?_eq_getElem (by rw [← HN.out]; exact hlt)⟩
        obtain ⟨y, hy⟩ : ∃ t, q[j]? = some t := ⟨_, List.getElem?_eq_getElem (by rw [← HM.out, ← HE.out]; exact hlt)⟩
        have HST := Lib.hid (eqG_drop eqN hx hy)
        obtain ⟨b, off, rfl, x0⟩ := (HV.out.fr' hfr).at_ hx
        obtain ⟨b2, off2, rfl, y0⟩ := (HU.out.fr' hfr).at_ hy
        have hlm : j < m := by rw [← HE.out]; exact hlt
        clear hx hy
        unfold InC at x0 y0
        simp only [Nat.mul_one] at x0 y0
        obtain ⟨t0, ht0⟩ : ∃ b, b = (x == y) := ⟨_, rfl⟩
        have e0 : (x == y) = t0 := ht0.symm
        have g0 : (x != y) = !t0 := by rw [← e0]; rfl
        have HV2 : Hid (R = (t0 && eqG eqN (l.drop (j + 1)) (q.drop (j + 1)))) := Lib.hid (by rw [HJ.out, HST.out]; simp only [eqN, e0])
        clear ht0
        cases t0
        all_goals
          go_wp2_with fail
          go_quiet (fail)
          go_wp2_with fail
          first
            | (go_roundw
               case rel => exact ⟨j + 1, by omega, by go_num, Lib.hid (by have := HV2.out; simpa using this), hfr.drewN _⟩
               case measure => simp [intOf]; omega)
            | (go_ret
               have HF : R = false := by have := HV2.out; simpa using this
               rw [HF]
               exact ⟨rfl, hfr.drewN _⟩)
      · obtain rfl : j = n := by omega
        have HF : Hid (R = true) := Lib.hid (by rw [HJ.out, List.drop_eq_nil_of_le (by rw [← HN.out]; exact Nat.le_refl _), List.drop_eq_nil_of_le (by rw [← HM.out, ← HE.out]; exact Nat.le_refl _)]; rfl)
        go_wp2_with fail
        go_ret
        rw [HF.out]
        exact ⟨rfl, hfr⟩
  · have e0 : ((n : Int) != (m : Int)) = true := by rw [bne_iff_ne]; omega
    have HF : Hid (R = false) := Lib.hid (by rw [hR]; exact eqG_len eqN l q (by rw [← hn, ← hm]; exact he))
    clear hn hm h1 h2 hR he
    go_enter Try.func73, Try.ntmps73
    go_wp2_with fail
    go_ret
    rw [HF.out]
    exact ⟨rfl, Fr.refl _⟩
set_option maxRecDepth 100000 in
set_option maxHeartbeats 4000000 in
theorem EqOp_any (l q : List Op3) (v1 v2 : Value) (w : World) (h1 : OpsV w v1 l) (h2 : OpsV w v2 q) (hb1 : l.length ≤ 140737488351232) (hb2 : q.length ≤ 140737488351232) :
    Calls Try.prog 42 #[v1, v2] w fun e w' => e = .returned (.bool (eqG eqO l q)) ∧ Fr w w' := by
  have HV := Lib.hid h1
  have HU := Lib.hid h2
  obtain ⟨a, cap, rfl, _, _, _⟩ := h1.form
  obtain ⟨a2, cap2, rfl, _, _, _⟩ := h2.form
  obtain ⟨n, hn⟩ : ∃ n, n = l.length := ⟨_, rfl⟩
  obtain ⟨m, hm⟩ : ∃ m, m = q.length := ⟨_, rfl⟩
  have HN := Lib.hid hn
  have HM := Lib.hid hm
  rw [← hn] at HV hb1 ⊢
  rw [← hm] at HU hb2 ⊢
  obtain ⟨R, hR⟩ : ∃ r, r = eqG eqO l q := ⟨_, rfl⟩
  have HR := Lib.hid hR
  rw [← hR]
  by_cases he : n = m
  · have HE := Lib.hid he
    have e0 : ((n : Int) != (m : Int)) = false := by simp [he]
    clear hn hm h1 h2 hR he
    go_enter Try.func42, Try.ntmps42
    go_wp2_with fail
    go_loopw [13] (fun i wr => ∃ j : Nat, j ≤ n ∧ i = .int .i64 j ∧ Hid (R = eqG eqO (l.drop j) (q.drop j)) ∧ Fr w wr) (fun i _ => n - (intOf i).toNat)
    case atStart => exact ⟨0, Nat.zero_le _, rfl, Lib.hid (by rw [HR.out]; rfl), Fr.refl _⟩
    case round =>
      obtain ⟨j, hj, rfl, HJ, hfr⟩ := hrel
      by_cases hlt : j < n
      · obtain ⟨x, hx⟩ : ∃ t, l[j]? = some t := ⟨_, List.getElem?_eq_getElem (by rw [← HN.out]; exact hlt)⟩
        obtain ⟨y, hy⟩ : ∃ t, q[j]? = some t := ⟨_, List.getElem?_eq_getElem (by rw [← HM.out, ← HE.out]; exact hlt)⟩
        have HST := Lib.hid (eqG_drop eqO hx hy)
        obtain ⟨b, off, rfl, x0⟩ := (HV.out.fr' hfr).at_ hx
        obtain ⟨b2, off2, rfl, y0⟩ := (HU.out.fr' hfr).at_ hy
        have hlm : j < m := by rw [← HE.out]; exact hlt
        clear hx hy
        obtain ⟨x0, x1, x2⟩ := x0
        obtain ⟨y0, y1, y2⟩ := y0
        obtain ⟨⟨q0, q1, q2⟩, hq⟩ : ∃ z, z = x := ⟨_, rfl⟩
        obtain ⟨⟨r0, r1, r2⟩, hr⟩ : ∃ z, z = y := ⟨_, rfl⟩
        subst hq hr
        simp only at x0 x1 x2 y0 y1 y2
        obtain ⟨t0, ht0⟩ : ∃ b, b = (q0 == r0) := ⟨_, rfl⟩
        have e0 : (q0 == r0) = t0 := ht0.symm
        have g0 : (q0 != r0) = !t0 := by rw [← e0]; rfl
        obtain ⟨t1, ht1⟩ : ∃ b, b = (q1 == r1) := ⟨_, rfl⟩
        have e1 : (q1 == r1) = t1 := ht1.symm
        have g1 : (q1 != r1) = !t1 := by rw [← e1]; rfl
        obtain ⟨t2, ht2⟩ : ∃ b, b = (q2 == r2) := ⟨_, rfl⟩
        have e2 : (q2 == r2) = t2 := ht2.symm
        have g2 : (q2 != r2) = !t2 := by rw [← e2]; rfl
        have HV2 : Hid (R = ((t0 && (t1 && t2)) && eqG eqO (l.drop (j + 1)) (q.drop (j + 1)))) := Lib.hid (by rw [HJ.out, HST.out]; simp only [eqO, e0, e1, e2])
        clear ht0 ht1 ht2
        cases t0 <;> cases t1 <;> cases t2
        all_goals
          go_wp2_with fail
          go_quiet (fail)
          go_wp2_with fail
          first
            | (go_roundw
               case rel => exact ⟨j + 1, by omega, by go_num, Lib.hid (by have := HV2.out; simpa using this), hfr.drewN _⟩
               case measure => simp [intOf]; omega)
            | (go_ret
               have HF : R = false := by have := HV2.out; simpa using this
               rw [HF]
               exact ⟨rfl, hfr.drewN _⟩)
      · obtain rfl : j = n := by omega
        have HF : Hid (R = true) := Lib.hid (by rw [HJ.out, List.drop_eq_nil_of_le (by rw [← HN.out]; exact Nat.le_refl _), List.drop_eq_nil_of_le (by rw [← HM.out, ← HE.out]; exact Nat.le_refl _)]; rfl)
        go_wp2_with fail
        go_ret
        rw [HF.out]
        exact ⟨rfl, hfr⟩
  · have e0 : ((n : Int) != (m : Int)) = true := by rw [bne_iff_ne]; omega
    have HF : Hid (R = false) := Lib.hid (by rw [hR]; exact eqG_len eqO l q (by rw [← hn, ← hm]; exact he))
    clear hn hm h1 h2 hR he
    go_enter Try.func42, Try.ntmps42
    go_wp2_with fail
    go_ret
    rw [HF.out]
    exact ⟨rfl, Fr.refl _⟩
set_option maxRecDepth 100000 in
set_option maxHeartbeats 4000000 in
theorem EqEn_any (l q : List En2) (v1 v2 : Value) (w : World) (h1 : EnsV w v1 l) (h2 : EnsV w v2 q) (hb1 : l.length ≤ 140737488351232) (hb2 : q.length ≤ 140737488351232) :
    Calls Try.prog 43 #[v1, v2] w fun e w' => e = .returned (.bool (eqG eqE l q)) ∧ Fr w w' := by
  have HV := Lib.hid h1
  have HU := Lib.hid h2
  obtain ⟨a, cap, rfl, _, _, _⟩ := h1.form
  obtain ⟨a2, cap2, rfl, _, _, _⟩ := h2.form
  obtain ⟨n, hn⟩ : ∃ n, n = l.length := ⟨_, rfl⟩
  obtain ⟨m, hm⟩ : ∃ m, m = q.length := ⟨_, rfl⟩
  have HN := Lib.hid hn
  have HM := Lib.hid hm
  rw [← hn] at HV hb1 ⊢
  rw [← hm] at HU hb2 ⊢
  obtain ⟨R, hR⟩ : ∃ r, r = eqG eqE l q := ⟨_, rfl⟩
  have HR := Lib.hid hR
  rw [← hR]
  by_cases he : n = m
  · have HE := Lib.hid he
    have e0 : ((n : Int) != (m : Int)) = false := by simp [he]
    clear hn hm h1 h2 hR he
    go_enter Try.func43, Try.ntmps43
    go_wp2_with fail
    go_loopw [13] (fun i wr => ∃ j : Nat, j ≤ n ∧ i = .int .i64 j ∧ Hid (R = eqG eqE (l.drop j) (q.drop j)) ∧ Fr w wr) (fun i _ => n - (intOf i).toNat)
    case atStart => exact ⟨0, Nat.zero_le _, rfl, Lib.hid (by rw [HR.out]; rfl), Fr.refl _⟩
    case round =>
      obtain ⟨j, hj, rfl, HJ, hfr⟩ := hrel
      by_cases hlt : j < n
      · obtain ⟨x, hx⟩ : ∃ t, l[j]? = some t := ⟨_, List.getElem?_eq_getElem (by rw [← HN.out]; exact hlt)⟩
        obtain ⟨y, hy⟩ : ∃ t, q[j]? = some t := ⟨_, List.getElem?_eq_getElem (by rw [← HM.out, ← HE.out]; exact hlt)⟩
        have HST := Lib.hid (eqG_drop eqE hx hy)
        obtain ⟨b, off, rfl, x0⟩ := (HV.out.fr' hfr).at_ hx
        obtain ⟨b2, off2, rfl, y0⟩ := (HU.out.fr' hfr).at_ hy
        have hlm : j < m := by rw [← HE.out]; exact hlt
        clear hx hy
        obtain ⟨x0, x1⟩ := x0
        obtain ⟨y0, y1⟩ := y0
        obtain ⟨⟨q0, q1⟩, hq⟩ : ∃ z, z = x := ⟨_, rfl⟩
        obtain ⟨⟨r0, r1⟩, hr⟩ : ∃ z, z = y := ⟨_, rfl⟩
        subst hq hr
        simp only at x0 x1 y0 y1
        obtain ⟨t0, ht0⟩ : ∃ b, b = (q0 == r0) := ⟨_, rfl⟩
        have e0 : (q0 == r0) = t0 := ht0.symm
        have g0 : (q0 != r0) = !t0 := by rw [← e0]; rfl
        obtain ⟨t1, ht1⟩ : ∃ b, b = (q1 == r1) := ⟨_, rfl⟩
        have e1 : (q1 == r1) = t1 := ht1.symm
        have g1 : (q1 != r1) = !t1 := by rw [← e1]; rfl
        have HV2 : Hid (R = ((t0 && t1) && eqG eqE (l.drop (j + 1)) (q.drop (j + 1)))) := Lib.hid (by rw [HJ.out, HST.out]; simp only [eqE, e0, e1])
        clear ht0 ht1
        cases t0 <;> cases t1
        all_goals
          go_wp2_with fail
          go_quiet (fail)
          go_wp2_with fail
          first
            | (go_roundw
               case rel => exact ⟨j + 1, by omega, by go_num, Lib.hid (by have := HV2.out; simpa using this), hfr.drewN _⟩
               case measure => simp [intOf]; omega)
            | (go_ret
               have HF : R = false := by have := HV2.out; simpa using this
               rw [HF]
               exact ⟨rfl, hfr.drewN _⟩)
      · obtain rfl : j = n := by omega
        have HF : Hid (R = true) := Lib.hid (by rw [HJ.out, List.drop_eq_nil_of_le (by rw [← HN.out]; exact Nat.le_refl _), List.drop_eq_nil_of_le (by rw [← HM.out, ← HE.out]; exact Nat.le_refl _)]; rfl)
        go_wp2_with fail
        go_ret
        rw [HF.out]
        exact ⟨rfl, hfr⟩
  · have e0 : ((n : Int) != (m : Int)) = true := by rw [bne_iff_ne]; omega
    have HF : Hid (R = false) := Lib.hid (by rw [hR]; exact eqG_len eqE l q (by rw [← hn, ← hm]; exact he))
    clear hn hm h1 h2 hR he
    go_enter Try.func43, Try.ntmps43
    go_wp2_with fail
    go_ret
    rw [HF.out]
    exact ⟨rfl, Fr.refl _⟩
set_option maxRecDepth 100000 in
set_option maxHeartbeats 4000000 in
theorem REqOps_any (l q : List Op3) (v1 v2 : Value) (w : World) (h1 : OpsV w v1 l) (h2 : OpsV w v2 q) (hb1 : l.length ≤ 140737488351232) (hb2 : q.length ≤ 140737488351232) :
    Calls Try.prog 50 #[v1, v2] w fun e w' => e = .returned (.bool (eqG eqO l q)) ∧ Fr w w' := by
  have HV := Lib.hid h1
  have HU := Lib.hid h2
  obtain ⟨a, cap, rfl, _, _, _⟩ := h1.form
  obtain ⟨a2, cap2, rfl, _, _, _⟩ := h2.form
  obtain ⟨n, hn⟩ : ∃ n, n = l.length := ⟨_, rfl⟩
  obtain ⟨m, hm⟩ : ∃ m, m = q.length := ⟨_, rfl⟩
  have HN := Lib.hid hn
  have HM := Lib.hid hm
  rw [← hn] at HV hb1 ⊢
  rw [← hm] at HU hb2 ⊢
  obtain ⟨R, hR⟩ : ∃ r, r = eqG eqO l q := ⟨_, rfl⟩
  have HR := Lib.hid hR
  rw [← hR]
  by_cases he : n = m
  · have HE := Lib.hid he
    have e0 : ((n : Int) != (m : Int)) = false := by simp [he]
    clear hn hm h1 h2 hR he
    go_enter Try.func50, Try.ntmps50
    go_wp2_with fail
    go_loopw [5] (fun i wr => ∃ j : Nat, j ≤ n ∧ i = .int .i64 j ∧ Hid (R = eqG eqO (l.drop j) (q.drop j)) ∧ Fr w wr) (fun i _ => n - (intOf i).toNat)
    case atStart => exact ⟨0, Nat.zero_le _, rfl, Lib.hid (by rw [HR.out]; rfl), Fr.refl _⟩
    case round =>
      obtain ⟨j, hj, rfl, HJ, hfr⟩ := hrel
      by_cases hlt : j < n
      · obtain ⟨x, hx⟩ : ∃ t, l[j]? = some t := ⟨_, List.getElem?_eq_getElem (by rw [← HN.out]; exact hlt)⟩
        obtain ⟨y, hy⟩ : ∃ t, q[j]? = some t := ⟨_, List.getElem?_eq_getElem (by rw [← HM.out, ← HE.out]; exact hlt)⟩
        have HST := Lib.hid (eqG_drop eqO hx hy)
        obtain ⟨b, off, rfl, x0⟩ := (HV.out.fr' hfr).at_ hx
        obtain ⟨b2, off2, rfl, y0⟩ := (HU.out.fr' hfr).at_ hy
        have hlm : j < m := by rw [← HE.out]; exact hlt
        clear hx hy
        obtain ⟨x0, x1, x2⟩ := x0
        obtain ⟨y0, y1, y2⟩ := y0
        obtain ⟨⟨q0, q1, q2⟩, hq⟩ : ∃ z, z = x := ⟨_, rfl⟩
        obtain ⟨⟨r0, r1, r2⟩, hr⟩ : ∃ z, z = y := ⟨_, rfl⟩
        subst hq hr
        simp only at x0 x1 x2 y0 y1 y2
        obtain ⟨t0, ht0⟩ : ∃ b, b = (q0 == r0) := ⟨_, rfl⟩
        have e0 : (q0 == r0) = t0 := ht0.symm
        have g0 : (q0 != r0) = !t0 := by rw [← e0]; rfl
        obtain ⟨t1, ht1⟩ : ∃ b, b = (q1 == r1) := ⟨_, rfl⟩
        have e1 : (q1 == r1) = t1 := ht1.symm
        have g1 : (q1 != r1) = !t1 := by rw [← e1]; rfl
        obtain ⟨t2, ht2⟩ : ∃ b, b = (q2 == r2) := ⟨_, rfl⟩
        have e2 : (q2 == r2) = t2 := ht2.symm
        have g2 : (q2 != r2) = !t2 := by rw [← e2]; rfl
        have HV2 : Hid (R = ((t0 && (t1 && t2)) && eqG eqO (l.drop (j + 1)) (q.drop (j + 1)))) := Lib.hid (by rw [HJ.out, HST.out]; simp only [eqO, e0, e1, e2])
        clear ht0 ht1 ht2
        cases t0 <;> cases t1 <;> cases t2
        all_goals
          go_wp2_with fail
          go_quiet (fail)
          go_wp2_with fail
          first
            | (go_roundw
               case rel => exact ⟨j + 1, by omega, by go_num, Lib.hid (by have := HV2.out; simpa using this), hfr.drewN _⟩
               case measure => simp [intOf]; omega)
            | (go_ret
               have HF : R = false := by have := HV2.out; simpa using this
               rw [HF]
               exact ⟨rfl, hfr.drewN _⟩)
      · obtain rfl : j = n := by omega
        have HF : Hid (R = true) := Lib.hid (by rw [HJ.out, List.drop_eq_nil_of_le (by rw [← HN.out]; exact Nat.le_refl _), List.drop_eq_nil_of_le (by rw [← HM.out, ← HE.out]; exact Nat.le_refl _)]; rfl)
        go_wp2_with fail
        go_ret
        rw [HF.out]
        exact ⟨rfl, hfr⟩
  · have e0 : ((n : Int) != (m : Int)) = true := by rw [bne_iff_ne]; omega
    have HF : Hid (R = false) := Lib.hid (by rw [hR]; exact eqG_len eqO l q (by rw [← hn, ← hm]; exact he))
    clear hn hm h1 h2 hR he
    go_enter Try.func50, Try.ntmps50
    go_wp2_with fail
    go_ret
    rw [HF.out]
    exact ⟨rfl, Fr.refl _⟩
end Go.Proofs.Ytbhhjbnobcgfeaa
