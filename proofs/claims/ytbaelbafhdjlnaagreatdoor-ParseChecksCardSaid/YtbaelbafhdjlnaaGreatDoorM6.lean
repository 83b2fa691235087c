/- Merged by program: DA DB. -/
import Derived.Test.YtbaelbafhdjlnaaGreatDoorM5
import Derived.Test.YtbaelbafhdjlnaaGreatDoorM3
import Derived.Deep.RegionHeld3
/- The document's small tests of nodes and of lists of nodes. -/
namespace Go.Proofs.YtbaelbafhdjlnaaGreatDoor
open Go.RowKit
set_option linter.unusedVariables false
set_option linter.unusedSimpArgs false

/-- The document's number of what a place takes. -/
def Pr.num : Pr → Int
  | .expr => 1 | .cmd => 2 | .item => 3 | .rep => 4 | .block => 5 | .name => 6 | .const => 7 | .decl => 8 | .call => 0 | .few => 0
def Pr.ref : Pr → Bool
  | .call => false | .few => false | _ => true
def RQ (w : World) (l : List Nd) : Prop := ∀ W, Fr w W → ∀ t, t ∈ l → ∀ lt, LN W lt t.l → ∀ p : Pr, p.ref = true → Calls Tryz.prog 210 #[ndV t lt, .int .i64 p.num] W fun e w' => e = .returned (.bool (okP t p)) ∧ Fr W w'
theorem RQ.fr {w W : World} {l : List Nd} (h : RQ w l) (k : Fr w W) : RQ W l := fun V hV => h V (k.trans hV)
theorem RQ.sub {w : World} {l q : List Nd} (h : RQ w l) (k : ∀ t, t ∈ q → t ∈ l) : RQ w q := fun V hV t ht => h V hV t (k t ht)
def IV (w : World) (v : Value) (ks : List Pr) : Prop := ∃ a, v = .slice a ks.length ks.length ∧ ks.length ≤ 10 ∧ (∀ k ∈ ks, k.ref = true) ∧ (0 < ks.length → ∃ b, a = some ⟨b, 0, none⟩ ∧ ∀ (i : Nat) (k : Pr), ks[i]? = some k → w.cell? ⟨b, i, none⟩ = some (.int .i64 k.num))
theorem IV.fr {w W : World} {v : Value} {ks : List Pr} (h : IV w v ks) (k : Fr w W) : IV W v ks := by
  obtain ⟨a, e, hl, hr, h⟩ := h
  exact ⟨a, e, hl, hr, fun h0 => by obtain ⟨b, hb, hc⟩ := h h0; exact ⟨b, hb, fun i x hx => k.cell (hc i x hx)⟩⟩
theorem IV.one (w : World) (B : Nat) (k0 : Pr) (T : TypeId) (hB : B = w.heap.size) (hr : (k0.ref) = true) : IV (w.alloc (.cells #[.int .i64 k0.num] T)) (.slice (some ⟨B, 0, none⟩) 1 1) [k0] := by
  subst hB
  try simp only [Bool.and_eq_true] at hr
  exact ⟨_, rfl, by simp, fun k hk => by
    simp at hk
    subst hk; exact hr, fun _ => ⟨_, rfl, fun i k hk => by
    match i, hk with
    | 0, hk => simp at hk; subst hk; simp⟩⟩
theorem IV.two (w : World) (B : Nat) (k0 k1 : Pr) (T : TypeId) (hB : B = w.heap.size) (hr : (k0.ref && k1.ref) = true) : IV (w.alloc (.cells #[.int .i64 k0.num, .int .i64 k1.num] T)) (.slice (some ⟨B, 0, none⟩) 2 2) [k0, k1] := by
  subst hB
  try simp only [Bool.and_eq_true] at hr
  exact ⟨_, rfl, by simp, fun k hk => by
    simp at hk
    rcases hk with rfl | rfl <;> simp [hr], fun _ => ⟨_, rfl, fun i k hk => by
    match i, hk with
    | 0, hk => simp at hk; subst hk; simp
    | 1, hk => simp at hk; subst hk; simp⟩⟩
theorem IV.three (w : World) (B : Nat) (k0 k1 k2 : Pr) (T : TypeId) (hB : B = w.heap.size) (hr : (k0.ref && k1.ref && k2.ref) = true) : IV (w.alloc (.cells #[.int .i64 k0.num, .int .i64 k1.num, .int .i64 k2.num] T)) (.slice (some ⟨B, 0, none⟩) 3 3) [k0, k1, k2] := by
  subst hB
  try simp only [Bool.and_eq_true] at hr
  exact ⟨_, rfl, by simp, fun k hk => by
    simp at hk
    rcases hk with rfl | rfl | rfl <;> simp [hr], fun _ => ⟨_, rfl, fun i k hk => by
    match i, hk with
    | 0, hk => simp at hk; subst hk; simp
    | 1, hk => simp at hk; subst hk; simp
    | 2, hk => simp at hk; subst hk; simp⟩⟩
theorem IV.four (w : World) (B : Nat) (k0 k1 k2 k3 : Pr) (T : TypeId) (hB : B = w.heap.size) (hr : (k0.ref && k1.ref && k2.ref && k3.ref) = true) : IV (w.alloc (.cells #[.int .i64 k0.num, .int .i64 k1.num, .int .i64 k2.num, .int .i64 k3.num] T)) (.slice (some ⟨B, 0, none⟩) 4 4) [k0, k1, k2, k3] := by
  subst hB
  try simp only [Bool.and_eq_true] at hr
  exact ⟨_, rfl, by simp, fun k hk => by
    simp at hk
    rcases hk with rfl | rfl | rfl | rfl <;> simp [hr], fun _ => ⟨_, rfl, fun i k hk => by
    match i, hk with
    | 0, hk => simp at hk; subst hk; simp
    | 1, hk => simp at hk; subst hk; simp
    | 2, hk => simp at hk; subst hk; simp
    | 3, hk => simp at hk; subst hk; simp⟩⟩
set_option maxHeartbeats 1000000 in
theorem zero00_any (t : Nd) (lt : Value) (w : World) : Calls Tryz.prog 252 #[ndV t lt, .bool false, .bool false] w fun e w' => e = .returned (.bool (bare t.n t.s)) ∧ Fr w w' := by
  unfold ndV
  obtain ⟨o, hO⟩ : ∃ x, x = t.op := ⟨_, rfl⟩
  obtain ⟨n, hN⟩ : ∃ x, x = t.n := ⟨_, rfl⟩
  obtain ⟨s, hS⟩ : ∃ x, x = t.s := ⟨_, rfl⟩
  obtain ⟨a, hA⟩ : ∃ x, x = t.a := ⟨_, rfl⟩
  try rw [← hN]
  try rw [← hS]
  try rw [← hO]
  try rw [← hA]
  clear hO hN hS hA
  by_cases h1 : s.size = 0
  · have e1 := emp_yes h1
    by_cases h2 : n = 0
    · subst h2
      try rw [show (bare 0 s) = true by simp [bare, empS, h1]]
      go_enter Tryz.func252, Tryz.ntmps252
      go_wp2_with fail
      go_ret
      exact ⟨rfl, (by repeat' first | exact Fr.refl _ | refine Fr.alloc ?_ _)⟩
    · have e2 : (n == 0) = false := by rw [beq_eq_false_iff_ne]; exact h2
      try rw [show (bare n s) = false by simp [bare, empS, h1, h2]]
      clear h2
      go_enter Tryz.func252, Tryz.ntmps252
      go_wp2_with fail
      go_ret
      exact ⟨rfl, (by repeat' first | exact Fr.refl _ | refine Fr.alloc ?_ _)⟩
  · have e1 := emp_no (show 0 < s.size by omega)
    by_cases h2 : n = 0
    · subst h2
      try rw [show (bare 0 s) = false by simp [bare, empS, h1]]
      clear h1
      go_enter Tryz.func252, Tryz.ntmps252
      go_wp2_with fail
      go_ret
      exact ⟨rfl, (by repeat' first | exact Fr.refl _ | refine Fr.alloc ?_ _)⟩
    · have e2 : (n == 0) = false := by rw [beq_eq_false_iff_ne]; exact h2
      try rw [show (bare n s) = false by simp [bare, empS, h1, h2]]
      clear h1 h2
      go_enter Tryz.func252, Tryz.ntmps252
      go_wp2_with fail
      go_ret
      exact ⟨rfl, (by repeat' first | exact Fr.refl _ | refine Fr.alloc ?_ _)⟩
set_option maxHeartbeats 1000000 in
theorem zero10_any (t : Nd) (lt : Value) (w : World) : Calls Tryz.prog 252 #[ndV t lt, .bool true, .bool false] w fun e w' => e = .returned (.bool (empS t.s)) ∧ Fr w w' := by
  unfold ndV
  obtain ⟨o, hO⟩ : ∃ x, x = t.op := ⟨_, rfl⟩
  obtain ⟨n, hN⟩ : ∃ x, x = t.n := ⟨_, rfl⟩
  obtain ⟨s, hS⟩ : ∃ x, x = t.s := ⟨_, rfl⟩
  obtain ⟨a, hA⟩ : ∃ x, x = t.a := ⟨_, rfl⟩
  try rw [← hN]
  try rw [← hS]
  try rw [← hO]
  try rw [← hA]
  clear hO hN hS hA
  by_cases h1 : s.size = 0
  · have e1 := emp_yes h1
    by_cases h2 : n = 0
    · subst h2
      try rw [show (empS s) = true by simp [empS, h1]]
      go_enter Tryz.func252, Tryz.ntmps252
      go_wp2_with fail
      go_ret
      exact ⟨rfl, (by repeat' first | exact Fr.refl _ | refine Fr.alloc ?_ _)⟩
    · have e2 : (n == 0) = false := by rw [beq_eq_false_iff_ne]; exact h2
      try rw [show (empS s) = true by simp [empS, h1, h2]]
      clear h2
      go_enter Tryz.func252, Tryz.ntmps252
      go_wp2_with fail
      go_ret
      exact ⟨rfl, (by repeat' first | exact Fr.refl _ | refine Fr.alloc ?_ _)⟩
  · have e1 := emp_no (show 0 < s.size by omega)
    by_cases h2 : n = 0
    · subst h2
      try rw [show (empS s) = false by simp [empS, h1]]
      clear h1
      go_enter Tryz.func252, Tryz.ntmps252
      go_wp2_with fail
      go_ret
      exact ⟨rfl, (by repeat' first | exact Fr.refl _ | refine Fr.alloc ?_ _)⟩
    · have e2 : (n == 0) = false := by rw [beq_eq_false_iff_ne]; exact h2
      try rw [show (empS s) = false by simp [empS, h1, h2]]
      clear h1 h2
      go_enter Tryz.func252, Tryz.ntmps252
      go_wp2_with fail
      go_ret
      exact ⟨rfl, (by repeat' first | exact Fr.refl _ | refine Fr.alloc ?_ _)⟩
set_option maxHeartbeats 1000000 in
theorem zero01_any (t : Nd) (lt : Value) (w : World) : Calls Tryz.prog 252 #[ndV t lt, .bool false, .bool true] w fun e w' => e = .returned (.bool (decide (t.n = 0))) ∧ Fr w w' := by
  unfold ndV
  obtain ⟨o, hO⟩ : ∃ x, x = t.op := ⟨_, rfl⟩
  obtain ⟨n, hN⟩ : ∃ x, x = t.n := ⟨_, rfl⟩
  obtain ⟨s, hS⟩ : ∃ x, x = t.s := ⟨_, rfl⟩
  obtain ⟨a, hA⟩ : ∃ x, x = t.a := ⟨_, rfl⟩
  try rw [← hN]
  try rw [← hS]
  try rw [← hO]
  try rw [← hA]
  clear hO hN hS hA
  by_cases h1 : s.size = 0
  · have e1 := emp_yes h1
    by_cases h2 : n = 0
    · subst h2
      try rw [show (decide ((0 : Int) = 0)) = true by simp [h1]]
      go_enter Tryz.func252, Tryz.ntmps252
      go_wp2_with fail
      go_ret
      exact ⟨rfl, (by repeat' first | exact Fr.refl _ | refine Fr.alloc ?_ _)⟩
    · have e2 : (n == 0) = false := by rw [beq_eq_false_iff_ne]; exact h2
      try rw [show (decide (n = 0)) = false by simp [h1, h2]]
      clear h2
      go_enter Tryz.func252, Tryz.ntmps252
      go_wp2_with fail
      go_ret
      exact ⟨rfl, (by repeat' first | exact Fr.refl _ | refine Fr.alloc ?_ _)⟩
  · have e1 := emp_no (show 0 < s.size by omega)
    by_cases h2 : n = 0
    · subst h2
      try rw [show (decide ((0 : Int) = 0)) = true by simp [h1]]
      clear h1
      go_enter Tryz.func252, Tryz.ntmps252
      go_wp2_with fail
      go_ret
      exact ⟨rfl, (by repeat' first | exact Fr.refl _ | refine Fr.alloc ?_ _)⟩
    · have e2 : (n == 0) = false := by rw [beq_eq_false_iff_ne]; exact h2
      try rw [show (decide (n = 0)) = false by simp [h1, h2]]
      clear h1 h2
      go_enter Tryz.func252, Tryz.ntmps252
      go_wp2_with fail
      go_ret
      exact ⟨rfl, (by repeat' first | exact Fr.refl _ | refine Fr.alloc ?_ _)⟩
set_option maxHeartbeats 1000000 in
theorem zero11_any (t : Nd) (lt : Value) (w : World) : Calls Tryz.prog 252 #[ndV t lt, .bool true, .bool true] w fun e w' => e = .returned (.bool (true)) ∧ Fr w w' := by
  unfold ndV
  obtain ⟨o, hO⟩ : ∃ x, x = t.op := ⟨_, rfl⟩
  obtain ⟨n, hN⟩ : ∃ x, x = t.n := ⟨_, rfl⟩
  obtain ⟨s, hS⟩ : ∃ x, x = t.s := ⟨_, rfl⟩
  obtain ⟨a, hA⟩ : ∃ x, x = t.a := ⟨_, rfl⟩
  try rw [← hN]
  try rw [← hS]
  try rw [← hO]
  try rw [← hA]
  clear hO hN hS hA
  by_cases h1 : s.size = 0
  · have e1 := emp_yes h1
    by_cases h2 : n = 0
    · subst h2
      try rw [show (true) = true by simp [h1]]
      go_enter Tryz.func252, Tryz.ntmps252
      go_wp2_with fail
      go_ret
      exact ⟨rfl, (by repeat' first | exact Fr.refl _ | refine Fr.alloc ?_ _)⟩
    · have e2 : (n == 0) = false := by rw [beq_eq_false_iff_ne]; exact h2
      try rw [show (true) = true by simp [h1, h2]]
      clear h2
      go_enter Tryz.func252, Tryz.ntmps252
      go_wp2_with fail
      go_ret
      exact ⟨rfl, (by repeat' first | exact Fr.refl _ | refine Fr.alloc ?_ _)⟩
  · have e1 := emp_no (show 0 < s.size by omega)
    by_cases h2 : n = 0
    · subst h2
      try rw [show (true) = true by simp [h1]]
      clear h1
      go_enter Tryz.func252, Tryz.ntmps252
      go_wp2_with fail
      go_ret
      exact ⟨rfl, (by repeat' first | exact Fr.refl _ | refine Fr.alloc ?_ _)⟩
    · have e2 : (n == 0) = false := by rw [beq_eq_false_iff_ne]; exact h2
      try rw [show (true) = true by simp [h1, h2]]
      clear h1 h2
      go_enter Tryz.func252, Tryz.ntmps252
      go_wp2_with fail
      go_ret
      exact ⟨rfl, (by repeat' first | exact Fr.refl _ | refine Fr.alloc ?_ _)⟩
set_option maxHeartbeats 1000000 in
theorem quotes_any (s : ByteArray) (hs : s.size ≤ 2000000) (w : World) : Calls Tryz.prog 68 #[.string s] w fun e w' => e = .returned (.bool (qtb s)) ∧ Fr w w' := by
  have HQ := Lib.hid (fun W => RQuote_any s hs W)
  unfold qtb
  obtain ⟨T, hT⟩ : ∃ x, x = (quo s).t := ⟨_, rfl⟩
  obtain ⟨c, hc⟩ : ∃ x, x = (quo s).e := ⟨_, rfl⟩
  rw [← hT, ← hc] at HQ
  rw [← hc]
  clear hT hc
  by_cases h1 : c = 0
  · subst h1
    go_enter Tryz.func68, Tryz.ntmps68
    go_wp2_with fail
    refine (HQ.out _).mono ?_
    rintro e w1 ⟨rfl, hf1⟩
    go_wp2_with fail
    go_ret
    exact ⟨rfl, hf1⟩
  · have e2 : ((c : Int) == 0) = false := by rw [beq_eq_false_iff_ne]; omega
    rw [decide_eq_false h1]
    clear h1
    go_enter Tryz.func68, Tryz.ntmps68
    go_wp2_with fail
    refine (HQ.out _).mono ?_
    rintro e w1 ⟨rfl, hf1⟩
    go_wp2_with fail
    go_ret
    exact ⟨rfl, hf1⟩
theorem RisName_any (s : ByteArray) (w : World) : Calls Tryz.prog 253 #[.string s] w fun e w' => e = .returned (.bool (isNm s)) ∧ Fr w w' := by
  have HQ := Lib.hid (fun W => RIsName_any s W)
  go_enter Tryz.func253, Tryz.ntmps253
  go_wp2_with fail
  refine (HQ.out _).mono ?_
  rintro e w1 ⟨rfl, hf1⟩
  go_wp2_with fail
  go_ret
  exact ⟨rfl, hf1⟩
set_option maxHeartbeats 4000000 in
theorem all_any (p : Pr) (hp : p.ref = true) (l : List Nd) (v : Value) (w : World) (hv : LN w v l) (hq : RQ w l) :
    Calls Tryz.prog 145 #[v, .int .i64 p.num] w fun e w' => e = .returned (.bool (allK (okL l) p)) ∧ Fr w w' := by
  have HV := Lib.hid hv
  have HQ := Lib.hid hq
  obtain ⟨a, cap, rfl, hc, hm, _⟩ := hv.form
  unfold maxLen at hm
  obtain ⟨n, hn⟩ : ∃ n, n = l.length := ⟨_, rfl⟩
  have HN := Lib.hid hn
  rw [← hn] at hc HV ⊢
  obtain ⟨D, hD⟩ : ∃ d, d = allK (okL l) p := ⟨_, rfl⟩
  have HD := Lib.hid hD
  rw [← hD]
  obtain ⟨pn, hpn⟩ : ∃ x, x = p.num := ⟨_, rfl⟩
  have HPN := Lib.hid hpn
  rw [← hpn]
  clear hn hv hD hq hpn
  go_enter Tryz.func145, Tryz.ntmps145
  go_wp2_with fail
  go_loopw [5] (fun i wr => ∃ j : Nat, j ≤ n ∧ i = .int .i64 j ∧ Hid (D = allK (okL (l.drop j)) p) ∧ Fr w wr) (fun i _ => n - (intOf i).toNat)
  case atStart => exact ⟨0, Nat.zero_le _, rfl, Lib.hid (by rw [HD.out]; rfl), Fr.refl _⟩
  case round =>
    obtain ⟨j, hj, rfl, HJ, hfr⟩ := hrel
    by_cases hlt : j < n
    · obtain ⟨t, ht⟩ : ∃ t, l[j]? = some t := ⟨_, List.getElem?_eq_getElem (by rw [← HN.out]; exact hlt)⟩
      have hstep := allK_drop (k := p) ht
      obtain ⟨b, off, lv, rfl, hc5, hln, _⟩ := (HV.out.fr hfr).at_ ht
      obtain ⟨x0, x1, x2, x3, x4⟩ := hc5
      obtain ⟨la, lc, rfl, _, _, _⟩ := hln.form
      obtain ⟨ll, hll⟩ : ∃ x : Nat, x = t.l.length := ⟨_, rfl⟩
      rw [← hll] at x3 hln
      have HL := Lib.hid hln
      obtain ⟨D1, hD1⟩ : ∃ d, d = okP t p := ⟨_, rfl⟩
      have HC : Hid (∀ W, Fr wr W → Calls Tryz.prog 210 #[.agg #[.int .i64 t.op, .int .i64 t.n, .string t.s, .slice la ll lc, .int .i64 t.a], .int .i64 p.num] W fun e w' => e = .returned (.bool D1) ∧ Fr W w') := Lib.hid (fun W hW => by
        rw [hD1]; exact HQ.out W (hfr.trans hW) t (List.mem_of_getElem? ht) _ (HL.out.fr hW) p hp)
      rw [← hD1] at hstep
      have HST := Lib.hid hstep
      obtain ⟨q0, hq0⟩ : ∃ x, x = t.op := ⟨_, rfl⟩
      obtain ⟨q1, hq1⟩ : ∃ x, x = t.n := ⟨_, rfl⟩
      obtain ⟨q2, hq2⟩ : ∃ x, x = t.s := ⟨_, rfl⟩
      obtain ⟨q4, hq4⟩ : ∃ x, x = t.a := ⟨_, rfl⟩
      rw [← hq0, ← hq1, ← hq2, ← hq4, ← HPN.out] at HC
      rw [← hq0] at x0
      rw [← hq1] at x1
      rw [← hq2] at x2
      rw [← hq4] at x4
      clear hln ht hstep hD1 hll hq0 hq1 hq2 hq4
      cases D1 with
      | true =>
        have HJ2 : Hid (D = allK (okL (l.drop (j + 1))) p) := Lib.hid (by rw [HJ.out, HST.out, Bool.true_and])
        go_wp2_with fail
        refine (HC.out _ (Fr.refl _)).mono ?_
        rintro e w1 ⟨rfl, hf1⟩
        have hfin := hfr.trans hf1
        go_wp2_with fail
        go_roundw
        case rel => exact ⟨j + 1, by omega, by go_num, HJ2, hfin⟩
        case measure => simp [intOf]; omega
      | false =>
        have HJ2 : Hid (D = false) := Lib.hid (by rw [HJ.out, HST.out, Bool.false_and])
        go_wp2_with fail
        refine (HC.out _ (Fr.refl _)).mono ?_
        rintro e w1 ⟨rfl, hf1⟩
        have hfin := hfr.trans hf1
        go_wp2_with fail
        go_ret
        rw [HJ2.out]
        exact ⟨rfl, hfin⟩
    · obtain rfl : j = n := by omega
      have HR : Hid (D = true) := Lib.hid (by rw [HJ.out, List.drop_eq_nil_of_le (by rw [← HN.out]; exact Nat.le_refl _), okL]; rfl)
      go_wp2_with fail
      go_ret
      rw [HR.out]
      exact ⟨rfl, hfr⟩
set_option maxHeartbeats 8000000 in
theorem parts_any (l : List Nd) (v : Value) (w : World) (ks : List Pr) (kv : Value) (hv : LN w v l) (hk : IV w kv ks) (hq : RQ w l) :
    Calls Tryz.prog 254 #[v, kv] w fun e w' => e = .returned (.bool (hasK (okL l) ks)) ∧ Fr w w' := by
  have HV := Lib.hid hv
  have HQ := Lib.hid hq
  have HK := Lib.hid hk
  obtain ⟨a, cap, rfl, hc, hm, _⟩ := hv.form
  unfold maxLen at hm
  obtain ⟨ka, rfl, hk10, hkr, _⟩ := hk
  have HKR := Lib.hid hkr
  obtain ⟨n, hn⟩ : ∃ n, n = l.length := ⟨_, rfl⟩
  obtain ⟨m, hm0⟩ : ∃ m, m = ks.length := ⟨_, rfl⟩
  have HN := Lib.hid hn
  have HM := Lib.hid hm0
  rw [← hn] at hc HV ⊢
  rw [← hm0] at hk10 HK ⊢
  obtain ⟨D, hD⟩ : ∃ d, d = hasK (okL l) ks := ⟨_, rfl⟩
  have HD := Lib.hid hD
  rw [← hD]
  by_cases hnm : n = m
  · subst hnm
    have z0 : ((n : Int) == (n : Int)) = true := by simp
    have z1 : ((n : Int) != (n : Int)) = false := by simp
    clear hn hm0 hv hq hD hkr
    go_enter Tryz.func254, Tryz.ntmps254
    go_wp2_with fail
    go_loopw [5] (fun i wr => ∃ j : Nat, j ≤ n ∧ i = .int .i64 j ∧ Hid (D = hasK (okL (l.drop j)) (ks.drop j)) ∧ Fr w wr) (fun i _ => n - (intOf i).toNat)
    case atStart => exact ⟨0, Nat.zero_le _, rfl, Lib.hid (by rw [HD.out]; rfl), Fr.refl _⟩
    case round =>
      obtain ⟨j, hj, rfl, HJ, hfr⟩ := hrel
      by_cases hlt : j < n
      · obtain ⟨t, ht⟩ : ∃ t, l[j]? = some t := ⟨_, List.getElem?_eq_getElem (by rw [← HN.out]; exact hlt)⟩
        obtain ⟨k, hkj⟩ : ∃ k, ks[j]? = some k := ⟨_, List.getElem?_eq_getElem (by rw [← HM.out]; exact hlt)⟩
        obtain ⟨ka', hka, _, _, hkc⟩ := HK.out
        obtain rfl : ka = ka' := by injection hka
        obtain ⟨kb, rfl, hkcell⟩ := hkc (by rw [← HM.out]; omega)
        have kcell : wr.cell? ⟨kb, j, none⟩ = some (.int .i64 k.num) := hfr.cell (hkcell j k hkj)
        have hkref := HKR.out k (List.mem_of_getElem? hkj)
        have hstep := hasK_drop ht hkj
        obtain ⟨b, off, lv, rfl, hc5, hln, _⟩ := (HV.out.fr hfr).at_ ht
        obtain ⟨x0, x1, x2, x3, x4⟩ := hc5
        obtain ⟨la, lc, rfl, _, _, _⟩ := hln.form
        obtain ⟨ll, hll⟩ : ∃ x : Nat, x = t.l.length := ⟨_, rfl⟩
        rw [← hll] at x3 hln
        have HL := Lib.hid hln
        obtain ⟨D1, hD1⟩ : ∃ d, d = okP t k := ⟨_, rfl⟩
        have HC : Hid (∀ W, Fr wr W → Calls Tryz.prog 210 #[.agg #[.int .i64 t.op, .int .i64 t.n, .string t.s, .slice la ll lc, .int .i64 t.a], .int .i64 k.num] W fun e w' => e = .returned (.bool D1) ∧ Fr W w') := Lib.hid (fun W hW => by
          rw [hD1]; exact HQ.out W (hfr.trans hW) t (List.mem_of_getElem? ht) _ (HL.out.fr hW) k hkref)
        rw [← hD1] at hstep
        have HST := Lib.hid hstep
        obtain ⟨q0, hq0⟩ : ∃ x, x = t.op := ⟨_, rfl⟩
        obtain ⟨q1, hq1⟩ : ∃ x, x = t.n := ⟨_, rfl⟩
        obtain ⟨q2, hq2⟩ : ∃ x, x = t.s := ⟨_, rfl⟩
        obtain ⟨q4, hq4⟩ : ∃ x, x = t.a := ⟨_, rfl⟩
        obtain ⟨pn, hpn⟩ : ∃ x, x = k.num := ⟨_, rfl⟩
        rw [← hpn] at kcell
        rw [← hq0, ← hq1, ← hq2, ← hq4, ← hpn] at HC
        rw [← hq0] at x0
        rw [← hq1] at x1
        rw [← hq2] at x2
        rw [← hq4] at x4
        have hq0' : Fr wr wr.drew := (Fr.refl wr).drew
        have HKP : Hid (∀ W', Fr wr W' → W'.cell? ⟨b, off + j * 5, none⟩ = some (.int .i64 q0) ∧ W'.cell? ⟨b, off + j * 5 + 1, none⟩ = some (.int .i64 q1) ∧ W'.cell? ⟨b, off + j * 5 + 2, none⟩ = some (.string q2) ∧ W'.cell? ⟨b, off + j * 5 + 3, none⟩ = some (.slice la ll lc) ∧ W'.cell? ⟨b, off + j * 5 + 4, none⟩ = some (.int .i64 q4) ∧ W'.cell? ⟨kb, j, none⟩ = some (.int .i64 pn)) := Lib.hid (fun W' h => ⟨h.cell x0, h.cell x1, h.cell x2, h.cell x3, h.cell x4, h.cell kcell⟩)
        have hji : (j : Int).toNat = j := Int.toNat_natCast j
        have hj0 : (0 : Int) ≤ (j : Int) := by omega
        have hjn : (j : Int) < (n : Int) := by omega
        clear hln ht hstep hD1 hll hq0 hq1 hq2 hq4 hkcell hkc hka hkj hpn hkref
        cases D1 with
        | true =>
          have HJ2 : Hid (D = hasK (okL (l.drop (j + 1))) (ks.drop (j + 1))) := Lib.hid (by rw [HJ.out, HST.out, Bool.true_and])
          go_wp2_with fail
          go_region_held3 (fun W' => W'.cell? ⟨b, off + j * 5, none⟩ = some (.int .i64 q0) ∧ W'.cell? ⟨b, off + j * 5 + 1, none⟩ = some (.int .i64 q1) ∧ W'.cell? ⟨b, off + j * 5 + 2, none⟩ = some (.string q2) ∧ W'.cell? ⟨b, off + j * 5 + 3, none⟩ = some (.slice la ll lc) ∧ W'.cell? ⟨b, off + j * 5 + 4, none⟩ = some (.int .i64 q4) ∧ W'.cell? ⟨kb, j, none⟩ = some (.int .i64 pn))
            (first | exact HKP.out _ (by assumption) | exact HKP.out _ hq0')
            ((first | (go_at_call 210; refine (HC.out _ hq0').mono ?_; rintro e w1 ⟨rfl, hf1⟩; have hq1' := Fr.trans hq0' hf1)))
          have hfin := hfr.trans hq1'
          go_wp2_with fail
          go_roundw
          case rel => exact ⟨j + 1, by omega, by go_num, HJ2, hfin⟩
          case measure => simp [intOf]; omega
        | false =>
          have HJ2 : Hid (D = false) := Lib.hid (by rw [HJ.out, HST.out, Bool.false_and])
          go_wp2_with fail
          go_region_held3 (fun W' => W'.cell? ⟨b, off + j * 5, none⟩ = some (.int .i64 q0) ∧ W'.cell? ⟨b, off + j * 5 + 1, none⟩ = some (.int .i64 q1) ∧ W'.cell? ⟨b, off + j * 5 + 2, none⟩ = some (.string q2) ∧ W'.cell? ⟨b, off + j * 5 + 3, none⟩ = some (.slice la ll lc) ∧ W'.cell? ⟨b, off + j * 5 + 4, none⟩ = some (.int .i64 q4) ∧ W'.cell? ⟨kb, j, none⟩ = some (.int .i64 pn))
            (first | exact HKP.out _ (by assumption) | exact HKP.out _ hq0')
            ((first | (go_at_call 210; refine (HC.out _ hq0').mono ?_; rintro e w1 ⟨rfl, hf1⟩; have hq1' := Fr.trans hq0' hf1)))
          have hfin := hfr.trans hq1'
          go_wp2_with fail
          go_ret
          rw [HJ2.out]
          exact ⟨rfl, hfin⟩
      · obtain rfl : j = n := by omega
        have HR : Hid (D = true) := Lib.hid (by rw [HJ.out, List.drop_eq_nil_of_le (by rw [← HN.out]; exact Nat.le_refl _), List.drop_eq_nil_of_le (by rw [← HM.out]; exact Nat.le_refl _), okL, hasK])
        go_wp2_with fail
        go_ret
        rw [HR.out]
        exact ⟨rfl, hfr⟩
  · have HR : Hid (D = false) := Lib.hid (by rw [HD.out]; exact hasK_len _ _ (by rw [okL_len, ← hn, ← hm0]; exact hnm))
    have z0 : ((n : Int) == (m : Int)) = false := by rw [beq_eq_false_iff_ne]; omega
    have z1 : ((n : Int) != (m : Int)) = true := by rw [bne_iff_ne]; omega
    clear hn hm0 hv hq hD hnm hkr
    go_enter Tryz.func254, Tryz.ntmps254
    go_wp2_with fail
    go_ret
    rw [HR.out]
    exact ⟨rfl, Fr.refl _⟩
end Go.Proofs.YtbaelbafhdjlnaaGreatDoor

/- Which nodes are expressions: the document. -/
namespace Go.Proofs.YtbaelbafhdjlnaaGreatDoor
open Go.RowKit
set_option linter.unusedVariables false
set_option linter.unusedSimpArgs false

set_option maxRecDepth 100000 in
set_option maxHeartbeats 8000000 in
theorem formedExpr_of (t : Nd) (lt : Value) (w : World) (hlt : LN w lt t.l) (hs : t.s.size ≤ 2000000) (hn64 : wf64 t.n) (hq : RQ w t.l) :
    Calls Tryz.prog 250 #[ndV t lt] w fun e w' => e = .returned (.bool (exprR t.op t.n t.s (okL t.l))) ∧ Fr w w' := by
  obtain ⟨o, n, s, l, a⟩ := t
  have hlt : LN w lt l := hlt
  have hs : s.size ≤ 2000000 := hs
  have hn64 : wf64 n := hn64
  have hq : RQ w l := hq
  show Calls _ _ #[.agg #[.int .i64 o, .int .i64 n, .string s, lt, .int .i64 a]] w fun e w' => e = .returned (.bool (exprR o n s (okL l))) ∧ Fr w w'
  obtain ⟨b0, cap, rfl, hcap, hcm, _⟩ := hlt.form
  obtain ⟨len, hlen⟩ : ∃ x, x = l.length := ⟨_, rfl⟩
  rw [← hlen] at hlt ⊢
  obtain ⟨P, hP⟩ : ∃ x, x = okL l := ⟨_, rfl⟩
  rw [← hP]
  have CZ00 : Hid (∀ W, Fr w W → Calls Tryz.prog 252 #[.agg #[.int .i64 o, .int .i64 n, .string s, .slice b0 len cap, .int .i64 a], .bool false, .bool false] W fun e w' => e = .returned (.bool (bare n s)) ∧ Fr W w') := Lib.hid (fun W h => zero00_any ⟨o, n, s, l, a⟩ (.slice b0 len cap) W)
  have CZ10 : Hid (∀ W, Fr w W → Calls Tryz.prog 252 #[.agg #[.int .i64 o, .int .i64 n, .string s, .slice b0 len cap, .int .i64 a], .bool true, .bool false] W fun e w' => e = .returned (.bool (empS s)) ∧ Fr W w') := Lib.hid (fun W h => zero10_any ⟨o, n, s, l, a⟩ (.slice b0 len cap) W)
  have CZ01 : Hid (∀ W, Fr w W → Calls Tryz.prog 252 #[.agg #[.int .i64 o, .int .i64 n, .string s, .slice b0 len cap, .int .i64 a], .bool false, .bool true] W fun e w' => e = .returned (.bool (decide (n = 0))) ∧ Fr W w') := Lib.hid (fun W h => zero01_any ⟨o, n, s, l, a⟩ (.slice b0 len cap) W)
  have CQt : Hid (∀ W, Fr w W → Calls Tryz.prog 68 #[.string s] W fun e w' => e = .returned (.bool (qtb s)) ∧ Fr W w') := Lib.hid (fun W h => quotes_any s hs W)
  have CIn : Hid (∀ W, Fr w W → Calls Tryz.prog 253 #[.string s] W fun e w' => e = .returned (.bool (isNm s)) ∧ Fr W w') := Lib.hid (fun W h => RisName_any s W)
  have CP : Hid (∀ W, Fr w W → ∀ ks kv, IV W kv ks → Calls Tryz.prog 254 #[.slice b0 len cap, kv] W fun e w' => e = .returned (.bool (hasK P ks)) ∧ Fr W w') := Lib.hid (fun W h ks kv hk => by rw [hP]; exact parts_any l _ W ks kv (hlt.fr h) hk (hq.fr h))
  have CA : Hid (∀ W, Fr w W → ∀ k : Pr, k.ref = true → Calls Tryz.prog 145 #[.slice b0 len cap, .int .i64 k.num] W fun e w' => e = .returned (.bool (allK P k)) ∧ Fr W w') := Lib.hid (fun W h k hk => by rw [hP]; exact all_any k hk l _ W (hlt.fr h) (hq.fr h))
  obtain ⟨R, hR⟩ : ∃ r, r = (exprR o n s P) := ⟨_, rfl⟩
  rw [← hR]
  have HPL : Hid (P.length = len) := Lib.hid (by rw [hP, hlen, okL_len])
  have hn1 := Lib.hid hn64
  clear hlt hq hP hlen hcap hcm hs hn64
  have HG0 : Hid (Fr w w) := Lib.hid (Fr.refl w)
  by_cases g1 : o = 1
  · subst g1
    replace hR : R = (empS s && decide (-2147483648 ≤ n) && decide (n ≤ 2147483647) && hasK P []) := by first | exact hR | (rw [hR]; first | rfl | simp [exprR, nameR, plainR])
    have HB0 := Lib.hid (Nb.new w (.int .i64 1) (.int .i64 n) (.string s) (.slice b0 len cap) (.int .i64 a))
    cases hv0 : (empS s) with
    | true =>
      rw [hv0] at CZ10
      by_cases h2 : -2147483648 ≤ n
      · have fh2 : decide ((-2147483648 : Int) ≤ n) = true := decide_eq_true h2
        by_cases h3 : n ≤ 2147483647
        · have fh3 : decide ((n : Int) ≤ 2147483647) = true := decide_eq_true h3
          by_cases hl0 : len = 0
          · subst hl0
            skip
            have HR : Hid (R = (true)) := Lib.hid (by first | exact hR | (rw [hR]; simp [HPL.out, named, someK, hasK_nil, hv0, h2, h3]))
            clear hR
            try clear h5
            go_enter Tryz.func250, Tryz.ntmps250
            go_wp2_with fail
            refine (CZ10.out _ (by repeat' first | exact Fr.refl _ | exact HG0.out | refine Fr.alloc ?_ _)).mono ?_
            rintro e w1 ⟨rfl, hf1⟩
            have HG1 : Hid (Fr w w1) := Lib.hid (Fr.trans (by repeat' first | exact Fr.refl _ | exact HG0.out | refine Fr.alloc ?_ _) hf1)
            have HB1 : Hid (Nb w1 w.heap.size (.int .i64 1) (.int .i64 n) (.string s) (.slice b0 0 cap) (.int .i64 a)) := Lib.hid (Nb.fr (by first | exact HB0.out | exact Nb.al HB0.out _) hf1)
            obtain ⟨k10, k11, k12, k13, k14⟩ := HB1.out.cells
            clear hf1
            go_wp2_with fail
            go_ret
            rw [HR.out]
            exact ⟨rfl, (by repeat' first | exact Fr.refl _ | exact HG1.out | refine Fr.alloc ?_ _)⟩
          · have el0 : ((len : Int) == 0) = false := by rw [beq_eq_false_iff_ne]; omega
            have HR : Hid (R = (false)) := Lib.hid (by first | exact hR | (rw [hR]; simp [HPL.out, named, someK, hasK_nil, hv0, h2, h3, hl0]))
            clear hR
            try clear h5
            go_enter Tryz.func250, Tryz.ntmps250
            go_wp2_with fail
            refine (CZ10.out _ (by repeat' first | exact Fr.refl _ | exact HG0.out | refine Fr.alloc ?_ _)).mono ?_
            rintro e w1 ⟨rfl, hf1⟩
            have HG1 : Hid (Fr w w1) := Lib.hid (Fr.trans (by repeat' first | exact Fr.refl _ | exact HG0.out | refine Fr.alloc ?_ _) hf1)
            have HB1 : Hid (Nb w1 w.heap.size (.int .i64 1) (.int .i64 n) (.string s) (.slice b0 len cap) (.int .i64 a)) := Lib.hid (Nb.fr (by first | exact HB0.out | exact Nb.al HB0.out _) hf1)
            obtain ⟨k10, k11, k12, k13, k14⟩ := HB1.out.cells
            clear hf1
            go_wp2_with fail
            go_ret
            rw [HR.out]
            exact ⟨rfl, (by repeat' first | exact Fr.refl _ | exact HG1.out | refine Fr.alloc ?_ _)⟩
        · have fh3 : decide ((n : Int) ≤ 2147483647) = false := decide_eq_false h3
          have HR : Hid (R = (false)) := Lib.hid (by first | exact hR | (rw [hR]; simp [HPL.out, named, someK, hasK_nil, hv0, h2, h3]))
          clear hR
          try clear h5
          go_enter Tryz.func250, Tryz.ntmps250
          go_wp2_with fail
          refine (CZ10.out _ (by repeat' first | exact Fr.refl _ | exact HG0.out | refine Fr.alloc ?_ _)).mono ?_
          rintro e w1 ⟨rfl, hf1⟩
          have HG1 : Hid (Fr w w1) := Lib.hid (Fr.trans (by repeat' first | exact Fr.refl _ | exact HG0.out | refine Fr.alloc ?_ _) hf1)
          have HB1 : Hid (Nb w1 w.heap.size (.int .i64 1) (.int .i64 n) (.string s) (.slice b0 len cap) (.int .i64 a)) := Lib.hid (Nb.fr (by first | exact HB0.out | exact Nb.al HB0.out _) hf1)
          obtain ⟨k10, k11, k12, k13, k14⟩ := HB1.out.cells
          clear hf1
          go_wp2_with fail
          go_ret
          rw [HR.out]
          exact ⟨rfl, (by repeat' first | exact Fr.refl _ | exact HG1.out | refine Fr.alloc ?_ _)⟩
      · have fh2 : decide ((-2147483648 : Int) ≤ n) = false := decide_eq_false h2
        have HR : Hid (R = (false)) := Lib.hid (by first | exact hR | (rw [hR]; simp [HPL.out, named, someK, hasK_nil, hv0, h2]))
        clear hR
        try clear h5
        go_enter Tryz.func250, Tryz.ntmps250
        go_wp2_with fail
        refine (CZ10.out _ (by repeat' first | exact Fr.refl _ | exact HG0.out | refine Fr.alloc ?_ _)).mono ?_
        rintro e w1 ⟨rfl, hf1⟩
        have HG1 : Hid (Fr w w1) := Lib.hid (Fr.trans (by repeat' first | exact Fr.refl _ | exact HG0.out | refine Fr.alloc ?_ _) hf1)
        have HB1 : Hid (Nb w1 w.heap.size (.int .i64 1) (.int .i64 n) (.string s) (.slice b0 len cap) (.int .i64 a)) := Lib.hid (Nb.fr (by first | exact HB0.out | exact Nb.al HB0.out _) hf1)
        obtain ⟨k10, k11, k12, k13, k14⟩ := HB1.out.cells
        clear hf1
        go_wp2_with fail
        go_ret
        rw [HR.out]
        exact ⟨rfl, (by repeat' first | exact Fr.refl _ | exact HG1.out | refine Fr.alloc ?_ _)⟩
    | false =>
      rw [hv0] at CZ10
      have HR : Hid (R = (false)) := Lib.hid (by first | exact hR | (rw [hR]; simp [HPL.out, named, someK, hasK_nil, hv0]))
      clear hR
      try clear h5
      go_enter Tryz.func250, Tryz.ntmps250
      go_wp2_with fail
      refine (CZ10.out _ (by repeat' first | exact Fr.refl _ | exact HG0.out | refine Fr.alloc ?_ _)).mono ?_
      rintro e w1 ⟨rfl, hf1⟩
      have HG1 : Hid (Fr w w1) := Lib.hid (Fr.trans (by repeat' first | exact Fr.refl _ | exact HG0.out | refine Fr.alloc ?_ _) hf1)
      have HB1 : Hid (Nb w1 w.heap.size (.int .i64 1) (.int .i64 n) (.string s) (.slice b0 len cap) (.int .i64 a)) := Lib.hid (Nb.fr (by first | exact HB0.out | exact Nb.al HB0.out _) hf1)
      obtain ⟨k10, k11, k12, k13, k14⟩ := HB1.out.cells
      clear hf1
      go_wp2_with fail
      go_ret
      rw [HR.out]
      exact ⟨rfl, (by repeat' first | exact Fr.refl _ | exact HG1.out | refine Fr.alloc ?_ _)⟩
  have z1 : (o == 1) = false := by rw [beq_eq_false_iff_ne]; exact g1
  by_cases g2 : o = 2
  · subst g2
    replace hR : R = (qtb s && decide (n = 0) && hasK P []) := by first | exact hR | (rw [hR]; first | rfl | simp [exprR, nameR, plainR])
    have HB0 := Lib.hid (Nb.new w (.int .i64 2) (.int .i64 n) (.string s) (.slice b0 len cap) (.int .i64 a))
    cases hv0 : (decide (n = 0)) with
    | true =>
      rw [hv0] at CZ01
      cases hv1 : (qtb s) with
      | true =>
        rw [hv1] at CQt
        by_cases hl0 : len = 0
        · subst hl0
          skip
          have HR : Hid (R = (true)) := Lib.hid (by first | exact hR | (rw [hR]; simp [HPL.out, named, someK, hasK_nil, hv0, hv1]))
          clear hR
          try clear h5
          go_enter Tryz.func250, Tryz.ntmps250
          go_wp2_with fail
          refine (CZ01.out _ (by repeat' first | exact Fr.refl _ | exact HG0.out | refine Fr.alloc ?_ _)).mono ?_
          rintro e w1 ⟨rfl, hf1⟩
          have HG1 : Hid (Fr w w1) := Lib.hid (Fr.trans (by repeat' first | exact Fr.refl _ | exact HG0.out | refine Fr.alloc ?_ _) hf1)
          have HB1 : Hid (Nb w1 w.heap.size (.int .i64 2) (.int .i64 n) (.string s) (.slice b0 0 cap) (.int .i64 a)) := Lib.hid (Nb.fr (by first | exact HB0.out | exact Nb.al HB0.out _) hf1)
          obtain ⟨k10, k11, k12, k13, k14⟩ := HB1.out.cells
          clear hf1
          go_wp2_with fail
          refine (CQt.out _ (by repeat' first | exact Fr.refl _ | exact HG1.out | refine Fr.alloc ?_ _)).mono ?_
          rintro e w2 ⟨rfl, hf2⟩
          have HG2 : Hid (Fr w w2) := Lib.hid (Fr.trans (by repeat' first | exact Fr.refl _ | exact HG1.out | refine Fr.alloc ?_ _) hf2)
          have HB2 : Hid (Nb w2 w.heap.size (.int .i64 2) (.int .i64 n) (.string s) (.slice b0 0 cap) (.int .i64 a)) := Lib.hid (Nb.fr (by first | exact HB1.out | exact Nb.al HB1.out _) hf2)
          obtain ⟨k20, k21, k22, k23, k24⟩ := HB2.out.cells
          clear hf2
          go_wp2_with fail
          go_ret
          rw [HR.out]
          exact ⟨rfl, (by repeat' first | exact Fr.refl _ | exact HG2.out | refine Fr.alloc ?_ _)⟩
        · have el0 : ((len : Int) == 0) = false := by rw [beq_eq_false_iff_ne]; omega
          have HR : Hid (R = (false)) := Lib.hid (by first | exact hR | (rw [hR]; simp [HPL.out, named, someK, hasK_nil, hv0, hv1, hl0]))
          clear hR
          try clear h5
          go_enter Tryz.func250, Tryz.ntmps250
          go_wp2_with fail
          refine (CZ01.out _ (by repeat' first | exact Fr.refl _ | exact HG0.out | refine Fr.alloc ?_ _)).mono ?_
          rintro e w1 ⟨rfl, hf1⟩
          have HG1 : Hid (Fr w w1) := Lib.hid (Fr.trans (by repeat' first | exact Fr.refl _ | exact HG0.out | refine Fr.alloc ?_ _) hf1)
          have HB1 : Hid (Nb w1 w.heap.size (.int .i64 2) (.int .i64 n) (.string s) (.slice b0 len cap) (.int .i64 a)) := Lib.hid (Nb.fr (by first | exact HB0.out | exact Nb.al HB0.out _) hf1)
          obtain ⟨k10, k11, k12, k13, k14⟩ := HB1.out.cells
          clear hf1
          go_wp2_with fail
          refine (CQt.out _ (by repeat' first | exact Fr.refl _ | exact HG1.out | refine Fr.alloc ?_ _)).mono ?_
          rintro e w2 ⟨rfl, hf2⟩
          have HG2 : Hid (Fr w w2) := Lib.hid (Fr.trans (by repeat' first | exact Fr.refl _ | exact HG1.out | refine Fr.alloc ?_ _) hf2)
          have HB2 : Hid (Nb w2 w.heap.size (.int .i64 2) (.int .i64 n) (.string s) (.slice b0 len cap) (.int .i64 a)) := Lib.hid (Nb.fr (by first | exact HB1.out | exact Nb.al HB1.out _) hf2)
          obtain ⟨k20, k21, k22, k23, k24⟩ := HB2.out.cells
          clear hf2
          go_wp2_with fail
          go_ret
          rw [HR.out]
          exact ⟨rfl, (by repeat' first | exact Fr.refl _ | exact HG2.out | refine Fr.alloc ?_ _)⟩
      | false =>
        rw [hv1] at CQt
        have HR : Hid (R = (false)) := Lib.hid (by first | exact hR | (rw [hR]; simp [HPL.out, named, someK, hasK_nil, hv0, hv1]))
        clear hR
        try clear h5
        go_enter Tryz.func250, Tryz.ntmps250
        go_wp2_with fail
        refine (CZ01.out _ (by repeat' first | exact Fr.refl _ | exact HG0.out | refine Fr.alloc ?_ _)).mono ?_
        rintro e w1 ⟨rfl, hf1⟩
        have HG1 : Hid (Fr w w1) := Lib.hid (Fr.trans (by repeat' first | exact Fr.refl _ | exact HG0.out | refine Fr.alloc ?_ _) hf1)
        have HB1 : Hid (Nb w1 w.heap.size (.int .i64 2) (.int .i64 n) (.string s) (.slice b0 len cap) (.int .i64 a)) := Lib.hid (Nb.fr (by first | exact HB0.out | exact Nb.al HB0.out _) hf1)
        obtain ⟨k10, k11, k12, k13, k14⟩ := HB1.out.cells
        clear hf1
        go_wp2_with fail
        refine (CQt.out _ (by repeat' first | exact Fr.refl _ | exact HG1.out | refine Fr.alloc ?_ _)).mono ?_
        rintro e w2 ⟨rfl, hf2⟩
        have HG2 : Hid (Fr w w2) := Lib.hid (Fr.trans (by repeat' first | exact Fr.refl _ | exact HG1.out | refine Fr.alloc ?_ _) hf2)
        have HB2 : Hid (Nb w2 w.heap.size (.int .i64 2) (.int .i64 n) (.string s) (.slice b0 len cap) (.int .i64 a)) := Lib.hid (Nb.fr (by first | exact HB1.out | exact Nb.al HB1.out _) hf2)
        obtain ⟨k20, k21, k22, k23, k24⟩ := HB2.out.cells
        clear hf2
        go_wp2_with fail
        go_ret
        rw [HR.out]
        exact ⟨rfl, (by repeat' first | exact Fr.refl _ | exact HG2.out | refine Fr.alloc ?_ _)⟩
    | false =>
      rw [hv0] at CZ01
      have HR : Hid (R = (false)) := Lib.hid (by first | exact hR | (rw [hR]; simp [HPL.out, named, someK, hasK_nil, hv0]))
      clear hR
      try clear h5
      go_enter Tryz.func250, Tryz.ntmps250
      go_wp2_with fail
      refine (CZ01.out _ (by repeat' first | exact Fr.refl _ | exact HG0.out | refine Fr.alloc ?_ _)).mono ?_
      rintro e w1 ⟨rfl, hf1⟩
      have HG1 : Hid (Fr w w1) := Lib.hid (Fr.trans (by repeat' first | exact Fr.refl _ | exact HG0.out | refine Fr.alloc ?_ _) hf1)
      have HB1 : Hid (Nb w1 w.heap.size (.int .i64 2) (.int .i64 n) (.string s) (.slice b0 len cap) (.int .i64 a)) := Lib.hid (Nb.fr (by first | exact HB0.out | exact Nb.al HB0.out _) hf1)
      obtain ⟨k10, k11, k12, k13, k14⟩ := HB1.out.cells
      clear hf1
      go_wp2_with fail
      go_ret
      rw [HR.out]
      exact ⟨rfl, (by repeat' first | exact Fr.refl _ | exact HG1.out | refine Fr.alloc ?_ _)⟩
  have z2 : (o == 2) = false := by rw [beq_eq_false_iff_ne]; exact g2
  by_cases g3 : o = 3
  · subst g3
    replace hR : R = (bare n s && hasK P []) := by first | exact hR | (rw [hR]; first | rfl | simp [exprR, nameR, plainR])
    have HB0 := Lib.hid (Nb.new w (.int .i64 3) (.int .i64 n) (.string s) (.slice b0 len cap) (.int .i64 a))
    cases hv0 : (bare n s) with
    | true =>
      rw [hv0] at CZ00
      by_cases hl0 : len = 0
      · subst hl0
        skip
        have HR : Hid (R = (true)) := Lib.hid (by first | exact hR | (rw [hR]; simp [HPL.out, named, someK, hasK_nil, hv0]))
        clear hR
        try clear h5
        go_enter Tryz.func250, Tryz.ntmps250
        go_wp2_with fail
        refine (CZ00.out _ (by repeat' first | exact Fr.refl _ | exact HG0.out | refine Fr.alloc ?_ _)).mono ?_
        rintro e w1 ⟨rfl, hf1⟩
        have HG1 : Hid (Fr w w1) := Lib.hid (Fr.trans (by repeat' first | exact Fr.refl _ | exact HG0.out | refine Fr.alloc ?_ _) hf1)
        have HB1 : Hid (Nb w1 w.heap.size (.int .i64 3) (.int .i64 n) (.string s) (.slice b0 0 cap) (.int .i64 a)) := Lib.hid (Nb.fr (by first | exact HB0.out | exact Nb.al HB0.out _) hf1)
        obtain ⟨k10, k11, k12, k13, k14⟩ := HB1.out.cells
        clear hf1
        go_wp2_with fail
        go_ret
        rw [HR.out]
        exact ⟨rfl, (by repeat' first | exact Fr.refl _ | exact HG1.out | refine Fr.alloc ?_ _)⟩
      · have el0 : ((len : Int) == 0) = false := by rw [beq_eq_false_iff_ne]; omega
        have HR : Hid (R = (false)) := Lib.hid (by first | exact hR | (rw [hR]; simp [HPL.out, named, someK, hasK_nil, hv0, hl0]))
        clear hR
        try clear h5
        go_enter Tryz.func250, Tryz.ntmps250
        go_wp2_with fail
        refine (CZ00.out _ (by repeat' first | exact Fr.refl _ | exact HG0.out | refine Fr.alloc ?_ _)).mono ?_
        rintro e w1 ⟨rfl, hf1⟩
        have HG1 : Hid (Fr w w1) := Lib.hid (Fr.trans (by repeat' first | exact Fr.refl _ | exact HG0.out | refine Fr.alloc ?_ _) hf1)
        have HB1 : Hid (Nb w1 w.heap.size (.int .i64 3) (.int .i64 n) (.string s) (.slice b0 len cap) (.int .i64 a)) := Lib.hid (Nb.fr (by first | exact HB0.out | exact Nb.al HB0.out _) hf1)
        obtain ⟨k10, k11, k12, k13, k14⟩ := HB1.out.cells
        clear hf1
        go_wp2_with fail
        go_ret
        rw [HR.out]
        exact ⟨rfl, (by repeat' first | exact Fr.refl _ | exact HG1.out | refine Fr.alloc ?_ _)⟩
    | false =>
      rw [hv0] at CZ00
      have HR : Hid (R = (false)) := Lib.hid (by first | exact hR | (rw [hR]; simp [HPL.out, named, someK, hasK_nil, hv0]))
      clear hR
      try clear h5
      go_enter Tryz.func250, Tryz.ntmps250
      go_wp2_with fail
      refine (CZ00.out _ (by repeat' first | exact Fr.refl _ | exact HG0.out | refine Fr.alloc ?_ _)).mono ?_
      rintro e w1 ⟨rfl, hf1⟩
      have HG1 : Hid (Fr w w1) := Lib.hid (Fr.trans (by repeat' first | exact Fr.refl _ | exact HG0.out | refine Fr.alloc ?_ _) hf1)
      have HB1 : Hid (Nb w1 w.heap.size (.int .i64 3) (.int .i64 n) (.string s) (.slice b0 len cap) (.int .i64 a)) := Lib.hid (Nb.fr (by first | exact HB0.out | exact Nb.al HB0.out _) hf1)
      obtain ⟨k10, k11, k12, k13, k14⟩ := HB1.out.cells
      clear hf1
      go_wp2_with fail
      go_ret
      rw [HR.out]
      exact ⟨rfl, (by repeat' first | exact Fr.refl _ | exact HG1.out | refine Fr.alloc ?_ _)⟩
  have z3 : (o == 3) = false := by rw [beq_eq_false_iff_ne]; exact g3
  by_cases g4 : o = 4
  · subst g4
    replace hR : R = (bare n s && hasK P []) := by first | exact hR | (rw [hR]; first | rfl | simp [exprR, nameR, plainR])
    have HB0 := Lib.hid (Nb.new w (.int .i64 4) (.int .i64 n) (.string s) (.slice b0 len cap) (.int .i64 a))
    cases hv0 : (bare n s) with
    | true =>
      rw [hv0] at CZ00
      by_cases hl0 : len = 0
      · subst hl0
        skip
        have HR : Hid (R = (true)) := Lib.hid (by first | exact hR | (rw [hR]; simp [HPL.out, named, someK, hasK_nil, hv0]))
        clear hR
        try clear h5
        go_enter Tryz.func250, Tryz.ntmps250
        go_wp2_with fail
        refine (CZ00.out _ (by repeat' first | exact Fr.refl _ | exact HG0.out | refine Fr.alloc ?_ _)).mono ?_
        rintro e w1 ⟨rfl, hf1⟩
        have HG1 : Hid (Fr w w1) := Lib.hid (Fr.trans (by repeat' first | exact Fr.refl _ | exact HG0.out | refine Fr.alloc ?_ _) hf1)
        have HB1 : Hid (Nb w1 w.heap.size (.int .i64 4) (.int .i64 n) (.string s) (.slice b0 0 cap) (.int .i64 a)) := Lib.hid (Nb.fr (by first | exact HB0.out | exact Nb.al HB0.out _) hf1)
        obtain ⟨k10, k11, k12, k13, k14⟩ := HB1.out.cells
        clear hf1
        go_wp2_with fail
        go_ret
        rw [HR.out]
        exact ⟨rfl, (by repeat' first | exact Fr.refl _ | exact HG1.out | refine Fr.alloc ?_ _)⟩
      · have el0 : ((len : Int) == 0) = false := by rw [beq_eq_false_iff_ne]; omega
        have HR : Hid (R = (false)) := Lib.hid (by first | exact hR | (rw [hR]; simp [HPL.out, named, someK, hasK_nil, hv0, hl0]))
        clear hR
        try clear h5
        go_enter Tryz.func250, Tryz.ntmps250
        go_wp2_with fail
        refine (CZ00.out _ (by repeat' first | exact Fr.refl _ | exact HG0.out | refine Fr.alloc ?_ _)).mono ?_
        rintro e w1 ⟨rfl, hf1⟩
        have HG1 : Hid (Fr w w1) := Lib.hid (Fr.trans (by repeat' first | exact Fr.refl _ | exact HG0.out | refine Fr.alloc ?_ _) hf1)
        have HB1 : Hid (Nb w1 w.heap.size (.int .i64 4) (.int .i64 n) (.string s) (.slice b0 len cap) (.int .i64 a)) := Lib.hid (Nb.fr (by first | exact HB0.out | exact Nb.al HB0.out _) hf1)
        obtain ⟨k10, k11, k12, k13, k14⟩ := HB1.out.cells
        clear hf1
        go_wp2_with fail
        go_ret
        rw [HR.out]
        exact ⟨rfl, (by repeat' first | exact Fr.refl _ | exact HG1.out | refine Fr.alloc ?_ _)⟩
    | false =>
      rw [hv0] at CZ00
      have HR : Hid (R = (false)) := Lib.hid (by first | exact hR | (rw [hR]; simp [HPL.out, named, someK, hasK_nil, hv0]))
      clear hR
      try clear h5
      go_enter Tryz.func250, Tryz.ntmps250
      go_wp2_with fail
      refine (CZ00.out _ (by repeat' first | exact Fr.refl _ | exact HG0.out | refine Fr.alloc ?_ _)).mono ?_
      rintro e w1 ⟨rfl, hf1⟩
      have HG1 : Hid (Fr w w1) := Lib.hid (Fr.trans (by repeat' first | exact Fr.refl _ | exact HG0.out | refine Fr.alloc ?_ _) hf1)
      have HB1 : Hid (Nb w1 w.heap.size (.int .i64 4) (.int .i64 n) (.string s) (.slice b0 len cap) (.int .i64 a)) := Lib.hid (Nb.fr (by first | exact HB0.out | exact Nb.al HB0.out _) hf1)
      obtain ⟨k10, k11, k12, k13, k14⟩ := HB1.out.cells
      clear hf1
      go_wp2_with fail
      go_ret
      rw [HR.out]
      exact ⟨rfl, (by repeat' first | exact Fr.refl _ | exact HG1.out | refine Fr.alloc ?_ _)⟩
  have z4 : (o == 4) = false := by rw [beq_eq_false_iff_ne]; exact g4
  by_cases g5 : o = 5
  · subst g5
    replace hR : R = (bare n s && hasK P []) := by first | exact hR | (rw [hR]; first | rfl | simp [exprR, nameR, plainR])
    have HB0 := Lib.hid (Nb.new w (.int .i64 5) (.int .i64 n) (.string s) (.slice b0 len cap) (.int .i64 a))
    cases hv0 : (bare n s) with
    | true =>
      rw [hv0] at CZ00
      by_cases hl0 : len = 0
      · subst hl0
        skip
        have HR : Hid (R = (true)) := Lib.hid (by first | exact hR | (rw [hR]; simp [HPL.out, named, someK, hasK_nil, hv0]))
        clear hR
        try clear h5
        go_enter Tryz.func250, Tryz.ntmps250
        go_wp2_with fail
        refine (CZ00.out _ (by repeat' first | exact Fr.refl _ | exact HG0.out | refine Fr.alloc ?_ _)).mono ?_
        rintro e w1 ⟨rfl, hf1⟩
        have HG1 : Hid (Fr w w1) := Lib.hid (Fr.trans (by repeat' first | exact Fr.refl _ | exact HG0.out | refine Fr.alloc ?_ _) hf1)
        have HB1 : Hid (Nb w1 w.heap.size (.int .i64 5) (.int .i64 n) (.string s) (.slice b0 0 cap) (.int .i64 a)) := Lib.hid (Nb.fr (by first | exact HB0.out | exact Nb.al HB0.out _) hf1)
        obtain ⟨k10, k11, k12, k13, k14⟩ := HB1.out.cells
        clear hf1
        go_wp2_with fail
        go_ret
        rw [HR.out]
        exact ⟨rfl, (by repeat' first | exact Fr.refl _ | exact HG1.out | refine Fr.alloc ?_ _)⟩
      · have el0 : ((len : Int) == 0) = false := by rw [beq_eq_false_iff_ne]; omega
        have HR : Hid (R = (false)) := Lib.hid (by first | exact hR | (rw [hR]; simp [HPL.out, named, someK, hasK_nil, hv0, hl0]))
        clear hR
        try clear h5
        go_enter Tryz.func250, Tryz.ntmps250
        go_wp2_with fail
        refine (CZ00.out _ (by repeat' first | exact Fr.refl _ | exact HG0.out | refine Fr.alloc ?_ _)).mono ?_
        rintro e w1 ⟨rfl, hf1⟩
        have HG1 : Hid (Fr w w1) := Lib.hid (Fr.trans (by repeat' first | exact Fr.refl _ | exact HG0.out | refine Fr.alloc ?_ _) hf1)
        have HB1 : Hid (Nb w1 w.heap.size (.int .i64 5) (.int .i64 n) (.string s) (.slice b0 len cap) (.int .i64 a)) := Lib.hid (Nb.fr (by first | exact HB0.out | exact Nb.al HB0.out _) hf1)
        obtain ⟨k10, k11, k12, k13, k14⟩ := HB1.out.cells
        clear hf1
        go_wp2_with fail
        go_ret
        rw [HR.out]
        exact ⟨rfl, (by repeat' first | exact Fr.refl _ | exact HG1.out | refine Fr.alloc ?_ _)⟩
    | false =>
      rw [hv0] at CZ00
      have HR : Hid (R = (false)) := Lib.hid (by first | exact hR | (rw [hR]; simp [HPL.out, named, someK, hasK_nil, hv0]))
      clear hR
      try clear h5
      go_enter Tryz.func250, Tryz.ntmps250
      go_wp2_with fail
      refine (CZ00.out _ (by repeat' first | exact Fr.refl _ | exact HG0.out | refine Fr.alloc ?_ _)).mono ?_
      rintro e w1 ⟨rfl, hf1⟩
      have HG1 : Hid (Fr w w1) := Lib.hid (Fr.trans (by repeat' first | exact Fr.refl _ | exact HG0.out | refine Fr.alloc ?_ _) hf1)
      have HB1 : Hid (Nb w1 w.heap.size (.int .i64 5) (.int .i64 n) (.string s) (.slice b0 len cap) (.int .i64 a)) := Lib.hid (Nb.fr (by first | exact HB0.out | exact Nb.al HB0.out _) hf1)
      obtain ⟨k10, k11, k12, k13, k14⟩ := HB1.out.cells
      clear hf1
      go_wp2_with fail
      go_ret
      rw [HR.out]
      exact ⟨rfl, (by repeat' first | exact Fr.refl _ | exact HG1.out | refine Fr.alloc ?_ _)⟩
  have z5 : (o == 5) = false := by rw [beq_eq_false_iff_ne]; exact g5
  by_cases g6 : o = 6
  · subst g6
    replace hR : R = (named n s && hasK P []) := by first | exact hR | (rw [hR]; first | rfl | simp [exprR, nameR, plainR])
    have HB0 := Lib.hid (Nb.new w (.int .i64 6) (.int .i64 n) (.string s) (.slice b0 len cap) (.int .i64 a))
    cases hv0 : (decide (n = 0)) with
    | true =>
      rw [hv0] at CZ01
      cases hv1 : (isNm s) with
      | true =>
        rw [hv1] at CIn
        by_cases hl0 : len = 0
        · subst hl0
          skip
          have HR : Hid (R = (true)) := Lib.hid (by first | exact hR | (rw [hR]; simp [HPL.out, named, someK, hasK_nil, hv0, hv1]))
          clear hR
          try clear h5
          go_enter Tryz.func250, Tryz.ntmps250
          go_wp2_with fail
          refine (CZ01.out _ (by repeat' first | exact Fr.refl _ | exact HG0.out | refine Fr.alloc ?_ _)).mono ?_
          rintro e w1 ⟨rfl, hf1⟩
          have HG1 : Hid (Fr w w1) := Lib.hid (Fr.trans (by repeat' first | exact Fr.refl _ | exact HG0.out | refine Fr.alloc ?_ _) hf1)
          have HB1 : Hid (Nb w1 w.heap.size (.int .i64 6) (.int .i64 n) (.string s) (.slice b0 0 cap) (.int .i64 a)) := Lib.hid (Nb.fr (by first | exact HB0.out | exact Nb.al HB0.out _) hf1)
          obtain ⟨k10, k11, k12, k13, k14⟩ := HB1.out.cells
          clear hf1
          go_wp2_with fail
          refine (CIn.out _ (by repeat' first | exact Fr.refl _ | exact HG1.out | refine Fr.alloc ?_ _)).mono ?_
          rintro e w2 ⟨rfl, hf2⟩
          have HG2 : Hid (Fr w w2) := Lib.hid (Fr.trans (by repeat' first | exact Fr.refl _ | exact HG1.out | refine Fr.alloc ?_ _) hf2)
          have HB2 : Hid (Nb w2 w.heap.size (.int .i64 6) (.int .i64 n) (.string s) (.slice b0 0 cap) (.int .i64 a)) := Lib.hid (Nb.fr (by first | exact HB1.out | exact Nb.al HB1.out _) hf2)
          obtain ⟨k20, k21, k22, k23, k24⟩ := HB2.out.cells
          clear hf2
          go_wp2_with fail
          go_ret
          rw [HR.out]
          exact ⟨rfl, (by repeat' first | exact Fr.refl _ | exact HG2.out | refine Fr.alloc ?_ _)⟩
        · have el0 : ((len : Int) == 0) = false := by rw [beq_eq_false_iff_ne]; omega
          have HR : Hid (R = (false)) := Lib.hid (by first | exact hR | (rw [hR]; simp [HPL.out, named, someK, hasK_nil, hv0, hv1, hl0]))
          clear hR
          try clear h5
          go_enter Tryz.func250, Tryz.ntmps250
          go_wp2_with fail
          refine (CZ01.out _ (by repeat' first | exact Fr.refl _ | exact HG0.out | refine Fr.alloc ?_ _)).mono ?_
          rintro e w1 ⟨rfl, hf1⟩
          have HG1 : Hid (Fr w w1) := Lib.hid (Fr.trans (by repeat' first | exact Fr.refl _ | exact HG0.out | refine Fr.alloc ?_ _) hf1)
          have HB1 : Hid (Nb w1 w.heap.size (.int .i64 6) (.int .i64 n) (.string s) (.slice b0 len cap) (.int .i64 a)) := Lib.hid (Nb.fr (by first | exact HB0.out | exact Nb.al HB0.out _) hf1)
          obtain ⟨k10, k11, k12, k13, k14⟩ := HB1.out.cells
          clear hf1
          go_wp2_with fail
          refine (CIn.out _ (by repeat' first | exact Fr.refl _ | exact HG1.out | refine Fr.alloc ?_ _)).mono ?_
          rintro e w2 ⟨rfl, hf2⟩
          have HG2 : Hid (Fr w w2) := Lib.hid (Fr.trans (by repeat' first | exact Fr.refl _ | exact HG1.out | refine Fr.alloc ?_ _) hf2)
          have HB2 : Hid (Nb w2 w.heap.size (.int .i64 6) (.int .i64 n) (.string s) (.slice b0 len cap) (.int .i64 a)) := Lib.hid (Nb.fr (by first | exact HB1.out | exact Nb.al HB1.out _) hf2)
          obtain ⟨k20, k21, k22, k23, k24⟩ := HB2.out.cells
          clear hf2
          go_wp2_with fail
          go_ret
          rw [HR.out]
          exact ⟨rfl, (by repeat' first | exact Fr.refl _ | exact HG2.out | refine Fr.alloc ?_ _)⟩
      | false =>
        rw [hv1] at CIn
        have HR : Hid (R = (false)) := Lib.hid (by first | exact hR | (rw [hR]; simp [HPL.out, named, someK, hasK_nil, hv0, hv1]))
        clear hR
        try clear h5
        go_enter Tryz.func250, Tryz.ntmps250
        go_wp2_with fail
        refine (CZ01.out _ (by repeat' first | exact Fr.refl _ | exact HG0.out | refine Fr.alloc ?_ _)).mono ?_
        rintro e w1 ⟨rfl, hf1⟩
        have HG1 : Hid (Fr w w1) := Lib.hid (Fr.trans (by repeat' first | exact Fr.refl _ | exact HG0.out | refine Fr.alloc ?_ _) hf1)
        have HB1 : Hid (Nb w1 w.heap.size (.int .i64 6) (.int .i64 n) (.string s) (.slice b0 len cap) (.int .i64 a)) := Lib.hid (Nb.fr (by first | exact HB0.out | exact Nb.al HB0.out _) hf1)
        obtain ⟨k10, k11, k12, k13, k14⟩ := HB1.out.cells
        clear hf1
        go_wp2_with fail
        refine (CIn.out _ (by repeat' first | exact Fr.refl _ | exact HG1.out | refine Fr.alloc ?_ _)).mono ?_
        rintro e w2 ⟨rfl, hf2⟩
        have HG2 : Hid (Fr w w2) := Lib.hid (Fr.trans (by repeat' first | exact Fr.refl _ | exact HG1.out | refine Fr.alloc ?_ _) hf2)
        have HB2 : Hid (Nb w2 w.heap.size (.int .i64 6) (.int .i64 n) (.string s) (.slice b0 len cap) (.int .i64 a)) := Lib.hid (Nb.fr (by first | exact HB1.out | exact Nb.al HB1.out _) hf2)
        obtain ⟨k20, k21, k22, k23, k24⟩ := HB2.out.cells
        clear hf2
        go_wp2_with fail
        go_ret
        rw [HR.out]
        exact ⟨rfl, (by repeat' first | exact Fr.refl _ | exact HG2.out | refine Fr.alloc ?_ _)⟩
    | false =>
      rw [hv0] at CZ01
      have HR : Hid (R = (false)) := Lib.hid (by first | exact hR | (rw [hR]; simp [HPL.out, named, someK, hasK_nil, hv0]))
      clear hR
      try clear h5
      go_enter Tryz.func250, Tryz.ntmps250
      go_wp2_with fail
      refine (CZ01.out _ (by repeat' first | exact Fr.refl _ | exact HG0.out | refine Fr.alloc ?_ _)).mono ?_
      rintro e w1 ⟨rfl, hf1⟩
      have HG1 : Hid (Fr w w1) := Lib.hid (Fr.trans (by repeat' first | exact Fr.refl _ | exact HG0.out | refine Fr.alloc ?_ _) hf1)
      have HB1 : Hid (Nb w1 w.heap.size (.int .i64 6) (.int .i64 n) (.string s) (.slice b0 len cap) (.int .i64 a)) := Lib.hid (Nb.fr (by first | exact HB0.out | exact Nb.al HB0.out _) hf1)
      obtain ⟨k10, k11, k12, k13, k14⟩ := HB1.out.cells
      clear hf1
      go_wp2_with fail
      go_ret
      rw [HR.out]
      exact ⟨rfl, (by repeat' first | exact Fr.refl _ | exact HG1.out | refine Fr.alloc ?_ _)⟩
  have z6 : (o == 6) = false := by rw [beq_eq_false_iff_ne]; exact g6
  by_cases g7 : o = 7
  · subst g7
    replace hR : R = (bare n s && someK P .expr) := by first | exact hR | (rw [hR]; first | rfl | simp [exprR, nameR, plainR])
    have HB0 := Lib.hid (Nb.new w (.int .i64 7) (.int .i64 n) (.string s) (.slice b0 len cap) (.int .i64 a))
    cases hv0 : (bare n s) with
    | true =>
      rw [hv0] at CZ00
      by_cases hl1 : 0 < len
      · have el1 : decide ((1 : Int) ≤ len) = true := decide_eq_true (by omega)
        have HR : Hid (R = (allK P .expr)) := Lib.hid (by first | exact hR | (rw [hR]; simp [HPL.out, named, someK, hasK_nil, hv0, hl1]))
        clear hR
        try clear h5
        go_enter Tryz.func250, Tryz.ntmps250
        go_wp2_with fail
        refine (CZ00.out _ (by repeat' first | exact Fr.refl _ | exact HG0.out | refine Fr.alloc ?_ _)).mono ?_
        rintro e w1 ⟨rfl, hf1⟩
        have HG1 : Hid (Fr w w1) := Lib.hid (Fr.trans (by repeat' first | exact Fr.refl _ | exact HG0.out | refine Fr.alloc ?_ _) hf1)
        have HB1 : Hid (Nb w1 w.heap.size (.int .i64 7) (.int .i64 n) (.string s) (.slice b0 len cap) (.int .i64 a)) := Lib.hid (Nb.fr (by first | exact HB0.out | exact Nb.al HB0.out _) hf1)
        obtain ⟨k10, k11, k12, k13, k14⟩ := HB1.out.cells
        clear hf1
        go_wp2_with fail
        refine (CA.out _ (by repeat' first | exact Fr.refl _ | exact HG1.out | refine Fr.alloc ?_ _) .expr rfl).mono ?_
        rintro e w2 ⟨rfl, hf2⟩
        have HG2 : Hid (Fr w w2) := Lib.hid (Fr.trans (by repeat' first | exact Fr.refl _ | exact HG1.out | refine Fr.alloc ?_ _) hf2)
        have HB2 : Hid (Nb w2 w.heap.size (.int .i64 7) (.int .i64 n) (.string s) (.slice b0 len cap) (.int .i64 a)) := Lib.hid (Nb.fr (by first | exact HB1.out | exact Nb.al HB1.out _) hf2)
        obtain ⟨k20, k21, k22, k23, k24⟩ := HB2.out.cells
        clear hf2
        go_wp2_with fail
        go_ret
        rw [HR.out]
        exact ⟨rfl, (by repeat' first | exact Fr.refl _ | exact HG2.out | refine Fr.alloc ?_ _)⟩
      · have el1 : decide ((1 : Int) ≤ len) = false := decide_eq_false (by omega)
        have HR : Hid (R = (false)) := Lib.hid (by first | exact hR | (rw [hR]; simp [HPL.out, named, someK, hasK_nil, hv0, hl1]))
        clear hR
        try clear h5
        go_enter Tryz.func250, Tryz.ntmps250
        go_wp2_with fail
        refine (CZ00.out _ (by repeat' first | exact Fr.refl _ | exact HG0.out | refine Fr.alloc ?_ _)).mono ?_
        rintro e w1 ⟨rfl, hf1⟩
        have HG1 : Hid (Fr w w1) := Lib.hid (Fr.trans (by repeat' first | exact Fr.refl _ | exact HG0.out | refine Fr.alloc ?_ _) hf1)
        have HB1 : Hid (Nb w1 w.heap.size (.int .i64 7) (.int .i64 n) (.string s) (.slice b0 len cap) (.int .i64 a)) := Lib.hid (Nb.fr (by first | exact HB0.out | exact Nb.al HB0.out _) hf1)
        obtain ⟨k10, k11, k12, k13, k14⟩ := HB1.out.cells
        clear hf1
        go_wp2_with fail
        go_ret
        rw [HR.out]
        exact ⟨rfl, (by repeat' first | exact Fr.refl _ | exact HG1.out | refine Fr.alloc ?_ _)⟩
    | false =>
      rw [hv0] at CZ00
      have HR : Hid (R = (false)) := Lib.hid (by first | exact hR | (rw [hR]; simp [HPL.out, named, someK, hasK_nil, hv0]))
      clear hR
      try clear h5
      go_enter Tryz.func250, Tryz.ntmps250
      go_wp2_with fail
      refine (CZ00.out _ (by repeat' first | exact Fr.refl _ | exact HG0.out | refine Fr.alloc ?_ _)).mono ?_
      rintro e w1 ⟨rfl, hf1⟩
      have HG1 : Hid (Fr w w1) := Lib.hid (Fr.trans (by repeat' first | exact Fr.refl _ | exact HG0.out | refine Fr.alloc ?_ _) hf1)
      have HB1 : Hid (Nb w1 w.heap.size (.int .i64 7) (.int .i64 n) (.string s) (.slice b0 len cap) (.int .i64 a)) := Lib.hid (Nb.fr (by first | exact HB0.out | exact Nb.al HB0.out _) hf1)
      obtain ⟨k10, k11, k12, k13, k14⟩ := HB1.out.cells
      clear hf1
      go_wp2_with fail
      go_ret
      rw [HR.out]
      exact ⟨rfl, (by repeat' first | exact Fr.refl _ | exact HG1.out | refine Fr.alloc ?_ _)⟩
  have z7 : (o == 7) = false := by rw [beq_eq_false_iff_ne]; exact g7
  by_cases g8 : o = 8
  · subst g8
    replace hR : R = (bare n s && hasK P [.expr, .expr]) := by first | exact hR | (rw [hR]; first | rfl | simp [exprR, nameR, plainR])
    have HB0 := Lib.hid (Nb.new w (.int .i64 8) (.int .i64 n) (.string s) (.slice b0 len cap) (.int .i64 a))
    cases hv0 : (bare n s) with
    | true =>
      rw [hv0] at CZ00
      have HR : Hid (R = (hasK P [.expr, .expr])) := Lib.hid (by first | exact hR | (rw [hR]; simp [HPL.out, named, someK, hasK_nil, hv0]))
      clear hR
      try clear h5
      go_enter Tryz.func250, Tryz.ntmps250
      go_wp2_with fail
      refine (CZ00.out _ (by repeat' first | exact Fr.refl _ | exact HG0.out | refine Fr.alloc ?_ _)).mono ?_
      rintro e w1 ⟨rfl, hf1⟩
      have HG1 : Hid (Fr w w1) := Lib.hid (Fr.trans (by repeat' first | exact Fr.refl _ | exact HG0.out | refine Fr.alloc ?_ _) hf1)
      have HB1 : Hid (Nb w1 w.heap.size (.int .i64 8) (.int .i64 n) (.string s) (.slice b0 len cap) (.int .i64 a)) := Lib.hid (Nb.fr (by first | exact HB0.out | exact Nb.al HB0.out _) hf1)
      obtain ⟨k10, k11, k12, k13, k14⟩ := HB1.out.cells
      clear hf1
      go_wp2_with fail
      refine (CP.out _ (by repeat' first | exact Fr.refl _ | exact HG1.out | refine Fr.alloc ?_ _) [.expr, .expr] _ (IV.two _ _ .expr .expr _ (by simp) rfl)).mono ?_
      rintro e w2 ⟨rfl, hf2⟩
      have HG2 : Hid (Fr w w2) := Lib.hid (Fr.trans (by repeat' first | exact Fr.refl _ | exact HG1.out | refine Fr.alloc ?_ _) hf2)
      have HB2 : Hid (Nb w2 w.heap.size (.int .i64 8) (.int .i64 n) (.string s) (.slice b0 len cap) (.int .i64 a)) := Lib.hid (Nb.fr (by first | exact HB1.out | exact Nb.al HB1.out _) hf2)
      obtain ⟨k20, k21, k22, k23, k24⟩ := HB2.out.cells
      clear hf2
      go_wp2_with fail
      go_ret
      rw [HR.out]
      exact ⟨rfl, (by repeat' first | exact Fr.refl _ | exact HG2.out | refine Fr.alloc ?_ _)⟩
    | false =>
      rw [hv0] at CZ00
      have HR : Hid (R = (false)) := Lib.hid (by first | exact hR | (rw [hR]; simp [HPL.out, named, someK, hasK_nil, hv0]))
      clear hR
      try clear h5
      go_enter Tryz.func250, Tryz.ntmps250
      go_wp2_with fail
      refine (CZ00.out _ (by repeat' first | exact Fr.refl _ | exact HG0.out | refine Fr.alloc ?_ _)).mono ?_
      rintro e w1 ⟨rfl, hf1⟩
      have HG1 : Hid (Fr w w1) := Lib.hid (Fr.trans (by repeat' first | exact Fr.refl _ | exact HG0.out | refine Fr.alloc ?_ _) hf1)
      have HB1 : Hid (Nb w1 w.heap.size (.int .i64 8) (.int .i64 n) (.string s) (.slice b0 len cap) (.int .i64 a)) := Lib.hid (Nb.fr (by first | exact HB0.out | exact Nb.al HB0.out _) hf1)
      obtain ⟨k10, k11, k12, k13, k14⟩ := HB1.out.cells
      clear hf1
      go_wp2_with fail
      go_ret
      rw [HR.out]
      exact ⟨rfl, (by repeat' first | exact Fr.refl _ | exact HG1.out | refine Fr.alloc ?_ _)⟩
  have z8 : (o == 8) = false := by rw [beq_eq_false_iff_ne]; exact g8
  by_cases g9 : o = 9
  · subst g9
    replace hR : R = (bare n s && hasK P [.expr, .expr]) := by first | exact hR | (rw [hR]; first | rfl | simp [exprR, nameR, plainR])
    have HB0 := Lib.hid (Nb.new w (.int .i64 9) (.int .i64 n) (.string s) (.slice b0 len cap) (.int .i64 a))
    cases hv0 : (bare n s) with
    | true =>
      rw [hv0] at CZ00
      have HR : Hid (R = (hasK P [.expr, .expr])) := Lib.hid (by first | exact hR | (rw [hR]; simp [HPL.out, named, someK, hasK_nil, hv0]))
      clear hR
      try clear h5
      go_enter Tryz.func250, Tryz.ntmps250
      go_wp2_with fail
      refine (CZ00.out _ (by repeat' first | exact Fr.refl _ | exact HG0.out | refine Fr.alloc ?_ _)).mono ?_
      rintro e w1 ⟨rfl, hf1⟩
      have HG1 : Hid (Fr w w1) := Lib.hid (Fr.trans (by repeat' first | exact Fr.refl _ | exact HG0.out | refine Fr.alloc ?_ _) hf1)
      have HB1 : Hid (Nb w1 w.heap.size (.int .i64 9) (.int .i64 n) (.string s) (.slice b0 len cap) (.int .i64 a)) := Lib.hid (Nb.fr (by first | exact HB0.out | exact Nb.al HB0.out _) hf1)
      obtain ⟨k10, k11, k12, k13, k14⟩ := HB1.out.cells
      clear hf1
      go_wp2_with fail
      refine (CP.out _ (by repeat' first | exact Fr.refl _ | exact HG1.out | refine Fr.alloc ?_ _) [.expr, .expr] _ (IV.two _ _ .expr .expr _ (by simp) rfl)).mono ?_
      rintro e w2 ⟨rfl, hf2⟩
      have HG2 : Hid (Fr w w2) := Lib.hid (Fr.trans (by repeat' first | exact Fr.refl _ | exact HG1.out | refine Fr.alloc ?_ _) hf2)
      have HB2 : Hid (Nb w2 w.heap.size (.int .i64 9) (.int .i64 n) (.string s) (.slice b0 len cap) (.int .i64 a)) := Lib.hid (Nb.fr (by first | exact HB1.out | exact Nb.al HB1.out _) hf2)
      obtain ⟨k20, k21, k22, k23, k24⟩ := HB2.out.cells
      clear hf2
      go_wp2_with fail
      go_ret
      rw [HR.out]
      exact ⟨rfl, (by repeat' first | exact Fr.refl _ | exact HG2.out | refine Fr.alloc ?_ _)⟩
    | false =>
      rw [hv0] at CZ00
      have HR : Hid (R = (false)) := Lib.hid (by first | exact hR | (rw [hR]; simp [HPL.out, named, someK, hasK_nil, hv0]))
      clear hR
      try clear h5
      go_enter Tryz.func250, Tryz.ntmps250
      go_wp2_with fail
      refine (CZ00.out _ (by repeat' first | exact Fr.refl _ | exact HG0.out | refine Fr.alloc ?_ _)).mono ?_
      rintro e w1 ⟨rfl, hf1⟩
      have HG1 : Hid (Fr w w1) := Lib.hid (Fr.trans (by repeat' first | exact Fr.refl _ | exact HG0.out | refine Fr.alloc ?_ _) hf1)
      have HB1 : Hid (Nb w1 w.heap.size (.int .i64 9) (.int .i64 n) (.string s) (.slice b0 len cap) (.int .i64 a)) := Lib.hid (Nb.fr (by first | exact HB0.out | exact Nb.al HB0.out _) hf1)
      obtain ⟨k10, k11, k12, k13, k14⟩ := HB1.out.cells
      clear hf1
      go_wp2_with fail
      go_ret
      rw [HR.out]
      exact ⟨rfl, (by repeat' first | exact Fr.refl _ | exact HG1.out | refine Fr.alloc ?_ _)⟩
  have z9 : (o == 9) = false := by rw [beq_eq_false_iff_ne]; exact g9
  by_cases g17 : o = 17
  · subst g17
    replace hR : R = (bare n s && hasK P [.expr, .expr]) := by first | exact hR | (rw [hR]; first | rfl | simp [exprR, nameR, plainR])
    have HB0 := Lib.hid (Nb.new w (.int .i64 17) (.int .i64 n) (.string s) (.slice b0 len cap) (.int .i64 a))
    cases hv0 : (bare n s) with
    | true =>
      rw [hv0] at CZ00
      have HR : Hid (R = (hasK P [.expr, .expr])) := Lib.hid (by first | exact hR | (rw [hR]; simp [HPL.out, named, someK, hasK_nil, hv0]))
      clear hR
      try clear h5
      go_enter Tryz.func250, Tryz.ntmps250
      go_wp2_with fail
      refine (CZ00.out _ (by repeat' first | exact Fr.refl _ | exact HG0.out | refine Fr.alloc ?_ _)).mono ?_
      rintro e w1 ⟨rfl, hf1⟩
      have HG1 : Hid (Fr w w1) := Lib.hid (Fr.trans (by repeat' first | exact Fr.refl _ | exact HG0.out | refine Fr.alloc ?_ _) hf1)
      have HB1 : Hid (Nb w1 w.heap.size (.int .i64 17) (.int .i64 n) (.string s) (.slice b0 len cap) (.int .i64 a)) := Lib.hid (Nb.fr (by first | exact HB0.out | exact Nb.al HB0.out _) hf1)
      obtain ⟨k10, k11, k12, k13, k14⟩ := HB1.out.cells
      clear hf1
      go_wp2_with fail
      refine (CP.out _ (by repeat' first | exact Fr.refl _ | exact HG1.out | refine Fr.alloc ?_ _) [.expr, .expr] _ (IV.two _ _ .expr .expr _ (by simp) rfl)).mono ?_
      rintro e w2 ⟨rfl, hf2⟩
      have HG2 : Hid (Fr w w2) := Lib.hid (Fr.trans (by repeat' first | exact Fr.refl _ | exact HG1.out | refine Fr.alloc ?_ _) hf2)
      have HB2 : Hid (Nb w2 w.heap.size (.int .i64 17) (.int .i64 n) (.string s) (.slice b0 len cap) (.int .i64 a)) := Lib.hid (Nb.fr (by first | exact HB1.out | exact Nb.al HB1.out _) hf2)
      obtain ⟨k20, k21, k22, k23, k24⟩ := HB2.out.cells
      clear hf2
      go_wp2_with fail
      go_ret
      rw [HR.out]
      exact ⟨rfl, (by repeat' first | exact Fr.refl _ | exact HG2.out | refine Fr.alloc ?_ _)⟩
    | false =>
      rw [hv0] at CZ00
      have HR : Hid (R = (false)) := Lib.hid (by first | exact hR | (rw [hR]; simp [HPL.out, named, someK, hasK_nil, hv0]))
      clear hR
      try clear h5
      go_enter Tryz.func250, Tryz.ntmps250
      go_wp2_with fail
      refine (CZ00.out _ (by repeat' first | exact Fr.refl _ | exact HG0.out | refine Fr.alloc ?_ _)).mono ?_
      rintro e w1 ⟨rfl, hf1⟩
      have HG1 : Hid (Fr w w1) := Lib.hid (Fr.trans (by repeat' first | exact Fr.refl _ | exact HG0.out | refine Fr.alloc ?_ _) hf1)
      have HB1 : Hid (Nb w1 w.heap.size (.int .i64 17) (.int .i64 n) (.string s) (.slice b0 len cap) (.int .i64 a)) := Lib.hid (Nb.fr (by first | exact HB0.out | exact Nb.al HB0.out _) hf1)
      obtain ⟨k10, k11, k12, k13, k14⟩ := HB1.out.cells
      clear hf1
      go_wp2_with fail
      go_ret
      rw [HR.out]
      exact ⟨rfl, (by repeat' first | exact Fr.refl _ | exact HG1.out | refine Fr.alloc ?_ _)⟩
  have z17 : (o == 17) = false := by rw [beq_eq_false_iff_ne]; exact g17
  by_cases g10 : o = 10
  · subst g10
    replace hR : R = (bare n s && hasK P [.expr]) := by first | exact hR | (rw [hR]; first | rfl | simp [exprR, nameR, plainR])
    have HB0 := Lib.hid (Nb.new w (.int .i64 10) (.int .i64 n) (.string s) (.slice b0 len cap) (.int .i64 a))
    cases hv0 : (bare n s) with
    | true =>
      rw [hv0] at CZ00
      have HR : Hid (R = (hasK P [.expr])) := Lib.hid (by first | exact hR | (rw [hR]; simp [HPL.out, named, someK, hasK_nil, hv0]))
      clear hR
      try clear h5
      go_enter Tryz.func250, Tryz.ntmps250
      go_wp2_with fail
      refine (CZ00.out _ (by repeat' first | exact Fr.refl _ | exact HG0.out | refine Fr.alloc ?_ _)).mono ?_
      rintro e w1 ⟨rfl, hf1⟩
      have HG1 : Hid (Fr w w1) := Lib.hid (Fr.trans (by repeat' first | exact Fr.refl _ | exact HG0.out | refine Fr.alloc ?_ _) hf1)
      have HB1 : Hid (Nb w1 w.heap.size (.int .i64 10) (.int .i64 n) (.string s) (.slice b0 len cap) (.int .i64 a)) := Lib.hid (Nb.fr (by first | exact HB0.out | exact Nb.al HB0.out _) hf1)
      obtain ⟨k10, k11, k12, k13, k14⟩ := HB1.out.cells
      clear hf1
      go_wp2_with fail
      refine (CP.out _ (by repeat' first | exact Fr.refl _ | exact HG1.out | refine Fr.alloc ?_ _) [.expr] _ (IV.one _ _ .expr _ (by simp) rfl)).mono ?_
      rintro e w2 ⟨rfl, hf2⟩
      have HG2 : Hid (Fr w w2) := Lib.hid (Fr.trans (by repeat' first | exact Fr.refl _ | exact HG1.out | refine Fr.alloc ?_ _) hf2)
      have HB2 : Hid (Nb w2 w.heap.size (.int .i64 10) (.int .i64 n) (.string s) (.slice b0 len cap) (.int .i64 a)) := Lib.hid (Nb.fr (by first | exact HB1.out | exact Nb.al HB1.out _) hf2)
      obtain ⟨k20, k21, k22, k23, k24⟩ := HB2.out.cells
      clear hf2
      go_wp2_with fail
      go_ret
      rw [HR.out]
      exact ⟨rfl, (by repeat' first | exact Fr.refl _ | exact HG2.out | refine Fr.alloc ?_ _)⟩
    | false =>
      rw [hv0] at CZ00
      have HR : Hid (R = (false)) := Lib.hid (by first | exact hR | (rw [hR]; simp [HPL.out, named, someK, hasK_nil, hv0]))
      clear hR
      try clear h5
      go_enter Tryz.func250, Tryz.ntmps250
      go_wp2_with fail
      refine (CZ00.out _ (by repeat' first | exact Fr.refl _ | exact HG0.out | refine Fr.alloc ?_ _)).mono ?_
      rintro e w1 ⟨rfl, hf1⟩
      have HG1 : Hid (Fr w w1) := Lib.hid (Fr.trans (by repeat' first | exact Fr.refl _ | exact HG0.out | refine Fr.alloc ?_ _) hf1)
      have HB1 : Hid (Nb w1 w.heap.size (.int .i64 10) (.int .i64 n) (.string s) (.slice b0 len cap) (.int .i64 a)) := Lib.hid (Nb.fr (by first | exact HB0.out | exact Nb.al HB0.out _) hf1)
      obtain ⟨k10, k11, k12, k13, k14⟩ := HB1.out.cells
      clear hf1
      go_wp2_with fail
      go_ret
      rw [HR.out]
      exact ⟨rfl, (by repeat' first | exact Fr.refl _ | exact HG1.out | refine Fr.alloc ?_ _)⟩
  have z10 : (o == 10) = false := by rw [beq_eq_false_iff_ne]; exact g10
  by_cases g11 : o = 11
  · subst g11
    replace hR : R = (bare n s && hasK P [.expr]) := by first | exact hR | (rw [hR]; first | rfl | simp [exprR, nameR, plainR])
    have HB0 := Lib.hid (Nb.new w (.int .i64 11) (.int .i64 n) (.string s) (.slice b0 len cap) (.int .i64 a))
    cases hv0 : (bare n s) with
    | true =>
      rw [hv0] at CZ00
      have HR : Hid (R = (hasK P [.expr])) := Lib.hid (by first | exact hR | (rw [hR]; simp [HPL.out, named, someK, hasK_nil, hv0]))
      clear hR
      try clear h5
      go_enter Tryz.func250, Tryz.ntmps250
      go_wp2_with fail
      refine (CZ00.out _ (by repeat' first | exact Fr.refl _ | exact HG0.out | refine Fr.alloc ?_ _)).mono ?_
      rintro e w1 ⟨rfl, hf1⟩
      have HG1 : Hid (Fr w w1) := Lib.hid (Fr.trans (by repeat' first | exact Fr.refl _ | exact HG0.out | refine Fr.alloc ?_ _) hf1)
      have HB1 : Hid (Nb w1 w.heap.size (.int .i64 11) (.int .i64 n) (.string s) (.slice b0 len cap) (.int .i64 a)) := Lib.hid (Nb.fr (by first | exact HB0.out | exact Nb.al HB0.out _) hf1)
      obtain ⟨k10, k11, k12, k13, k14⟩ := HB1.out.cells
      clear hf1
      go_wp2_with fail
      refine (CP.out _ (by repeat' first | exact Fr.refl _ | exact HG1.out | refine Fr.alloc ?_ _) [.expr] _ (IV.one _ _ .expr _ (by simp) rfl)).mono ?_
      rintro e w2 ⟨rfl, hf2⟩
      have HG2 : Hid (Fr w w2) := Lib.hid (Fr.trans (by repeat' first | exact Fr.refl _ | exact HG1.out | refine Fr.alloc ?_ _) hf2)
      have HB2 : Hid (Nb w2 w.heap.size (.int .i64 11) (.int .i64 n) (.string s) (.slice b0 len cap) (.int .i64 a)) := Lib.hid (Nb.fr (by first | exact HB1.out | exact Nb.al HB1.out _) hf2)
      obtain ⟨k20, k21, k22, k23, k24⟩ := HB2.out.cells
      clear hf2
      go_wp2_with fail
      go_ret
      rw [HR.out]
      exact ⟨rfl, (by repeat' first | exact Fr.refl _ | exact HG2.out | refine Fr.alloc ?_ _)⟩
    | false =>
      rw [hv0] at CZ00
      have HR : Hid (R = (false)) := Lib.hid (by first | exact hR | (rw [hR]; simp [HPL.out, named, someK, hasK_nil, hv0]))
      clear hR
      try clear h5
      go_enter Tryz.func250, Tryz.ntmps250
      go_wp2_with fail
      refine (CZ00.out _ (by repeat' first | exact Fr.refl _ | exact HG0.out | refine Fr.alloc ?_ _)).mono ?_
      rintro e w1 ⟨rfl, hf1⟩
      have HG1 : Hid (Fr w w1) := Lib.hid (Fr.trans (by repeat' first | exact Fr.refl _ | exact HG0.out | refine Fr.alloc ?_ _) hf1)
      have HB1 : Hid (Nb w1 w.heap.size (.int .i64 11) (.int .i64 n) (.string s) (.slice b0 len cap) (.int .i64 a)) := Lib.hid (Nb.fr (by first | exact HB0.out | exact Nb.al HB0.out _) hf1)
      obtain ⟨k10, k11, k12, k13, k14⟩ := HB1.out.cells
      clear hf1
      go_wp2_with fail
      go_ret
      rw [HR.out]
      exact ⟨rfl, (by repeat' first | exact Fr.refl _ | exact HG1.out | refine Fr.alloc ?_ _)⟩
  have z11 : (o == 11) = false := by rw [beq_eq_false_iff_ne]; exact g11
  by_cases g12 : o = 12
  · subst g12
    replace hR : R = (empS s && decide (1 ≤ n) && decide (n ≤ 17) && hasK P [.expr, .expr]) := by first | exact hR | (rw [hR]; first | rfl | simp [exprR, nameR, plainR])
    have HB0 := Lib.hid (Nb.new w (.int .i64 12) (.int .i64 n) (.string s) (.slice b0 len cap) (.int .i64 a))
    cases hv0 : (empS s) with
    | true =>
      rw [hv0] at CZ10
      by_cases h2 : 1 ≤ n
      · have fh2 : decide ((1 : Int) ≤ n) = true := decide_eq_true h2
        by_cases h3 : n ≤ 17
        · have fh3 : decide ((n : Int) ≤ 17) = true := decide_eq_true h3
          have HR : Hid (R = (hasK P [.expr, .expr])) := Lib.hid (by first | exact hR | (rw [hR]; simp [HPL.out, named, someK, hasK_nil, hv0, h2, h3]))
          clear hR
          try clear h5
          go_enter Tryz.func250, Tryz.ntmps250
          go_wp2_with fail
          refine (CZ10.out _ (by repeat' first | exact Fr.refl _ | exact HG0.out | refine Fr.alloc ?_ _)).mono ?_
          rintro e w1 ⟨rfl, hf1⟩
          have HG1 : Hid (Fr w w1) := Lib.hid (Fr.trans (by repeat' first | exact Fr.refl _ | exact HG0.out | refine Fr.alloc ?_ _) hf1)
          have HB1 : Hid (Nb w1 w.heap.size (.int .i64 12) (.int .i64 n) (.string s) (.slice b0 len cap) (.int .i64 a)) := Lib.hid (Nb.fr (by first | exact HB0.out | exact Nb.al HB0.out _) hf1)
          obtain ⟨k10, k11, k12, k13, k14⟩ := HB1.out.cells
          clear hf1
          go_wp2_with fail
          refine (CP.out _ (by repeat' first | exact Fr.refl _ | exact HG1.out | refine Fr.alloc ?_ _) [.expr, .expr] _ (IV.two _ _ .expr .expr _ (by simp) rfl)).mono ?_
          rintro e w2 ⟨rfl, hf2⟩
          have HG2 : Hid (Fr w w2) := Lib.hid (Fr.trans (by repeat' first | exact Fr.refl _ | exact HG1.out | refine Fr.alloc ?_ _) hf2)
          have HB2 : Hid (Nb w2 w.heap.size (.int .i64 12) (.int .i64 n) (.string s) (.slice b0 len cap) (.int .i64 a)) := Lib.hid (Nb.fr (by first | exact HB1.out | exact Nb.al HB1.out _) hf2)
          obtain ⟨k20, k21, k22, k23, k24⟩ := HB2.out.cells
          clear hf2
          go_wp2_with fail
          go_ret
          rw [HR.out]
          exact ⟨rfl, (by repeat' first | exact Fr.refl _ | exact HG2.out | refine Fr.alloc ?_ _)⟩
        · have fh3 : decide ((n : Int) ≤ 17) = false := decide_eq_false h3
          have HR : Hid (R = (false)) := Lib.hid (by first | exact hR | (rw [hR]; simp [HPL.out, named, someK, hasK_nil, hv0, h2, h3]))
          clear hR
          try clear h5
          go_enter Tryz.func250, Tryz.ntmps250
          go_wp2_with fail
          refine (CZ10.out _ (by repeat' first | exact Fr.refl _ | exact HG0.out | refine Fr.alloc ?_ _)).mono ?_
          rintro e w1 ⟨rfl, hf1⟩
          have HG1 : Hid (Fr w w1) := Lib.hid (Fr.trans (by repeat' first | exact Fr.refl _ | exact HG0.out | refine Fr.alloc ?_ _) hf1)
          have HB1 : Hid (Nb w1 w.heap.size (.int .i64 12) (.int .i64 n) (.string s) (.slice b0 len cap) (.int .i64 a)) := Lib.hid (Nb.fr (by first | exact HB0.out | exact Nb.al HB0.out _) hf1)
          obtain ⟨k10, k11, k12, k13, k14⟩ := HB1.out.cells
          clear hf1
          go_wp2_with fail
          go_ret
          rw [HR.out]
          exact ⟨rfl, (by repeat' first | exact Fr.refl _ | exact HG1.out | refine Fr.alloc ?_ _)⟩
      · have fh2 : decide ((1 : Int) ≤ n) = false := decide_eq_false h2
        have HR : Hid (R = (false)) := Lib.hid (by first | exact hR | (rw [hR]; simp [HPL.out, named, someK, hasK_nil, hv0, h2]))
        clear hR
        try clear h5
        go_enter Tryz.func250, Tryz.ntmps250
        go_wp2_with fail
        refine (CZ10.out _ (by repeat' first | exact Fr.refl _ | exact HG0.out | refine Fr.alloc ?_ _)).mono ?_
        rintro e w1 ⟨rfl, hf1⟩
        have HG1 : Hid (Fr w w1) := Lib.hid (Fr.trans (by repeat' first | exact Fr.refl _ | exact HG0.out | refine Fr.alloc ?_ _) hf1)
        have HB1 : Hid (Nb w1 w.heap.size (.int .i64 12) (.int .i64 n) (.string s) (.slice b0 len cap) (.int .i64 a)) := Lib.hid (Nb.fr (by first | exact HB0.out | exact Nb.al HB0.out _) hf1)
        obtain ⟨k10, k11, k12, k13, k14⟩ := HB1.out.cells
        clear hf1
        go_wp2_with fail
        go_ret
        rw [HR.out]
        exact ⟨rfl, (by repeat' first | exact Fr.refl _ | exact HG1.out | refine Fr.alloc ?_ _)⟩
    | false =>
      rw [hv0] at CZ10
      have HR : Hid (R = (false)) := Lib.hid (by first | exact hR | (rw [hR]; simp [HPL.out, named, someK, hasK_nil, hv0]))
      clear hR
      try clear h5
      go_enter Tryz.func250, Tryz.ntmps250
      go_wp2_with fail
      refine (CZ10.out _ (by repeat' first | exact Fr.refl _ | exact HG0.out | refine Fr.alloc ?_ _)).mono ?_
      rintro e w1 ⟨rfl, hf1⟩
      have HG1 : Hid (Fr w w1) := Lib.hid (Fr.trans (by repeat' first | exact Fr.refl _ | exact HG0.out | refine Fr.alloc ?_ _) hf1)
      have HB1 : Hid (Nb w1 w.heap.size (.int .i64 12) (.int .i64 n) (.string s) (.slice b0 len cap) (.int .i64 a)) := Lib.hid (Nb.fr (by first | exact HB0.out | exact Nb.al HB0.out _) hf1)
      obtain ⟨k10, k11, k12, k13, k14⟩ := HB1.out.cells
      clear hf1
      go_wp2_with fail
      go_ret
      rw [HR.out]
      exact ⟨rfl, (by repeat' first | exact Fr.refl _ | exact HG1.out | refine Fr.alloc ?_ _)⟩
  have z12 : (o == 12) = false := by rw [beq_eq_false_iff_ne]; exact g12
  by_cases g13 : o = 13
  · subst g13
    replace hR : R = (empS s && (decide (n = 18) || decide (n = 19)) && hasK P [.expr]) := by first | exact hR | (rw [hR]; first | rfl | simp [exprR, nameR, plainR])
    have HB0 := Lib.hid (Nb.new w (.int .i64 13) (.int .i64 n) (.string s) (.slice b0 len cap) (.int .i64 a))
    cases hv0 : (empS s) with
    | true =>
      rw [hv0] at CZ10
      by_cases h180 : n = 18
      · subst h180
        skip
        have HR : Hid (R = (hasK P [.expr])) := Lib.hid (by first | exact hR | (rw [hR]; simp [HPL.out, named, someK, hasK_nil, hv0]))
        clear hR
        try clear h5
        go_enter Tryz.func250, Tryz.ntmps250
        go_wp2_with fail
        refine (CZ10.out _ (by repeat' first | exact Fr.refl _ | exact HG0.out | refine Fr.alloc ?_ _)).mono ?_
        rintro e w1 ⟨rfl, hf1⟩
        have HG1 : Hid (Fr w w1) := Lib.hid (Fr.trans (by repeat' first | exact Fr.refl _ | exact HG0.out | refine Fr.alloc ?_ _) hf1)
        have HB1 : Hid (Nb w1 w.heap.size (.int .i64 13) (.int .i64 18) (.string s) (.slice b0 len cap) (.int .i64 a)) := Lib.hid (Nb.fr (by first | exact HB0.out | exact Nb.al HB0.out _) hf1)
        obtain ⟨k10, k11, k12, k13, k14⟩ := HB1.out.cells
        clear hf1
        go_wp2_with fail
        refine (CP.out _ (by repeat' first | exact Fr.refl _ | exact HG1.out | refine Fr.alloc ?_ _) [.expr] _ (IV.one _ _ .expr _ (by simp) rfl)).mono ?_
        rintro e w2 ⟨rfl, hf2⟩
        have HG2 : Hid (Fr w w2) := Lib.hid (Fr.trans (by repeat' first | exact Fr.refl _ | exact HG1.out | refine Fr.alloc ?_ _) hf2)
        have HB2 : Hid (Nb w2 w.heap.size (.int .i64 13) (.int .i64 18) (.string s) (.slice b0 len cap) (.int .i64 a)) := Lib.hid (Nb.fr (by first | exact HB1.out | exact Nb.al HB1.out _) hf2)
        obtain ⟨k20, k21, k22, k23, k24⟩ := HB2.out.cells
        clear hf2
        go_wp2_with fail
        go_ret
        rw [HR.out]
        exact ⟨rfl, (by repeat' first | exact Fr.refl _ | exact HG2.out | refine Fr.alloc ?_ _)⟩
      · have e180 : (n == 18) = false := by rw [beq_eq_false_iff_ne]; exact h180
        by_cases h190 : n = 19
        · subst h190
          skip
          have HR : Hid (R = (hasK P [.expr])) := Lib.hid (by first | exact hR | (rw [hR]; simp [HPL.out, named, someK, hasK_nil, hv0, h180]))
          clear hR
          try clear h5
          go_enter Tryz.func250, Tryz.ntmps250
          go_wp2_with fail
          refine (CZ10.out _ (by repeat' first | exact Fr.refl _ | exact HG0.out | refine Fr.alloc ?_ _)).mono ?_
          rintro e w1 ⟨rfl, hf1⟩
          have HG1 : Hid (Fr w w1) := Lib.hid (Fr.trans (by repeat' first | exact Fr.refl _ | exact HG0.out | refine Fr.alloc ?_ _) hf1)
          have HB1 : Hid (Nb w1 w.heap.size (.int .i64 13) (.int .i64 19) (.string s) (.slice b0 len cap) (.int .i64 a)) := Lib.hid (Nb.fr (by first | exact HB0.out | exact Nb.al HB0.out _) hf1)
          obtain ⟨k10, k11, k12, k13, k14⟩ := HB1.out.cells
          clear hf1
          go_wp2_with fail
          refine (CP.out _ (by repeat' first | exact Fr.refl _ | exact HG1.out | refine Fr.alloc ?_ _) [.expr] _ (IV.one _ _ .expr _ (by simp) rfl)).mono ?_
          rintro e w2 ⟨rfl, hf2⟩
          have HG2 : Hid (Fr w w2) := Lib.hid (Fr.trans (by repeat' first | exact Fr.refl _ | exact HG1.out | refine Fr.alloc ?_ _) hf2)
          have HB2 : Hid (Nb w2 w.heap.size (.int .i64 13) (.int .i64 19) (.string s) (.slice b0 len cap) (.int .i64 a)) := Lib.hid (Nb.fr (by first | exact HB1.out | exact Nb.al HB1.out _) hf2)
          obtain ⟨k20, k21, k22, k23, k24⟩ := HB2.out.cells
          clear hf2
          go_wp2_with fail
          go_ret
          rw [HR.out]
          exact ⟨rfl, (by repeat' first | exact Fr.refl _ | exact HG2.out | refine Fr.alloc ?_ _)⟩
        · have e190 : (n == 19) = false := by rw [beq_eq_false_iff_ne]; exact h190
          have HR : Hid (R = (false)) := Lib.hid (by first | exact hR | (rw [hR]; simp [HPL.out, named, someK, hasK_nil, hv0, h180, h190]))
          clear hR
          try clear h5
          go_enter Tryz.func250, Tryz.ntmps250
          go_wp2_with fail
          refine (CZ10.out _ (by repeat' first | exact Fr.refl _ | exact HG0.out | refine Fr.alloc ?_ _)).mono ?_
          rintro e w1 ⟨rfl, hf1⟩
          have HG1 : Hid (Fr w w1) := Lib.hid (Fr.trans (by repeat' first | exact Fr.refl _ | exact HG0.out | refine Fr.alloc ?_ _) hf1)
          have HB1 : Hid (Nb w1 w.heap.size (.int .i64 13) (.int .i64 n) (.string s) (.slice b0 len cap) (.int .i64 a)) := Lib.hid (Nb.fr (by first | exact HB0.out | exact Nb.al HB0.out _) hf1)
          obtain ⟨k10, k11, k12, k13, k14⟩ := HB1.out.cells
          clear hf1
          go_wp2_with fail
          go_ret
          rw [HR.out]
          exact ⟨rfl, (by repeat' first | exact Fr.refl _ | exact HG1.out | refine Fr.alloc ?_ _)⟩
    | false =>
      rw [hv0] at CZ10
      have HR : Hid (R = (false)) := Lib.hid (by first | exact hR | (rw [hR]; simp [HPL.out, named, someK, hasK_nil, hv0]))
      clear hR
      try clear h5
      go_enter Tryz.func250, Tryz.ntmps250
      go_wp2_with fail
      refine (CZ10.out _ (by repeat' first | exact Fr.refl _ | exact HG0.out | refine Fr.alloc ?_ _)).mono ?_
      rintro e w1 ⟨rfl, hf1⟩
      have HG1 : Hid (Fr w w1) := Lib.hid (Fr.trans (by repeat' first | exact Fr.refl _ | exact HG0.out | refine Fr.alloc ?_ _) hf1)
      have HB1 : Hid (Nb w1 w.heap.size (.int .i64 13) (.int .i64 n) (.string s) (.slice b0 len cap) (.int .i64 a)) := Lib.hid (Nb.fr (by first | exact HB0.out | exact Nb.al HB0.out _) hf1)
      obtain ⟨k10, k11, k12, k13, k14⟩ := HB1.out.cells
      clear hf1
      go_wp2_with fail
      go_ret
      rw [HR.out]
      exact ⟨rfl, (by repeat' first | exact Fr.refl _ | exact HG1.out | refine Fr.alloc ?_ _)⟩
  have z13 : (o == 13) = false := by rw [beq_eq_false_iff_ne]; exact g13
  by_cases g14 : o = 14
  · subst g14
    replace hR : R = (bare n s && hasK P [.expr, .expr, .expr]) := by first | exact hR | (rw [hR]; first | rfl | simp [exprR, nameR, plainR])
    have HB0 := Lib.hid (Nb.new w (.int .i64 14) (.int .i64 n) (.string s) (.slice b0 len cap) (.int .i64 a))
    cases hv0 : (bare n s) with
    | true =>
      rw [hv0] at CZ00
      have HR : Hid (R = (hasK P [.expr, .expr, .expr])) := Lib.hid (by first | exact hR | (rw [hR]; simp [HPL.out, named, someK, hasK_nil, hv0]))
      clear hR
      try clear h5
      go_enter Tryz.func250, Tryz.ntmps250
      go_wp2_with fail
      refine (CZ00.out _ (by repeat' first | exact Fr.refl _ | exact HG0.out | refine Fr.alloc ?_ _)).mono ?_
      rintro e w1 ⟨rfl, hf1⟩
      have HG1 : Hid (Fr w w1) := Lib.hid (Fr.trans (by repeat' first | exact Fr.refl _ | exact HG0.out | refine Fr.alloc ?_ _) hf1)
      have HB1 : Hid (Nb w1 w.heap.size (.int .i64 14) (.int .i64 n) (.string s) (.slice b0 len cap) (.int .i64 a)) := Lib.hid (Nb.fr (by first | exact HB0.out | exact Nb.al HB0.out _) hf1)
      obtain ⟨k10, k11, k12, k13, k14⟩ := HB1.out.cells
      clear hf1
      go_wp2_with fail
      refine (CP.out _ (by repeat' first | exact Fr.refl _ | exact HG1.out | refine Fr.alloc ?_ _) [.expr, .expr, .expr] _ (IV.three _ _ .expr .expr .expr _ (by simp) rfl)).mono ?_
      rintro e w2 ⟨rfl, hf2⟩
      have HG2 : Hid (Fr w w2) := Lib.hid (Fr.trans (by repeat' first | exact Fr.refl _ | exact HG1.out | refine Fr.alloc ?_ _) hf2)
      have HB2 : Hid (Nb w2 w.heap.size (.int .i64 14) (.int .i64 n) (.string s) (.slice b0 len cap) (.int .i64 a)) := Lib.hid (Nb.fr (by first | exact HB1.out | exact Nb.al HB1.out _) hf2)
      obtain ⟨k20, k21, k22, k23, k24⟩ := HB2.out.cells
      clear hf2
      go_wp2_with fail
      go_ret
      rw [HR.out]
      exact ⟨rfl, (by repeat' first | exact Fr.refl _ | exact HG2.out | refine Fr.alloc ?_ _)⟩
    | false =>
      rw [hv0] at CZ00
      have HR : Hid (R = (false)) := Lib.hid (by first | exact hR | (rw [hR]; simp [HPL.out, named, someK, hasK_nil, hv0]))
      clear hR
      try clear h5
      go_enter Tryz.func250, Tryz.ntmps250
      go_wp2_with fail
      refine (CZ00.out _ (by repeat' first | exact Fr.refl _ | exact HG0.out | refine Fr.alloc ?_ _)).mono ?_
      rintro e w1 ⟨rfl, hf1⟩
      have HG1 : Hid (Fr w w1) := Lib.hid (Fr.trans (by repeat' first | exact Fr.refl _ | exact HG0.out | refine Fr.alloc ?_ _) hf1)
      have HB1 : Hid (Nb w1 w.heap.size (.int .i64 14) (.int .i64 n) (.string s) (.slice b0 len cap) (.int .i64 a)) := Lib.hid (Nb.fr (by first | exact HB0.out | exact Nb.al HB0.out _) hf1)
      obtain ⟨k10, k11, k12, k13, k14⟩ := HB1.out.cells
      clear hf1
      go_wp2_with fail
      go_ret
      rw [HR.out]
      exact ⟨rfl, (by repeat' first | exact Fr.refl _ | exact HG1.out | refine Fr.alloc ?_ _)⟩
  have z14 : (o == 14) = false := by rw [beq_eq_false_iff_ne]; exact g14
  by_cases g18 : o = 18
  · subst g18
    replace hR : R = (bare n s && hasK P [.expr, .expr, .expr]) := by first | exact hR | (rw [hR]; first | rfl | simp [exprR, nameR, plainR])
    have HB0 := Lib.hid (Nb.new w (.int .i64 18) (.int .i64 n) (.string s) (.slice b0 len cap) (.int .i64 a))
    cases hv0 : (bare n s) with
    | true =>
      rw [hv0] at CZ00
      have HR : Hid (R = (hasK P [.expr, .expr, .expr])) := Lib.hid (by first | exact hR | (rw [hR]; simp [HPL.out, named, someK, hasK_nil, hv0]))
      clear hR
      try clear h5
      go_enter Tryz.func250, Tryz.ntmps250
      go_wp2_with fail
      refine (CZ00.out _ (by repeat' first | exact Fr.refl _ | exact HG0.out | refine Fr.alloc ?_ _)).mono ?_
      rintro e w1 ⟨rfl, hf1⟩
      have HG1 : Hid (Fr w w1) := Lib.hid (Fr.trans (by repeat' first | exact Fr.refl _ | exact HG0.out | refine Fr.alloc ?_ _) hf1)
      have HB1 : Hid (Nb w1 w.heap.size (.int .i64 18) (.int .i64 n) (.string s) (.slice b0 len cap) (.int .i64 a)) := Lib.hid (Nb.fr (by first | exact HB0.out | exact Nb.al HB0.out _) hf1)
      obtain ⟨k10, k11, k12, k13, k14⟩ := HB1.out.cells
      clear hf1
      go_wp2_with fail
      refine (CP.out _ (by repeat' first | exact Fr.refl _ | exact HG1.out | refine Fr.alloc ?_ _) [.expr, .expr, .expr] _ (IV.three _ _ .expr .expr .expr _ (by simp) rfl)).mono ?_
      rintro e w2 ⟨rfl, hf2⟩
      have HG2 : Hid (Fr w w2) := Lib.hid (Fr.trans (by repeat' first | exact Fr.refl _ | exact HG1.out | refine Fr.alloc ?_ _) hf2)
      have HB2 : Hid (Nb w2 w.heap.size (.int .i64 18) (.int .i64 n) (.string s) (.slice b0 len cap) (.int .i64 a)) := Lib.hid (Nb.fr (by first | exact HB1.out | exact Nb.al HB1.out _) hf2)
      obtain ⟨k20, k21, k22, k23, k24⟩ := HB2.out.cells
      clear hf2
      go_wp2_with fail
      go_ret
      rw [HR.out]
      exact ⟨rfl, (by repeat' first | exact Fr.refl _ | exact HG2.out | refine Fr.alloc ?_ _)⟩
    | false =>
      rw [hv0] at CZ00
      have HR : Hid (R = (false)) := Lib.hid (by first | exact hR | (rw [hR]; simp [HPL.out, named, someK, hasK_nil, hv0]))
      clear hR
      try clear h5
      go_enter Tryz.func250, Tryz.ntmps250
      go_wp2_with fail
      refine (CZ00.out _ (by repeat' first | exact Fr.refl _ | exact HG0.out | refine Fr.alloc ?_ _)).mono ?_
      rintro e w1 ⟨rfl, hf1⟩
      have HG1 : Hid (Fr w w1) := Lib.hid (Fr.trans (by repeat' first | exact Fr.refl _ | exact HG0.out | refine Fr.alloc ?_ _) hf1)
      have HB1 : Hid (Nb w1 w.heap.size (.int .i64 18) (.int .i64 n) (.string s) (.slice b0 len cap) (.int .i64 a)) := Lib.hid (Nb.fr (by first | exact HB0.out | exact Nb.al HB0.out _) hf1)
      obtain ⟨k10, k11, k12, k13, k14⟩ := HB1.out.cells
      clear hf1
      go_wp2_with fail
      go_ret
      rw [HR.out]
      exact ⟨rfl, (by repeat' first | exact Fr.refl _ | exact HG1.out | refine Fr.alloc ?_ _)⟩
  have z18 : (o == 18) = false := by rw [beq_eq_false_iff_ne]; exact g18
  by_cases g15 : o = 15
  · subst g15
    replace hR : R = (bare n s && hasK P [.block]) := by first | exact hR | (rw [hR]; first | rfl | simp [exprR, nameR, plainR])
    have HB0 := Lib.hid (Nb.new w (.int .i64 15) (.int .i64 n) (.string s) (.slice b0 len cap) (.int .i64 a))
    cases hv0 : (bare n s) with
    | true =>
      rw [hv0] at CZ00
      have HR : Hid (R = (hasK P [.block])) := Lib.hid (by first | exact hR | (rw [hR]; simp [HPL.out, named, someK, hasK_nil, hv0]))
      clear hR
      try clear h5
      go_enter Tryz.func250, Tryz.ntmps250
      go_wp2_with fail
      refine (CZ00.out _ (by repeat' first | exact Fr.refl _ | exact HG0.out | refine Fr.alloc ?_ _)).mono ?_
      rintro e w1 ⟨rfl, hf1⟩
      have HG1 : Hid (Fr w w1) := Lib.hid (Fr.trans (by repeat' first | exact Fr.refl _ | exact HG0.out | refine Fr.alloc ?_ _) hf1)
      have HB1 : Hid (Nb w1 w.heap.size (.int .i64 15) (.int .i64 n) (.string s) (.slice b0 len cap) (.int .i64 a)) := Lib.hid (Nb.fr (by first | exact HB0.out | exact Nb.al HB0.out _) hf1)
      obtain ⟨k10, k11, k12, k13, k14⟩ := HB1.out.cells
      clear hf1
      go_wp2_with fail
      refine (CP.out _ (by repeat' first | exact Fr.refl _ | exact HG1.out | refine Fr.alloc ?_ _) [.block] _ (IV.one _ _ .block _ (by simp) rfl)).mono ?_
      rintro e w2 ⟨rfl, hf2⟩
      have HG2 : Hid (Fr w w2) := Lib.hid (Fr.trans (by repeat' first | exact Fr.refl _ | exact HG1.out | refine Fr.alloc ?_ _) hf2)
      have HB2 : Hid (Nb w2 w.heap.size (.int .i64 15) (.int .i64 n) (.string s) (.slice b0 len cap) (.int .i64 a)) := Lib.hid (Nb.fr (by first | exact HB1.out | exact Nb.al HB1.out _) hf2)
      obtain ⟨k20, k21, k22, k23, k24⟩ := HB2.out.cells
      clear hf2
      go_wp2_with fail
      go_ret
      rw [HR.out]
      exact ⟨rfl, (by repeat' first | exact Fr.refl _ | exact HG2.out | refine Fr.alloc ?_ _)⟩
    | false =>
      rw [hv0] at CZ00
      have HR : Hid (R = (false)) := Lib.hid (by first | exact hR | (rw [hR]; simp [HPL.out, named, someK, hasK_nil, hv0]))
      clear hR
      try clear h5
      go_enter Tryz.func250, Tryz.ntmps250
      go_wp2_with fail
      refine (CZ00.out _ (by repeat' first | exact Fr.refl _ | exact HG0.out | refine Fr.alloc ?_ _)).mono ?_
      rintro e w1 ⟨rfl, hf1⟩
      have HG1 : Hid (Fr w w1) := Lib.hid (Fr.trans (by repeat' first | exact Fr.refl _ | exact HG0.out | refine Fr.alloc ?_ _) hf1)
      have HB1 : Hid (Nb w1 w.heap.size (.int .i64 15) (.int .i64 n) (.string s) (.slice b0 len cap) (.int .i64 a)) := Lib.hid (Nb.fr (by first | exact HB0.out | exact Nb.al HB0.out _) hf1)
      obtain ⟨k10, k11, k12, k13, k14⟩ := HB1.out.cells
      clear hf1
      go_wp2_with fail
      go_ret
      rw [HR.out]
      exact ⟨rfl, (by repeat' first | exact Fr.refl _ | exact HG1.out | refine Fr.alloc ?_ _)⟩
  have z15 : (o == 15) = false := by rw [beq_eq_false_iff_ne]; exact g15
  by_cases g16 : o = 16
  · subst g16
    replace hR : R = (bare n s && someK P .expr) := by first | exact hR | (rw [hR]; first | rfl | simp [exprR, nameR, plainR])
    have HB0 := Lib.hid (Nb.new w (.int .i64 16) (.int .i64 n) (.string s) (.slice b0 len cap) (.int .i64 a))
    cases hv0 : (bare n s) with
    | true =>
      rw [hv0] at CZ00
      by_cases hl1 : 0 < len
      · have el1 : decide ((1 : Int) ≤ len) = true := decide_eq_true (by omega)
        have HR : Hid (R = (allK P .expr)) := Lib.hid (by first | exact hR | (rw [hR]; simp [HPL.out, named, someK, hasK_nil, hv0, hl1]))
        clear hR
        try clear h5
        go_enter Tryz.func250, Tryz.ntmps250
        go_wp2_with fail
        refine (CZ00.out _ (by repeat' first | exact Fr.refl _ | exact HG0.out | refine Fr.alloc ?_ _)).mono ?_
        rintro e w1 ⟨rfl, hf1⟩
        have HG1 : Hid (Fr w w1) := Lib.hid (Fr.trans (by repeat' first | exact Fr.refl _ | exact HG0.out | refine Fr.alloc ?_ _) hf1)
        have HB1 : Hid (Nb w1 w.heap.size (.int .i64 16) (.int .i64 n) (.string s) (.slice b0 len cap) (.int .i64 a)) := Lib.hid (Nb.fr (by first | exact HB0.out | exact Nb.al HB0.out _) hf1)
        obtain ⟨k10, k11, k12, k13, k14⟩ := HB1.out.cells
        clear hf1
        go_wp2_with fail
        refine (CA.out _ (by repeat' first | exact Fr.refl _ | exact HG1.out | refine Fr.alloc ?_ _) .expr rfl).mono ?_
        rintro e w2 ⟨rfl, hf2⟩
        have HG2 : Hid (Fr w w2) := Lib.hid (Fr.trans (by repeat' first | exact Fr.refl _ | exact HG1.out | refine Fr.alloc ?_ _) hf2)
        have HB2 : Hid (Nb w2 w.heap.size (.int .i64 16) (.int .i64 n) (.string s) (.slice b0 len cap) (.int .i64 a)) := Lib.hid (Nb.fr (by first | exact HB1.out | exact Nb.al HB1.out _) hf2)
        obtain ⟨k20, k21, k22, k23, k24⟩ := HB2.out.cells
        clear hf2
        go_wp2_with fail
        go_ret
        rw [HR.out]
        exact ⟨rfl, (by repeat' first | exact Fr.refl _ | exact HG2.out | refine Fr.alloc ?_ _)⟩
      · have el1 : decide ((1 : Int) ≤ len) = false := decide_eq_false (by omega)
        have HR : Hid (R = (false)) := Lib.hid (by first | exact hR | (rw [hR]; simp [HPL.out, named, someK, hasK_nil, hv0, hl1]))
        clear hR
        try clear h5
        go_enter Tryz.func250, Tryz.ntmps250
        go_wp2_with fail
        refine (CZ00.out _ (by repeat' first | exact Fr.refl _ | exact HG0.out | refine Fr.alloc ?_ _)).mono ?_
        rintro e w1 ⟨rfl, hf1⟩
        have HG1 : Hid (Fr w w1) := Lib.hid (Fr.trans (by repeat' first | exact Fr.refl _ | exact HG0.out | refine Fr.alloc ?_ _) hf1)
        have HB1 : Hid (Nb w1 w.heap.size (.int .i64 16) (.int .i64 n) (.string s) (.slice b0 len cap) (.int .i64 a)) := Lib.hid (Nb.fr (by first | exact HB0.out | exact Nb.al HB0.out _) hf1)
        obtain ⟨k10, k11, k12, k13, k14⟩ := HB1.out.cells
        clear hf1
        go_wp2_with fail
        go_ret
        rw [HR.out]
        exact ⟨rfl, (by repeat' first | exact Fr.refl _ | exact HG1.out | refine Fr.alloc ?_ _)⟩
    | false =>
      rw [hv0] at CZ00
      have HR : Hid (R = (false)) := Lib.hid (by first | exact hR | (rw [hR]; simp [HPL.out, named, someK, hasK_nil, hv0]))
      clear hR
      try clear h5
      go_enter Tryz.func250, Tryz.ntmps250
      go_wp2_with fail
      refine (CZ00.out _ (by repeat' first | exact Fr.refl _ | exact HG0.out | refine Fr.alloc ?_ _)).mono ?_
      rintro e w1 ⟨rfl, hf1⟩
      have HG1 : Hid (Fr w w1) := Lib.hid (Fr.trans (by repeat' first | exact Fr.refl _ | exact HG0.out | refine Fr.alloc ?_ _) hf1)
      have HB1 : Hid (Nb w1 w.heap.size (.int .i64 16) (.int .i64 n) (.string s) (.slice b0 len cap) (.int .i64 a)) := Lib.hid (Nb.fr (by first | exact HB0.out | exact Nb.al HB0.out _) hf1)
      obtain ⟨k10, k11, k12, k13, k14⟩ := HB1.out.cells
      clear hf1
      go_wp2_with fail
      go_ret
      rw [HR.out]
      exact ⟨rfl, (by repeat' first | exact Fr.refl _ | exact HG1.out | refine Fr.alloc ?_ _)⟩
  have z16 : (o == 16) = false := by rw [beq_eq_false_iff_ne]; exact g16
  replace hR : R = (false) := by first | (rw [hR]; simp [exprR, nameR, plainR, g1, g2, g3, g4, g5, g6, g7, g8, g9, g17, g10, g11, g12, g13, g14, g18, g15, g16]; done) | (rw [hR]; rfl)
  clear g1 g2 g3 g4 g5 g6 g7 g8 g9 g17 g10 g11 g12 g13 g14 g18 g15 g16
  have HB0 := Lib.hid (Nb.new w (.int .i64 o) (.int .i64 n) (.string s) (.slice b0 len cap) (.int .i64 a))
  have HR : Hid (R = (false)) := Lib.hid (by first | exact hR | (rw [hR]; simp [HPL.out, named, someK, hasK_nil]))
  clear hR
  try clear h5
  go_enter Tryz.func250, Tryz.ntmps250
  go_wp2_with fail
  go_ret
  rw [HR.out]
  exact ⟨rfl, (by repeat' first | exact Fr.refl _ | exact HG0.out | refine Fr.alloc ?_ _)⟩
end Go.Proofs.YtbaelbafhdjlnaaGreatDoor
