/- A part of the proof that the law ParsePrints holds for every input. -/
import Derived.Test.YtbaelbafhdjlnaaGreatDoorM5
import Derived.Test.YtbaelbafhdjlnaaGreatDoorM3
import Derived.Deep.RegionHeld3
namespace Go.Proofs.YtbaelbafhdjlnaaGreatDoor
open Go.RowKit _root_.Go.Proofs.Tryz
set_option linter.unusedVariables false
set_option linter.unusedSimpArgs false
set_option maxRecDepth 100000
set_option maxHeartbeats 8000000
def Pr.num : Pr → Int
 | .expr => 1 | .cmd => 2 | .item => 3 | .rep => 4 | .block => 5 | .name => 6 | .const => 7 | .decl => 8 | .call => 0 | .few => 0
def Pr.ref : Pr → Bool
 | .call => false | .few => false | _ => true
def RQ (w : World) (l : List Nd) : Prop := ∀ W,Fr w W → ∀ t,t ∈ l → ∀ lt,LN W lt t.l → ∀ p : Pr,p.ref = true → Calls prog 210 #[ndV t lt,.int .i64 p.num] W fun e w' => e = .returned (.bool (okP t p)) ∧ Fr W w'
theorem RQ.fr {w W : World} {l : List Nd} (h : RQ w l) (k : Fr w W) : RQ W l := fun V hV => h V (k.trans hV)
theorem RQ.sub {w : World} {l q : List Nd} (h : RQ w l) (k : ∀ t,t ∈ q → t ∈ l) : RQ w q := fun V hV t ht => h V hV t (k t ht)
def IV (w : World) (v : Value) (ks : List Pr) : Prop := ∃ a,v = .slice a ks.length ks.length ∧ ks.length ≤ 10 ∧ (∀ k ∈ ks,k.ref = true) ∧ (0 < ks.length → ∃ b,a = some ⟨b,0,none⟩ ∧ ∀ (i : Nat) (k : Pr),ks[i]? = some k → w.cell? ⟨b,i,none⟩ = some (.int .i64 k.num))
theorem IV.fr {w W : World} {v : Value} {ks : List Pr} (h : IV w v ks) (k : Fr w W) : IV W v ks := by
 obtain ⟨a,e,hl,hr,h⟩ := h
 exact ⟨a,e,hl,hr,fun h0 => by obtain ⟨b,hb,hc⟩ := h h0; exact ⟨b,hb,fun i x hx => k.cell (hc i x hx)⟩⟩
theorem IV.one (w : World) (B : Nat) (k0 : Pr) (T : TypeId) (hB : B = w.heap.size) (hr : (k0.ref) = true) : IV (w.alloc (.cells #[.int .i64 k0.num] T)) (.slice (some ⟨B,0,none⟩) 1 1) [k0] := by
 subst hB
 try simp only [Bool.and_eq_true] at hr
 exact ⟨_,rfl,by simp,fun k hk => by
  simp at hk
  subst hk; exact hr,fun _ => ⟨_,rfl,fun i k hk => by
  match i,hk with
  | 0,hk => simp at hk; subst hk; simp⟩⟩
theorem IV.two (w : World) (B : Nat) (k0 k1 : Pr) (T : TypeId) (hB : B = w.heap.size) (hr : (k0.ref && k1.ref) = true) : IV (w.alloc (.cells #[.int .i64 k0.num,.int .i64 k1.num] T)) (.slice (some ⟨B,0,none⟩) 2 2) [k0,k1] := by
 subst hB
 try simp only [Bool.and_eq_true] at hr
 exact ⟨_,rfl,by simp,fun k hk => by
  simp at hk
  rcases hk with rfl | rfl <;> simp [hr],fun _ => ⟨_,rfl,fun i k hk => by
  match i,hk with
  | 0,hk => simp at hk; subst hk; simp
  | 1,hk => simp at hk; subst hk; simp⟩⟩
theorem IV.three (w : World) (B : Nat) (k0 k1 k2 : Pr) (T : TypeId) (hB : B = w.heap.size) (hr : (k0.ref && k1.ref && k2.ref) = true) : IV (w.alloc (.cells #[.int .i64 k0.num,.int .i64 k1.num,.int .i64 k2.num] T)) (.slice (some ⟨B,0,none⟩) 3 3) [k0,k1,k2] := by
 subst hB
 try simp only [Bool.and_eq_true] at hr
 exact ⟨_,rfl,by simp,fun k hk => by
  simp at hk
  rcases hk with rfl | rfl | rfl <;> simp [hr],fun _ => ⟨_,rfl,fun i k hk => by
  match i,hk with
  | 0,hk => simp at hk; subst hk; simp
  | 1,hk => simp at hk; subst hk; simp
  | 2,hk => simp at hk; subst hk; simp⟩⟩
theorem IV.four (w : World) (B : Nat) (k0 k1 k2 k3 : Pr) (T : TypeId) (hB : B = w.heap.size) (hr : (k0.ref && k1.ref && k2.ref && k3.ref) = true) : IV (w.alloc (.cells #[.int .i64 k0.num,.int .i64 k1.num,.int .i64 k2.num,.int .i64 k3.num] T)) (.slice (some ⟨B,0,none⟩) 4 4) [k0,k1,k2,k3] := by
 subst hB
 try simp only [Bool.and_eq_true] at hr
 exact ⟨_,rfl,by simp,fun k hk => by
  simp at hk
  rcases hk with rfl | rfl | rfl | rfl <;> simp [hr],fun _ => ⟨_,rfl,fun i k hk => by
  match i,hk with
  | 0,hk => simp at hk; subst hk; simp
  | 1,hk => simp at hk; subst hk; simp
  | 2,hk => simp at hk; subst hk; simp
  | 3,hk => simp at hk; subst hk; simp⟩⟩
theorem zero00_any (t : Nd) (lt : Value) (w : World) : Calls prog 252 #[ndV t lt,.bool false,.bool false] w fun e w' => e = .returned (.bool (bare t.n t.s)) ∧ Fr w w' := by
 unfold ndV
 obtain ⟨o,hO⟩ : ∃ x,x = t.op := ⟨_,rfl⟩
 obtain ⟨n,hN⟩ : ∃ x,x = t.n := ⟨_,rfl⟩
 obtain ⟨s,hS⟩ : ∃ x,x = t.s := ⟨_,rfl⟩
 obtain ⟨a,hA⟩ : ∃ x,x = t.a := ⟨_,rfl⟩
 try rw [← hN]
 try rw [← hS]
 try rw [← hO]
 try rw [← hA]
 clear hO hN hS hA
 by_cases h1 : s.size = 0
 ·have e1 := emp_yes h1
  by_cases h2 : n = 0
  ·subst h2
   try rw [show (bare 0 s) = true by simp [bare,empS,h1]]
   go_enter func252,ntmps252
   go_wp2_with fail
   go_ret
   exact ⟨rfl,(by repeat' first | exact Fr.refl _ | refine Fr.alloc ?_ _)⟩
  ·have e2 : (n == 0) = false := by rw [beq_eq_false_iff_ne]; exact h2
   try rw [show (bare n s) = false by simp [bare,empS,h1,h2]]
   clear h2
   go_enter func252,ntmps252
   go_wp2_with fail
   go_ret
   exact ⟨rfl,(by repeat' first | exact Fr.refl _ | refine Fr.alloc ?_ _)⟩
 ·have e1 := emp_no (show 0 < s.size by omega)
  by_cases h2 : n = 0
  ·subst h2
   try rw [show (bare 0 s) = false by simp [bare,empS,h1]]
   clear h1
   go_enter func252,ntmps252
   go_wp2_with fail
   go_ret
   exact ⟨rfl,(by repeat' first | exact Fr.refl _ | refine Fr.alloc ?_ _)⟩
  ·have e2 : (n == 0) = false := by rw [beq_eq_false_iff_ne]; exact h2
   try rw [show (bare n s) = false by simp [bare,empS,h1,h2]]
   clear h1 h2
   go_enter func252,ntmps252
   go_wp2_with fail
   go_ret
   exact ⟨rfl,(by repeat' first | exact Fr.refl _ | refine Fr.alloc ?_ _)⟩
theorem zero10_any (t : Nd) (lt : Value) (w : World) : Calls prog 252 #[ndV t lt,.bool true,.bool false] w fun e w' => e = .returned (.bool (empS t.s)) ∧ Fr w w' := by
 unfold ndV
 obtain ⟨o,hO⟩ : ∃ x,x = t.op := ⟨_,rfl⟩
 obtain ⟨n,hN⟩ : ∃ x,x = t.n := ⟨_,rfl⟩
 obtain ⟨s,hS⟩ : ∃ x,x = t.s := ⟨_,rfl⟩
 obtain ⟨a,hA⟩ : ∃ x,x = t.a := ⟨_,rfl⟩
 try rw [← hN]
 try rw [← hS]
 try rw [← hO]
 try rw [← hA]
 clear hO hN hS hA
 by_cases h1 : s.size = 0
 ·have e1 := emp_yes h1
  by_cases h2 : n = 0
  ·subst h2
   try rw [show (empS s) = true by simp [empS,h1]]
   go_enter func252,ntmps252
   go_wp2_with fail
   go_ret
   exact ⟨rfl,(by repeat' first | exact Fr.refl _ | refine Fr.alloc ?_ _)⟩
  ·have e2 : (n == 0) = false := by rw [beq_eq_false_iff_ne]; exact h2
   try rw [show (empS s) = true by simp [empS,h1,h2]]
   clear h2
   go_enter func252,ntmps252
   go_wp2_with fail
   go_ret
   exact ⟨rfl,(by repeat' first | exact Fr.refl _ | refine Fr.alloc ?_ _)⟩
 ·have e1 := emp_no (show 0 < s.size by omega)
  by_cases h2 : n = 0
  ·subst h2
   try rw [show (empS s) = false by simp [empS,h1]]
   clear h1
   go_enter func252,ntmps252
   go_wp2_with fail
   go_ret
   exact ⟨rfl,(by repeat' first | exact Fr.refl _ | refine Fr.alloc ?_ _)⟩
  ·have e2 : (n == 0) = false := by rw [beq_eq_false_iff_ne]; exact h2
   try rw [show (empS s) = false by simp [empS,h1,h2]]
   clear h1 h2
   go_enter func252,ntmps252
   go_wp2_with fail
   go_ret
   exact ⟨rfl,(by repeat' first | exact Fr.refl _ | refine Fr.alloc ?_ _)⟩
theorem zero01_any (t : Nd) (lt : Value) (w : World) : Calls prog 252 #[ndV t lt,.bool false,.bool true] w fun e w' => e = .returned (.bool (decide (t.n = 0))) ∧ Fr w w' := by
 unfold ndV
 obtain ⟨o,hO⟩ : ∃ x,x = t.op := ⟨_,rfl⟩
 obtain ⟨n,hN⟩ : ∃ x,x = t.n := ⟨_,rfl⟩
 obtain ⟨s,hS⟩ : ∃ x,x = t.s := ⟨_,rfl⟩
 obtain ⟨a,hA⟩ : ∃ x,x = t.a := ⟨_,rfl⟩
 try rw [← hN]
 try rw [← hS]
 try rw [← hO]
 try rw [← hA]
 clear hO hN hS hA
 by_cases h1 : s.size = 0
 ·have e1 := emp_yes h1
  by_cases h2 : n = 0
  ·subst h2
   try rw [show (decide ((0 : Int) = 0)) = true by simp [h1]]
   go_enter func252,ntmps252
   go_wp2_with fail
   go_ret
   exact ⟨rfl,(by repeat' first | exact Fr.refl _ | refine Fr.alloc ?_ _)⟩
  ·have e2 : (n == 0) = false := by rw [beq_eq_false_iff_ne]; exact h2
   try rw [show (decide (n = 0)) = false by simp [h1,h2]]
   clear h2
   go_enter func252,ntmps252
   go_wp2_with fail
   go_ret
   exact ⟨rfl,(by repeat' first | exact Fr.refl _ | refine Fr.alloc ?_ _)⟩
 ·have e1 := emp_no (show 0 < s.size by omega)
  by_cases h2 : n = 0
  ·subst h2
   try rw [show (decide ((0 : Int) = 0)) = true by simp [h1]]
   clear h1
   go_enter func252,ntmps252
   go_wp2_with fail
   go_ret
   exact ⟨rfl,(by repeat' first | exact Fr.refl _ | refine Fr.alloc ?_ _)⟩
  ·have e2 : (n == 0) = false := by rw [beq_eq_false_iff_ne]; exact h2
   try rw [show (decide (n = 0)) = false by simp [h1,h2]]
   clear h1 h2
   go_enter func252,ntmps252
   go_wp2_with fail
   go_ret
   exact ⟨rfl,(by repeat' first | exact Fr.refl _ | refine Fr.alloc ?_ _)⟩
theorem zero11_any (t : Nd) (lt : Value) (w : World) : Calls prog 252 #[ndV t lt,.bool true,.bool true] w fun e w' => e = .returned (.bool (true)) ∧ Fr w w' := by
 unfold ndV
 obtain ⟨o,hO⟩ : ∃ x,x = t.op := ⟨_,rfl⟩
 obtain ⟨n,hN⟩ : ∃ x,x = t.n := ⟨_,rfl⟩
 obtain ⟨s,hS⟩ : ∃ x,x = t.s := ⟨_,rfl⟩
 obtain ⟨a,hA⟩ : ∃ x,x = t.a := ⟨_,rfl⟩
 try rw [← hN]
 try rw [← hS]
 try rw [← hO]
 try rw [← hA]
 clear hO hN hS hA
 by_cases h1 : s.size = 0
 ·have e1 := emp_yes h1
  by_cases h2 : n = 0
  ·subst h2
   try rw [show (true) = true by simp [h1]]
   go_enter func252,ntmps252
   go_wp2_with fail
   go_ret
   exact ⟨rfl,(by repeat' first | exact Fr.refl _ | refine Fr.alloc ?_ _)⟩
  ·have e2 : (n == 0) = false := by rw [beq_eq_false_iff_ne]; exact h2
   try rw [show (true) = true by simp [h1,h2]]
   clear h2
   go_enter func252,ntmps252
   go_wp2_with fail
   go_ret
   exact ⟨rfl,(by repeat' first | exact Fr.refl _ | refine Fr.alloc ?_ _)⟩
 ·have e1 := emp_no (show 0 < s.size by omega)
  by_cases h2 : n = 0
  ·subst h2
   try rw [show (true) = true by simp [h1]]
   clear h1
   go_enter func252,ntmps252
   go_wp2_with fail
   go_ret
   exact ⟨rfl,(by repeat' first | exact Fr.refl _ | refine Fr.alloc ?_ _)⟩
  ·have e2 : (n == 0) = false := by rw [beq_eq_false_iff_ne]; exact h2
   try rw [show (true) = true by simp [h1,h2]]
   clear h1 h2
   go_enter func252,ntmps252
   go_wp2_with fail
   go_ret
   exact ⟨rfl,(by repeat' first | exact Fr.refl _ | refine Fr.alloc ?_ _)⟩
theorem quotes_any (s : ByteArray) (hs : s.size ≤ 2000000) (w : World) : Calls prog 68 #[.string s] w fun e w' => e = .returned (.bool (qtb s)) ∧ Fr w w' := by
 have HQ := h_ (fun W => RQuote_any s hs W)
 unfold qtb
 obtain ⟨T,hT⟩ : ∃ x,x = (quo s).t := ⟨_,rfl⟩
 obtain ⟨c,hc⟩ : ∃ x,x = (quo s).e := ⟨_,rfl⟩
 rw [← hT,← hc] at HQ
 rw [← hc]
 clear hT hc
 by_cases h1 : c = 0
 ·subst h1
  go_enter func68,ntmps68
  go_wp2_with fail
  refine (HQ.out _).mono ?_
  rintro e w1 ⟨rfl,hf1⟩
  go_wp2_with fail
  go_ret
  exact ⟨rfl,hf1⟩
 ·have e2 : ((c : Int) == 0) = false := by rw [beq_eq_false_iff_ne]; omega
  rw [decide_eq_false h1]
  clear h1
  go_enter func68,ntmps68
  go_wp2_with fail
  refine (HQ.out _).mono ?_
  rintro e w1 ⟨rfl,hf1⟩
  go_wp2_with fail
  go_ret
  exact ⟨rfl,hf1⟩
theorem RisName_any (s : ByteArray) (w : World) : Calls prog 253 #[.string s] w fun e w' => e = .returned (.bool (isNm s)) ∧ Fr w w' := by
 have HQ := h_ (fun W => RIsName_any s W)
 go_enter func253,ntmps253
 go_wp2_with fail
 refine (HQ.out _).mono ?_
 rintro e w1 ⟨rfl,hf1⟩
 go_wp2_with fail
 go_ret
 exact ⟨rfl,hf1⟩
theorem all_any (p : Pr) (hp : p.ref = true) (l : List Nd) (v : Value) (w : World) (hv : LN w v l) (hq : RQ w l) :
 Calls prog 145 #[v,.int .i64 p.num] w fun e w' => e = .returned (.bool (allK (okL l) p)) ∧ Fr w w' := by
 have HV := h_ hv
 have HQ := h_ hq
 obtain ⟨a,cap,rfl,hc,hm,_⟩ := hv.form
 unfold maxLen at hm
 obtain ⟨n,hn⟩ : ∃ n,n = l.length := ⟨_,rfl⟩
 have HN := h_ hn
 rw [← hn] at hc HV ⊢
 obtain ⟨D,hD⟩ : ∃ d,d = allK (okL l) p := ⟨_,rfl⟩
 have HD := h_ hD
 rw [← hD]
 obtain ⟨pn,hpn⟩ : ∃ x,x = p.num := ⟨_,rfl⟩
 have HPN := h_ hpn
 rw [← hpn]
 clear hn hv hD hq hpn
 go_enter func145,ntmps145
 go_wp2_with fail
 go_loopw [5] (fun i wr => ∃ j : Nat,j ≤ n ∧ i = .int .i64 j ∧ Hid (D = allK (okL (l.drop j)) p) ∧ Fr w wr) (fun i _ => n - (intOf i).toNat)
 case atStart => exact ⟨0,Nat.zero_le _,rfl,h_ (by rw [HD.out]; rfl),Fr.refl _⟩
 case round =>
  obtain ⟨j,hj,rfl,HJ,hfr⟩ := hrel
  by_cases hlt : j < n
  ·obtain ⟨t,ht⟩ : ∃ t,l[j]? = some t := ⟨_,List.getElem?_eq_getElem (by rw [← HN.out]; exact hlt)⟩
   have hstep := allK_drop (k := p) ht
   obtain ⟨b,off,lv,rfl,hc5,hln,_⟩ := (HV.out.fr hfr).at_ ht
   obtain ⟨x0,x1,x2,x3,x4⟩ := hc5
   obtain ⟨la,lc,rfl,_,_,_⟩ := hln.form
   obtain ⟨ll,hll⟩ : ∃ x : Nat,x = t.l.length := ⟨_,rfl⟩
   rw [← hll] at x3 hln
   have HL := h_ hln
   obtain ⟨D1,hD1⟩ : ∃ d,d = okP t p := ⟨_,rfl⟩
   have HC : Hid (∀ W,Fr wr W → Calls prog 210 #[.agg #[.int .i64 t.op,.int .i64 t.n,.string t.s,.slice la ll lc,.int .i64 t.a],.int .i64 p.num] W fun e w' => e = .returned (.bool D1) ∧ Fr W w') := h_ (fun W hW => by
    rw [hD1]; exact HQ.out W (hfr.trans hW) t (List.mem_of_getElem? ht) _ (HL.out.fr hW) p hp)
   rw [← hD1] at hstep
   have HST := h_ hstep
   obtain ⟨q0,hq0,q1,hq1,q2,hq2,q4,hq4⟩ := qs_ t
   rw [← hq0,← hq1,← hq2,← hq4,← HPN.out] at HC
   rw [← hq0] at x0
   rw [← hq1] at x1
   rw [← hq2] at x2
   rw [← hq4] at x4
   clear hln ht hstep hD1 hll hq0 hq1 hq2 hq4
   cases D1 with
   | true =>
    have HJ2 : Hid (D = allK (okL (l.drop (j + 1))) p) := h_ (by rw [HJ.out,HST.out,Bool.true_and])
    go_wp2_with fail
    refine (HC.out _ (Fr.refl _)).mono ?_
    rintro e w1 ⟨rfl,hf1⟩
    have hfin := hfr.trans hf1
    go_wp2_with fail
    go_roundw
    case rel => exact ⟨j + 1,by omega,by go_num,HJ2,hfin⟩
    case measure => simp [intOf]; omega
   | false =>
    have HJ2 : Hid (D = false) := h_ (by rw [HJ.out,HST.out,Bool.false_and])
    go_wp2_with fail
    refine (HC.out _ (Fr.refl _)).mono ?_
    rintro e w1 ⟨rfl,hf1⟩
    have hfin := hfr.trans hf1
    go_wp2_with fail
    go_ret
    rw [HJ2.out]
    exact ⟨rfl,hfin⟩
  ·obtain rfl : j = n := by omega
   have HR : Hid (D = true) := h_ (by rw [HJ.out,List.drop_eq_nil_of_le (by rw [← HN.out]; exact Nat.le_refl _),okL]; rfl)
   go_wp2_with fail
   go_ret
   rw [HR.out]
   exact ⟨rfl,hfr⟩
theorem parts_any (l : List Nd) (v : Value) (w : World) (ks : List Pr) (kv : Value) (hv : LN w v l) (hk : IV w kv ks) (hq : RQ w l) :
 Calls prog 254 #[v,kv] w fun e w' => e = .returned (.bool (hasK (okL l) ks)) ∧ Fr w w' := by
 have HV := h_ hv
 have HQ := h_ hq
 have HK := h_ hk
 obtain ⟨a,cap,rfl,hc,hm,_⟩ := hv.form
 unfold maxLen at hm
 obtain ⟨ka,rfl,hk10,hkr,_⟩ := hk
 have HKR := h_ hkr
 obtain ⟨n,hn⟩ : ∃ n,n = l.length := ⟨_,rfl⟩
 obtain ⟨m,hm0⟩ : ∃ m,m = ks.length := ⟨_,rfl⟩
 have HN := h_ hn
 have HM := h_ hm0
 rw [← hn] at hc HV ⊢
 rw [← hm0] at hk10 HK ⊢
 obtain ⟨D,hD⟩ : ∃ d,d = hasK (okL l) ks := ⟨_,rfl⟩
 have HD := h_ hD
 rw [← hD]
 by_cases hnm : n = m
 ·subst hnm
  have z0 : ((n : Int) == (n : Int)) = true := by simp
  have z1 : ((n : Int) != (n : Int)) = false := by simp
  clear hn hm0 hv hq hD hkr
  go_enter func254,ntmps254
  go_wp2_with fail
  go_loopw [5] (fun i wr => ∃ j : Nat,j ≤ n ∧ i = .int .i64 j ∧ Hid (D = hasK (okL (l.drop j)) (ks.drop j)) ∧ Fr w wr) (fun i _ => n - (intOf i).toNat)
  case atStart => exact ⟨0,Nat.zero_le _,rfl,h_ (by rw [HD.out]; rfl),Fr.refl _⟩
  case round =>
   obtain ⟨j,hj,rfl,HJ,hfr⟩ := hrel
   by_cases hlt : j < n
   ·obtain ⟨t,ht⟩ : ∃ t,l[j]? = some t := ⟨_,List.getElem?_eq_getElem (by rw [← HN.out]; exact hlt)⟩
    obtain ⟨k,hkj⟩ : ∃ k,ks[j]? = some k := ⟨_,List.getElem?_eq_getElem (by rw [← HM.out]; exact hlt)⟩
    obtain ⟨ka',hka,_,_,hkc⟩ := HK.out
    obtain rfl : ka = ka' := by injection hka
    obtain ⟨kb,rfl,hkcell⟩ := hkc (by rw [← HM.out]; omega)
    have kcell : wr.cell? ⟨kb,j,none⟩ = some (.int .i64 k.num) := hfr.cell (hkcell j k hkj)
    have hkref := HKR.out k (List.mem_of_getElem? hkj)
    have hstep := hasK_drop ht hkj
    obtain ⟨b,off,lv,rfl,hc5,hln,_⟩ := (HV.out.fr hfr).at_ ht
    obtain ⟨x0,x1,x2,x3,x4⟩ := hc5
    obtain ⟨la,lc,rfl,_,_,_⟩ := hln.form
    obtain ⟨ll,hll⟩ : ∃ x : Nat,x = t.l.length := ⟨_,rfl⟩
    rw [← hll] at x3 hln
    have HL := h_ hln
    obtain ⟨D1,hD1⟩ : ∃ d,d = okP t k := ⟨_,rfl⟩
    have HC : Hid (∀ W,Fr wr W → Calls prog 210 #[.agg #[.int .i64 t.op,.int .i64 t.n,.string t.s,.slice la ll lc,.int .i64 t.a],.int .i64 k.num] W fun e w' => e = .returned (.bool D1) ∧ Fr W w') := h_ (fun W hW => by
     rw [hD1]; exact HQ.out W (hfr.trans hW) t (List.mem_of_getElem? ht) _ (HL.out.fr hW) k hkref)
    rw [← hD1] at hstep
    have HST := h_ hstep
    obtain ⟨q0,hq0,q1,hq1,q2,hq2,q4,hq4⟩ := qs_ t
    obtain ⟨pn,hpn⟩ : ∃ x,x = k.num := ⟨_,rfl⟩
    rw [← hpn] at kcell
    rw [← hq0,← hq1,← hq2,← hq4,← hpn] at HC
    rw [← hq0] at x0
    rw [← hq1] at x1
    rw [← hq2] at x2
    rw [← hq4] at x4
    have hq0' : Fr wr wr.drew := (Fr.refl wr).drew
    have HKP : Hid (∀ W',Fr wr W' → W'.cell? ⟨b,off + j * 5,none⟩ = some (.int .i64 q0) ∧ W'.cell? ⟨b,off + j * 5 + 1,none⟩ = some (.int .i64 q1) ∧ W'.cell? ⟨b,off + j * 5 + 2,none⟩ = some (.string q2) ∧ W'.cell? ⟨b,off + j * 5 + 3,none⟩ = some (.slice la ll lc) ∧ W'.cell? ⟨b,off + j * 5 + 4,none⟩ = some (.int .i64 q4) ∧ W'.cell? ⟨kb,j,none⟩ = some (.int .i64 pn)) := h_ (fun W' h => ⟨h.cell x0,h.cell x1,h.cell x2,h.cell x3,h.cell x4,h.cell kcell⟩)
    have hji : (j : Int).toNat = j := Int.toNat_natCast j
    have hj0 : (0 : Int) ≤ (j : Int) := by omega
    have hjn : (j : Int) < (n : Int) := by omega
    clear hln ht hstep hD1 hll hq0 hq1 hq2 hq4 hkcell hkc hka hkj hpn hkref
    cases D1 with
    | true =>
     have HJ2 : Hid (D = hasK (okL (l.drop (j + 1))) (ks.drop (j + 1))) := h_ (by rw [HJ.out,HST.out,Bool.true_and])
     go_wp2_with fail
     go_region_held3 (fun W' => W'.cell? ⟨b,off + j * 5,none⟩ = some (.int .i64 q0) ∧ W'.cell? ⟨b,off + j * 5 + 1,none⟩ = some (.int .i64 q1) ∧ W'.cell? ⟨b,off + j * 5 + 2,none⟩ = some (.string q2) ∧ W'.cell? ⟨b,off + j * 5 + 3,none⟩ = some (.slice la ll lc) ∧ W'.cell? ⟨b,off + j * 5 + 4,none⟩ = some (.int .i64 q4) ∧ W'.cell? ⟨kb,j,none⟩ = some (.int .i64 pn))
      (first | exact HKP.out _ (by assumption) | exact HKP.out _ hq0')
      ((first | (go_at_call 210; refine (HC.out _ hq0').mono ?_; rintro e w1 ⟨rfl,hf1⟩; have hq1' := Fr.trans hq0' hf1)))
     have hfin := hfr.trans hq1'
     go_wp2_with fail
     go_roundw
     case rel => exact ⟨j + 1,by omega,by go_num,HJ2,hfin⟩
     case measure => simp [intOf]; omega
    | false =>
     have HJ2 : Hid (D = false) := h_ (by rw [HJ.out,HST.out,Bool.false_and])
     go_wp2_with fail
     go_region_held3 (fun W' => W'.cell? ⟨b,off + j * 5,none⟩ = some (.int .i64 q0) ∧ W'.cell? ⟨b,off + j * 5 + 1,none⟩ = some (.int .i64 q1) ∧ W'.cell? ⟨b,off + j * 5 + 2,none⟩ = some (.string q2) ∧ W'.cell? ⟨b,off + j * 5 + 3,none⟩ = some (.slice la ll lc) ∧ W'.cell? ⟨b,off + j * 5 + 4,none⟩ = some (.int .i64 q4) ∧ W'.cell? ⟨kb,j,none⟩ = some (.int .i64 pn))
      (first | exact HKP.out _ (by assumption) | exact HKP.out _ hq0')
      ((first | (go_at_call 210; refine (HC.out _ hq0').mono ?_; rintro e w1 ⟨rfl,hf1⟩; have hq1' := Fr.trans hq0' hf1)))
     have hfin := hfr.trans hq1'
     go_wp2_with fail
     go_ret
     rw [HJ2.out]
     exact ⟨rfl,hfin⟩
   ·obtain rfl : j = n := by omega
    have HR : Hid (D = true) := h_ (by rw [HJ.out,List.drop_eq_nil_of_le (by rw [← HN.out]; exact Nat.le_refl _),List.drop_eq_nil_of_le (by rw [← HM.out]; exact Nat.le_refl _),okL,hasK])
    go_wp2_with fail
    go_ret
    rw [HR.out]
    exact ⟨rfl,hfr⟩
 ·have HR : Hid (D = false) := h_ (by rw [HD.out]; exact hasK_len _ _ (by rw [okL_len,← hn,← hm0]; exact hnm))
  have z0 : ((n : Int) == (m : Int)) = false := by rw [beq_eq_false_iff_ne]; omega
  have z1 : ((n : Int) != (m : Int)) = true := by rw [bne_iff_ne]; omega
  clear hn hm0 hv hq hD hnm hkr
  go_enter func254,ntmps254
  go_wp2_with fail
  go_ret
  rw [HR.out]
  exact ⟨rfl,Fr.refl _⟩
theorem formedExpr_of (t : Nd) (lt : Value) (w : World) (hlt : LN w lt t.l) (hs : t.s.size ≤ 2000000) (hn64 : wf64 t.n) (hq : RQ w t.l) :
 Calls prog 250 #[ndV t lt] w fun e w' => e = .returned (.bool (exprR t.op t.n t.s (okL t.l))) ∧ Fr w w' := by
 obtain ⟨o,n,s,l,a⟩ := t
 have hlt : LN w lt l := hlt
 have hs : s.size ≤ 2000000 := hs
 have hn64 : wf64 n := hn64
 have hq : RQ w l := hq
 show Calls _ _ #[.agg #[.int .i64 o,.int .i64 n,.string s,lt,.int .i64 a]] w fun e w' => e = .returned (.bool (exprR o n s (okL l))) ∧ Fr w w'
 obtain ⟨b0,cap,rfl,hcap,hcm,_⟩ := hlt.form
 obtain ⟨len,hlen⟩ : ∃ x,x = l.length := ⟨_,rfl⟩
 rw [← hlen] at hlt ⊢
 obtain ⟨P,hP⟩ : ∃ x,x = okL l := ⟨_,rfl⟩
 rw [← hP]
 have CZ00 : Hid (∀ W,Fr w W → Calls prog 252 #[.agg #[.int .i64 o,.int .i64 n,.string s,.slice b0 len cap,.int .i64 a],.bool false,.bool false] W fun e w' => e = .returned (.bool (bare n s)) ∧ Fr W w') := h_ (fun W h => zero00_any ⟨o,n,s,l,a⟩ (.slice b0 len cap) W)
 have CZ10 : Hid (∀ W,Fr w W → Calls prog 252 #[.agg #[.int .i64 o,.int .i64 n,.string s,.slice b0 len cap,.int .i64 a],.bool true,.bool false] W fun e w' => e = .returned (.bool (empS s)) ∧ Fr W w') := h_ (fun W h => zero10_any ⟨o,n,s,l,a⟩ (.slice b0 len cap) W)
 have CZ01 : Hid (∀ W,Fr w W → Calls prog 252 #[.agg #[.int .i64 o,.int .i64 n,.string s,.slice b0 len cap,.int .i64 a],.bool false,.bool true] W fun e w' => e = .returned (.bool (decide (n = 0))) ∧ Fr W w') := h_ (fun W h => zero01_any ⟨o,n,s,l,a⟩ (.slice b0 len cap) W)
 have CQt : Hid (∀ W,Fr w W → Calls prog 68 #[.string s] W fun e w' => e = .returned (.bool (qtb s)) ∧ Fr W w') := h_ (fun W h => quotes_any s hs W)
 have CIn : Hid (∀ W,Fr w W → Calls prog 253 #[.string s] W fun e w' => e = .returned (.bool (isNm s)) ∧ Fr W w') := h_ (fun W h => RisName_any s W)
 have CP : Hid (∀ W,Fr w W → ∀ ks kv,IV W kv ks → Calls prog 254 #[.slice b0 len cap,kv] W fun e w' => e = .returned (.bool (hasK P ks)) ∧ Fr W w') := h_ (fun W h ks kv hk => by rw [hP]; exact parts_any l _ W ks kv (hlt.fr h) hk (hq.fr h))
 have CA : Hid (∀ W,Fr w W → ∀ k : Pr,k.ref = true → Calls prog 145 #[.slice b0 len cap,.int .i64 k.num] W fun e w' => e = .returned (.bool (allK P k)) ∧ Fr W w') := h_ (fun W h k hk => by rw [hP]; exact all_any k hk l _ W (hlt.fr h) (hq.fr h))
 obtain ⟨R,hR⟩ : ∃ r,r = (exprR o n s P) := ⟨_,rfl⟩
 rw [← hR]
 have HPL : Hid (P.length = len) := h_ (by rw [hP,hlen,okL_len])
 have hn1 := h_ hn64
 clear hlt hq hP hlen hcap hcm hs hn64
 have G := h_ (FB.new w (.int .i64 o) (.int .i64 n) (.string s) (.slice b0 len cap) (.int .i64 a))
 by_cases g : o = 1
 ·subst g
  replace hR : R = (empS s && decide (-2147483648 ≤ n) && decide (n ≤ 2147483647) && hasK P []) := by first | exact hR | (rw [hR]; first | rfl | simp [exprR,nameR,plainR])
  rcases Bool.eq_false_or_eq_true (empS s) with hv1 | hv1 <;> (rw [hv1] at CZ10; try rw [hv1] at hR)
  rcases c_or (p := -2147483648 ≤ n) (a := decide ((-2147483648 : Int) ≤ n) = true) (b := decide ((-2147483648 : Int) ≤ n) = false) (fun h2 => decide_eq_true h2) (fun h2 => decide_eq_false h2) with ⟨h2,fh2⟩ | ⟨h2,fh2⟩
  rcases c_or (p := n ≤ 2147483647) (a := decide ((n : Int) ≤ 2147483647) = true) (b := decide ((n : Int) ≤ 2147483647) = false) (fun h3 => decide_eq_true h3) (fun h3 => decide_eq_false h3) with ⟨h3,fh3⟩ | ⟨h3,fh3⟩
  rcases c_o1 (p := len = 0) (b := ((len : Int) == 0) = false) (fun hl0 => by rw [beq_eq_false_iff_ne]; omega) with rfl | ⟨hl0,el0⟩
  all_goals
   try simp [HPL.out,named,someK,hasK_nil, *] at hR
   have HR := h_ hR
   clear hR
   try clear h5
   go_enter func250,ntmps250
   go_wp2_with fail
   repeat
    first
     | ((with_reducible refine (CZ10.out _ ?_).mono ?_); first | exact G.out.1 | exact (G.out.al _).1)
    rintro e w1 ⟨rfl,hf⟩
    first | replace G := h_ (G.out.st hf) | replace G := h_ ((G.out.al _).st hf)
    obtain ⟨k0,k1,k2,k3,k4⟩ := G.out.2.cells
    clear hf
    go_wp2_with fail
   go_ret
   rw [HR.out]
   exact ⟨rfl,(by first | exact G.out.1 | exact (G.out.al _).1)⟩
 have g1 := g
 clear g
 have z1 := nz g1
 by_cases g : o = 2
 ·subst g
  replace hR : R = (qtb s && decide (n = 0) && hasK P []) := by first | exact hR | (rw [hR]; first | rfl | simp [exprR,nameR,plainR])
  rcases Bool.eq_false_or_eq_true (decide (n = 0)) with hv3 | hv3 <;> (rw [hv3] at CZ01; try rw [hv3] at hR)
  rcases Bool.eq_false_or_eq_true (qtb s) with hv3 | hv3 <;> (rw [hv3] at CQt; try rw [hv3] at hR)
  rcases c_o1 (p := len = 0) (b := ((len : Int) == 0) = false) (fun hl0 => by rw [beq_eq_false_iff_ne]; omega) with rfl | ⟨hl0,el0⟩
  all_goals
   try simp [HPL.out,named,someK,hasK_nil, *] at hR
   have HR := h_ hR
   clear hR
   try clear h5
   go_enter func250,ntmps250
   go_wp2_with fail
   repeat
    first
     | ((with_reducible refine (CZ01.out _ ?_).mono ?_); first | exact G.out.1 | exact (G.out.al _).1)
     | ((with_reducible refine (CQt.out _ ?_).mono ?_); first | exact G.out.1 | exact (G.out.al _).1)
    rintro e w1 ⟨rfl,hf⟩
    first | replace G := h_ (G.out.st hf) | replace G := h_ ((G.out.al _).st hf)
    obtain ⟨k0,k1,k2,k3,k4⟩ := G.out.2.cells
    clear hf
    go_wp2_with fail
   go_ret
   rw [HR.out]
   exact ⟨rfl,(by first | exact G.out.1 | exact (G.out.al _).1)⟩
 have g2 := g
 clear g
 have z2 := nz g2
 by_cases g : o = 3 ∨ o = 4 ∨ o = 5
 ·rcases g with rfl | rfl | rfl
  all_goals
   replace hR : R = (bare n s && hasK P []) := by first | exact hR | (rw [hR]; first | rfl | simp [exprR,nameR,plainR])
   rcases Bool.eq_false_or_eq_true (bare n s) with hv4 | hv4 <;> (rw [hv4] at CZ00; try rw [hv4] at hR)
   rcases c_o1 (p := len = 0) (b := ((len : Int) == 0) = false) (fun hl0 => by rw [beq_eq_false_iff_ne]; omega) with rfl | ⟨hl0,el0⟩
   all_goals
    try simp [HPL.out,named,someK,hasK_nil, *] at hR
    have HR := h_ hR
    clear hR
    try clear h5
    go_enter func250,ntmps250
    go_wp2_with fail
    repeat
     first
      | ((with_reducible refine (CZ00.out _ ?_).mono ?_); first | exact G.out.1 | exact (G.out.al _).1)
     rintro e w1 ⟨rfl,hf⟩
     first | replace G := h_ (G.out.st hf) | replace G := h_ ((G.out.al _).st hf)
     obtain ⟨k0,k1,k2,k3,k4⟩ := G.out.2.cells
     clear hf
     go_wp2_with fail
    go_ret
    rw [HR.out]
    exact ⟨rfl,(by first | exact G.out.1 | exact (G.out.al _).1)⟩
 simp only [not_or] at g
 obtain ⟨g3,g4,g5⟩ := g
 have z3 := nz g3
 have z4 := nz g4
 have z5 := nz g5
 by_cases g : o = 6
 ·subst g
  replace hR : R = (named n s && hasK P []) := by first | exact hR | (rw [hR]; first | rfl | simp [exprR,nameR,plainR])
  rcases Bool.eq_false_or_eq_true (decide (n = 0)) with hv6 | hv6 <;> (rw [hv6] at CZ01; try rw [hv6] at hR)
  rcases Bool.eq_false_or_eq_true (isNm s) with hv6 | hv6 <;> (rw [hv6] at CIn; try rw [hv6] at hR)
  rcases c_o1 (p := len = 0) (b := ((len : Int) == 0) = false) (fun hl0 => by rw [beq_eq_false_iff_ne]; omega) with rfl | ⟨hl0,el0⟩
  all_goals
   try simp [HPL.out,named,someK,hasK_nil, *] at hR
   have HR := h_ hR
   clear hR
   try clear h5
   go_enter func250,ntmps250
   go_wp2_with fail
   repeat
    first
     | ((with_reducible refine (CZ01.out _ ?_).mono ?_); first | exact G.out.1 | exact (G.out.al _).1)
     | ((with_reducible refine (CIn.out _ ?_).mono ?_); first | exact G.out.1 | exact (G.out.al _).1)
    rintro e w1 ⟨rfl,hf⟩
    first | replace G := h_ (G.out.st hf) | replace G := h_ ((G.out.al _).st hf)
    obtain ⟨k0,k1,k2,k3,k4⟩ := G.out.2.cells
    clear hf
    go_wp2_with fail
   go_ret
   rw [HR.out]
   exact ⟨rfl,(by first | exact G.out.1 | exact (G.out.al _).1)⟩
 have g6 := g
 clear g
 have z6 := nz g6
 by_cases g : o = 7
 ·subst g
  replace hR : R = (bare n s && someK P .expr) := by first | exact hR | (rw [hR]; first | rfl | simp [exprR,nameR,plainR])
  rcases Bool.eq_false_or_eq_true (bare n s) with hv7 | hv7 <;> (rw [hv7] at CZ00; try rw [hv7] at hR)
  rcases c_or (p := 0 < len) (a := decide ((1 : Int) ≤ len) = true) (b := decide ((1 : Int) ≤ len) = false) (fun hl1 => decide_eq_true (by omega)) (fun hl1 => decide_eq_false (by omega)) with ⟨hl1,el1⟩ | ⟨hl1,el1⟩
  all_goals
   try simp [HPL.out,named,someK,hasK_nil, *] at hR
   have HR := h_ hR
   clear hR
   try clear h5
   go_enter func250,ntmps250
   go_wp2_with fail
   repeat
    first
     | ((with_reducible refine (CZ00.out _ ?_).mono ?_); first | exact G.out.1 | exact (G.out.al _).1)
     | (go_at_call 145; refine (CA.out _ (by first | exact G.out.1 | exact (G.out.al _).1) .expr rfl).mono ?_)
    rintro e w1 ⟨rfl,hf⟩
    first | replace G := h_ (G.out.st hf) | replace G := h_ ((G.out.al _).st hf)
    obtain ⟨k0,k1,k2,k3,k4⟩ := G.out.2.cells
    clear hf
    go_wp2_with fail
   go_ret
   rw [HR.out]
   exact ⟨rfl,(by first | exact G.out.1 | exact (G.out.al _).1)⟩
 have g7 := g
 clear g
 have z7 := nz g7
 by_cases g : o = 8 ∨ o = 9 ∨ o = 17
 ·rcases g with rfl | rfl | rfl
  all_goals
   replace hR : R = (bare n s && hasK P [.expr,.expr]) := by first | exact hR | (rw [hR]; first | rfl | simp [exprR,nameR,plainR])
   rcases Bool.eq_false_or_eq_true (bare n s) with hv8 | hv8 <;> (rw [hv8] at CZ00; try rw [hv8] at hR)
   all_goals
    try simp [HPL.out,named,someK,hasK_nil, *] at hR
    have HR := h_ hR
    clear hR
    try clear h5
    go_enter func250,ntmps250
    go_wp2_with fail
    repeat
     first
      | ((with_reducible refine (CZ00.out _ ?_).mono ?_); first | exact G.out.1 | exact (G.out.al _).1)
      | (go_at_call 254; refine (CP.out _ (by first | exact G.out.1 | exact (G.out.al _).1) [.expr,.expr] _ (IV.two _ _ .expr .expr _ (by simp) rfl)).mono ?_)
     rintro e w1 ⟨rfl,hf⟩
     first | replace G := h_ (G.out.st hf) | replace G := h_ ((G.out.al _).st hf)
     obtain ⟨k0,k1,k2,k3,k4⟩ := G.out.2.cells
     clear hf
     go_wp2_with fail
    go_ret
    rw [HR.out]
    exact ⟨rfl,(by first | exact G.out.1 | exact (G.out.al _).1)⟩
 simp only [not_or] at g
 obtain ⟨g8,g9,g17⟩ := g
 have z8 := nz g8
 have z9 := nz g9
 have z17 := nz g17
 by_cases g : o = 10 ∨ o = 11
 ·rcases g with rfl | rfl
  all_goals
   replace hR : R = (bare n s && hasK P [.expr]) := by first | exact hR | (rw [hR]; first | rfl | simp [exprR,nameR,plainR])
   rcases Bool.eq_false_or_eq_true (bare n s) with hv9 | hv9 <;> (rw [hv9] at CZ00; try rw [hv9] at hR)
   all_goals
    try simp [HPL.out,named,someK,hasK_nil, *] at hR
    have HR := h_ hR
    clear hR
    try clear h5
    go_enter func250,ntmps250
    go_wp2_with fail
    repeat
     first
      | ((with_reducible refine (CZ00.out _ ?_).mono ?_); first | exact G.out.1 | exact (G.out.al _).1)
      | (go_at_call 254; refine (CP.out _ (by first | exact G.out.1 | exact (G.out.al _).1) [.expr] _ (IV.one _ _ .expr _ (by simp) rfl)).mono ?_)
     rintro e w1 ⟨rfl,hf⟩
     first | replace G := h_ (G.out.st hf) | replace G := h_ ((G.out.al _).st hf)
     obtain ⟨k0,k1,k2,k3,k4⟩ := G.out.2.cells
     clear hf
     go_wp2_with fail
    go_ret
    rw [HR.out]
    exact ⟨rfl,(by first | exact G.out.1 | exact (G.out.al _).1)⟩
 simp only [not_or] at g
 obtain ⟨g10,g11⟩ := g
 have z10 := nz g10
 have z11 := nz g11
 by_cases g : o = 12
 ·subst g
  replace hR : R = (empS s && decide (1 ≤ n) && decide (n ≤ 17) && hasK P [.expr,.expr]) := by first | exact hR | (rw [hR]; first | rfl | simp [exprR,nameR,plainR])
  rcases Bool.eq_false_or_eq_true (empS s) with hv10 | hv10 <;> (rw [hv10] at CZ10; try rw [hv10] at hR)
  rcases c_or (p := 1 ≤ n) (a := decide ((1 : Int) ≤ n) = true) (b := decide ((1 : Int) ≤ n) = false) (fun h2 => decide_eq_true h2) (fun h2 => decide_eq_false h2) with ⟨h2,fh2⟩ | ⟨h2,fh2⟩
  rcases c_or (p := n ≤ 17) (a := decide ((n : Int) ≤ 17) = true) (b := decide ((n : Int) ≤ 17) = false) (fun h3 => decide_eq_true h3) (fun h3 => decide_eq_false h3) with ⟨h3,fh3⟩ | ⟨h3,fh3⟩
  all_goals
   try simp [HPL.out,named,someK,hasK_nil, *] at hR
   have HR := h_ hR
   clear hR
   try clear h5
   go_enter func250,ntmps250
   go_wp2_with fail
   repeat
    first
     | ((with_reducible refine (CZ10.out _ ?_).mono ?_); first | exact G.out.1 | exact (G.out.al _).1)
     | (go_at_call 254; refine (CP.out _ (by first | exact G.out.1 | exact (G.out.al _).1) [.expr,.expr] _ (IV.two _ _ .expr .expr _ (by simp) rfl)).mono ?_)
    rintro e w1 ⟨rfl,hf⟩
    first | replace G := h_ (G.out.st hf) | replace G := h_ ((G.out.al _).st hf)
    obtain ⟨k0,k1,k2,k3,k4⟩ := G.out.2.cells
    clear hf
    go_wp2_with fail
   go_ret
   rw [HR.out]
   exact ⟨rfl,(by first | exact G.out.1 | exact (G.out.al _).1)⟩
 have g12 := g
 clear g
 have z12 := nz g12
 by_cases g : o = 13
 ·subst g
  replace hR : R = (empS s && (decide (n = 18) || decide (n = 19)) && hasK P [.expr]) := by first | exact hR | (rw [hR]; first | rfl | simp [exprR,nameR,plainR])
  rcases Bool.eq_false_or_eq_true (empS s) with hv11 | hv11 <;> (rw [hv11] at CZ10; try rw [hv11] at hR)
  rcases c_o1 (p := n = 18) (b := (n == 18) = false) (fun h180 => by rw [beq_eq_false_iff_ne]; exact h180) with rfl | ⟨h180,e180⟩
  rotate_left 1
  rcases c_o1 (p := n = 19) (b := (n == 19) = false) (fun h190 => by rw [beq_eq_false_iff_ne]; exact h190) with rfl | ⟨h190,e190⟩
  all_goals
   try simp [HPL.out,named,someK,hasK_nil, *] at hR
   have HR := h_ hR
   clear hR
   try clear h5
   go_enter func250,ntmps250
   go_wp2_with fail
   repeat
    first
     | ((with_reducible refine (CZ10.out _ ?_).mono ?_); first | exact G.out.1 | exact (G.out.al _).1)
     | (go_at_call 254; refine (CP.out _ (by first | exact G.out.1 | exact (G.out.al _).1) [.expr] _ (IV.one _ _ .expr _ (by simp) rfl)).mono ?_)
    rintro e w1 ⟨rfl,hf⟩
    first | replace G := h_ (G.out.st hf) | replace G := h_ ((G.out.al _).st hf)
    obtain ⟨k0,k1,k2,k3,k4⟩ := G.out.2.cells
    clear hf
    go_wp2_with fail
   go_ret
   rw [HR.out]
   exact ⟨rfl,(by first | exact G.out.1 | exact (G.out.al _).1)⟩
 have g13 := g
 clear g
 have z13 := nz g13
 by_cases g : o = 14 ∨ o = 18
 ·rcases g with rfl | rfl
  all_goals
   replace hR : R = (bare n s && hasK P [.expr,.expr,.expr]) := by first | exact hR | (rw [hR]; first | rfl | simp [exprR,nameR,plainR])
   rcases Bool.eq_false_or_eq_true (bare n s) with hv12 | hv12 <;> (rw [hv12] at CZ00; try rw [hv12] at hR)
   all_goals
    try simp [HPL.out,named,someK,hasK_nil, *] at hR
    have HR := h_ hR
    clear hR
    try clear h5
    go_enter func250,ntmps250
    go_wp2_with fail
    repeat
     first
      | ((with_reducible refine (CZ00.out _ ?_).mono ?_); first | exact G.out.1 | exact (G.out.al _).1)
      | (go_at_call 254; refine (CP.out _ (by first | exact G.out.1 | exact (G.out.al _).1) [.expr,.expr,.expr] _ (IV.three _ _ .expr .expr .expr _ (by simp) rfl)).mono ?_)
     rintro e w1 ⟨rfl,hf⟩
     first | replace G := h_ (G.out.st hf) | replace G := h_ ((G.out.al _).st hf)
     obtain ⟨k0,k1,k2,k3,k4⟩ := G.out.2.cells
     clear hf
     go_wp2_with fail
    go_ret
    rw [HR.out]
    exact ⟨rfl,(by first | exact G.out.1 | exact (G.out.al _).1)⟩
 simp only [not_or] at g
 obtain ⟨g14,g18⟩ := g
 have z14 := nz g14
 have z18 := nz g18
 by_cases g : o = 15
 ·subst g
  replace hR : R = (bare n s && hasK P [.block]) := by first | exact hR | (rw [hR]; first | rfl | simp [exprR,nameR,plainR])
  rcases Bool.eq_false_or_eq_true (bare n s) with hv13 | hv13 <;> (rw [hv13] at CZ00; try rw [hv13] at hR)
  all_goals
   try simp [HPL.out,named,someK,hasK_nil, *] at hR
   have HR := h_ hR
   clear hR
   try clear h5
   go_enter func250,ntmps250
   go_wp2_with fail
   repeat
    first
     | ((with_reducible refine (CZ00.out _ ?_).mono ?_); first | exact G.out.1 | exact (G.out.al _).1)
     | (go_at_call 254; refine (CP.out _ (by first | exact G.out.1 | exact (G.out.al _).1) [.block] _ (IV.one _ _ .block _ (by simp) rfl)).mono ?_)
    rintro e w1 ⟨rfl,hf⟩
    first | replace G := h_ (G.out.st hf) | replace G := h_ ((G.out.al _).st hf)
    obtain ⟨k0,k1,k2,k3,k4⟩ := G.out.2.cells
    clear hf
    go_wp2_with fail
   go_ret
   rw [HR.out]
   exact ⟨rfl,(by first | exact G.out.1 | exact (G.out.al _).1)⟩
 have g15 := g
 clear g
 have z15 := nz g15
 by_cases g : o = 16
 ·subst g
  replace hR : R = (bare n s && someK P .expr) := by first | exact hR | (rw [hR]; first | rfl | simp [exprR,nameR,plainR])
  rcases Bool.eq_false_or_eq_true (bare n s) with hv14 | hv14 <;> (rw [hv14] at CZ00; try rw [hv14] at hR)
  rcases c_or (p := 0 < len) (a := decide ((1 : Int) ≤ len) = true) (b := decide ((1 : Int) ≤ len) = false) (fun hl1 => decide_eq_true (by omega)) (fun hl1 => decide_eq_false (by omega)) with ⟨hl1,el1⟩ | ⟨hl1,el1⟩
  all_goals
   try simp [HPL.out,named,someK,hasK_nil, *] at hR
   have HR := h_ hR
   clear hR
   try clear h5
   go_enter func250,ntmps250
   go_wp2_with fail
   repeat
    first
     | ((with_reducible refine (CZ00.out _ ?_).mono ?_); first | exact G.out.1 | exact (G.out.al _).1)
     | (go_at_call 145; refine (CA.out _ (by first | exact G.out.1 | exact (G.out.al _).1) .expr rfl).mono ?_)
    rintro e w1 ⟨rfl,hf⟩
    first | replace G := h_ (G.out.st hf) | replace G := h_ ((G.out.al _).st hf)
    obtain ⟨k0,k1,k2,k3,k4⟩ := G.out.2.cells
    clear hf
    go_wp2_with fail
   go_ret
   rw [HR.out]
   exact ⟨rfl,(by first | exact G.out.1 | exact (G.out.al _).1)⟩
 have g16 := g
 clear g
 have z16 := nz g16
 replace hR : R = (false) := by first | (rw [hR]; simp [exprR,nameR,plainR,g1,g2,g3,g4,g5,g6,g7,g8,g9,g17,g10,g11,g12,g13,g14,g18,g15,g16]; done) | (rw [hR]; rfl)
 clear g1 g2 g3 g4 g5 g6 g7 g8 g9 g17 g10 g11 g12 g13 g14 g18 g15 g16
 all_goals
  try simp [HPL.out,named,someK,hasK_nil, *] at hR
  have HR := h_ hR
  clear hR
  try clear h5
  go_enter func250,ntmps250
  go_wp2_with fail
  go_ret
  rw [HR.out]
  exact ⟨rfl,(by first | exact G.out.1 | exact (G.out.al _).1)⟩
end Go.Proofs.YtbaelbafhdjlnaaGreatDoor
