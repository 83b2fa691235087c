/- A part of the proof that the law ParsePrints holds for every input. -/
import Derived.Test.YtbaelbafhdjlnaaGreatDoorM8
import Derived.Test.YtbaelbafhdjlnaaGreatDoorY2
namespace Go.Proofs.YtbaelbafhdjlnaaGreatDoor
open Go.RowKit _root_.Go.Proofs.Tryz
set_option linter.unusedVariables false
set_option linter.unusedSimpArgs false
set_option maxRecDepth 100000
set_option maxHeartbeats 8000000
def d16 : ByteArray := ⟨#[48,49,50,51,52,53,54,55,56,57,97,98,99,100,101,102]⟩
theorem d16_at (d : Nat) (h : d < 16) : ((d16[d]'(show d < 16 by omega)).toNat : Nat) = hx d := by
 have : d = 0 ∨ d = 1 ∨ d = 2 ∨ d = 3 ∨ d = 4 ∨ d = 5 ∨ d = 6 ∨ d = 7 ∨ d = 8 ∨ d = 9 ∨ d = 10 ∨ d = 11 ∨ d = 12 ∨ d = 13 ∨ d = 14 ∨ d = 15 := by omega
 rcases this with rfl | rfl | rfl | rfl | rfl | rfl | rfl | rfl | rfl | rfl | rfl | rfl | rfl | rfl | rfl | rfl <;> rfl
def decN (n : Nat) : List Nat := (Lib.decDigits n).map (·.toNat)
theorem dec_ofL (n : Nat) : dec n = ofL (decN n) := by
 have : ∀ l : List UInt8,((l.map (·.toNat)).map fun (c : Nat) => (c : Int)).map (fun n : Int => UInt8.ofNat n.toNat) = l := fun l => by
  induction l with
  | nil => rfl
  | cons x l ih => simp only [List.map_cons,ih]; simp
 unfold dec decN ofL strOfNums
 rw [this]
theorem decN_lt {n : Nat} (h : n < 10) : decN n = [48 + n] := by
 unfold decN
 rw [Lib.decDigits_one h]
 simp
 omega
theorem decN_ge {n : Nat} (h : ¬ n < 10) : decN n = decN (n / 10) ++ [48 + n % 10] := by
 unfold decN
 rw [Lib.decDigits,dif_neg h,List.map_append]
 simp
 omega
def Jd (N m : Nat) (l : List Nat) : Prop := (0 < m ∧ decN N = decN m ++ l) ∨ (m = 0 ∧ 0 < l.length ∧ l = decN N) ∨ (m = 0 ∧ l = [] ∧ N = 0)
theorem Jd.start (N : Nat) : Jd N N [] := by
 by_cases h : N = 0
 ·exact .inr (.inr ⟨h,rfl,h⟩)
 ·exact .inl ⟨by omega,by simp⟩
theorem Jd.step {N m : Nat} {l : List Nat} (h : Jd N m l) (hg : 0 < m ∨ l.length < 1) : Jd N (m / 10) ((48 + m % 10) :: l) := by
 rcases h with ⟨h1,h2⟩ | ⟨h1,h2,h3⟩ | ⟨h1,h2,h3⟩
 ·by_cases hm : m < 10
  ·refine .inr (.inl ⟨by omega,by simp,?_⟩)
   rw [h2,decN_lt hm,Nat.mod_eq_of_lt hm]; rfl
  ·exact .inl ⟨by omega,by rw [h2,decN_ge hm,List.append_assoc]; rfl⟩
 ·omega
 ·subst h1 h2 h3
  exact .inr (.inl ⟨rfl,by simp,by rw [decN_lt (by omega)]⟩)
theorem Jd.fin {N m : Nat} {l : List Nat} (h : Jd N m l) (hg : ¬ (0 < m ∨ l.length < 1)) : l = decN N := by
 rcases h with ⟨h1,h2⟩ | ⟨h1,h2,h3⟩ | ⟨h1,h2,h3⟩
 ·omega
 ·exact h3
 ·subst h2; simp at hg
theorem Jd.len {N m : Nat} {l : List Nat} (h : Jd N m l) (hN : N < 10 ^ 19) : l.length ≤ 19 := by
 have hs := dec_short 19 N (by decide) hN
 rw [dec_ofL,ofL_size] at hs
 rcases h with ⟨h1,h2⟩ | ⟨h1,h2,h3⟩ | ⟨h1,h2,h3⟩
 ·rw [h2,List.length_append] at hs; omega
 ·rw [h3]; exact hs
 ·rw [h2]; simp
theorem conv_one (W : World) (d : Nat) (T : TypeId) : (convert 54 9 (.slice (some ⟨W.heap.size,0,none⟩) 1 1)).run prog (W.alloc (.cells #[.int .u8 (d : Nat)] T)) = .ok (.string (ofL [d])) (W.alloc (.cells #[.int .u8 (d : Nat)] T)) := by
 refine run_convert_bytes_arg _ 54 5 underlying54 underlying5 W.heap.size 0 1 1 [(d : Int)] rfl (fun i hi => ?_) 9 underlying9
 obtain rfl : i = 0 := by omega
 simp
theorem ofL_cons (d : Nat) (l : List Nat) : ofL [d] ++ ofL l = ofL (d :: l) := by rw [ofL_app]; rfl
def strLen : Value → Nat
 | .string s => s.size
 | _ => 0
theorem digits10 (N : Nat) (hN : N < 4294967296) (w : World) :
 Calls prog 219 #[.int .i64 N,.int .i64 10,.int .i64 1] w fun e w' => e = .returned (.string (dec N)) ∧ Fr w w' := by
 go_enter func219,ntmps219
 go_wp2_with fail
 go_loopw [0,7] (fun n o wr => ∃ (m : Nat) (l : List Nat),m ≤ N ∧ n = .int .i64 m ∧ Jd N m l ∧ o = .string (ofL l) ∧ Fr w wr) (fun n o _ => (intOf n).toNat + (1 - strLen o))
 case atStart => exact ⟨N,[],Nat.le_refl _,rfl,Jd.start N,rfl,Fr.refl _⟩
 case round =>
  obtain ⟨m,l,hm,rfl,hj,rfl,hfr⟩ := hrel
  have hl := hj.len (by omega)
  have hsz := ofL_size l
  by_cases hg : 0 < m ∨ l.length < 1
  ·have HJ := h_ (hj.step hg)
   obtain ⟨d,hd⟩ : ∃ d,d = m % 10 := ⟨_,rfl⟩
   have hd16 : d < 16 := by omega
   have hdi := d16_at d hd16
   unfold d16 at hdi
   have hhx : hx d = 48 + d := by unfold hx; rw [if_pos (by omega)]
   rw [← hd,← hhx] at HJ
   obtain ⟨x,hx⟩ : ∃ x,x = hx d := ⟨_,rfl⟩
   rw [← hx] at HJ hdi
   have hrem : (m : Int).tmod 10 = (d : Int) := by
    rw [Int.tmod_eq_emod_of_nonneg (by omega)]; omega
   obtain ⟨q,hq⟩ : ∃ q,q = m / 10 := ⟨_,rfl⟩
   have hquo : (m : Int).tdiv 10 = (q : Int) := by
    rw [Int.tdiv_eq_ediv_of_nonneg (by omega)]; omega
   rw [← hq] at HJ
   have hcv := conv_one wr x 5
   have hadd : ∀ w,(Op.stringOp .add (ofL [x]) (ofL l)).run prog w = .ok (.string (ofL (x :: l))) w := fun w => by
    have h := run_string_add_sum (P := prog) w (ofL [x]) (ofL l) (by rw [ofL_size,ofL_size,List.length_singleton]; omega)
    rw [ofL_cons] at h; exact h
   have hqb : q ≤ N := by omega
   by_cases hm0 : 0 < m
   ·have HM := h_ (show q < m by omega)
    clear hd hhx hj hg hq hsz hx
    go_wp2_with fail
    exact ⟨⟨q,_,hqb,rfl,HJ.out,rfl,hfr.alloc _⟩,by have := HM.out; simp only [intOf,strLen,ofL_size,List.length_cons]; omega⟩
   ·have hd2 : decide (((ofL l).size : Int) < 1) = true := decide_eq_true (by omega)
    have HM := h_ (show q = 0 ∧ m = 0 ∧ l.length = 0 by omega)
    clear hd hhx hj hg hq hsz hx
    go_wp2_with fail
    exact ⟨⟨q,_,hqb,rfl,HJ.out,rfl,hfr.alloc _⟩,by have := HM.out; simp only [intOf,strLen,ofL_size,List.length_cons]; omega⟩
  ·obtain rfl : m = 0 := by omega
   have HJ := h_ (hj.fin hg)
   have hl1 : 1 ≤ l.length := by omega
   have hd1 : decide (((ofL l).size : Int) < 1) = false := decide_eq_false (by omega)
   clear hj hg
   go_wp2_with fail
   go_ret
   exact ⟨by rw [dec_ofL,← HJ.out]; rfl,hfr⟩
def hexl (v : Nat) : Nat → List Nat
 | 0 => []
 | j + 1 => hx (v / 16 ^ j % 16) :: hexl v j
theorem hexl_len (v : Nat) : ∀ j,(hexl v j).length = j
 | 0 => rfl
 | j + 1 => by rw [hexl,List.length_cons,hexl_len v j]
theorem hexl_8 (v : Nat) : hexl v 8 = hex8 v := rfl
theorem digits16 (v : Nat) (h1 : 2147483648 ≤ v) (h2 : v < 4294967296) (w : World) :
 Calls prog 219 #[.int .i64 v,.int .i64 16,.int .i64 8] w fun e w' => e = .returned (.string (ofL (hex8 v))) ∧ Fr w w' := by
 go_enter func219,ntmps219
 go_wp2_with fail
 go_loopw [0,7] (fun n o wr => ∃ j : Nat,j ≤ 8 ∧ n = .int .i64 (v / 16 ^ j : Nat) ∧ o = .string (ofL (hexl v j)) ∧ Fr w wr) (fun n o _ => 8 - strLen o)
 case atStart => exact ⟨0,by omega,by rw [Nat.pow_zero,Nat.div_one],rfl,Fr.refl _⟩
 case round =>
  obtain ⟨j,hj,rfl,rfl,hfr⟩ := hrel
  have hsz : (ofL (hexl v j)).size = j := by rw [ofL_size,hexl_len]
  have HL : Hid (hexl v (j + 1) = hx (v / 16 ^ j % 16) :: hexl v j) := h_ rfl
  have HE : j = 8 → ofL (hexl v j) = ofL (hex8 v) := fun h => by rw [h,hexl_8]
  have hlen := hexl_len v j
  have HLN : Hid ((ofL (hexl v (j + 1))).size = j + 1) := h_ (by rw [ofL_size,hexl_len])
  have hpw : 16 ^ j ≤ 16 ^ 8 := Nat.pow_le_pow_right (by decide) hj
  have hp0 : 0 < 16 ^ j := Nat.pow_pos (by decide)
  have hle : v / 16 ^ j ≤ v := Nat.div_le_self _ _
  have hnx : v / 16 ^ (j + 1) = v / 16 ^ j / 16 := by rw [Nat.pow_succ,Nat.div_div_eq_div_mul]
  have hpos : j < 8 → 0 < v / 16 ^ j := fun h => by
   have h7 : 16 ^ j ≤ 16 ^ 7 := Nat.pow_le_pow_right (by decide) (by omega)
   exact Nat.div_pos (by omega) hp0
  have hzero : j = 8 → v / 16 ^ j = 0 := fun h => by subst h; omega
  obtain ⟨m,hm⟩ : ∃ m,m = v / 16 ^ j := ⟨_,rfl⟩
  obtain ⟨t,ht⟩ : ∃ t,t = hexl v j := ⟨_,rfl⟩
  obtain ⟨q,hq⟩ : ∃ q,q = v / 16 ^ (j + 1) := ⟨_,rfl⟩
  rw [← hm] at HL hle hnx hpos hzero ⊢
  rw [← ht] at hsz HL HE hlen ⊢
  rw [← hq] at hnx
  have HQ := h_ hq
  by_cases h8 : j = 8
  ·have hm0 := hzero h8
   have hd2 : decide (((ofL t).size : Int) < 8) = false := decide_eq_false (by omega)
   have HR := h_ (HE h8)
   subst hm0
   clear HE hpos hzero hm ht hq hnx hpw hp0 hle hsz hlen hj h8
   go_wp2_with fail
   go_ret
   exact ⟨by rw [HR.out]; rfl,hfr⟩
  ·have hm0 := hpos (by omega)
   obtain ⟨d,hd⟩ : ∃ d,d = m % 16 := ⟨_,rfl⟩
   have hd16 : d < 16 := by omega
   have hdi := d16_at d hd16
   unfold d16 at hdi
   rw [← hd] at HL
   obtain ⟨x,hx⟩ : ∃ x,x = hx d := ⟨_,rfl⟩
   rw [← hx] at HL hdi
   have hrem : (m : Int).tmod 16 = (d : Int) := by
    rw [Int.tmod_eq_emod_of_nonneg (by omega)]; omega
   have hquo : (m : Int).tdiv 16 = (q : Int) := by
    rw [Int.tdiv_eq_ediv_of_nonneg (by omega)]; omega
   have hcv := conv_one wr x 5
   have hadd : ∀ w,(Op.stringOp .add (ofL [x]) (ofL t)).run prog w = .ok (.string (ofL (x :: t))) w := fun w => by
    have h := run_string_add_sum (P := prog) w (ofL [x]) (ofL t) (by rw [ofL_size,ofL_size,List.length_singleton]; omega)
    rw [ofL_cons] at h; exact h
   have hqb : q ≤ v := by omega
   have HJ := h_ (show j < 8 by omega)
   have HZ := h_ hsz
   clear HE hpos hzero hm ht hq hnx hpw hp0 hd hx hsz hlen hj h8
   go_wp2_with fail
   exact ⟨⟨j + 1,by have := HJ.out; omega,by rw [HQ.out],by rw [HL.out],hfr.alloc _⟩,by have := HJ.out; have h5 := HZ.out; have h6 := HLN.out; rw [HL.out] at h6; simp only [strLen]; omega⟩
theorem RNumber_any (n : Int) (h0 : -9223372036854775808 ≤ n) (h1 : n ≤ 9223372036854775807) (w : World) :
 Calls prog 157 #[.int .i64 n] w fun e w' => e = .returned (.tuple #[.string (num n).t,.int .i64 (num n).e]) ∧ Fr w w' := by
 by_cases hlo : n < -2147483648
 ·have hd : decide (n < -2147483648) = true := decide_eq_true hlo
  rw [show num n = ⟨nul,1⟩ by unfold num; rw [if_pos (Or.inl hlo)]]
  go_enter func157,ntmps157
  go_wp2_with fail
  go_ret2
  exact ⟨rfl,Fr.refl _⟩
 have hd : decide (n < -2147483648) = false := decide_eq_false hlo
 by_cases hhi : 2147483647 < n
 ·have hd2 : decide (2147483647 < n) = true := decide_eq_true hhi
  rw [show num n = ⟨nul,1⟩ by unfold num; rw [if_pos (Or.inr hhi)]]
  go_enter func157,ntmps157
  go_wp2_with fail
  go_ret2
  exact ⟨rfl,Fr.refl _⟩
 have hd2 : decide (2147483647 < n) = false := decide_eq_false hhi
 by_cases hp : 0 ≤ n
 ·obtain ⟨m,rfl⟩ : ∃ m : Nat,n = m := ⟨n.toNat,by omega⟩
  have hd3 : decide ((m : Int) < 0) = false := decide_eq_false (by omega)
  have hit := digits10 m (by omega)
  rw [show num (m : Int) = ⟨dec m,0⟩ by unfold num; rw [if_neg (by omega),if_pos hp,Int.toNat_natCast]]
  clear hlo hhi hp h0 h1
  go_enter func157,ntmps157
  go_wp2_with (go_at_call 219; refine (hit _).mono ?_; rintro e w' ⟨rfl,hf⟩)
  go_ret2
  exact ⟨rfl,hf⟩
 ·have hd3 : decide (n < 0) = true := decide_eq_true (by omega)
  obtain ⟨v,hv⟩ : ∃ v : Nat,v = (n + 4294967296).toNat := ⟨_,rfl⟩
  rw [show num n = ⟨⟨#[35]⟩ ++ ofL (hex8 v),0⟩ by unfold num; rw [if_neg (by omega),if_neg hp,hv]]
  have hw1 : IntKind.i64.wrap (n + 4294967296) = (v : Int) := by
   have : IntKind.i64.wrap (n + 4294967296) = n + 4294967296 := IntWalk.i64_in _ (by omega)
   rw [this]; omega
  have hfm := digits16 v (by omega) (by omega)
  have hadd : ∀ w,(Op.stringOp .add (⟨#[35]⟩ : BA) (ofL (hex8 v))).run prog w = .ok (.string (⟨#[35]⟩ ++ ofL (hex8 v))) w := fun w => run_string_add_sum w _ _ (by rw [ofL_size]; simp [hex8]; decide)
  clear hlo hhi hp h0 h1 hv
  go_enter func157,ntmps157
  go_wp2_with (go_at_call 219; refine (hfm _).mono ?_; rintro e w' ⟨rfl,hf⟩)
  go_ret2
  exact ⟨rfl,hf⟩
theorem r_num (n : Nd) (hop : n.op = 1) (h1 : -9223372036854775808 ≤ n.n ∧ n.n ≤ 9223372036854775807) : Rx 83 mk1 n (([(num n.n).t] : List ByteArray)) := by
 intro w lv hl
 show Calls prog 83 #[ndV n lv] w _
 obtain ⟨la,lc,rfl,hlc,hlm,_⟩ := hl.form
 rw [ndV_eq]
 have C0 := h_ (fun W => RNumber_any n.n h1.1 h1.2 W)
 obtain ⟨s,hs⟩ : ∃ s,s = (num n.n).t := ⟨_,rfl⟩
 rw [← hs] at C0 ⊢
 rw [hop]
 have HFA : Hid (Fr w (w.alloc (.cells #[.int .i64 1,.int .i64 n.n,.string n.s,.slice la n.l.length lc,.int .i64 n.a] 32))) := h_ ((Fr.refl w).alloc _)
 have HN := h_ (Nb.new w (.int .i64 1) (.int .i64 n.n) (.string n.s) (.slice la n.l.length lc) (.int .i64 n.a))
 obtain ⟨z0,z1,z2,z3,z4⟩ := HN.out.cells
 clear hl hop hs h1
 go_enter func83,ntmps83
 go_wp2_with fail
 refine (C0.out _).mono ?_
 rintro e w1 ⟨rfl,hf1⟩
 have HF1 := h_ (HFA.out.trans hf1)
 have HO := h_ ((own_oneS w1 s).low (B' := w.heap.size) HF1.out.size)
 have HF2 := h_ (HF1.out.alloc (.cells #[.string s] 9))
 clear hf1 z0 z1 z2 z3 z4
 go_wp2_with fail
 go_ret
 exact ⟨_,rfl,HO.out,HF2.out⟩
theorem r_str (n : Nd) (hop : n.op = 2) (h1 : n.s.size ≤ 2000000) : Rx 83 mk1 n (([(quo n.s).t] : List ByteArray)) := by
 intro w lv hl
 show Calls prog 83 #[ndV n lv] w _
 obtain ⟨la,lc,rfl,hlc,hlm,_⟩ := hl.form
 rw [ndV_eq]
 have C0 := h_ (fun W => RQuote_any n.s h1 W)
 obtain ⟨s,hs⟩ : ∃ s,s = (quo n.s).t := ⟨_,rfl⟩
 rw [← hs] at C0 ⊢
 rw [hop]
 have HFA : Hid (Fr w (w.alloc (.cells #[.int .i64 2,.int .i64 n.n,.string n.s,.slice la n.l.length lc,.int .i64 n.a] 32))) := h_ ((Fr.refl w).alloc _)
 have HN := h_ (Nb.new w (.int .i64 2) (.int .i64 n.n) (.string n.s) (.slice la n.l.length lc) (.int .i64 n.a))
 obtain ⟨z0,z1,z2,z3,z4⟩ := HN.out.cells
 clear hl hop hs h1
 go_enter func83,ntmps83
 go_wp2_with fail
 refine (C0.out _).mono ?_
 rintro e w1 ⟨rfl,hf1⟩
 have HF1 := h_ (HFA.out.trans hf1)
 have HO := h_ ((own_oneS w1 s).low (B' := w.heap.size) HF1.out.size)
 have HF2 := h_ (HF1.out.alloc (.cells #[.string s] 9))
 clear hf1 z0 z1 z2 z3 z4
 go_wp2_with fail
 go_ret
 exact ⟨_,rfl,HO.out,HF2.out⟩
theorem r_call_call (n x : Nd) (r : List Nd) (tk : Nd → List ByteArray) (A0 : List ByteArray) (hop : n.op = 7) (hnl : n.l = x :: r) (hx7 : x.op = 7) (h0 : Rx 83 mk1 x A0) (hd : ∀ y ∈ r,Rx 83 mk1 y (tk y)) (hsz : (A0 ++ ([(⟨#[40]⟩ : BA)] ++ joinT ⟨#[44]⟩ (r.map tk) ++ [(⟨#[41]⟩ : BA)])).length ≤ 1000000) : Rx 83 mk1 n (A0 ++ ([(⟨#[40]⟩ : BA)] ++ joinT ⟨#[44]⟩ (r.map tk) ++ [(⟨#[41]⟩ : BA)])) := by
 intro w lv hl
 show Calls prog 83 #[ndV n lv] w _
 obtain ⟨la,lc,rfl,hlc,hlm,_⟩ := hl.form
 rw [ndV_eq]
 have hsj : (joinT ⟨#[44]⟩ (r.map tk)).length ≤ 1000000 := by simp at hsz ⊢; omega
 obtain ⟨b,off,lvx,rfl,hnc,hlx,_⟩ := hl.at_ (i := 0) (t := x) (by rw [hnl]; rfl)
 obtain ⟨xa,xc,rfl,_,_,_⟩ := hlx.form
 have hlr := hl.drop_ 1 (by rw [hnl]; simp)
 rw [show n.l.drop 1 = r from by rw [hnl]; rfl,Nat.one_mul] at hlr
 have hll : n.l.length = r.length + 1 := by rw [hnl]; rfl
 rw [hll] at hlr hlc
 rw [hop,hll]
 have CX := h_ (fun W (h : Fr w W) => h0 W _ (hlx.fr h))
 rw [ndV_eq] at CX
 unfold mk1 at CX
 have HR0 : Hid (r.length = 0 → ∀ a c,c ≤ maxLen → (a = none → c = 0) → LN w (.slice a r.length c) r) := h_ (fun h a c h1 h2 => by
  obtain rfl : r = [] := List.length_eq_zero_iff.1 h
  exact LN.mk a c [] (fun _ => .slice none 0 0) (Nat.zero_le _) h1 h2 (fun hp => absurd hp (Nat.lt_irrefl 0)) (fun t ht => by simp at ht) (fun i t hi => by simp at hi))
 have CD := h_ (fun W a c (hrw : LN w (.slice a r.length c) r) (h : Fr w W) => rlisted_x r tk _ W (hrw.fr h) hd hsj)
 obtain ⟨J,hJ⟩ : ∃ J,J = joinT ⟨#[44]⟩ (r.map tk) := ⟨_,rfl⟩
 rw [← hJ] at CD hsz ⊢
 have HSZ := h_ hsz
 have hcap : (r.length + 1 : Nat) ≤ lc := by omega
 obtain ⟨rl,hrl⟩ : ∃ y,y = r.length := ⟨_,rfl⟩
 rw [show r.length + 1 - 1 = rl from by omega] at hlr
 have HLR := h_ hlr
 rw [← hrl] at CD HR0 hcap ⊢
 have q1 : IntKind.i64.wrap ((rl : Int) + 1) = (rl : Int) + 1 := by unfold maxLen at hlm; exact IntWalk.i64_in _ (by omega)
 have HLM := h_ hlm
 simp only [Nat.zero_mul,Nat.add_zero] at hnc
 have HNC0 := h_ hnc
 have HFA : Hid (Fr w (w.alloc (.cells #[.int .i64 7,.int .i64 n.n,.string n.s,.slice (some ⟨b,off,none⟩) (rl + 1) lc,.int .i64 n.a] 32))) := h_ ((Fr.refl w).alloc _)
 have HN := h_ (Nb.new w (.int .i64 7) (.int .i64 n.n) (.string n.s) (.slice (some ⟨b,off,none⟩) (rl + 1) lc) (.int .i64 n.a))
 obtain ⟨z0,z1,z2,z3,z4⟩ := HN.out.cells
 obtain ⟨y0,y1,y2,y3,y4⟩ := HNC0.out.fr HFA.out
 rw [hx7] at y0 CX
 clear hl hop hnl hlx hlr hll hrl hnc h0 hd hsz hsj hJ hlc hlm hx7
 go_enter func83,ntmps83
 go_wp2_with fail
 refine (CX.out _ HFA.out).mono ?_
 rintro e w2 ⟨r0,rfl,ho0,hf0⟩
 have HO0 := h_ (ho0.low (B' := w.heap.size) HFA.out.size)
 have HF2 := h_ (HFA.out.trans hf0)
 have d3 := hf0.cell z3
 clear hf0 ho0 z0 z1 z2 z3 z4 y0 y1 y2 y3 y4
 go_wp2_with fail
 all_goals
  refine (CD.out _ _ _ ?_ HF2.out).mono ?_
  ·first | exact HLR.out | exact HR0.out (by omega) _ _ (by have := HLM.out; omega) (by intro h9; first | cases h9 | omega)
  rintro e w3 ⟨r1,rfl,ho1,hf1⟩
  have HS1 := h_ (OS.sl ho1)
  have HO1 := h_ (HO0.out.fr hf1)
  have HF3 := h_ (HF2.out.trans hf1)
  clear hf1 ho1
  go_wp2_with fail
  refine (wrap_x ⟨#[40]⟩ ⟨#[41]⟩ r1 J _ HS1.out (by have := HSZ.out; simp at this; omega)).mono ?_
  rintro e w4 ⟨r2,rfl,ho2,hf2⟩
  have HS2 := h_ (OS.sl ho2)
  have HO2 := h_ (HO1.out.fr hf2)
  have HF4 := h_ (HF3.out.trans hf2)
  clear hf2 ho2
  go_wp2_with (with_reducible refine stop_append_s ?_)
  unfold StopS
  refine wpS_append (.tmp 64) (.tmp 69) rfl rfl _ _ A0 ([(⟨#[40]⟩ : BA)] ++ J ++ [(⟨#[41]⟩ : BA)]) (by rfl) (by rfl) HO2.out HS2.out HF4.out (by have := HSZ.out; simp at this ⊢; omega) fun v5 x5 ho5 hf5 hg5 => ?_
  obtain ⟨a5,d5,rfl⟩ := own_formS ho5
  obtain ⟨n5,hn5⟩ : ∃ k,k = (A0 ++ ([(⟨#[40]⟩ : BA)] ++ J ++ [(⟨#[41]⟩ : BA)])).length := ⟨_,rfl⟩
  rw [← hn5] at ho5 ⊢
  have HO5 := h_ ho5
  have HF5 := h_ hf5
  clear ho5 hf5 hg5 hn5
  go_wp2_with fail
  go_ret
  exact ⟨_,rfl,HO5.out,HF5.out⟩
theorem r_call_at (n x : Nd) (r : List Nd) (tk : Nd → List ByteArray) (A0 : List ByteArray) (hop : n.op = 7) (hnl : n.l = x :: r) (hx7 : ¬ x.op = 7) (h0 : Rx 158 (mkL 11) x A0) (hd : ∀ y ∈ r,Rx 83 mk1 y (tk y)) (hsz : (A0 ++ ([(⟨#[40]⟩ : BA)] ++ joinT ⟨#[44]⟩ (r.map tk) ++ [(⟨#[41]⟩ : BA)])).length ≤ 1000000) : Rx 83 mk1 n (A0 ++ ([(⟨#[40]⟩ : BA)] ++ joinT ⟨#[44]⟩ (r.map tk) ++ [(⟨#[41]⟩ : BA)])) := by
 intro w lv hl
 show Calls prog 83 #[ndV n lv] w _
 obtain ⟨la,lc,rfl,hlc,hlm,_⟩ := hl.form
 rw [ndV_eq]
 have hsj : (joinT ⟨#[44]⟩ (r.map tk)).length ≤ 1000000 := by simp at hsz ⊢; omega
 obtain ⟨b,off,lvx,rfl,hnc,hlx,_⟩ := hl.at_ (i := 0) (t := x) (by rw [hnl]; rfl)
 obtain ⟨xa,xc,rfl,_,_,_⟩ := hlx.form
 have hlr := hl.drop_ 1 (by rw [hnl]; simp)
 rw [show n.l.drop 1 = r from by rw [hnl]; rfl,Nat.one_mul] at hlr
 have hll : n.l.length = r.length + 1 := by rw [hnl]; rfl
 rw [hll] at hlr hlc
 rw [hop,hll]
 have CX := h_ (fun W (h : Fr w W) => h0 W _ (hlx.fr h))
 rw [ndV_eq] at CX
 unfold mkL at CX
 have HR0 : Hid (r.length = 0 → ∀ a c,c ≤ maxLen → (a = none → c = 0) → LN w (.slice a r.length c) r) := h_ (fun h a c h1 h2 => by
  obtain rfl : r = [] := List.length_eq_zero_iff.1 h
  exact LN.mk a c [] (fun _ => .slice none 0 0) (Nat.zero_le _) h1 h2 (fun hp => absurd hp (Nat.lt_irrefl 0)) (fun t ht => by simp at ht) (fun i t hi => by simp at hi))
 have CD := h_ (fun W a c (hrw : LN w (.slice a r.length c) r) (h : Fr w W) => rlisted_x r tk _ W (hrw.fr h) hd hsj)
 obtain ⟨J,hJ⟩ : ∃ J,J = joinT ⟨#[44]⟩ (r.map tk) := ⟨_,rfl⟩
 rw [← hJ] at CD hsz ⊢
 have HSZ := h_ hsz
 have hcap : (r.length + 1 : Nat) ≤ lc := by omega
 obtain ⟨rl,hrl⟩ : ∃ y,y = r.length := ⟨_,rfl⟩
 rw [show r.length + 1 - 1 = rl from by omega] at hlr
 have HLR := h_ hlr
 rw [← hrl] at CD HR0 hcap ⊢
 have q1 : IntKind.i64.wrap ((rl : Int) + 1) = (rl : Int) + 1 := by unfold maxLen at hlm; exact IntWalk.i64_in _ (by omega)
 have HLM := h_ hlm
 simp only [Nat.zero_mul,Nat.add_zero] at hnc
 have HNC0 := h_ hnc
 have HFA : Hid (Fr w (w.alloc (.cells #[.int .i64 7,.int .i64 n.n,.string n.s,.slice (some ⟨b,off,none⟩) (rl + 1) lc,.int .i64 n.a] 32))) := h_ ((Fr.refl w).alloc _)
 have HN := h_ (Nb.new w (.int .i64 7) (.int .i64 n.n) (.string n.s) (.slice (some ⟨b,off,none⟩) (rl + 1) lc) (.int .i64 n.a))
 obtain ⟨z0,z1,z2,z3,z4⟩ := HN.out.cells
 obtain ⟨y0,y1,y2,y3,y4⟩ := HNC0.out.fr HFA.out
 have hz7 : (x.op == 7) = false := by rw [beq_eq_false_iff_ne]; exact hx7
 clear hl hop hnl hlx hlr hll hrl hnc h0 hd hsz hsj hJ hlc hlm hx7
 go_enter func83,ntmps83
 go_wp2_with fail
 refine (CX.out _ HFA.out).mono ?_
 rintro e w2 ⟨r0,rfl,ho0,hf0⟩
 have HO0 := h_ (ho0.low (B' := w.heap.size) HFA.out.size)
 have HF2 := h_ (HFA.out.trans hf0)
 have d3 := hf0.cell z3
 clear hf0 ho0 z0 z1 z2 z3 z4 y0 y1 y2 y3 y4
 go_wp2_with fail
 all_goals
  refine (CD.out _ _ _ ?_ HF2.out).mono ?_
  ·first | exact HLR.out | exact HR0.out (by omega) _ _ (by have := HLM.out; omega) (by intro h9; first | cases h9 | omega)
  rintro e w3 ⟨r1,rfl,ho1,hf1⟩
  have HS1 := h_ (OS.sl ho1)
  have HO1 := h_ (HO0.out.fr hf1)
  have HF3 := h_ (HF2.out.trans hf1)
  clear hf1 ho1
  go_wp2_with fail
  refine (wrap_x ⟨#[40]⟩ ⟨#[41]⟩ r1 J _ HS1.out (by have := HSZ.out; simp at this; omega)).mono ?_
  rintro e w4 ⟨r2,rfl,ho2,hf2⟩
  have HS2 := h_ (OS.sl ho2)
  have HO2 := h_ (HO1.out.fr hf2)
  have HF4 := h_ (HF3.out.trans hf2)
  clear hf2 ho2
  go_wp2_with (with_reducible refine stop_append_s ?_)
  unfold StopS
  refine wpS_append (.tmp 64) (.tmp 69) rfl rfl _ _ A0 ([(⟨#[40]⟩ : BA)] ++ J ++ [(⟨#[41]⟩ : BA)]) (by rfl) (by rfl) HO2.out HS2.out HF4.out (by have := HSZ.out; simp at this ⊢; omega) fun v5 x5 ho5 hf5 hg5 => ?_
  obtain ⟨a5,d5,rfl⟩ := own_formS ho5
  obtain ⟨n5,hn5⟩ : ∃ k,k = (A0 ++ ([(⟨#[40]⟩ : BA)] ++ J ++ [(⟨#[41]⟩ : BA)])).length := ⟨_,rfl⟩
  rw [← hn5] at ho5 ⊢
  have HO5 := h_ ho5
  have HF5 := h_ hf5
  clear ho5 hf5 hg5 hn5
  go_wp2_with fail
  go_ret
  exact ⟨_,rfl,HO5.out,HF5.out⟩
theorem own_fourS (w : World) (s t u v : ByteArray) : OS (w.alloc (.cells #[.string s,.string t,.string u,.string v] 9)) w.heap.size (.slice (some ⟨w.heap.size,0,none⟩) 4 4) [s,t,u,v] :=
 ⟨rfl,.inr ⟨w.heap.size,4,#[.string s,.string t,.string u,.string v],rfl,Nat.le_refl _,by simp only [World.alloc,Array.getElem?_push_size],Nat.le_refl _,by unfold maxLen; omega,rfl,rfl⟩⟩
theorem r_label (n c0 : Nd) (A0 : List ByteArray) (hop : n.op = 50) (hnl : n.l = [c0]) (h0 : Rx 86 mk1 c0 A0) (hsz : (([[n.s,(⟨#[58]⟩ : BA)],A0] : List (List ByteArray)).flatten).length ≤ 1000000) : Rx 86 mk1 n (([[n.s,(⟨#[58]⟩ : BA)],A0] : List (List ByteArray)).flatten) := by
 intro w lv hl
 show Calls prog 86 #[ndV n lv] w _
 obtain ⟨la,lc,rfl,hlc,hlm,_⟩ := hl.form
 rw [ndV_eq]
 obtain ⟨b,off,lv0,rfl,hc0,hl0,_⟩ := hl.at_ (i := 0) (t := c0) (by rw [hnl]; rfl)
 obtain ⟨a0,k0,rfl,_,_,_⟩ := hl0.form
 simp only [Nat.zero_mul,Nat.add_zero] at hc0
 have HNC0 := h_ hc0
 rw [show n.l.length = 1 from by rw [hnl]; rfl] at hlc ⊢
 rw [hop]
 have C0 := h_ (fun W (h : Fr w W) => h0 W _ (hl0.fr h))
 rw [ndV_eq] at C0
 unfold mk1 at C0
 have HSZ := h_ hsz
 obtain ⟨w1,hw1⟩ : ∃ w1,w1 = w.alloc (.cells #[.int .i64 50,.int .i64 n.n,.string n.s,.slice (some ⟨b,off,none⟩) 1 lc,.int .i64 n.a] 32) := ⟨_,rfl⟩
 have HF1 : Hid (Fr w w1) := h_ (by rw [hw1]; exact (Fr.refl w).alloc _)
 have HNB : Hid (Nb w1 w.heap.size (.int .i64 50) (.int .i64 n.n) (.string n.s) (.slice (some ⟨b,off,none⟩) 1 lc) (.int .i64 n.a)) := h_ (by rw [hw1]; exact Nb.new w _ _ _ _ _)
 have HW1 := h_ hw1
 have HK : Hid (∀ W',Fr w1 W' → nQ w W' (.int .i64 50) (.int .i64 n.n) (.string n.s) (.slice (some ⟨b,off,none⟩) 1 lc) (dQ W' b off (off + 1) (off + 2) (off + 3) (off + 4) c0 a0 k0)) := h_ (fun W' h => by
  obtain ⟨q0,q1,q2,q3,q4⟩ := (HNB.out.fr h).cells
  obtain ⟨y00,y01,y02,y03,y04⟩ := HNC0.out.fr (HF1.out.trans h)
  exact ⟨q0,q1,q2,q3,y00,y01,y02,y03,y04⟩)
 have hq0 : Fr w1 w1.drew := (Fr.refl _).drew
 have hq1 : Fr w1 w1 := Fr.refl _
 clear hl hop hnl hsz hw1 hl0 hc0 h0 hlm
 obtain ⟨z0,z1,z2,z3,x0,x1,x2,x3,x4⟩ := HK.out w1 (Fr.refl _)
 rw [HW1.out] at z0
 clear z1 z2 z3 x0 x1 x2 x3 x4
 go_enter func86,ntmps86
 go_wp2_with fail
 rw [← HW1.out]
 clear z0
 go_region_held3 (fun W' => nQ w W' (.int .i64 50) (.int .i64 n.n) (.string n.s) (.slice (some ⟨b,off,none⟩) 1 lc) (dQ W' b off (off + 1) (off + 2) (off + 3) (off + 4) c0 a0 k0))
  (first | exact HK.out _ (by assumption) | exact HK.out _ (Fr.drew (Fr.alloc hq1 _)) | exact HK.out _ (Fr.alloc (by assumption) _) | exact HK.out _ (Fr.alloc (Fr.alloc (by assumption) _) _))
  ((first
  | (go_at_call 86; refine (C0.out _ ?_).mono ?_; with_reducible exact HF1.out.trans (Fr.drew (Fr.alloc hq1 _)); rintro e wx ⟨r0,rfl,ho0,hfx⟩; have hs0 := OS.sl ho0; obtain ⟨g0,m0,k_0,rfl⟩ := own_form5' ho0; have hsl := ((OS.sl (own_twoS w1 n.s (⟨#[58]⟩ : BA))).fr (Fr.drew (Fr.refl _))).fr hfx; have hqx := Fr.trans (Fr.drew (Fr.alloc hq1 _)) hfx)
  | (go_at_call 86; refine (C0.out _ ?_).mono ?_; with_reducible exact HF1.out.trans hq0; rintro e wx ⟨r0,rfl,ho0,hfx⟩; have hs0 := OS.sl ho0; obtain ⟨g0,m0,k_0,rfl⟩ := own_form5' ho0; have hqx := Fr.trans hq0 hfx)
  | (go_at_call 79; refine (words_2 _ _ [n.s,(⟨#[58]⟩ : BA)] A0 _ _ rfl hsl hs0 ?_).mono ?_; (have hz := HSZ.out; exact hz); rintro e wx ⟨r1,rfl,ho1,hfx⟩; have ho1 := ho1.low (B' := w1.heap.size) hqx.size; have hqx := Fr.trans (by assumption : Fr w1 _) hfx)
  | (go_at_call 79; refine (words_2 _ _ [n.s,(⟨#[58]⟩ : BA)] A0 _ (wx.alloc _) ?_ ?_ ?_ ?_).mono ?_; (rw [size_alloc']); (with_reducible exact OS.sl (own_twoS wx n.s (⟨#[58]⟩ : BA))); (with_reducible exact hs0.fr ((Fr.refl _).alloc _)); (have hz := HSZ.out; exact hz); rintro e wx ⟨r1,rfl,ho1,hfx⟩; have ho1 := ho1.low (B' := w1.heap.size) (hqx.alloc _).size; have hqx := Fr.trans (Fr.alloc (by assumption : Fr w1 _) _) hfx)))
 all_goals
  have hfin : Fr w wx := HF1.out.trans hqx
  have hlo := ho1.low (B' := w.heap.size) HF1.out.size
  go_wp2_with fail
  go_ret
  exact ⟨_,rfl,hlo,hfin⟩
theorem r_vec (n c0 : Nd) (A0 : List ByteArray) (hop : n.op = 55) (hnl : n.l = [c0]) (h0 : Rx 83 mk1 c0 A0) (hsz : (([[(⟨#[108,101,116]⟩ : BA),n.s,(⟨#[61]⟩ : BA),(⟨#[118,101,99]⟩ : BA)],A0] : List (List ByteArray)).flatten).length ≤ 1000000) : Rx 86 mk1 n (([[(⟨#[108,101,116]⟩ : BA),n.s,(⟨#[61]⟩ : BA),(⟨#[118,101,99]⟩ : BA)],A0] : List (List ByteArray)).flatten) := by
 intro w lv hl
 show Calls prog 86 #[ndV n lv] w _
 obtain ⟨la,lc,rfl,hlc,hlm,_⟩ := hl.form
 rw [ndV_eq]
 obtain ⟨b,off,lv0,rfl,hc0,hl0,_⟩ := hl.at_ (i := 0) (t := c0) (by rw [hnl]; rfl)
 obtain ⟨a0,k0,rfl,_,_,_⟩ := hl0.form
 simp only [Nat.zero_mul,Nat.add_zero] at hc0
 have HNC0 := h_ hc0
 rw [show n.l.length = 1 from by rw [hnl]; rfl] at hlc ⊢
 rw [hop]
 have C0 := h_ (fun W (h : Fr w W) => h0 W _ (hl0.fr h))
 rw [ndV_eq] at C0
 unfold mk1 at C0
 have HSZ := h_ hsz
 obtain ⟨w1,hw1⟩ : ∃ w1,w1 = w.alloc (.cells #[.int .i64 55,.int .i64 n.n,.string n.s,.slice (some ⟨b,off,none⟩) 1 lc,.int .i64 n.a] 32) := ⟨_,rfl⟩
 have HF1 : Hid (Fr w w1) := h_ (by rw [hw1]; exact (Fr.refl w).alloc _)
 have HNB : Hid (Nb w1 w.heap.size (.int .i64 55) (.int .i64 n.n) (.string n.s) (.slice (some ⟨b,off,none⟩) 1 lc) (.int .i64 n.a)) := h_ (by rw [hw1]; exact Nb.new w _ _ _ _ _)
 have HW1 := h_ hw1
 have HK : Hid (∀ W',Fr w1 W' → nQ w W' (.int .i64 55) (.int .i64 n.n) (.string n.s) (.slice (some ⟨b,off,none⟩) 1 lc) (dQ W' b off (off + 1) (off + 2) (off + 3) (off + 4) c0 a0 k0)) := h_ (fun W' h => by
  obtain ⟨q0,q1,q2,q3,q4⟩ := (HNB.out.fr h).cells
  obtain ⟨y00,y01,y02,y03,y04⟩ := HNC0.out.fr (HF1.out.trans h)
  exact ⟨q0,q1,q2,q3,y00,y01,y02,y03,y04⟩)
 have hq0 : Fr w1 w1.drew := (Fr.refl _).drew
 have hq1 : Fr w1 w1 := Fr.refl _
 clear hl hop hnl hsz hw1 hl0 hc0 h0 hlm
 obtain ⟨z0,z1,z2,z3,x0,x1,x2,x3,x4⟩ := HK.out w1 (Fr.refl _)
 rw [HW1.out] at z0
 clear z1 z2 z3 x0 x1 x2 x3 x4
 go_enter func86,ntmps86
 go_wp2_with fail
 rw [← HW1.out]
 clear z0
 go_region_held3 (fun W' => nQ w W' (.int .i64 55) (.int .i64 n.n) (.string n.s) (.slice (some ⟨b,off,none⟩) 1 lc) (dQ W' b off (off + 1) (off + 2) (off + 3) (off + 4) c0 a0 k0))
  (first | exact HK.out _ (by assumption) | exact HK.out _ (Fr.drew (Fr.alloc hq1 _)) | exact HK.out _ (Fr.alloc (by assumption) _) | exact HK.out _ (Fr.alloc (Fr.alloc (by assumption) _) _))
  ((first
  | (go_at_call 83; refine (C0.out _ ?_).mono ?_; with_reducible exact HF1.out.trans (Fr.drew (Fr.alloc hq1 _)); rintro e wx ⟨r0,rfl,ho0,hfx⟩; have hs0 := OS.sl ho0; obtain ⟨g0,m0,k_0,rfl⟩ := own_form5' ho0; have hsl := ((OS.sl (own_fourS w1 (⟨#[108,101,116]⟩ : BA) n.s (⟨#[61]⟩ : BA) (⟨#[118,101,99]⟩ : BA))).fr (Fr.drew (Fr.refl _))).fr hfx; have hqx := Fr.trans (Fr.drew (Fr.alloc hq1 _)) hfx)
  | (go_at_call 83; refine (C0.out _ ?_).mono ?_; with_reducible exact HF1.out.trans hq0; rintro e wx ⟨r0,rfl,ho0,hfx⟩; have hs0 := OS.sl ho0; obtain ⟨g0,m0,k_0,rfl⟩ := own_form5' ho0; have hqx := Fr.trans hq0 hfx)
  | (go_at_call 79; refine (words_2 _ _ [(⟨#[108,101,116]⟩ : BA),n.s,(⟨#[61]⟩ : BA),(⟨#[118,101,99]⟩ : BA)] A0 _ _ rfl hsl hs0 ?_).mono ?_; (have hz := HSZ.out; exact hz); rintro e wx ⟨r1,rfl,ho1,hfx⟩; have ho1 := ho1.low (B' := w1.heap.size) hqx.size; have hqx := Fr.trans (by assumption : Fr w1 _) hfx)
  | (go_at_call 79; refine (words_2 _ _ [(⟨#[108,101,116]⟩ : BA),n.s,(⟨#[61]⟩ : BA),(⟨#[118,101,99]⟩ : BA)] A0 _ (wx.alloc _) ?_ ?_ ?_ ?_).mono ?_; (rw [size_alloc']); (with_reducible exact OS.sl (own_fourS wx (⟨#[108,101,116]⟩ : BA) n.s (⟨#[61]⟩ : BA) (⟨#[118,101,99]⟩ : BA))); (with_reducible exact hs0.fr ((Fr.refl _).alloc _)); (have hz := HSZ.out; exact hz); rintro e wx ⟨r1,rfl,ho1,hfx⟩; have ho1 := ho1.low (B' := w1.heap.size) (hqx.alloc _).size; have hqx := Fr.trans (Fr.alloc (by assumption : Fr w1 _) _) hfx)))
 all_goals
  have hfin : Fr w wx := HF1.out.trans hqx
  have hlo := ho1.low (B' := w.heap.size) HF1.out.size
  go_wp2_with fail
  go_ret
  exact ⟨_,rfl,hlo,hfin⟩
theorem r_assign (n : Nd) (N : Nat) (tk : Nd → List ByteArray) (hop : n.op = 30) (hnN : n.n = N) (h1 : 1 ≤ N) (hN : n.l.length = N + N) (hN6 : N ≤ 1000) (hd : ∀ x ∈ n.l,Rx 83 mk1 x (tk x)) (hsz : ((joinT ⟨#[44]⟩ ((n.l.take N).map tk)) ++ [(⟨#[58,61]⟩ : BA)] ++ (joinT ⟨#[44]⟩ ((n.l.drop N).map tk))).length ≤ 1000000) : Rx 86 mk1 n ((joinT ⟨#[44]⟩ ((n.l.take N).map tk)) ++ [(⟨#[58,61]⟩ : BA)] ++ (joinT ⟨#[44]⟩ ((n.l.drop N).map tk))) := by
 have htl : (n.l.take N).length = N := by rw [List.length_take]; omega
 have hdl : (n.l.drop N).length = N := by rw [List.length_drop]; omega
 have hN0 : 0 < n.l.length := by omega
 have hN1 : N ≤ n.l.length := by omega
 have q1 : wrap64 (N : Int) = (N : Int) := IntWalk.wrap64_in _ (by omega)
 have q2 : (N : Int).toNat = N := Int.toNat_natCast N
 obtain ⟨K,hK⟩ : ∃ y,y = N + N := ⟨_,rfl⟩
 have q3 : K - N = N := by omega
 have q4 : N ≤ K := by omega
 intro w lv hl
 show Calls prog 86 #[ndV n lv] w _
 obtain ⟨la,lc,rfl,hlc,hlm,_⟩ := hl.form
 rw [ndV_eq]
 obtain ⟨x0,hx0⟩ : ∃ x,n.l[0]? = some x := ⟨_,List.getElem?_eq_getElem hN0⟩
 obtain ⟨b,off,lvx,rfl,_,_,_⟩ := hl.at_ hx0
 have hlt := hl.take_ N hN1
 have hlr := hl.drop_ N hN1
 rw [hN,← hK] at hlr hlc ⊢
 rw [hop,hnN]
 rw [q3] at hlr
 have hsA : (joinT ⟨#[44]⟩ ((n.l.take N).map tk)).length ≤ 1000000 := by simp only [List.flatten_cons,List.length_append] at hsz; omega
 have hsB : (joinT ⟨#[44]⟩ ((n.l.drop N).map tk)).length ≤ 1000000 := by simp only [List.flatten_cons,List.length_append] at hsz; omega
 have CT := h_ (fun W (h : Fr w W) => rlisted_x (n.l.take N) tk _ W (hlt.fr h) (fun x hx => hd x (List.mem_of_mem_take hx)) hsA)
 have CD := h_ (fun W (h : Fr w W) => rlisted_x (n.l.drop N) tk _ W (hlr.fr h) (fun x hx => hd x (List.mem_of_mem_drop hx)) hsB)
 obtain ⟨A,hA⟩ : ∃ A,A = (joinT ⟨#[44]⟩ ((n.l.take N).map tk)) := ⟨_,rfl⟩
 obtain ⟨B,hB⟩ : ∃ B,B = (joinT ⟨#[44]⟩ ((n.l.drop N).map tk)) := ⟨_,rfl⟩
 rw [← hA] at CT hsz ⊢
 rw [← hB] at CD hsz ⊢
 have HSZ := h_ hsz
 have q5 : N ≤ lc := by omega
 have q7 : ¬ N = lc := by omega
 have q8 : K ≤ lc := hlc
 obtain ⟨w1,hw1⟩ : ∃ w1,w1 = w.alloc (.cells #[.int .i64 30,.int .i64 N,.string n.s,.slice (some ⟨b,off,none⟩) K lc,.int .i64 n.a] 32) := ⟨_,rfl⟩
 have HF1 : Hid (Fr w w1) := h_ (by rw [hw1]; exact (Fr.refl w).alloc _)
 have HNB : Hid (Nb w1 w.heap.size (.int .i64 30) (.int .i64 N) (.string n.s) (.slice (some ⟨b,off,none⟩) K lc) (.int .i64 n.a)) := h_ (by rw [hw1]; exact Nb.new w _ _ _ _ _)
 have HW1 := h_ hw1
 have HK : Hid (∀ W',Fr w1 W' → W'.cell? ⟨w.heap.size,0,none⟩ = some (.int .i64 30) ∧ W'.cell? ⟨w.heap.size,1,none⟩ = some (.int .i64 N) ∧ W'.cell? ⟨w.heap.size,2,none⟩ = some (.string n.s) ∧ W'.cell? ⟨w.heap.size,3,none⟩ = some (.slice (some ⟨b,off,none⟩) K lc)) := h_ (fun W' h => by
  obtain ⟨q0,q1,q2,q3,q4⟩ := (HNB.out.fr h).cells
  exact ⟨q0,q1,q2,q3⟩)
 have hq0 : Fr w1 w1.drew := (Fr.refl _).drew
 have hq1 : Fr w1 w1 := Fr.refl _
 clear hl hop hnN h1 hN hN6 hd hsz htl hdl hN0 hN1 hK hx0 hlt hlr hlc hlm hsA hsB hA hB hw1
 obtain ⟨z0,z1,z2,z3⟩ := HK.out w1 (Fr.refl _)
 rw [HW1.out] at z0
 clear z1 z2 z3
 go_enter func86,ntmps86
 go_wp2_with fail
 rw [← HW1.out]
 clear z0
 go_region_held3 (fun W' => W'.cell? ⟨w.heap.size,0,none⟩ = some (.int .i64 30) ∧ W'.cell? ⟨w.heap.size,1,none⟩ = some (.int .i64 N) ∧ W'.cell? ⟨w.heap.size,2,none⟩ = some (.string n.s) ∧ W'.cell? ⟨w.heap.size,3,none⟩ = some (.slice (some ⟨b,off,none⟩) K lc))
  (first | exact HK.out _ (by assumption) | exact HK.out _ (Fr.alloc (by assumption) _))
  ((first
  | (go_at_call 153; with_reducible refine (CT.out _ ?_).mono ?_; exact HF1.out.trans (by assumption); rintro e wx ⟨r0,rfl,ho0,hfx⟩; have hs0 := OS.sl ho0; have hqx := Fr.trans (by assumption : Fr w1 _) hfx)
  | (go_at_call 153;  refine (CD.out _ ?_).mono ?_; exact HF1.out.trans (by assumption); rintro e wx ⟨r1,rfl,ho1,hfx⟩; have hs1 := OS.sl ho1; have hqx := Fr.trans (by assumption : Fr w1 _) hfx; have hs0 := hs0.fr hfx)
  | (go_at_call 159; with_reducible refine (joined_x r0 r1 A B (⟨#[58,61]⟩ : BA) _ hs0 hs1 ?_).mono ?_; (have hz := HSZ.out; simp at hz ⊢; omega); rintro e wx ⟨r2,rfl,ho2,hfx⟩; have hqx := Fr.trans (by assumption : Fr w1 _) hfx)))
 have hfin : Fr w wx := HF1.out.trans hqx
 have hlo := ho2.low (B' := w.heap.size) (Nat.le_trans HF1.out.size (by first | exact Fr.size (by assumption) | exact Below.size (by assumption)))
 go_wp2_with fail
 go_ret
 exact ⟨_,rfl,hlo,hfin⟩
theorem r_let (n : Nd) (N : Nat) (tk : Nd → List ByteArray) (hop : n.op = 54) (hnN : n.n = N) (h1 : 1 ≤ N) (hN : n.l.length = N + N) (hN6 : N ≤ 1000) (hd : ∀ x ∈ n.l,Rx 83 mk1 x (tk x)) (hsz : (([[(⟨#[108,101,116]⟩ : BA)],(joinT ⟨#[44]⟩ ((n.l.take N).map tk)),[(⟨#[61]⟩ : BA)],(joinT ⟨#[44]⟩ ((n.l.drop N).map tk))] : List (List ByteArray)).flatten).length ≤ 1000000) : Rx 86 mk1 n (([[(⟨#[108,101,116]⟩ : BA)],(joinT ⟨#[44]⟩ ((n.l.take N).map tk)),[(⟨#[61]⟩ : BA)],(joinT ⟨#[44]⟩ ((n.l.drop N).map tk))] : List (List ByteArray)).flatten) := by
 have htl : (n.l.take N).length = N := by rw [List.length_take]; omega
 have hdl : (n.l.drop N).length = N := by rw [List.length_drop]; omega
 have hN0 : 0 < n.l.length := by omega
 have hN1 : N ≤ n.l.length := by omega
 have q1 : wrap64 (N : Int) = (N : Int) := IntWalk.wrap64_in _ (by omega)
 have q2 : (N : Int).toNat = N := Int.toNat_natCast N
 obtain ⟨K,hK⟩ : ∃ y,y = N + N := ⟨_,rfl⟩
 have q3 : K - N = N := by omega
 have q4 : N ≤ K := by omega
 intro w lv hl
 show Calls prog 86 #[ndV n lv] w _
 obtain ⟨la,lc,rfl,hlc,hlm,_⟩ := hl.form
 rw [ndV_eq]
 obtain ⟨x0,hx0⟩ : ∃ x,n.l[0]? = some x := ⟨_,List.getElem?_eq_getElem hN0⟩
 obtain ⟨b,off,lvx,rfl,_,_,_⟩ := hl.at_ hx0
 have hlt := hl.take_ N hN1
 have hlr := hl.drop_ N hN1
 rw [hN,← hK] at hlr hlc ⊢
 rw [hop,hnN]
 rw [q3] at hlr
 have hsA : (joinT ⟨#[44]⟩ ((n.l.take N).map tk)).length ≤ 1000000 := by simp only [List.flatten_cons,List.length_append] at hsz; omega
 have hsB : (joinT ⟨#[44]⟩ ((n.l.drop N).map tk)).length ≤ 1000000 := by simp only [List.flatten_cons,List.length_append] at hsz; omega
 have CT := h_ (fun W (h : Fr w W) => rlisted_x (n.l.take N) tk _ W (hlt.fr h) (fun x hx => hd x (List.mem_of_mem_take hx)) hsA)
 have CD := h_ (fun W (h : Fr w W) => rlisted_x (n.l.drop N) tk _ W (hlr.fr h) (fun x hx => hd x (List.mem_of_mem_drop hx)) hsB)
 obtain ⟨A,hA⟩ : ∃ A,A = (joinT ⟨#[44]⟩ ((n.l.take N).map tk)) := ⟨_,rfl⟩
 obtain ⟨B,hB⟩ : ∃ B,B = (joinT ⟨#[44]⟩ ((n.l.drop N).map tk)) := ⟨_,rfl⟩
 rw [← hA] at CT hsz ⊢
 rw [← hB] at CD hsz ⊢
 have HSZ := h_ hsz
 have q5 : N ≤ lc := by omega
 have q7 : ¬ N = lc := by omega
 have q8 : K ≤ lc := hlc
 obtain ⟨w1,hw1⟩ : ∃ w1,w1 = w.alloc (.cells #[.int .i64 54,.int .i64 N,.string n.s,.slice (some ⟨b,off,none⟩) K lc,.int .i64 n.a] 32) := ⟨_,rfl⟩
 have HF1 : Hid (Fr w w1) := h_ (by rw [hw1]; exact (Fr.refl w).alloc _)
 have HNB : Hid (Nb w1 w.heap.size (.int .i64 54) (.int .i64 N) (.string n.s) (.slice (some ⟨b,off,none⟩) K lc) (.int .i64 n.a)) := h_ (by rw [hw1]; exact Nb.new w _ _ _ _ _)
 have HW1 := h_ hw1
 have HK : Hid (∀ W',Fr w1 W' → W'.cell? ⟨w.heap.size,0,none⟩ = some (.int .i64 54) ∧ W'.cell? ⟨w.heap.size,1,none⟩ = some (.int .i64 N) ∧ W'.cell? ⟨w.heap.size,2,none⟩ = some (.string n.s) ∧ W'.cell? ⟨w.heap.size,3,none⟩ = some (.slice (some ⟨b,off,none⟩) K lc)) := h_ (fun W' h => by
  obtain ⟨q0,q1,q2,q3,q4⟩ := (HNB.out.fr h).cells
  exact ⟨q0,q1,q2,q3⟩)
 have hq0 : Fr w1 w1.drew := (Fr.refl _).drew
 have hq1 : Fr w1 w1 := Fr.refl _
 clear hl hop hnN h1 hN hN6 hd hsz htl hdl hN0 hN1 hK hx0 hlt hlr hlc hlm hsA hsB hA hB hw1
 obtain ⟨z0,z1,z2,z3⟩ := HK.out w1 (Fr.refl _)
 rw [HW1.out] at z0
 clear z1 z2 z3
 go_enter func86,ntmps86
 go_wp2_with fail
 rw [← HW1.out]
 clear z0
 go_region_held3 (fun W' => W'.cell? ⟨w.heap.size,0,none⟩ = some (.int .i64 54) ∧ W'.cell? ⟨w.heap.size,1,none⟩ = some (.int .i64 N) ∧ W'.cell? ⟨w.heap.size,2,none⟩ = some (.string n.s) ∧ W'.cell? ⟨w.heap.size,3,none⟩ = some (.slice (some ⟨b,off,none⟩) K lc))
  (first | exact HK.out _ (by assumption) | exact HK.out _ (Fr.alloc (by assumption) _))
  ((first
  | (go_at_call 154; with_reducible refine (one_x (⟨#[108,101,116]⟩ : BA) _).mono ?_; rintro e wx ⟨r0,rfl,ho0,hfx⟩; have hs0 := OS.sl ho0; obtain ⟨g0,m0,k_0,rfl⟩ := own_form5' ho0; have hqx := Fr.trans (by assumption : Fr w1 _) hfx)
  | (go_at_call 153; with_reducible refine (CT.out _ ?_).mono ?_; exact HF1.out.trans (by assumption); rintro e wx ⟨r1,rfl,ho1,hfx⟩; have hs1 := OS.sl ho1; obtain ⟨g1,m1,k_1,rfl⟩ := own_form5' ho1; have hqx := Fr.trans (by assumption : Fr w1 _) hfx; have hs0 := hs0.fr hfx)
  | (go_at_call 154; with_reducible refine (one_x (⟨#[61]⟩ : BA) _).mono ?_; rintro e wx ⟨r2,rfl,ho2,hfx⟩; have hs2 := OS.sl ho2; obtain ⟨g2,m2,k_2,rfl⟩ := own_form5' ho2; have hqx := Fr.trans (by assumption : Fr w1 _) hfx; have hs0 := hs0.fr hfx; have hs1 := hs1.fr hfx)
  | (go_at_call 153;  refine (CD.out _ ?_).mono ?_; exact HF1.out.trans (by assumption); rintro e wx ⟨r3,rfl,ho3,hfx⟩; have hs3 := OS.sl ho3; obtain ⟨g3,m3,k_3,rfl⟩ := own_form5' ho3; have hqx := Fr.trans (by assumption : Fr w1 _) hfx; have hs0 := hs0.fr hfx; have hs1 := hs1.fr hfx; have hs2 := hs2.fr hfx)
  | (go_at_call 79; refine (words_4 (.slice g0 m0 k_0) (.slice g1 m1 k_1) (.slice g2 m2 k_2) (.slice g3 m3 k_3) [(⟨#[108,101,116]⟩ : BA)] A [(⟨#[61]⟩ : BA)] B _ _ rfl hs0 hs1 hs2 hs3 ?_).mono ?_; (have hz := HSZ.out; exact hz); rintro e wx ⟨r4,rfl,ho4,hfx⟩; have hqx := Fr.trans (by assumption : Fr w1 _) hfx)))
 have hfin : Fr w wx := HF1.out.trans hqx
 have hlo := ho4.low (B' := w.heap.size) (Nat.le_trans HF1.out.size (by first | exact Fr.size (by assumption) | exact Below.size (by assumption)))
 go_wp2_with fail
 go_ret
 exact ⟨_,rfl,hlo,hfin⟩
theorem r_block (m : Nd) (tk : Nd → List ByteArray) (hop : m.op = 52) (hd : ∀ x ∈ m.l,Rx 86 mk1 x (tk x)) (hlen : (joinT ⟨#[59]⟩ (m.l.map tk)).length ≤ 1000000) : Rx 86 mk1 m ([⟨#[123]⟩] ++ joinT ⟨#[59]⟩ (m.l.map tk) ++ [⟨#[125]⟩]) := by
 intro w lv hv
 show Calls prog 86 #[ndV m lv] w _
 obtain ⟨a,cap,rfl,hc,hm,_⟩ := hv.form
 rw [ndV_eq,hop]
 obtain ⟨l,hl⟩ : ∃ l,l = m.l := ⟨_,rfl⟩
 rw [← hl] at hv hd hlen hc ⊢
 obtain ⟨n,hn⟩ : ∃ n,n = l.length := ⟨_,rfl⟩
 have HN := h_ hn
 rw [← hn] at hc hv ⊢
 obtain ⟨wz,hwz⟩ : ∃ wz,wz = w.alloc (.cells #[.int .i64 52,.int .i64 m.n,.string m.s,.slice a n cap,.int .i64 m.a] 32) := ⟨_,rfl⟩
 have HFA : Hid (Fr w wz) := h_ (by rw [hwz]; exact (Fr.refl w).alloc _)
 have HNB : Hid (Nb wz w.heap.size (.int .i64 52) (.int .i64 m.n) (.string m.s) (.slice a n cap) (.int .i64 m.a)) := h_ (by rw [hwz]; exact Nb.new w _ _ _ _ _)
 have HWZ := h_ hwz
 have HV := h_ (hv.fr HFA.out)
 have HD := h_ hd
 have HLE := h_ hlen
 unfold maxLen at hm
 obtain ⟨z0,z1,z2,z3,z4⟩ := HNB.out.cells
 rw [hwz] at z0 z1 z2 z3 z4
 clear hn hv hd hlen hl hwz hop
 go_enter func86,ntmps86
 go_wp2_with fail
 rw [← HWZ.out]
 clear z0 z1 z2 z3 z4
 go_loopw [4,5] (fun o i wr => ∃ j : Nat,j ≤ n ∧ i = .int .i64 j ∧ OS wr wz.heap.size o (joinT ⟨#[59]⟩ ((l.map tk).take j)) ∧ Fr wz wr) (fun _ i _ => n - (intOf i).toNat)
 case atStart => exact ⟨0,Nat.zero_le _,rfl,World.ownsRow_nil _ _ _ _,Fr.refl _⟩
 case round =>
  obtain ⟨j,hj,rfl,hown,hfr⟩ := hrel
  obtain ⟨xs,hxs⟩ : ∃ xs,xs = joinT ⟨#[59]⟩ ((l.map tk).take j) := ⟨_,rfl⟩
  rw [← hxs] at hown
  have HXS := h_ hxs
  obtain ⟨ay,cy,rfl⟩ := own_formS hown
  have HO := h_ hown
  have HFW := h_ hfr
  obtain ⟨k0,k1,k2,k3,k4⟩ := (HNB.out.fr hfr).cells
  obtain ⟨ny,hny⟩ : ∃ k,k = xs.length := ⟨_,rfl⟩
  rw [← hny] at HO ⊢
  have HNY := h_ hny
  clear hown hxs hny
  by_cases hlt : j < n
  ·obtain ⟨t,ht⟩ : ∃ t,l[j]? = some t := ⟨_,List.getElem?_eq_getElem (by rw [← HN.out]; exact hlt)⟩
   have hlx : xs.length ≤ 1000000 := by rw [HXS.out]; exact Nat.le_trans (joinT_len_mono _ (l.map tk) (l.length - j) j (by rw [List.length_map]; have := HN.out; omega)) HLE.out
   obtain ⟨b,off,lv,rfl,hc5,hln,_⟩ := HV.out.at_ ht
   obtain ⟨x0,x1,x2,x3,x4⟩ := hc5.fr hfr
   obtain ⟨la,lc,rfl,_,_,_⟩ := hln.form
   have HL := h_ hln
   have HC5 := h_ hc5
   have HC : Hid (∀ W,Fr wz W → Calls prog 86 #[.agg #[.int .i64 t.op,.int .i64 t.n,.string t.s,.slice la t.l.length lc,.int .i64 t.a]] W fun e wz' => ∃ v,e = .returned v ∧ OS wz' W.heap.size v (tk t) ∧ Fr W wz') := h_ (fun W h => HD.out t (List.mem_of_getElem? ht) W _ (HL.out.fr h))
   have hj1 : (l.map tk)[j]? = some (tk t) := by rw [List.getElem?_map,ht]; rfl
   have hst := joinT_step2 ⟨#[59]⟩ (l.map tk) j (tk t) hj1
   obtain ⟨Y,hY⟩ : ∃ Y,Y = joinT ⟨#[59]⟩ ((l.map tk).take (j + 1)) := ⟨_,rfl⟩
   have HY := h_ hY
   have htl : (joinT ⟨#[59]⟩ ((l.map tk).take (j + 1))).length ≤ 1000000 := Nat.le_trans (joinT_len_mono _ (l.map tk) (l.length - (j + 1)) (j + 1) (by rw [List.length_map]; have := HN.out; omega)) HLE.out
   rw [← hY] at htl hst
   have HTL := h_ htl
   obtain ⟨ll,hll⟩ : ∃ x : Nat,x = t.l.length := ⟨_,rfl⟩
   rw [← hll] at x3 HC HC5
   clear hln ht hll hj1 htl hfr hc5 hY
   by_cases h0 : j = 0
   ·have HST : Hid (xs ++ tk t = Y) := h_ (by rw [if_pos h0,← HXS.out] at hst; exact hst)
    clear hst
    subst h0
    have z0 : decide ((0 : Int) < ((0 : Nat) : Int)) = false := rfl
    simp only [Nat.zero_mul,Nat.add_zero] at x0 x1 x2 x3 x4
    go_wp2_with fail
    refine (HC.out _ HFW.out).mono ?_
    rintro e w1 ⟨v1,rfl,ho1,hf1⟩
    have HS1 := h_ ho1.sl
    have HF1 := h_ hf1
    obtain ⟨a1,c1,rfl⟩ := own_formS ho1
    clear ho1 hf1
    go_wp2_with (with_reducible refine stop_append_s ?_)
    unfold StopS
    refine wpS_append (.tmp 299) (.tmp 305) rfl rfl _ _ xs (tk t) (by rfl) (by rfl) (HO.out.fr HF1.out) HS1.out (HFW.out.trans HF1.out) (by have h := HTL.out; rw [← HST.out,List.length_append] at h; omega) fun v2 w2 ho2 hf2 hg2 => ?_
    have HO2 : Hid (OS w2 wz.heap.size v2 Y) := h_ (by rw [← HST.out]; exact ho2)
    have HF2 := h_ hf2
    clear ho2 hf2 hg2
    go_wp2_with fail
    go_roundw
    case rel => exact ⟨1,by omega,by go_num,by have h := HY.out; rw [Nat.zero_add] at h; rw [← h]; exact HO2.out,HF2.out⟩
    case measure => simp [intOf]; omega
   ·have HST : Hid ((xs ++ [⟨#[59]⟩]) ++ tk t = Y) := h_ (by rw [if_neg h0,← HXS.out] at hst; exact hst)
    clear hst
    have z0 : decide ((0 : Int) < (j : Int)) = true := decide_eq_true (by omega)
    go_wp2_with (with_reducible refine stop_append_s ?_)
    unfold StopS
    refine wpS_append (.tmp 296) (.tmp 297) rfl rfl _ _ xs [⟨#[59]⟩] (by rfl) (by rfl) (HO.out.fr ((Fr.refl wr).alloc _)) (OS.sl (own_oneS wr ⟨#[59]⟩)) (HFW.out.alloc _) (by simp; omega) fun v0 w0 ho0 hf0 hg0 => ?_
    obtain ⟨a0,c0,rfl⟩ := own_formS ho0
    have HO0 := h_ ho0
    have HF0 := h_ hf0
    obtain ⟨m0,hm0⟩ : ∃ k,k = (xs ++ [(⟨#[59]⟩ : BA)]).length := ⟨_,rfl⟩
    have HM0 := h_ hm0
    rw [← hm0] at HO0 ⊢
    obtain ⟨q0,q1,q2,q3,q4⟩ := HC5.out.fr hf0
    obtain ⟨p0,p1,p2,p3,p4⟩ := (HNB.out.fr hf0).cells
    clear ho0 hf0 hg0 hm0 x0 x1 x2 x3 x4
    go_wp2_with fail
    refine (HC.out _ HF0.out).mono ?_
    rintro e w1 ⟨v1,rfl,ho1,hf1⟩
    have HS1 := h_ ho1.sl
    have HF1 := h_ hf1
    obtain ⟨a1,c1,rfl⟩ := own_formS ho1
    clear ho1 hf1
    go_wp2_with (with_reducible refine stop_append_s ?_)
    unfold StopS
    refine wpS_append (.tmp 299) (.tmp 305) rfl rfl _ _ (xs ++ [⟨#[59]⟩]) (tk t) (by rfl) (by rfl) (HO0.out.fr HF1.out) HS1.out (HF0.out.trans HF1.out) (by have h := HTL.out; rw [← HST.out,List.length_append] at h; omega) fun v2 w2 ho2 hf2 hg2 => ?_
    have HO2 : Hid (OS w2 wz.heap.size v2 Y) := h_ (by rw [← HST.out]; exact ho2)
    have HF2 := h_ hf2
    clear ho2 hf2 hg2
    go_wp2_with fail
    go_roundw
    case rel => exact ⟨j + 1,by omega,by go_num,by rw [← HY.out]; exact HO2.out,HF2.out⟩
    case measure => simp [intOf]; omega
  ·obtain rfl : j = n := by omega
   have HRT : Hid (xs = joinT ⟨#[59]⟩ (l.map tk)) := h_ (by rw [HXS.out,List.take_of_length_le (by rw [List.length_map,← HN.out]; exact Nat.le_refl _)])
   have HXL : Hid (xs.length ≤ 2000000) := h_ (by rw [HRT.out]; have := HLE.out; omega)
   go_wp2_with fail
   refine (wrap_x ⟨#[123]⟩ ⟨#[125]⟩ _ xs _ (OS.sl HO.out) HXL.out).mono ?_
   rintro e w3 ⟨r3,rfl,ho3,hf3⟩
   have HO3 := h_ (ho3.low (B' := w.heap.size) (Nat.le_trans HFA.out.size HFW.out.size))
   have HF3 := h_ ((HFA.out.trans HFW.out).trans hf3)
   clear ho3 hf3
   go_wp2_with fail
   go_ret
   rw [← HRT.out]
   exact ⟨_,rfl,HO3.out,HF3.out⟩
theorem r_for0 (n c0 c1 c2 : Nd) (A0 A1 A2 : List ByteArray) (hop : n.op = 40) (hn1 : n.n = 0) (hnl : n.l = [c0,c1,c2]) (h0 : Rx 83 mk1 c0 A0) (h1 : Rx 83 mk1 c1 A1) (h2 : Rx 86 mk1 c2 A2) (hsz : (([([[(⟨#[102,111,114]⟩ : BA)],[n.s],[(⟨#[61]⟩ : BA)],A0,[(⟨#[116,111]⟩ : BA)],A1] : List (List ByteArray)).flatten,[(⟨#[100,111]⟩ : BA)],A2] : List (List ByteArray)).flatten).length ≤ 1000000) : Rx 86 mk1 n (([([[(⟨#[102,111,114]⟩ : BA)],[n.s],[(⟨#[61]⟩ : BA)],A0,[(⟨#[116,111]⟩ : BA)],A1] : List (List ByteArray)).flatten,[(⟨#[100,111]⟩ : BA)],A2] : List (List ByteArray)).flatten) := by
 intro w lv hl
 show Calls prog 86 #[ndV n lv] w _
 obtain ⟨la,lc,rfl,hlc,hlm,_⟩ := hl.form
 rw [ndV_eq]
 obtain ⟨b,off,lv0,rfl,hc0,hl0,_⟩ := hl.at_ (i := 0) (t := c0) (by rw [hnl]; rfl)
 obtain ⟨a0,k0,rfl,_,_,_⟩ := hl0.form
 obtain ⟨b1,off1,lv1,e1,hc1,hl1,_⟩ := hl.at_ (i := 1) (t := c1) (by rw [hnl]; rfl)
 obtain ⟨rfl,rfl⟩ : b = b1 ∧ off = off1 := by simpa using e1
 obtain ⟨a1,k1,rfl,_,_,_⟩ := hl1.form
 obtain ⟨b2,off2,lv2,e2,hc2,hl2,_⟩ := hl.at_ (i := 2) (t := c2) (by rw [hnl]; rfl)
 obtain ⟨rfl,rfl⟩ : b = b2 ∧ off = off2 := by simpa using e2
 obtain ⟨a2,k2,rfl,_,_,_⟩ := hl2.form
 simp only [Nat.zero_mul,Nat.add_zero] at hc0
 have HNC0 := h_ hc0
 rw [Nat.one_mul] at hc1
 have HNC1 := h_ hc1
 rw [show 2 * 5 = 10 from rfl] at hc2
 have HNC2 := h_ hc2
 rw [show n.l.length = 3 from by rw [hnl]; rfl] at hlc ⊢
 rw [hop,hn1]
 have C0 := h_ (fun W (h : Fr w W) => h0 W _ (hl0.fr h))
 rw [ndV_eq] at C0
 unfold mk1 at C0
 have C1 := h_ (fun W (h : Fr w W) => h1 W _ (hl1.fr h))
 rw [ndV_eq] at C1
 unfold mk1 at C1
 have C2 := h_ (fun W (h : Fr w W) => h2 W _ (hl2.fr h))
 rw [ndV_eq] at C2
 unfold mk1 at C2
 obtain ⟨F1,hF1⟩ : ∃ F,F = ([[(⟨#[102,111,114]⟩ : BA)],[n.s],[(⟨#[61]⟩ : BA)],A0,[(⟨#[116,111]⟩ : BA)],A1] : List (List ByteArray)).flatten := ⟨_,rfl⟩
 rw [← hF1] at hsz ⊢
 have HE1 := h_ hF1
 have HSZ := h_ hsz
 have HZ1 : Hid (F1.length ≤ 1000000) := h_ (by simp only [List.flatten_cons,List.length_append] at hsz; omega)
 obtain ⟨w1,hw1⟩ : ∃ w1,w1 = w.alloc (.cells #[.int .i64 40,.int .i64 0,.string n.s,.slice (some ⟨b,off,none⟩) 3 lc,.int .i64 n.a] 32) := ⟨_,rfl⟩
 have HF1 : Hid (Fr w w1) := h_ (by rw [hw1]; exact (Fr.refl w).alloc _)
 have HNB : Hid (Nb w1 w.heap.size (.int .i64 40) (.int .i64 0) (.string n.s) (.slice (some ⟨b,off,none⟩) 3 lc) (.int .i64 n.a)) := h_ (by rw [hw1]; exact Nb.new w _ _ _ _ _)
 have HW1 := h_ hw1
 have HK : Hid (∀ W',Fr w1 W' → nQ w W' (.int .i64 40) (.int .i64 0) (.string n.s) (.slice (some ⟨b,off,none⟩) 3 lc) (cQ W' b off (off + 1) (off + 2) (off + 3) (off + 4) c0 a0 k0 (cQ W' b (off + 5) (off + 6) (off + 7) (off + 8) (off + 9) c1 a1 k1 (dQ W' b (off + 10) (off + 11) (off + 12) (off + 13) (off + 14) c2 a2 k2)))) := h_ (fun W' h => by
  obtain ⟨q0,q1,q2,q3,q4⟩ := (HNB.out.fr h).cells
  obtain ⟨y00,y01,y02,y03,y04⟩ := HNC0.out.fr (HF1.out.trans h)
  obtain ⟨y10,y11,y12,y13,y14⟩ := HNC1.out.fr (HF1.out.trans h)
  obtain ⟨y20,y21,y22,y23,y24⟩ := HNC2.out.fr (HF1.out.trans h)
  exact ⟨q0,q1,q2,q3,y00,y01,y02,y03,y04,y10,y11,y12,y13,y14,y20,y21,y22,y23,y24⟩)
 have hq0 : Fr w1 w1.drew := (Fr.refl _).drew
 have hq1 : Fr w1 w1 := Fr.refl _
 clear hl hop hn1 hnl hsz hw1 hF1 hl0 hc0 h0 hl1 hc1 h1 e1 hl2 hc2 h2 e2 hlm
 obtain ⟨z0,z1,z2,z3,x0,x1,x2,x3,x4,x5,x6,x7,x8,x9,x10,x11,x12,x13,x14⟩ := HK.out w1 (Fr.refl _)
 rw [HW1.out] at z0
 clear z1 z2 z3 x0 x1 x2 x3 x4 x5 x6 x7 x8 x9 x10 x11 x12 x13 x14
 have q9 : IntKind.i64.wrap (((3 : Nat) : Int) - 1) = 2 := by decide
 have q10 : IntKind.i64.wrap (3 - 1 : Int) = 2 := by decide
 have q11 : IntKind.i64.wrap (2 : Int) = 2 := by decide
 have q12 : (2 : Int).toNat = 2 := rfl
 go_enter func86,ntmps86
 go_wp2_with fail
 rw [← HW1.out]
 clear z0
 go_region_held3 (fun W' => nQ w W' (.int .i64 40) (.int .i64 0) (.string n.s) (.slice (some ⟨b,off,none⟩) 3 lc) (cQ W' b off (off + 1) (off + 2) (off + 3) (off + 4) c0 a0 k0 (cQ W' b (off + 5) (off + 6) (off + 7) (off + 8) (off + 9) c1 a1 k1 (dQ W' b (off + 10) (off + 11) (off + 12) (off + 13) (off + 14) c2 a2 k2))))
  (first | exact HK.out _ (by assumption) | exact HK.out _ (Fr.alloc (by assumption) _))
  ((first
  | (go_at_call 154; with_reducible refine (one_x (⟨#[102,111,114]⟩ : BA) _).mono ?_; rintro e wx ⟨r0,rfl,ho0,hfx⟩; have hs0 := OS.sl ho0; obtain ⟨g0,m0,k_0,rfl⟩ := own_form5' ho0; have hqx := Fr.trans (by assumption : Fr w1 _) hfx)
  | (go_at_call 154; with_reducible refine (one_x n.s _).mono ?_; rintro e wx ⟨r1,rfl,ho1,hfx⟩; have hs1 := OS.sl ho1; obtain ⟨g1,m1,k_1,rfl⟩ := own_form5' ho1; have hqx := Fr.trans (by assumption : Fr w1 _) hfx; have hs0 := hs0.fr hfx)
  | (go_at_call 154; with_reducible refine (one_x (⟨#[61]⟩ : BA) _).mono ?_; rintro e wx ⟨r2,rfl,ho2,hfx⟩; have hs2 := OS.sl ho2; obtain ⟨g2,m2,k_2,rfl⟩ := own_form5' ho2; have hqx := Fr.trans (by assumption : Fr w1 _) hfx; have hs0 := hs0.fr hfx; have hs1 := hs1.fr hfx)
  | (go_at_call 83; with_reducible refine (C0.out _ ?_).mono ?_; exact HF1.out.trans (by assumption); rintro e wx ⟨r3,rfl,ho3,hfx⟩; have hs3 := OS.sl ho3; obtain ⟨g3,m3,k_3,rfl⟩ := own_form5' ho3; have hqx := Fr.trans (by assumption : Fr w1 _) hfx; have hs0 := hs0.fr hfx; have hs1 := hs1.fr hfx; have hs2 := hs2.fr hfx)
  | (go_at_call 154; with_reducible refine (one_x (⟨#[116,111]⟩ : BA) _).mono ?_; rintro e wx ⟨r4,rfl,ho4,hfx⟩; have hs4 := OS.sl ho4; obtain ⟨g4,m4,k_4,rfl⟩ := own_form5' ho4; have hqx := Fr.trans (by assumption : Fr w1 _) hfx; have hs0 := hs0.fr hfx; have hs1 := hs1.fr hfx; have hs2 := hs2.fr hfx; have hs3 := hs3.fr hfx)
  | (go_at_call 83; with_reducible refine (C1.out _ ?_).mono ?_; exact HF1.out.trans (by assumption); rintro e wx ⟨r5,rfl,ho5,hfx⟩; have hs5 := OS.sl ho5; obtain ⟨g5,m5,k_5,rfl⟩ := own_form5' ho5; have hqx := Fr.trans (by assumption : Fr w1 _) hfx; have hs0 := hs0.fr hfx; have hs1 := hs1.fr hfx; have hs2 := hs2.fr hfx; have hs3 := hs3.fr hfx; have hs4 := hs4.fr hfx)
  | (go_at_call 79; refine (words_6 (.slice g0 m0 k_0) (.slice g1 m1 k_1) (.slice g2 m2 k_2) (.slice g3 m3 k_3) (.slice g4 m4 k_4) (.slice g5 m5 k_5) [(⟨#[102,111,114]⟩ : BA)] [n.s] [(⟨#[61]⟩ : BA)] A0 [(⟨#[116,111]⟩ : BA)] A1 _ _ rfl hs0 hs1 hs2 hs3 hs4 hs5 ?_).mono ?_; (exact (by have hz := HZ1.out; rw [HE1.out] at hz; exact hz)); rintro e wx ⟨r6,rfl,ho6,hfx⟩; have hqx := Fr.trans (by assumption : Fr w1 _) hfx)))
 rw [← HE1.out] at ho6
 have hs6 := OS.sl ho6
 obtain ⟨g6,m6,k_6,rfl⟩ := own_form5' ho6
 have HQ6 := h_ hqx
 have HS6 := h_ hs6
 obtain ⟨z0,z1,z2,z3,x0,x1,x2,x3,x4,x5,x6,x7,x8,x9,x10,x11,x12,x13,x14⟩ := HK.out _ hqx
 have hs6 := HS6.out.fr ((Fr.refl _).drew)
 have hqd := HQ6.out.drew
 clear z0 z2 z3 x0 x1 x2 x3 x4 x5 x6 x7 x8 x9 x10 x11 x12 x13 x14 ho0 ho1 ho2 ho3 ho4 ho5 ho6 hs0 hs1 hs2 hs3 hs4 hs5 hq0 hq1 hfx
 go_wp2_with fail
 clear z1
 go_region_held3 (fun W' => nQ w W' (.int .i64 40) (.int .i64 0) (.string n.s) (.slice (some ⟨b,off,none⟩) 3 lc) (cQ W' b off (off + 1) (off + 2) (off + 3) (off + 4) c0 a0 k0 (cQ W' b (off + 5) (off + 6) (off + 7) (off + 8) (off + 9) c1 a1 k1 (dQ W' b (off + 10) (off + 11) (off + 12) (off + 13) (off + 14) c2 a2 k2))))
  (first | exact HK.out _ (by assumption) | exact HK.out _ (Fr.alloc (by assumption) _))
  ((first
  | (go_at_call 154; with_reducible refine (one_x (⟨#[100,111]⟩ : BA) _).mono ?_; rintro e wx ⟨r10,rfl,ho10,hfx⟩; have hs10 := OS.sl ho10; obtain ⟨g10,m10,k_10,rfl⟩ := own_form5' ho10; have hqx := Fr.trans (by assumption : Fr w1 _) hfx; have hs6 := hs6.fr hfx)
  | (go_at_call 86; with_reducible refine (C2.out _ ?_).mono ?_; exact HF1.out.trans (by assumption); rintro e wx ⟨r11,rfl,ho11,hfx⟩; have hs11 := OS.sl ho11; obtain ⟨g11,m11,k_11,rfl⟩ := own_form5' ho11; have hqx := Fr.trans (by assumption : Fr w1 _) hfx; have hs6 := hs6.fr hfx; have hs10 := hs10.fr hfx)
  | (go_at_call 79; refine (words_3 (.slice g6 m6 k_6) (.slice g10 m10 k_10) (.slice g11 m11 k_11) F1 [(⟨#[100,111]⟩ : BA)] A2 _ _ rfl hs6 hs10 hs11 ?_).mono ?_; (exact HSZ.out); rintro e wx ⟨r12,rfl,ho12,hfx⟩; have hqx := Fr.trans (by assumption : Fr w1 _) hfx)))
 all_goals
  have hfin : Fr w wx := HF1.out.trans hqx
  have hlo := ho12.low (B' := w.heap.size) (Nat.le_trans HF1.out.size (by first | exact Fr.size (by assumption) | exact Below.size (by assumption)))
  go_wp2_with fail
  go_ret
  exact ⟨_,rfl,hlo,hfin⟩
theorem r_for1 (n c0 c1 c2 c3 : Nd) (A0 A1 A2 A3 : List ByteArray) (hop : n.op = 40) (hn1 : n.n = 1) (hnl : n.l = [c0,c1,c2,c3]) (h0 : Rx 83 mk1 c0 A0) (h1 : Rx 83 mk1 c1 A1) (h2 : Rx 83 mk1 c2 A2) (h3 : Rx 86 mk1 c3 A3) (hsz : (([([([[(⟨#[102,111,114]⟩ : BA)],[n.s],[(⟨#[61]⟩ : BA)],A0,[(⟨#[116,111]⟩ : BA)],A1] : List (List ByteArray)).flatten,[(⟨#[98,121]⟩ : BA)],A2] : List (List ByteArray)).flatten,[(⟨#[100,111]⟩ : BA)],A3] : List (List ByteArray)).flatten).length ≤ 1000000) : Rx 86 mk1 n (([([([[(⟨#[102,111,114]⟩ : BA)],[n.s],[(⟨#[61]⟩ : BA)],A0,[(⟨#[116,111]⟩ : BA)],A1] : List (List ByteArray)).flatten,[(⟨#[98,121]⟩ : BA)],A2] : List (List ByteArray)).flatten,[(⟨#[100,111]⟩ : BA)],A3] : List (List ByteArray)).flatten) := by
 intro w lv hl
 show Calls prog 86 #[ndV n lv] w _
 obtain ⟨la,lc,rfl,hlc,hlm,_⟩ := hl.form
 rw [ndV_eq]
 obtain ⟨b,off,lv0,rfl,hc0,hl0,_⟩ := hl.at_ (i := 0) (t := c0) (by rw [hnl]; rfl)
 obtain ⟨a0,k0,rfl,_,_,_⟩ := hl0.form
 obtain ⟨b1,off1,lv1,e1,hc1,hl1,_⟩ := hl.at_ (i := 1) (t := c1) (by rw [hnl]; rfl)
 obtain ⟨rfl,rfl⟩ : b = b1 ∧ off = off1 := by simpa using e1
 obtain ⟨a1,k1,rfl,_,_,_⟩ := hl1.form
 obtain ⟨b2,off2,lv2,e2,hc2,hl2,_⟩ := hl.at_ (i := 2) (t := c2) (by rw [hnl]; rfl)
 obtain ⟨rfl,rfl⟩ : b = b2 ∧ off = off2 := by simpa using e2
 obtain ⟨a2,k2,rfl,_,_,_⟩ := hl2.form
 obtain ⟨b3,off3,lv3,e3,hc3,hl3,_⟩ := hl.at_ (i := 3) (t := c3) (by rw [hnl]; rfl)
 obtain ⟨rfl,rfl⟩ : b = b3 ∧ off = off3 := by simpa using e3
 obtain ⟨a3,k3,rfl,_,_,_⟩ := hl3.form
 simp only [Nat.zero_mul,Nat.add_zero] at hc0
 have HNC0 := h_ hc0
 rw [Nat.one_mul] at hc1
 have HNC1 := h_ hc1
 rw [show 2 * 5 = 10 from rfl] at hc2
 have HNC2 := h_ hc2
 rw [show 3 * 5 = 15 from rfl] at hc3
 have HNC3 := h_ hc3
 rw [show n.l.length = 4 from by rw [hnl]; rfl] at hlc ⊢
 rw [hop,hn1]
 have C0 := h_ (fun W (h : Fr w W) => h0 W _ (hl0.fr h))
 rw [ndV_eq] at C0
 unfold mk1 at C0
 have C1 := h_ (fun W (h : Fr w W) => h1 W _ (hl1.fr h))
 rw [ndV_eq] at C1
 unfold mk1 at C1
 have C2 := h_ (fun W (h : Fr w W) => h2 W _ (hl2.fr h))
 rw [ndV_eq] at C2
 unfold mk1 at C2
 have C3 := h_ (fun W (h : Fr w W) => h3 W _ (hl3.fr h))
 rw [ndV_eq] at C3
 unfold mk1 at C3
 obtain ⟨F1,hF1⟩ : ∃ F,F = ([[(⟨#[102,111,114]⟩ : BA)],[n.s],[(⟨#[61]⟩ : BA)],A0,[(⟨#[116,111]⟩ : BA)],A1] : List (List ByteArray)).flatten := ⟨_,rfl⟩
 rw [← hF1] at hsz ⊢
 have HE1 := h_ hF1
 obtain ⟨F2,hF2⟩ : ∃ F,F = ([F1,[(⟨#[98,121]⟩ : BA)],A2] : List (List ByteArray)).flatten := ⟨_,rfl⟩
 rw [← hF2] at hsz ⊢
 have HE2 := h_ hF2
 have HSZ := h_ hsz
 have HZ2 : Hid (F2.length ≤ 1000000) := h_ (by simp only [List.flatten_cons,List.length_append] at hsz; omega)
 have HZ1 : Hid (F1.length ≤ 1000000) := h_ (by have h := HZ2.out; rw [hF2] at h; simp only [List.flatten_cons,List.length_append] at h; omega)
 obtain ⟨w1,hw1⟩ : ∃ w1,w1 = w.alloc (.cells #[.int .i64 40,.int .i64 1,.string n.s,.slice (some ⟨b,off,none⟩) 4 lc,.int .i64 n.a] 32) := ⟨_,rfl⟩
 have HF1 : Hid (Fr w w1) := h_ (by rw [hw1]; exact (Fr.refl w).alloc _)
 have HNB : Hid (Nb w1 w.heap.size (.int .i64 40) (.int .i64 1) (.string n.s) (.slice (some ⟨b,off,none⟩) 4 lc) (.int .i64 n.a)) := h_ (by rw [hw1]; exact Nb.new w _ _ _ _ _)
 have HW1 := h_ hw1
 have HK : Hid (∀ W',Fr w1 W' → nQ w W' (.int .i64 40) (.int .i64 1) (.string n.s) (.slice (some ⟨b,off,none⟩) 4 lc) (cQ W' b off (off + 1) (off + 2) (off + 3) (off + 4) c0 a0 k0 (cQ W' b (off + 5) (off + 6) (off + 7) (off + 8) (off + 9) c1 a1 k1 (cQ W' b (off + 10) (off + 11) (off + 12) (off + 13) (off + 14) c2 a2 k2 (dQ W' b (off + 15) (off + 16) (off + 17) (off + 18) (off + 19) c3 a3 k3))))) := h_ (fun W' h => by
  obtain ⟨q0,q1,q2,q3,q4⟩ := (HNB.out.fr h).cells
  obtain ⟨y00,y01,y02,y03,y04⟩ := HNC0.out.fr (HF1.out.trans h)
  obtain ⟨y10,y11,y12,y13,y14⟩ := HNC1.out.fr (HF1.out.trans h)
  obtain ⟨y20,y21,y22,y23,y24⟩ := HNC2.out.fr (HF1.out.trans h)
  obtain ⟨y30,y31,y32,y33,y34⟩ := HNC3.out.fr (HF1.out.trans h)
  exact ⟨q0,q1,q2,q3,y00,y01,y02,y03,y04,y10,y11,y12,y13,y14,y20,y21,y22,y23,y24,y30,y31,y32,y33,y34⟩)
 have hq0 : Fr w1 w1.drew := (Fr.refl _).drew
 have hq1 : Fr w1 w1 := Fr.refl _
 clear hl hop hn1 hnl hsz hw1 hF1 hF2 hl0 hc0 h0 hl1 hc1 h1 e1 hl2 hc2 h2 e2 hl3 hc3 h3 e3 hlm
 obtain ⟨z0,z1,z2,z3,x0,x1,x2,x3,x4,x5,x6,x7,x8,x9,x10,x11,x12,x13,x14,x15,x16,x17,x18,x19⟩ := HK.out w1 (Fr.refl _)
 rw [HW1.out] at z0
 clear z1 z2 z3 x0 x1 x2 x3 x4 x5 x6 x7 x8 x9 x10 x11 x12 x13 x14 x15 x16 x17 x18 x19
 have q9 : IntKind.i64.wrap (((4 : Nat) : Int) - 1) = 3 := by decide
 have q10 : IntKind.i64.wrap (4 - 1 : Int) = 3 := by decide
 have q11 : IntKind.i64.wrap (3 : Int) = 3 := by decide
 have q12 : (3 : Int).toNat = 3 := rfl
 go_enter func86,ntmps86
 go_wp2_with fail
 rw [← HW1.out]
 clear z0
 go_region_held3 (fun W' => nQ w W' (.int .i64 40) (.int .i64 1) (.string n.s) (.slice (some ⟨b,off,none⟩) 4 lc) (cQ W' b off (off + 1) (off + 2) (off + 3) (off + 4) c0 a0 k0 (cQ W' b (off + 5) (off + 6) (off + 7) (off + 8) (off + 9) c1 a1 k1 (cQ W' b (off + 10) (off + 11) (off + 12) (off + 13) (off + 14) c2 a2 k2 (dQ W' b (off + 15) (off + 16) (off + 17) (off + 18) (off + 19) c3 a3 k3)))))
  (first | exact HK.out _ (by assumption) | exact HK.out _ (Fr.alloc (by assumption) _))
  ((first
  | (go_at_call 154; with_reducible refine (one_x (⟨#[102,111,114]⟩ : BA) _).mono ?_; rintro e wx ⟨r0,rfl,ho0,hfx⟩; have hs0 := OS.sl ho0; obtain ⟨g0,m0,k_0,rfl⟩ := own_form5' ho0; have hqx := Fr.trans (by assumption : Fr w1 _) hfx)
  | (go_at_call 154; with_reducible refine (one_x n.s _).mono ?_; rintro e wx ⟨r1,rfl,ho1,hfx⟩; have hs1 := OS.sl ho1; obtain ⟨g1,m1,k_1,rfl⟩ := own_form5' ho1; have hqx := Fr.trans (by assumption : Fr w1 _) hfx; have hs0 := hs0.fr hfx)
  | (go_at_call 154; with_reducible refine (one_x (⟨#[61]⟩ : BA) _).mono ?_; rintro e wx ⟨r2,rfl,ho2,hfx⟩; have hs2 := OS.sl ho2; obtain ⟨g2,m2,k_2,rfl⟩ := own_form5' ho2; have hqx := Fr.trans (by assumption : Fr w1 _) hfx; have hs0 := hs0.fr hfx; have hs1 := hs1.fr hfx)
  | (go_at_call 83; with_reducible refine (C0.out _ ?_).mono ?_; exact HF1.out.trans (by assumption); rintro e wx ⟨r3,rfl,ho3,hfx⟩; have hs3 := OS.sl ho3; obtain ⟨g3,m3,k_3,rfl⟩ := own_form5' ho3; have hqx := Fr.trans (by assumption : Fr w1 _) hfx; have hs0 := hs0.fr hfx; have hs1 := hs1.fr hfx; have hs2 := hs2.fr hfx)
  | (go_at_call 154; with_reducible refine (one_x (⟨#[116,111]⟩ : BA) _).mono ?_; rintro e wx ⟨r4,rfl,ho4,hfx⟩; have hs4 := OS.sl ho4; obtain ⟨g4,m4,k_4,rfl⟩ := own_form5' ho4; have hqx := Fr.trans (by assumption : Fr w1 _) hfx; have hs0 := hs0.fr hfx; have hs1 := hs1.fr hfx; have hs2 := hs2.fr hfx; have hs3 := hs3.fr hfx)
  | (go_at_call 83; with_reducible refine (C1.out _ ?_).mono ?_; exact HF1.out.trans (by assumption); rintro e wx ⟨r5,rfl,ho5,hfx⟩; have hs5 := OS.sl ho5; obtain ⟨g5,m5,k_5,rfl⟩ := own_form5' ho5; have hqx := Fr.trans (by assumption : Fr w1 _) hfx; have hs0 := hs0.fr hfx; have hs1 := hs1.fr hfx; have hs2 := hs2.fr hfx; have hs3 := hs3.fr hfx; have hs4 := hs4.fr hfx)
  | (go_at_call 79; refine (words_6 (.slice g0 m0 k_0) (.slice g1 m1 k_1) (.slice g2 m2 k_2) (.slice g3 m3 k_3) (.slice g4 m4 k_4) (.slice g5 m5 k_5) [(⟨#[102,111,114]⟩ : BA)] [n.s] [(⟨#[61]⟩ : BA)] A0 [(⟨#[116,111]⟩ : BA)] A1 _ _ rfl hs0 hs1 hs2 hs3 hs4 hs5 ?_).mono ?_; (exact (by have hz := HZ1.out; rw [HE1.out] at hz; exact hz)); rintro e wx ⟨r6,rfl,ho6,hfx⟩; have hqx := Fr.trans (by assumption : Fr w1 _) hfx)))
 rw [← HE1.out] at ho6
 have hs6 := OS.sl ho6
 obtain ⟨g6,m6,k_6,rfl⟩ := own_form5' ho6
 have HQ6 := h_ hqx
 have HS6 := h_ hs6
 obtain ⟨z0,z1,z2,z3,x0,x1,x2,x3,x4,x5,x6,x7,x8,x9,x10,x11,x12,x13,x14,x15,x16,x17,x18,x19⟩ := HK.out _ hqx
 have hs6 := HS6.out.fr ((Fr.refl _).drew)
 have hqd := HQ6.out.drew
 clear z0 z2 z3 x0 x1 x2 x3 x4 x5 x6 x7 x8 x9 x10 x11 x12 x13 x14 x15 x16 x17 x18 x19 ho0 ho1 ho2 ho3 ho4 ho5 ho6 hs0 hs1 hs2 hs3 hs4 hs5 hq0 hq1 hfx
 go_wp2_with fail
 clear z1
 go_region_held3 (fun W' => nQ w W' (.int .i64 40) (.int .i64 1) (.string n.s) (.slice (some ⟨b,off,none⟩) 4 lc) (cQ W' b off (off + 1) (off + 2) (off + 3) (off + 4) c0 a0 k0 (cQ W' b (off + 5) (off + 6) (off + 7) (off + 8) (off + 9) c1 a1 k1 (cQ W' b (off + 10) (off + 11) (off + 12) (off + 13) (off + 14) c2 a2 k2 (dQ W' b (off + 15) (off + 16) (off + 17) (off + 18) (off + 19) c3 a3 k3)))))
  (first | exact HK.out _ (by assumption) | exact HK.out _ (Fr.alloc (by assumption) _))
  ((first
  | (go_at_call 154; with_reducible refine (one_x (⟨#[98,121]⟩ : BA) _).mono ?_; rintro e wx ⟨r7,rfl,ho7,hfx⟩; have hs7 := OS.sl ho7; obtain ⟨g7,m7,k_7,rfl⟩ := own_form5' ho7; have hqx := Fr.trans (by assumption : Fr w1 _) hfx; have hs6 := hs6.fr hfx)
  | (go_at_call 83; with_reducible refine (C2.out _ ?_).mono ?_; exact HF1.out.trans (by assumption); rintro e wx ⟨r8,rfl,ho8,hfx⟩; have hs8 := OS.sl ho8; obtain ⟨g8,m8,k_8,rfl⟩ := own_form5' ho8; have hqx := Fr.trans (by assumption : Fr w1 _) hfx; have hs6 := hs6.fr hfx; have hs7 := hs7.fr hfx)
  | (go_at_call 79; refine (words_3 (.slice g6 m6 k_6) (.slice g7 m7 k_7) (.slice g8 m8 k_8) F1 [(⟨#[98,121]⟩ : BA)] A2 _ _ rfl hs6 hs7 hs8 ?_).mono ?_; (exact (by have hz := HZ2.out; rw [HE2.out] at hz; exact hz)); rintro e wx ⟨r9,rfl,ho9,hfx⟩; have hqx := Fr.trans (by assumption : Fr w1 _) hfx)))
 rw [← HE2.out] at ho9
 have hs9 := OS.sl ho9
 obtain ⟨g9,m9,k_9,rfl⟩ := own_form5' ho9
 have HQ9 := h_ hqx
 have HS9 := h_ hs9
 have hs9 := HS9.out.fr ((Fr.refl _).drew)
 have hqe := HQ9.out.drew
 clear ho7 ho8 ho9 hs6 hs7 hs8 hqd hfx
 go_wp2_with fail
 go_region_held3 (fun W' => nQ w W' (.int .i64 40) (.int .i64 1) (.string n.s) (.slice (some ⟨b,off,none⟩) 4 lc) (cQ W' b off (off + 1) (off + 2) (off + 3) (off + 4) c0 a0 k0 (cQ W' b (off + 5) (off + 6) (off + 7) (off + 8) (off + 9) c1 a1 k1 (cQ W' b (off + 10) (off + 11) (off + 12) (off + 13) (off + 14) c2 a2 k2 (dQ W' b (off + 15) (off + 16) (off + 17) (off + 18) (off + 19) c3 a3 k3)))))
  (first | exact HK.out _ (by assumption) | exact HK.out _ (Fr.alloc (by assumption) _))
  ((first
  | (go_at_call 154; with_reducible refine (one_x (⟨#[100,111]⟩ : BA) _).mono ?_; rintro e wx ⟨r10,rfl,ho10,hfx⟩; have hs10 := OS.sl ho10; obtain ⟨g10,m10,k_10,rfl⟩ := own_form5' ho10; have hqx := Fr.trans (by assumption : Fr w1 _) hfx; have hs9 := hs9.fr hfx)
  | (go_at_call 86; with_reducible refine (C3.out _ ?_).mono ?_; exact HF1.out.trans (by assumption); rintro e wx ⟨r11,rfl,ho11,hfx⟩; have hs11 := OS.sl ho11; obtain ⟨g11,m11,k_11,rfl⟩ := own_form5' ho11; have hqx := Fr.trans (by assumption : Fr w1 _) hfx; have hs9 := hs9.fr hfx; have hs10 := hs10.fr hfx)
  | (go_at_call 79; refine (words_3 (.slice g9 m9 k_9) (.slice g10 m10 k_10) (.slice g11 m11 k_11) F2 [(⟨#[100,111]⟩ : BA)] A3 _ _ rfl hs9 hs10 hs11 ?_).mono ?_; (exact HSZ.out); rintro e wx ⟨r12,rfl,ho12,hfx⟩; have hqx := Fr.trans (by assumption : Fr w1 _) hfx)))
 all_goals
  have hfin : Fr w wx := HF1.out.trans hqx
  have hlo := ho12.low (B' := w.heap.size) (Nat.le_trans HF1.out.size (by first | exact Fr.size (by assumption) | exact Below.size (by assumption)))
  go_wp2_with fail
  go_ret
  exact ⟨_,rfl,hlo,hfin⟩
end Go.Proofs.YtbaelbafhdjlnaaGreatDoor
