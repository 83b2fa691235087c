/- A part of the proof that the law ParsePrints holds for every input. -/
import Derived.Test.YtbaelbafhdjlnaaGreatDoorZJ
import Derived.Test.YtbaelbafhdjlnaaGreatDoorX3
import Derived.Test.YtbaelbafhdjlnaaGreatDoorY5
namespace Go.Proofs.YtbaelbafhdjlnaaGreatDoor
open Go.RowKit _root_.Go.Proofs.Tryz
set_option linter.unusedVariables false
set_option linter.unusedSimpArgs false
set_option maxRecDepth 100000
set_option maxHeartbeats 4000000
def Prints (fn : Nat) (args : Array Value) (w : World) (R : ByteArray) (c : Int) : Prop := ∀ W,Fr w W → Calls prog fn args W fun e w' => e = .returned (.tuple #[.string R,.int .i64 c]) ∧ Fr W w'
theorem print_expr_no (n : Nd) (lv : Value) (c : Nat) (hc : ¬ c = 0) (w : World) (hl : LN w lv n.l) (hck : ∀ W,Fr w W → Calls prog 24 #[ndV n lv] W fun e w' => e = .returned (.int .i64 (c : Nat)) ∧ Fr W w') :
 Prints 28 #[ndV n lv] w ⟨#[]⟩ (c : Nat) := by
 intro W hW
 have CK := h_ (fun V (h : Fr W V) => hck V (hW.trans h))
 obtain ⟨la,lc,rfl,hlc,hlm,_⟩ := hl.form
 rw [ndV_eq] at CK ⊢
 have z0 : ((c : Int) == 0) = false := by rw [beq_eq_false_iff_ne]; omega
 have z1 : ((c : Int) != 0) = true := by rw [bne_iff_ne]; omega
 have HFA : Hid (Fr W (W.alloc (.cells #[.int .i64 n.op,.int .i64 n.n,.string n.s,.slice la n.l.length lc,.int .i64 n.a] 32))) := h_ ((Fr.refl W).alloc _)
 clear hl hck hW hc
 go_enter func28,ntmps28
 go_wp2_with fail
 refine (CK.out _ HFA.out).mono ?_
 rintro e w0 ⟨rfl,hf1⟩
 have HF1 : Hid (Fr W w0) := h_ (HFA.out.trans hf1)
 clear hf1
 go_wp2_with fail
 first | go_ret2 | go_ret
 exact ⟨rfl,HF1.out⟩
theorem print_cmd_no (n : Nd) (lv : Value) (c : Nat) (hc : ¬ c = 0) (w : World) (hl : LN w lv n.l) (hck : ∀ W,Fr w W → Calls prog 70 #[ndV n lv,.func (.func 84) #[] #[]] W fun e w' => e = .returned (.int .i64 (c : Nat)) ∧ Fr W w') :
 Prints 30 #[ndV n lv] w ⟨#[]⟩ (c : Nat) := by
 intro W hW
 have CK := h_ (fun V (h : Fr W V) => hck V (hW.trans h))
 obtain ⟨la,lc,rfl,hlc,hlm,_⟩ := hl.form
 rw [ndV_eq] at CK ⊢
 have z0 : ((c : Int) == 0) = false := by rw [beq_eq_false_iff_ne]; omega
 have z1 : ((c : Int) != 0) = true := by rw [bne_iff_ne]; omega
 have HFA : Hid (Fr W (W.alloc (.cells #[.int .i64 n.op,.int .i64 n.n,.string n.s,.slice la n.l.length lc,.int .i64 n.a] 32))) := h_ ((Fr.refl W).alloc _)
 clear hl hck hW hc
 go_enter func30,ntmps30
 go_wp2_with fail
 refine (CK.out _ HFA.out).mono ?_
 rintro e w0 ⟨rfl,hf1⟩
 have HF1 : Hid (Fr W w0) := h_ (HFA.out.trans hf1)
 clear hf1
 go_wp2_with fail
 first | go_ret2 | go_ret
 exact ⟨rfl,HF1.out⟩
theorem rprint_expr_no (n : Nd) (lv : Value) (c : Nat) (hc : ¬ c = 0) (w : World) (hl : LN w lv n.l) (hck : ∀ W,Fr w W → Calls prog 25 #[ndV n lv] W fun e w' => e = .returned (.int .i64 (c : Nat)) ∧ Fr W w') :
 Prints 29 #[ndV n lv] w ⟨#[]⟩ (c : Nat) := by
 intro W hW
 have CK := h_ (fun V (h : Fr W V) => hck V (hW.trans h))
 obtain ⟨la,lc,rfl,hlc,hlm,_⟩ := hl.form
 rw [ndV_eq] at CK ⊢
 have z0 : ((c : Int) == 0) = false := by rw [beq_eq_false_iff_ne]; omega
 have z1 : ((c : Int) != 0) = true := by rw [bne_iff_ne]; omega
 have HFA : Hid (Fr W (W.alloc (.cells #[.int .i64 n.op,.int .i64 n.n,.string n.s,.slice la n.l.length lc,.int .i64 n.a] 32))) := h_ ((Fr.refl W).alloc _)
 clear hl hck hW hc
 go_enter func29,ntmps29
 go_wp2_with fail
 refine (CK.out _ HFA.out).mono ?_
 rintro e w0 ⟨rfl,hf1⟩
 have HF1 : Hid (Fr W w0) := h_ (HFA.out.trans hf1)
 clear hf1
 go_wp2_with fail
 first | go_ret2 | go_ret
 exact ⟨rfl,HF1.out⟩
theorem rprint_cmd_no (n : Nd) (lv : Value) (c : Nat) (hc : ¬ c = 0) (w : World) (hl : LN w lv n.l) (hck : ∀ W,Fr w W → Calls prog 43 #[ndV n lv] W fun e w' => e = .returned (.int .i64 (c : Nat)) ∧ Fr W w') :
 Prints 31 #[ndV n lv] w ⟨#[]⟩ (c : Nat) := by
 intro W hW
 have CK := h_ (fun V (h : Fr W V) => hck V (hW.trans h))
 obtain ⟨la,lc,rfl,hlc,hlm,_⟩ := hl.form
 rw [ndV_eq] at CK ⊢
 have z0 : ((c : Int) == 0) = false := by rw [beq_eq_false_iff_ne]; omega
 have z1 : ((c : Int) != 0) = true := by rw [bne_iff_ne]; omega
 have HFA : Hid (Fr W (W.alloc (.cells #[.int .i64 n.op,.int .i64 n.n,.string n.s,.slice la n.l.length lc,.int .i64 n.a] 32))) := h_ ((Fr.refl W).alloc _)
 clear hl hck hW hc
 go_enter func31,ntmps31
 go_wp2_with fail
 refine (CK.out _ HFA.out).mono ?_
 rintro e w0 ⟨rfl,hf1⟩
 have HF1 : Hid (Fr W w0) := h_ (HFA.out.trans hf1)
 clear hf1
 go_wp2_with fail
 first | go_ret2 | go_ret
 exact ⟨rfl,HF1.out⟩
theorem print_no (s : ByteArray) (a : Option Addr) (n cc : Nat) (c : Nat) (hc : ¬ c = 0) (w : World) (hck : ∀ W,Fr w W → Calls prog 22 #[.agg #[.string s,.slice a n cc]] W fun e w' => e = .returned (.int .i64 (c : Nat)) ∧ Fr W w') :
 Prints 26 #[.agg #[.string s,.slice a n cc]] w ⟨#[]⟩ (c : Nat) := by
 intro W hW
 have CK := h_ (fun V (h : Fr W V) => hck V (hW.trans h))
 have z0 : ((c : Int) == 0) = false := by rw [beq_eq_false_iff_ne]; omega
 have z1 : ((c : Int) != 0) = true := by rw [bne_iff_ne]; omega
 have HF0 : Hid (Fr W (W.alloc (.cells #[.string s,.slice a n cc] 24))) := h_ ((Fr.refl W).alloc _)
 clear hck hW hc
 go_enter func26,ntmps26
 go_wp2_with fail
 refine (CK.out _ HF0.out).mono ?_
 rintro e w0 ⟨rfl,hf1⟩
 have HF1 : Hid (Fr W w0) := h_ (HF0.out.trans hf1)
 clear hf1
 go_wp2_with fail
 first | go_ret2 | go_ret
 exact ⟨rfl,HF1.out⟩
theorem rprint_no (s : ByteArray) (a : Option Addr) (n cc : Nat) (c : Nat) (hc : ¬ c = 0) (w : World) (hck : ∀ W,Fr w W → Calls prog 23 #[.agg #[.string s,.slice a n cc]] W fun e w' => e = .returned (.int .i64 (c : Nat)) ∧ Fr W w') :
 Prints 27 #[.agg #[.string s,.slice a n cc]] w ⟨#[]⟩ (c : Nat) := by
 intro W hW
 have CK := h_ (fun V (h : Fr W V) => hck V (hW.trans h))
 have z0 : ((c : Int) == 0) = false := by rw [beq_eq_false_iff_ne]; omega
 have z1 : ((c : Int) != 0) = true := by rw [bne_iff_ne]; omega
 have HF0 : Hid (Fr W (W.alloc (.cells #[.string s,.slice a n cc] 24))) := h_ ((Fr.refl W).alloc _)
 clear hck hW hc
 go_enter func27,ntmps27
 go_wp2_with fail
 refine (CK.out _ HF0.out).mono ?_
 rintro e w0 ⟨rfl,hf1⟩
 have HF1 : Hid (Fr W w0) := h_ (HF0.out.trans hf1)
 clear hf1
 go_wp2_with fail
 first | go_ret2 | go_ret
 exact ⟨rfl,HF1.out⟩
theorem RCheckCommand_any (t : Nd) (lt : Value) (w : World) (hlt : LN w lt t.l) (hw : wfN t) (hb : t.bulk ≤ 2000000) :
 Calls prog 43 #[ndV t lt] w fun e w' => e = .returned (.int .i64 (rchk [t] .cmd : Nat)) ∧ Fr w w' := by
 have CL : Hid (∀ W,Fr w W → ∀ B,B = W.heap.size → Calls prog 69 #[.slice (some ⟨B,0,none⟩) 1 1,.int .i64 2] (W.alloc (.cells #[.int .i64 t.op,.int .i64 t.n,.string t.s,lt,.int .i64 t.a] 32)) fun e w' => e = .returned (.int .i64 (rchk [t] .cmd : Nat)) ∧ Fr (W.alloc (.cells #[.int .i64 t.op,.int .i64 t.n,.string t.s,lt,.int .i64 t.a] 32)) w') := h_ (fun W h B hB => check_any .cmd rfl [t] _ (W.alloc (.cells #[.int .i64 t.op,.int .i64 t.n,.string t.s,lt,.int .i64 t.a] 32)) (LN.one hB hw (hlt.fr h)) (by rw [bulks,bulks]; omega))
 obtain ⟨a,cap,rfl,hc,hm,_⟩ := hlt.form
 obtain ⟨n,hn⟩ : ∃ n,n = t.l.length := ⟨_,rfl⟩
 obtain ⟨R,hR⟩ : ∃ r,r = rchk [t] .cmd := ⟨_,rfl⟩
 rw [← hR] at CL ⊢
 rw [← hn] at CL ⊢
 unfold ndV
 obtain ⟨q0,hq0,q1,hq1,q2,hq2,q4,hq4⟩ := qs_ t
 rw [← hq0,← hq1,← hq2,← hq4] at CL
 rw [← hq0,← hq1,← hq2,← hq4]
 clear hq0 hq1 hq2 hq4 hn hm hc hlt hw hb hR
 go_enter func43,ntmps43
 go_wp2_with fail
 refine (CL.out _ (by repeat' first | exact Fr.refl _ | refine Fr.alloc ?_ _) _ (by simp)).mono ?_
 rintro e w1 ⟨rfl,hf1⟩
 have hfin : Fr w w1 := Fr.trans (by repeat' first | exact Fr.refl _ | refine Fr.alloc ?_ _) hf1
 go_wp2_with fail
 go_ret
 exact ⟨rfl,hfin⟩
theorem rchk0 {l : List Nd} {p : Pr} (h : rchk l p = 0) : allK (okL l) p = true ∧ grL l = false ∧ ndsL l ≤ 20000 := by
 unfold rchk at h
 by_cases h1 : allK (okL l) p = false
 ·rw [if_pos h1] at h; exact absurd h (by decide)
 rw [if_neg h1] at h
 by_cases h2 : grL l = true
 ·rw [if_pos h2] at h; exact absurd h (by decide)
 rw [if_neg h2] at h
 by_cases h3 : 20000 < cntL l 0 20000
 ·rw [if_pos h3] at h; exact absurd h (by decide)
 rw [cnt_iff] at h3
 exact ⟨by simpa using h1,by simpa using h2,by omega⟩
theorem fold_size : ∀ (r : List ByteArray) (v : ByteArray),Ts r → (r.foldl (fun t s => t ++ ⟨#[32]⟩ ++ s) v).size ≤ v.size + 301 * r.length
 | [],v,_ => by simp
 | x :: r,v,h => by
  have h1 := fold_size r (v ++ ⟨#[32]⟩ ++ x) (fun s hs => h s (List.mem_cons_of_mem _ hs))
  have h2 := (h x (List.mem_cons_self)).2
  rw [ByteArray.size_append,ByteArray.size_append] at h1
  have h3 : (⟨#[32]⟩ : BA).size = 1 := rfl
  rw [List.foldl_cons,List.length_cons]
  omega
theorem line_size (A : List ByteArray) (h : Ts A) : (lineB A).size ≤ 301 * A.length := by
 cases A with
 | nil => show (0 : Nat) ≤ _; omega
 | cons x r =>
  have h1 := fold_size r x (fun s hs => h s (List.mem_cons_of_mem _ hs))
  have h2 := (h x (List.mem_cons_self)).2
  show (r.foldl (fun t s => t ++ ⟨#[32]⟩ ++ s) x).size ≤ _
  rw [List.length_cons]
  omega
theorem ts_g {A : List ByteArray} (h : Ts A) : ∀ s ∈ A,tkG s := fun s hs => (h s hs).1
theorem ts_ne {A : List ByteArray} (h : Ts A) : ∀ s ∈ A,0 < s.size ∧ s.size ≤ 1000000 := fun s hs => (h s hs).ok
theorem prints_if {fn gn : Nat} {args : Array Value} {w : World} (A : ByteArray) (h1 : ∀ W,Fr w W → Calls prog fn args W fun e w' => e = .returned (if 40000 < A.size then .tuple #[.string ⟨#[]⟩,.int .i64 2] else .tuple #[.string A,.int .i64 0]) ∧ Fr W w')
 (h2 : ∀ W,Fr w W → Calls prog gn args W fun e w' => e = .returned (if 40000 < A.size then .tuple #[.string ⟨#[]⟩,.int .i64 2] else .tuple #[.string A,.int .i64 0]) ∧ Fr W w') : ∃ R c,Prints fn args w R c ∧ Prints gn args w R c := by
 by_cases h : 40000 < A.size
 ·simp only [if_pos h] at h1 h2; exact ⟨_,_,h1,h2⟩
 ·simp only [if_neg h] at h1 h2; exact ⟨_,_,h1,h2⟩
theorem okL1 {t : Nd} {p : Pr} (h : allK (okL [t]) p = true) : okP t p = true := by
 have := allK_mem h t (by simp)
 exact this
theorem gr1 {t : Nd} (h : grL [t] = false) : grN t = false := gr_mem (by simp) h
theorem nds_one (t : Nd) : ndsL [t] = ndsN t := by simp [ndsL]
theorem expr_both (t : Nd) (lt : Value) (w : World) (hov : Ov w) (hnv : Nv w) (hl : LN w lt t.l) (hw : wfN t) (hb : t.bulk ≤ 2000000) :
 ∃ R c,Prints 28 #[ndV t lt] w R c ∧ Prints 29 #[ndV t lt] w R c := by
 have hc1 := fun W (h : Fr w W) => CheckExpr_any t lt W (hl.fr h) hw hb
 have hc2 := fun W (h : Fr w W) => RCheckExpr_any t lt W (hl.fr h) hw hb
 rw [chkN_same t .expr (by intro h; cases h)] at hc1
 by_cases h0 : rchk [t] .expr = 0
 ·obtain ⟨hk,hg,hn⟩ := rchk0 h0
  rw [nds_one] at hn
  obtain ⟨A,hA⟩ := (g_all t.bulk t (Nat.le_refl _) (by omega) (gr1 hg)).1 (okL1 hk)
  have hAl := hA.2.2
  rw [h0] at hc1 hc2
  have hx := (both_at t A 0 (by decide) hA.1).1
  unfold par at hx
  rw [if_pos (lvR_pos _ _)] at hx
  have hz := line_size A hA.2.1
  have hp := pt_line0 A (ts_g hA.2.1)
  refine prints_if (lineB A) (fun W h => ?_) (fun W h => ?_)
  ·rw [← hp]
   exact PrintExpr_ok t lt A W (hov.fr h) (hnv.fr h) (hl.fr h) (fun V hV => hc1 V (h.trans hV)) hx (by rw [hp]; omega)
  ·exact RPrintExpr_ok t lt A W (hl.fr h) (fun V hV => hc2 V (h.trans hV)) hA.1.2.2.1 (by omega) (ts_ne hA.2.1) (by omega)
 ·exact ⟨_,_,print_expr_no t lt _ h0 w hl hc1,rprint_expr_no t lt _ h0 w hl hc2⟩
theorem cmd_both (t : Nd) (lt : Value) (w : World) (hov : Ov w) (hnv : Nv w) (hl : LN w lt t.l) (hw : wfN t) (hb : t.bulk ≤ 2000000) :
 ∃ R c,Prints 30 #[ndV t lt] w R c ∧ Prints 31 #[ndV t lt] w R c := by
 have hc1 := fun W (h : Fr w W) => checkNode_any .cmd t lt W (hl.fr h) hw hb
 have hc2 := fun W (h : Fr w W) => RCheckCommand_any t lt W (hl.fr h) hw hb
 rw [chkN_same t .cmd (by intro h; cases h)] at hc1
 replace hc1 : ∀ W,Fr w W → Calls prog 70 #[ndV t lt,.func (.func 84) #[] #[]] W fun e w' => e = .returned (.int .i64 (rchk [t] .cmd : Nat)) ∧ Fr W w' := hc1
 by_cases h0 : rchk [t] .cmd = 0
 ·obtain ⟨hk,hg,hn⟩ := rchk0 h0
  rw [nds_one] at hn
  obtain ⟨A,hA⟩ := (g_all t.bulk t (Nat.le_refl _) (by omega) (gr1 hg)).2 (p_cmd_item (okL1 hk))
  have hAl := hA.2.2
  rw [h0] at hc1 hc2
  have hz := line_size A hA.2.1
  have hp := pt_line0 A (ts_g hA.2.1)
  refine prints_if (lineB A) (fun W h => ?_) (fun W h => ?_)
  ·rw [← hp]
   exact PrintCommand_ok t lt A W (hov.fr h) (hnv.fr h) (hl.fr h) (fun V hV => hc1 V (h.trans hV)) hA.1.1 (by rw [hp]; omega)
  ·exact RPrintCommand_ok t lt A W (hl.fr h) (fun V hV => hc2 V (h.trans hV)) hA.1.2.1 (by omega) (ts_ne hA.2.1) (by omega)
 ·exact ⟨_,_,print_cmd_no t lt _ h0 w hl hc1,rprint_cmd_no t lt _ h0 w hl hc2⟩
def secT (F : List ByteArray) (tk : Nd → List ByteArray) (l : List Nd) : Nat → ByteArray
 | 0 => lineB F
 | j + 1 => if j = 0 then lineB (F ++ tk (l[0]?.getD default)) else secT F tk l j ++ ⟨#[10]⟩ ++ lineB (tk (l[j]?.getD default))
theorem secT_one (F : List ByteArray) (tk : Nd → List ByteArray) (l : List Nd) (n : Nd) (h : l[0]? = some n) : secT F tk l 1 = lineB (F ++ tk n) := by
 unfold secT; rw [if_pos rfl,h]; rfl
theorem secT_next (F : List ByteArray) (tk : Nd → List ByteArray) (l : List Nd) (n : Nd) (j : Nat) (hj : 0 < j) (h : l[j]? = some n) : secT F tk l (j + 1) = secT F tk l j ++ ⟨#[10]⟩ ++ lineB (tk n) := by
 rw [secT,if_neg (by omega),h]; rfl
theorem secT_size (F : List ByteArray) (tk : Nd → List ByteArray) (l : List Nd) (hF : Ts F) (hF2 : F.length ≤ 2) (htk : ∀ x ∈ l,Ts (tk x) ∧ (tk x).length + 3 ≤ 9 * ndsN x) : ∀ j,j ≤ l.length → (secT F tk l j).size ≤ 602 + 2709 * ndsL (l.take j)
 | 0,_ => by
  have := line_size F hF
  show (lineB F).size ≤ _
  omega
 | 1,hj => by
  obtain ⟨n,hn⟩ : ∃ n,l[0]? = some n := ⟨_,List.getElem?_eq_getElem (by omega)⟩
  have hm := htk n (List.mem_of_getElem? hn)
  rw [secT_one F tk l n hn]
  have h1 := line_size (F ++ tk n) (ts_app hF hm.1)
  rw [List.length_append] at h1
  have e : l.take 1 = [n] := by rw [List.take_add_one,hn]; rfl
  rw [e,nds_one]
  omega
 | j + 2,hj => by
  obtain ⟨n,hn⟩ : ∃ n,l[j + 1]? = some n := ⟨_,List.getElem?_eq_getElem (by omega)⟩
  have hm := htk n (List.mem_of_getElem? hn)
  have ih := secT_size F tk l hF hF2 htk (j + 1) (by omega)
  rw [secT_next F tk l n (j + 1) (by omega) hn,ByteArray.size_append,ByteArray.size_append]
  have h1 := line_size (tk n) hm.1
  have h3 : (⟨#[10]⟩ : BA).size = 1 := rfl
  have e : l.take (j + 2) = l.take (j + 1) ++ [n] := by rw [List.take_add_one,hn]; rfl
  rw [e,nds_app,nds_one]
  omega
theorem nds_take : ∀ (l : List Nd) (j : Nat),ndsL (l.take j) ≤ ndsL l
 | [],j => by simp
 | t :: r,0 => by simp [ndsL]
 | t :: r,j + 1 => by
  rw [List.take_succ_cons,ndsL,ndsL]
  have := nds_take r j
  omega
theorem secT_d {F : List ByteArray} {tk : Nd → List ByteArray} {l : List Nd} (hF : Ts F) (htk : ∀ x ∈ l,GD x (tk x)) : ∀ i n,l[i]? = some n → Wd 75 ar0 n (if i = 0 then secT F tk l i else secT F tk l i ++ ⟨#[10]⟩) (secT F tk l (i + 1)) := by
 intro i n hn
 have hg := htk n (List.mem_of_getElem? hn)
 by_cases h0 : i = 0
 ·subst h0
  rw [if_pos rfl,secT_one F tk l n hn,← pt_line0 _ (ts_g (ts_app hF hg.2.1)),pt_append]
  show Wd _ _ _ (lineB F) _
  rw [← pt_line0 F (ts_g hF)]
  exact hg.1.1 _
 ·rw [if_neg h0,secT_next F tk l n i (by omega) hn,← pt_lineF _ _ (ts_g hg.2.1)]
  exact hg.1.1 _
theorem print_both (s : ByteArray) (l : List Nd) (v : Value) (w : World) (hov : Ov w) (hnv : Nv w) (hl : LN w v l) (hs : s.size ≤ 2000000) (hb : bulks l ≤ 2000000) :
 ∃ R c,Prints 26 #[.agg #[.string s,v]] w R c ∧ Prints 27 #[.agg #[.string s,v]] w R c := by
 have hc1 := fun W (h : Fr w W) => Check_any s l v W hs (hl.fr h) hb
 have hc2 := fun W (h : Fr w W) => RCheck_any s l v W hs (hl.fr h) hb
 rw [← chkE_same] at hc2
 obtain ⟨a,c,rfl,_,_,_⟩ := hl.form
 by_cases h0 : chkE s l = 0
 ·rw [h0] at hc1 hc2
  rw [chkE_same] at h0
  have hq : qtb s = true := by
   cases h : qtb s with
   | true => rfl
   | false => rw [if_pos h] at h0; exact absurd h0 (by decide)
  rw [if_neg (by rw [hq]; decide)] at h0
  obtain ⟨hk,hg,hn⟩ := rchk0 h0
  obtain ⟨tk,htk⟩ := pick (l := l) (fun x hx => g_decl x (by have := nds_mem hx; omega) (gr_mem hx hg) (allK_mem hk x hx))
  have hlen : l.length ≤ 1000000 := by have := nds_len l; omega
  have htk2 : ∀ x ∈ l,Ts (tk x) ∧ (tk x).length + 3 ≤ 9 * ndsN x := fun x hx => ⟨(htk x hx).2.1,(htk x hx).2.2⟩
  have htk3 : ∀ x ∈ l,Rx 80 mk1 x (tk x) ∧ (tk x).length ≤ 999000 ∧ ∀ y ∈ tk x,0 < y.size ∧ y.size ≤ 1000000 := fun x hx => by
   have h1 := htk x hx
   exact ⟨h1.1.2.1,by have := h1.1.2.2; omega,ts_ne h1.2.1⟩
  have main : ∀ F : List ByteArray,Ts F → F.length ≤ 2 → (∀ j,j ≤ l.length → (secT F tk l j).size ≤ 90000000) := fun F hF hF2 j hj => by
   have h1 := secT_size F tk l hF hF2 htk2 j hj
   have h2 := nds_take l j
   omega
  have fin : ∀ F : List ByteArray,(if l.length = 0 then lineB F else (fun j => if j = 0 then (⟨#[]⟩ : BA) else secT F tk l j) l.length) = secT F tk l l.length := fun F => by
   by_cases h : l.length = 0
   ·rw [if_pos h,h]; rfl
   ·rw [if_neg h]; show (if l.length = 0 then _ else _) = _; rw [if_neg h]
  have hz : ∀ F : List ByteArray,Ts F → F.length ≤ 2 → ∀ j,j ≤ l.length → ((fun j => if j = 0 then (⟨#[]⟩ : BA) else secT F tk l j) j).size ≤ 90000000 := fun F hF hF2 j hj => by
   show (if j = 0 then (⟨#[]⟩ : BA) else secT F tk l j).size ≤ _
   by_cases h : j = 0
   ·rw [if_pos h]; decide
   ·rw [if_neg h]; exact main F hF hF2 j hj
  have hT1 : ∀ F : List ByteArray,∀ n,l[0]? = some n → (fun j => if j = 0 then (⟨#[]⟩ : BA) else secT F tk l j) 1 = lineB (F ++ tk n) := fun F n h => secT_one F tk l n h
  have hTs : ∀ F : List ByteArray,∀ j n,0 < j → l[j]? = some n → (fun j => if j = 0 then (⟨#[]⟩ : BA) else secT F tk l j) (j + 1) = (fun j => if j = 0 then (⟨#[]⟩ : BA) else secT F tk l j) j ++ (⟨#[10]⟩ : BA) ++ lineB (tk n) := fun F j n hj h => by
   show (if j + 1 = 0 then _ else secT F tk l (j + 1)) = (if j = 0 then _ else secT F tk l j) ++ _ ++ _
   rw [if_neg (by omega),if_neg (by omega)]
   exact secT_next F tk l n j hj h
  by_cases hs0 : s = ⟨#[]⟩
  ·subst hs0
   refine prints_if (secT [] tk l l.length ++ (⟨#[10]⟩ : BA)) (fun W h => ?_) (fun W h => ?_)
   ·exact Print_none l (secT [] tk l) W a c hlen (hov.fr h) (hnv.fr h) (hl.fr h).rowN rfl (fun V hV => hc1 V (h.trans hV)) (secT_d ts_nil htk) (Nat.le_trans (main [] ts_nil (by decide) _ (Nat.le_refl _)) (by decide))
   ·have hR := RPrint_none l tk (fun j => if j = 0 then (⟨#[]⟩ : BA) else secT [] tk l j) W a c hlen (hl.fr h) (fun V hV => hc2 V (h.trans hV)) htk3 (fun y hy => by cases hy) rfl (hT1 []) (hTs []) (hz [] ts_nil (by decide))
    rw [fin] at hR
    exact hR
  ·have hqe : (quo s).e = 0 := by simpa [qtb] using hq
   have htq := ts_quo hqe
   have hF : Ts [(⟨#[115,101,99,116,105,111,110]⟩ : BA),(quo s).t] := ts_cons (.lit rfl) (ts_cons htq.1 ts_nil)
   refine prints_if (secT [(⟨#[115,101,99,116,105,111,110]⟩ : BA),(quo s).t] tk l l.length ++ (⟨#[10]⟩ : BA)) (fun W h => ?_) (fun W h => ?_)
   ·exact Print_named s l (secT [(⟨#[115,101,99,116,105,111,110]⟩ : BA),(quo s).t] tk l) W a c hlen (hov.fr h) (hnv.fr h) (hl.fr h).rowN hs0 hs htq.1.ok (pt_line0 _ (ts_g hF)).symm (fun V hV => hc1 V (h.trans hV)) (secT_d hF htk) (Nat.le_trans (main _ hF (Nat.le_refl 2) _ (Nat.le_refl _)) (by decide))
   ·have hR := RPrint_named s l tk (fun j => if j = 0 then (⟨#[]⟩ : BA) else secT [(⟨#[115,101,99,116,105,111,110]⟩ : BA),(quo s).t] tk l j) W a c hlen (hl.fr h) hs0 hs (fun V hV => hc2 V (h.trans hV)) htk3 (ts_ne hF) rfl (hT1 _) (hTs _) (hz _ hF (Nat.le_refl 2))
    rw [fin] at hR
    exact hR
 ·exact ⟨_,_,print_no s a _ c _ h0 w hc1,rprint_no s a _ c _ h0 w hc2⟩
end Go.Proofs.YtbaelbafhdjlnaaGreatDoor
