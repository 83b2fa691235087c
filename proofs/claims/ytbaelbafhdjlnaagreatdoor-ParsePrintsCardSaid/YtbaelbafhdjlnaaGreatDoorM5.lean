/- A part of the proof that the law ParsePrints holds for every input. -/
import Derived.Test.YtbaelbafhdjlnaaGreatDoorM4
import Derived.Test.YtbaelbafhdjlnaaGreatDoorM1
namespace Go.Proofs.YtbaelbafhdjlnaaGreatDoor
open Go.RowKit _root_.Go.Proofs.Tryz
set_option linter.unusedVariables false
set_option linter.unusedSimpArgs false
set_option maxRecDepth 100000
set_option maxHeartbeats 8000000
inductive Pr where
 | expr | name | call | block | item | cmd | rep | const | decl | few
def Pr.fn : Pr → Nat
 | .expr => 71
 | .name => 148
 | .call => 222
 | .block => 164
 | .item => 220
 | .cmd => 84
 | .rep => 165
 | .const => 142
 | .decl => 66
 | .few => 144
def Pr.val (p : Pr) : Value := .func (.func p.fn) #[] #[]
abbrev PL := List (Pr → Bool)
def allK (ps : PL) (k : Pr) : Bool := ps.all fun f => f k
def hasK : PL → List Pr → Bool
 | [],[] => true
 | f :: r,k :: q => f k && hasK r q
 | _,_ => false
def empS (s : ByteArray) : Bool := decide (s.size = 0)
def bare (n : Int) (s : ByteArray) : Bool := empS s && decide (n = 0)
noncomputable def named (n : Int) (s : ByteArray) : Bool := isNm s && decide (n = 0)
noncomputable def qtb (s : ByteArray) : Bool := decide ((quo s).e = 0)
def someK (ps : PL) (k : Pr) : Bool := decide (0 < ps.length) && allK ps k
def pairsK (n : Int) (ps : PL) (k : Pr) : Bool :=
 decide (0 < n) && decide (n = ((ps.length / 2 : Nat) : Int)) && decide (ps.length % 2 = 0) && allK (ps.take (ps.length / 2)) k && allK (ps.drop (ps.length / 2)) .expr
noncomputable def nameR (o n : Int) (s : ByteArray) (ps : PL) : Bool := decide (o = 6) && named n s && hasK ps []
def plainR (o : Int) (ps : PL) : Bool :=
 if o = 3 ∨ o = 4 ∨ o = 5 then hasK ps []
 else if o = 7 ∨ o = 16 then someK ps .expr
 else if o = 8 ∨ o = 9 ∨ o = 17 then hasK ps [.expr,.expr]
 else if o = 10 ∨ o = 11 then hasK ps [.expr]
 else if o = 14 ∨ o = 18 then hasK ps [.expr,.expr,.expr]
 else if o = 15 then hasK ps [.block]
 else false
noncomputable def exprR (o n : Int) (s : ByteArray) (ps : PL) : Bool :=
 if o = 1 then empS s && decide (-2147483648 ≤ n) && decide (n ≤ 2147483647) && hasK ps []
 else if o = 2 then qtb s && decide (n = 0) && hasK ps []
 else if o = 6 then nameR o n s ps
 else if o = 12 then empS s && decide (1 ≤ n) && decide (n ≤ 17) && hasK ps [.expr,.expr]
 else if o = 13 then empS s && (decide (n = 18) || decide (n = 19)) && hasK ps [.expr]
 else bare n s && plainR o ps
noncomputable def callR (o n : Int) (s : ByteArray) (ps : PL) : Bool := decide (o = 7) && exprR o n s ps
noncomputable def blockR (o n : Int) (s : ByteArray) (ps : PL) : Bool := decide (o = 52) && bare n s && someK ps .item
noncomputable def repR (o n : Int) (s : ByteArray) (ps : PL) : Bool :=
 if o = 30 then empS s && pairsK n ps .expr
 else if o = 31 then bare n s && hasK ps [.call]
 else if o = 52 then blockR o n s ps
 else if o = 44 ∨ o = 45 ∨ o = 46 ∨ o = 47 ∨ o = 51 then bare n s && hasK ps []
 else if o = 48 then bare n s && hasK ps [.expr]
 else if o = 49 then named n s && hasK ps []
 else if o = 37 then bare n s && hasK ps [.rep]
 else if o = 38 ∨ o = 39 then bare n s && hasK ps [.rep,.expr]
 else false
noncomputable def forR (n : Int) (s : ByteArray) (ps : PL) : Bool :=
 isNm s && (if n = 0 then hasK ps [.expr,.expr,.cmd] else if n = 1 then hasK ps [.expr,.expr,.expr,.cmd] else false)
noncomputable def cmdR (o n : Int) (s : ByteArray) (ps : PL) : Bool :=
 if o = 40 then forR n s ps
 else if o = 50 then named n s && hasK ps [.cmd]
 else if o = 32 ∨ o = 33 ∨ o = 35 ∨ o = 36 ∨ o = 42 then bare n s && hasK ps [.expr,.cmd]
 else if o = 34 then bare n s && hasK ps [.expr,.cmd,.cmd]
 else if o = 41 then bare n s && hasK ps [.expr,.block]
 else if o = 43 then bare n s && hasK ps [.cmd]
 else if o = 53 then bare n s && hasK ps []
 else repR o n s ps
noncomputable def itemR (o n : Int) (s : ByteArray) (ps : PL) : Bool :=
 if o = 54 then empS s && pairsK n ps .name
 else if o = 55 then named n s && hasK ps [.expr]
 else cmdR o n s ps
noncomputable def constR (o n : Int) (s : ByteArray) (ps : PL) : Bool := decide (o = 63) && named n s && hasK ps [.expr]
def lastK (ps : PL) (k : Pr) : Bool := match ps[ps.length - 1]? with
 | some f => f k
 | none => false
noncomputable def procK (n : Int) (s : ByteArray) (ps : PL) : Bool :=
 isNm s && decide (0 < ps.length) && allK (ps.take (ps.length - 1)) .name && (if n = 0 then lastK ps .expr else if n = 1 then lastK ps .cmd else false)
noncomputable def declR (o n : Int) (s : ByteArray) (ps : PL) : Bool :=
 if o = 60 ∨ o = 61 ∨ o = 62 then bare n s && allK ps .const
 else if o = 64 then procK n s ps
 else false
def fewR (o n : Int) (ps : PL) : Bool :=
 (if o = 7 ∨ o = 64 then decide (ps.length ≤ 9) else if o = 54 ∨ o = 30 then decide (n ≤ 8) else if o = 16 then decide (ps.length ≤ 100) else true) && allK ps .few
noncomputable def nodeR (p : Pr) (o n : Int) (s : ByteArray) (ps : PL) : Bool := match p with
 | .expr => exprR o n s ps
 | .name => nameR o n s ps
 | .call => callR o n s ps
 | .block => blockR o n s ps
 | .item => itemR o n s ps
 | .cmd => cmdR o n s ps
 | .rep => repR o n s ps
 | .const => constR o n s ps
 | .decl => declR o n s ps
 | .few => fewR o n ps
mutual
noncomputable def okP : Nd → Pr → Bool
 | ⟨o,n,s,l,_⟩,p => nodeR p o n s (okL l)
noncomputable def okL : List Nd → PL
 | [] => []
 | t :: r => okP t :: okL r
end
theorem okP_eq (t : Nd) (p : Pr) : okP t p = nodeR p t.op t.n t.s (okL t.l) := by
 obtain ⟨o,n,s,l,a⟩ := t
 rw [okP]; rfl
theorem okL_map : ∀ l : List Nd,okL l = l.map okP
 | [] => by rw [okL]; rfl
 | t :: r => by rw [okL,okL_map r]; rfl
theorem okL_len (l : List Nd) : (okL l).length = l.length := by rw [okL_map,List.length_map]
theorem okL_drop (l : List Nd) (j : Nat) : (okL l).drop j = okL (l.drop j) := by rw [okL_map,okL_map,List.map_drop]
theorem okL_take (l : List Nd) (j : Nat) : (okL l).take j = okL (l.take j) := by rw [okL_map,okL_map,List.map_take]
theorem allK_drop {l : List Nd} {k : Pr} {j : Nat} {t : Nd} (ht : l[j]? = some t) : allK (okL (l.drop j)) k = (okP t k && allK (okL (l.drop (j + 1))) k) := by
 rw [drop1 ht,okL]; rfl
theorem hasK_drop {l : List Nd} {ks : List Pr} {j : Nat} {t : Nd} {k : Pr} (ht : l[j]? = some t) (hk : ks[j]? = some k) : hasK (okL (l.drop j)) (ks.drop j) = (okP t k && hasK (okL (l.drop (j + 1))) (ks.drop (j + 1))) := by
 rw [drop1 ht,okL,List.drop_eq_getElem_cons (List.getElem?_eq_some_iff.1 hk).1,hasK]
 rw [(List.getElem?_eq_some_iff.1 hk).2]
theorem hasK_len : ∀ (ps : PL) (ks : List Pr),ps.length ≠ ks.length → hasK ps ks = false
 | [],[],h => absurd rfl h
 | [],_ :: _,_ => by rw [hasK]; all_goals simp
 | _ :: _,[],_ => by rw [hasK]; all_goals simp
 | f :: r,k :: q,h => by rw [hasK,hasK_len r q (by simpa using h),Bool.and_false]
theorem hasK_nil (ps : PL) : hasK ps [] = decide (ps.length = 0) := by cases ps <;> simp [hasK]
theorem lastK_some {l : List Nd} {t : Nd} (k : Pr) (ht : l[l.length - 1]? = some t) : lastK (okL l) k = okP t k := by
 unfold lastK
 rw [okL_len,okL_map,List.getElem?_map,ht]; rfl
theorem Pr.fn_enter (p : Pr) : ∀ args w,(callFunc p.fn args).run prog w = .ok (.enter p.fn args) w := by
 cases p <;> (intro args w; kernel_rfl)
def PQ (w : World) (l : List Nd) : Prop := ∀ W,Fr w W → ∀ t,t ∈ l → ∀ lt,LN W lt t.l → ∀ p : Pr,Calls prog p.fn #[ndV t lt] W fun e w' => e = .returned (.bool (okP t p)) ∧ Fr W w'
theorem PQ.fr {w W : World} {l : List Nd} (h : PQ w l) (k : Fr w W) : PQ W l := fun V hV => h V (k.trans hV)
theorem PQ.sub {w : World} {l q : List Nd} (h : PQ w l) (k : ∀ t,t ∈ q → t ∈ l) : PQ w q := fun V hV t ht => h V hV t (k t ht)
def KV (w : World) (v : Value) (ks : List Pr) : Prop := ∃ a,v = .slice a ks.length ks.length ∧ ks.length ≤ 10 ∧ (0 < ks.length → ∃ b,a = some ⟨b,0,none⟩ ∧ ∀ (i : Nat) (k : Pr),ks[i]? = some k → w.cell? ⟨b,i,none⟩ = some k.val)
theorem KV.fr {w W : World} {v : Value} {ks : List Pr} (h : KV w v ks) (k : Fr w W) : KV W v ks := by
 obtain ⟨a,e,hl,h⟩ := h
 exact ⟨a,e,hl,fun h0 => by obtain ⟨b,hb,hc⟩ := h h0; exact ⟨b,hb,fun i x hx => k.cell (hc i x hx)⟩⟩
theorem KV.nil (w : World) : KV w (.slice none 0 0) [] := ⟨none,rfl,by decide,fun h => absurd h (by decide)⟩
theorem KV.one (w : World) (B : Nat) (k0 : Pr) (T : TypeId) (hB : B = w.heap.size) : KV (w.alloc (.cells #[k0.val] T)) (.slice (some ⟨B,0,none⟩) 1 1) [k0] := by
 subst hB
 exact ⟨_,rfl,by simp,fun _ => ⟨_,rfl,fun i k hk => by
  match i,hk with
  | 0,hk => simp at hk; subst hk; simp⟩⟩
theorem KV.two (w : World) (B : Nat) (k0 k1 : Pr) (T : TypeId) (hB : B = w.heap.size) : KV (w.alloc (.cells #[k0.val,k1.val] T)) (.slice (some ⟨B,0,none⟩) 2 2) [k0,k1] := by
 subst hB
 exact ⟨_,rfl,by simp,fun _ => ⟨_,rfl,fun i k hk => by
  match i,hk with
  | 0,hk => simp at hk; subst hk; simp
  | 1,hk => simp at hk; subst hk; simp⟩⟩
theorem KV.three (w : World) (B : Nat) (k0 k1 k2 : Pr) (T : TypeId) (hB : B = w.heap.size) : KV (w.alloc (.cells #[k0.val,k1.val,k2.val] T)) (.slice (some ⟨B,0,none⟩) 3 3) [k0,k1,k2] := by
 subst hB
 exact ⟨_,rfl,by simp,fun _ => ⟨_,rfl,fun i k hk => by
  match i,hk with
  | 0,hk => simp at hk; subst hk; simp
  | 1,hk => simp at hk; subst hk; simp
  | 2,hk => simp at hk; subst hk; simp⟩⟩
theorem KV.four (w : World) (B : Nat) (k0 k1 k2 k3 : Pr) (T : TypeId) (hB : B = w.heap.size) : KV (w.alloc (.cells #[k0.val,k1.val,k2.val,k3.val] T)) (.slice (some ⟨B,0,none⟩) 4 4) [k0,k1,k2,k3] := by
 subst hB
 exact ⟨_,rfl,by simp,fun _ => ⟨_,rfl,fun i k hk => by
  match i,hk with
  | 0,hk => simp at hk; subst hk; simp
  | 1,hk => simp at hk; subst hk; simp
  | 2,hk => simp at hk; subst hk; simp
  | 3,hk => simp at hk; subst hk; simp⟩⟩
theorem LN.take_ {w : World} {a : Option Addr} {n cap : Nat} {l : List Nd} (h : LN w (.slice a n cap) l) (j : Nat) (hj : j ≤ l.length) : LN w (.slice a j cap) (l.take j) := by
 cases h with
 | mk a cap l lv hc hm hz hr hw hs =>
  have hl : (l.take j).length = j := by rw [List.length_take]; omega
  have := LN.mk (w := w) a cap (l.take j) lv (by omega) hm hz (fun hp => by
   obtain ⟨b,off,e,hg⟩ := hr (by omega)
   exact ⟨b,off,e,fun i t ht => hg i t (by rw [List.getElem?_take] at ht; split at ht <;> first | exact ht | cases ht)⟩) (fun t ht => hw t (List.mem_of_mem_take ht)) (fun i t ht => hs i t (by rw [List.getElem?_take] at ht; split at ht <;> first | exact ht | cases ht))
  rw [hl] at this
  exact this
theorem LN.drop_ {w : World} {b off : Nat} {n cap : Nat} {l : List Nd} (h : LN w (.slice (some ⟨b,off,none⟩) n cap) l) (j : Nat) (hj : j ≤ l.length) : LN w (.slice (some ⟨b,off + j * 5,none⟩) (n - j) (cap - j)) (l.drop j) := by
 cases h with
 | mk a cap l lv hc hm hz hr hw hs =>
  have hl : (l.drop j).length = l.length - j := by rw [List.length_drop]
  have := LN.mk (w := w) (some ⟨b,off + j * 5,none⟩) (cap - j) (l.drop j) (fun i => lv (j + i)) (by omega) (by omega) (fun h => by cases h) (fun hp => by
   obtain ⟨b',off',e,hg⟩ := hr (by omega)
   cases e
   exact ⟨_,_,rfl,fun i t ht => by
    rw [List.getElem?_drop] at ht
    have := hg (j + i) t ht
    rw [show off + j * 5 + i * 5 = off + (j + i) * 5 by omega]
    exact this⟩) (fun t ht => hw t (List.mem_of_mem_drop ht)) (fun i t ht => hs (j + i) t (by rw [List.getElem?_drop] at ht; exact ht))
  rw [hl] at this
  exact this
theorem nPlain_any (t : Nd) (lt : Value) (w : World) : Calls prog 141 #[ndV t lt] w fun e w' => e = .returned (.bool (bare t.n t.s)) ∧ Fr w w' := by
 unfold ndV
 obtain ⟨o,hO⟩ : ∃ x,x = t.op := ⟨_,rfl⟩
 obtain ⟨n,hN⟩ : ∃ x,x = t.n := ⟨_,rfl⟩
 obtain ⟨s,hS⟩ : ∃ x,x = t.s := ⟨_,rfl⟩
 obtain ⟨a,hA⟩ : ∃ x,x = t.a := ⟨_,rfl⟩
 rw [← hN,← hS]
 rw [← hO,← hA]
 clear hO hN hS hA
 have HFR : Hid (∀ x : Obj,Fr w (w.alloc x)) := h_ (fun x => (Fr.refl w).alloc x)
 by_cases h1 : s.size = 0
 ·have e1 := emp_yes h1
  by_cases h2 : n = 0
  ·subst h2
   rw [show bare 0 s = true by simp [bare,empS,h1]]
   go_enter func141,ntmps141
   go_wp2_with fail
   go_ret
   exact ⟨rfl,HFR.out _⟩
  ·have e2 : (n == 0) = false := by rw [beq_eq_false_iff_ne]; exact h2
   rw [show bare n s = false by simp [bare,h2]]
   clear h2
   go_enter func141,ntmps141
   go_wp2_with fail
   go_ret
   exact ⟨rfl,HFR.out _⟩
 ·have e1 := emp_no (show 0 < s.size by omega)
  rw [show bare n s = false by simp [bare,empS,h1]]
  clear h1
  go_enter func141,ntmps141
  go_wp2_with fail
  go_ret
  exact ⟨rfl,HFR.out _⟩
theorem isNamed_any (t : Nd) (lt : Value) (w : World) : Calls prog 163 #[ndV t lt] w fun e w' => e = .returned (.bool (named t.n t.s)) ∧ Fr w w' := by
 unfold ndV
 obtain ⟨o,hO⟩ : ∃ x,x = t.op := ⟨_,rfl⟩
 obtain ⟨n,hN⟩ : ∃ x,x = t.n := ⟨_,rfl⟩
 obtain ⟨s,hS⟩ : ∃ x,x = t.s := ⟨_,rfl⟩
 obtain ⟨a,hA⟩ : ∃ x,x = t.a := ⟨_,rfl⟩
 rw [← hN,← hS]
 rw [← hO,← hA]
 clear hO hN hS hA
 have HFR : Hid (∀ x : Obj,Fr w (w.alloc x)) := h_ (fun x => (Fr.refl w).alloc x)
 have HQ := h_ (fun W => IsName_any s W)
 unfold named
 cases h1 : isNm s with
 | true =>
  rw [h1] at HQ
  by_cases h2 : n = 0
  ·subst h2
   rw [show (true && decide ((0 : Int) = 0)) = true by simp]
   go_enter func163,ntmps163
   go_wp2_with fail
   refine (HQ.out _).mono ?_
   rintro e w1 ⟨rfl,hf1⟩
   have hfin := (HFR.out _).trans hf1
   have hk : w1.cell? ⟨w.heap.size,1,none⟩ = some (.int .i64 0) := hf1.cell (by simp)
   go_wp2_with fail
   go_ret
   exact ⟨rfl,hfin⟩
  ·have e2 : (n == 0) = false := by rw [beq_eq_false_iff_ne]; exact h2
   rw [show (true && decide (n = 0)) = false by simp [h2]]
   clear h2
   go_enter func163,ntmps163
   go_wp2_with fail
   refine (HQ.out _).mono ?_
   rintro e w1 ⟨rfl,hf1⟩
   have hfin := (HFR.out _).trans hf1
   have hk : w1.cell? ⟨w.heap.size,1,none⟩ = some (.int .i64 n) := hf1.cell (by simp)
   go_wp2_with fail
   go_ret
   exact ⟨rfl,hfin⟩
 | false =>
  rw [h1] at HQ
  rw [Bool.false_and]
  go_enter func163,ntmps163
  go_wp2_with fail
  refine (HQ.out _).mono ?_
  rintro e w1 ⟨rfl,hf1⟩
  have hfin := (HFR.out _).trans hf1
  go_wp2_with fail
  go_ret
  exact ⟨rfl,hfin⟩
theorem isQuotable_any (s : ByteArray) (hs : s.size ≤ 2000000) (w : World) : Calls prog 64 #[.string s] w fun e w' => e = .returned (.bool (qtb s)) ∧ Fr w w' := by
 have HQ := h_ (fun W => Quote_any s hs W)
 unfold qtb
 obtain ⟨T,hT⟩ : ∃ x,x = (quo s).t := ⟨_,rfl⟩
 obtain ⟨c,hc⟩ : ∃ x,x = (quo s).e := ⟨_,rfl⟩
 rw [← hT,← hc] at HQ
 rw [← hc]
 clear hT hc
 by_cases h1 : c = 0
 ·subst h1
  go_enter func64,ntmps64
  go_wp2_with fail
  refine (HQ.out _).mono ?_
  rintro e w1 ⟨rfl,hf1⟩
  go_wp2_with fail
  go_ret
  exact ⟨rfl,hf1⟩
 ·have e2 : ((c : Int) == 0) = false := by rw [beq_eq_false_iff_ne]; omega
  rw [decide_eq_false h1]
  clear h1
  go_enter func64,ntmps64
  go_wp2_with fail
  refine (HQ.out _).mono ?_
  rintro e w1 ⟨rfl,hf1⟩
  go_wp2_with fail
  go_ret
  exact ⟨rfl,hf1⟩
theorem areAll_any (p : Pr) (l : List Nd) (v : Value) (w : World) (hv : LN w v l) (hq : PQ w l) :
 Calls prog 65 #[v,p.val] w fun e w' => e = .returned (.bool (allK (okL l) p)) ∧ Fr w w' := by
 have HV := h_ hv
 have HQ := h_ hq
 obtain ⟨a,cap,rfl,hc,hm,_⟩ := hv.form
 unfold maxLen at hm
 obtain ⟨n,hn⟩ : ∃ n,n = l.length := ⟨_,rfl⟩
 have HN := h_ hn
 rw [← hn] at hc HV ⊢
 obtain ⟨D,hD⟩ : ∃ d,d = allK (okL l) p := ⟨_,rfl⟩
 have HD := h_ hD
 rw [← hD]
 have HE := h_ p.fn_enter
 unfold Pr.val
 obtain ⟨fn,hfn⟩ : ∃ x,x = p.fn := ⟨_,rfl⟩
 have HFN := h_ hfn
 rw [← hfn] at HE ⊢
 clear hn hv hD hq hfn
 have hent := HE.out
 go_enter func65,ntmps65
 go_wp2_with fail
 go_loopw [9] (fun i wr => ∃ j : Nat,j ≤ n ∧ i = .int .i64 j ∧ Hid (D = allK (okL (l.drop j)) p) ∧ Fr w wr) (fun i _ => n - (intOf i).toNat)
 case atStart => exact ⟨0,Nat.zero_le _,rfl,h_ (by rw [HD.out]; rfl),Fr.refl _⟩
 case round =>
  obtain ⟨j,hj,rfl,HJ,hfr⟩ := hrel
  by_cases hlt : j < n
  ·obtain ⟨t,ht⟩ : ∃ t,l[j]? = some t := ⟨_,List.getElem?_eq_getElem (by rw [← HN.out]; exact hlt)⟩
   have hstep := allK_drop (k := p) ht
   obtain ⟨b,off,lv,rfl,hc5,hln,_⟩ := (HV.out.fr (hfr)).at_ ht
   obtain ⟨x0,x1,x2,x3,x4⟩ := hc5
   obtain ⟨la,lc,rfl,_,_,_⟩ := hln.form
   obtain ⟨ll,hll⟩ : ∃ x : Nat,x = t.l.length := ⟨_,rfl⟩
   rw [← hll] at x3 hln
   have HL := h_ hln
   obtain ⟨D1,hD1⟩ : ∃ d,d = okP t p := ⟨_,rfl⟩
   have HC : Hid (∀ W,Fr wr W → Calls prog fn #[.agg #[.int .i64 t.op,.int .i64 t.n,.string t.s,.slice la ll lc,.int .i64 t.a]] W fun e w' => e = .returned (.bool D1) ∧ Fr W w') := h_ (fun W hW => by
    rw [hD1,HFN.out]; exact HQ.out W (hfr.trans hW) t (List.mem_of_getElem? ht) _ (HL.out.fr hW) p)
   rw [← hD1] at hstep
   have HST := h_ hstep
   obtain ⟨q0,hq0,q1,hq1,q2,hq2,q4,hq4⟩ := qs_ t
   rw [← hq0,← hq1,← hq2,← hq4] at HC
   rw [← hq0] at x0
   rw [← hq1] at x1
   rw [← hq2] at x2
   rw [← hq4] at x4
   clear hln ht hstep hD1 hll hq0 hq1 hq2 hq4
   cases D1 with
   | true =>
    have HJ2 : Hid (D = allK (okL (l.drop (j + 1))) p) := h_ (by rw [HJ.out,HST.out,Bool.true_and])
    go_wp2_with fail
    refine (HC.out _ (by repeat' first | exact Fr.refl _ | refine Fr.alloc ?_ _)).mono ?_
    rintro e w1 ⟨rfl,hf1⟩
    have hfin := hfr.trans (Fr.trans (by repeat' first | exact Fr.refl _ | refine Fr.alloc ?_ _) hf1)
    go_wp2_with fail
    go_roundw
    case rel => exact ⟨j + 1,by omega,by go_num,HJ2,hfin⟩
    case measure => simp [intOf]; omega
   | false =>
    have HJ2 : Hid (D = false) := h_ (by rw [HJ.out,HST.out,Bool.false_and])
    go_wp2_with fail
    refine (HC.out _ (by repeat' first | exact Fr.refl _ | refine Fr.alloc ?_ _)).mono ?_
    rintro e w1 ⟨rfl,hf1⟩
    have hfin := hfr.trans (Fr.trans (by repeat' first | exact Fr.refl _ | refine Fr.alloc ?_ _) hf1)
    go_wp2_with fail
    go_ret
    rw [HJ2.out]
    exact ⟨rfl,hfin⟩
  ·obtain rfl : j = n := by omega
   have HR : Hid (D = true) := h_ (by rw [HJ.out,List.drop_eq_nil_of_le (by rw [← HN.out]; exact Nat.le_refl _),okL]; rfl)
   go_wp2_with fail
   go_ret
   rw [HR.out]
   exact ⟨rfl,hfr⟩
theorem Nb.al {w : World} {b : Nat} {x0 x1 x2 x3 x4 : Value} (h : Nb w b x0 x1 x2 x3 x4) (o : Obj) : Nb (w.alloc o) b x0 x1 x2 x3 x4 := h.fr ((Fr.refl w).alloc o)
theorem kinds_any (t : Nd) (lt : Value) (w : World) (ks : List Pr) (kv : Value) (hlt : LN w lt t.l) (hk : KV w kv ks) (hq : PQ w t.l) :
 Calls prog 147 #[ndV t lt,kv] w fun e w' => e = .returned (.bool (hasK (okL t.l) ks)) ∧ Fr w w' := by
 obtain ⟨o,nn,s,l,at_⟩ := t
 have hv : LN w lt l := hlt
 have hq : PQ w l := hq
 show Calls _ _ #[.agg #[.int .i64 o,.int .i64 nn,.string s,lt,.int .i64 at_],kv] w fun e w' => e = .returned (.bool (hasK (okL l) ks)) ∧ Fr w w'
 have HV := h_ hv
 have HQ := h_ hq
 have HK := h_ hk
 obtain ⟨a,cap,rfl,hc,hm,_⟩ := hv.form
 unfold maxLen at hm
 obtain ⟨ka,rfl,hk10,_⟩ := hk
 obtain ⟨n,hn⟩ : ∃ n,n = l.length := ⟨_,rfl⟩
 obtain ⟨m,hm0⟩ : ∃ m,m = ks.length := ⟨_,rfl⟩
 have HN := h_ hn
 have HM := h_ hm0
 rw [← hn] at hc HV ⊢
 rw [← hm0] at hk10 HK ⊢
 obtain ⟨D,hD⟩ : ∃ d,d = hasK (okL l) ks := ⟨_,rfl⟩
 have HD := h_ hD
 rw [← hD]
 obtain ⟨w0,hw0⟩ : ∃ w0,w0 = w.alloc (.cells #[.int .i64 o,.int .i64 nn,.string s,.slice a n cap,.int .i64 at_] 32) := ⟨_,rfl⟩
 have HF0 : Hid (Fr w w0) := h_ (by rw [hw0]; exact (Fr.refl w).alloc _)
 have HB0 : Hid (Nb w0 w.heap.size (.int .i64 o) (.int .i64 nn) (.string s) (.slice a n cap) (.int .i64 at_)) := h_ (by rw [hw0]; exact Nb.new w _ _ _ _ _)
 have HW0 := h_ hw0
 by_cases hnm : n = m
 ·subst hnm
  have z0 : ((n : Int) == (n : Int)) = true := by simp
  have z1 : ((n : Int) != (n : Int)) = false := by simp
  clear hn hm0 hv hq hD hw0
  go_enter func147,ntmps147
  go_wp2_with fail
  try rw [← HW0.out]
  go_loopw [15] (fun i wr => ∃ j : Nat,j ≤ n ∧ i = .int .i64 j ∧ Hid (D = hasK (okL (l.drop j)) (ks.drop j)) ∧ Fr w0 wr) (fun i _ => n - (intOf i).toNat)
  case atStart => exact ⟨0,Nat.zero_le _,rfl,h_ (by rw [HD.out]; rfl),Fr.refl _⟩
  case round =>
   obtain ⟨j,hj,rfl,HJ,hfr⟩ := hrel
   obtain ⟨r0,r1,r2,r3,r4⟩ := (HB0.out.fr hfr).cells
   by_cases hlt : j < n
   ·obtain ⟨t,ht⟩ : ∃ t,l[j]? = some t := ⟨_,List.getElem?_eq_getElem (by rw [← HN.out]; exact hlt)⟩
    obtain ⟨k,hkj⟩ : ∃ k,ks[j]? = some k := ⟨_,List.getElem?_eq_getElem (by rw [← HM.out]; exact hlt)⟩
    obtain ⟨ka',hka,_,hkc⟩ := HK.out
    obtain rfl : ka = ka' := by injection hka
    obtain ⟨kb,rfl,hkcell⟩ := hkc (by rw [← HM.out]; omega)
    have kcell : wr.cell? ⟨kb,j,none⟩ = some (.func (.func k.fn) #[] #[]) := (HF0.out.trans hfr).cell (hkcell j k hkj)
    have hent := k.fn_enter
    have hstep := hasK_drop ht hkj
    obtain ⟨b,off,lv,rfl,hc5,hln,_⟩ := (HV.out.fr (HF0.out.trans hfr)).at_ ht
    obtain ⟨x0,x1,x2,x3,x4⟩ := hc5
    obtain ⟨la,lc,rfl,_,_,_⟩ := hln.form
    obtain ⟨ll,hll⟩ : ∃ x : Nat,x = t.l.length := ⟨_,rfl⟩
    rw [← hll] at x3 hln
    have HL := h_ hln
    obtain ⟨D1,hD1⟩ : ∃ d,d = okP t k := ⟨_,rfl⟩
    have HC : Hid (∀ W,Fr wr W → Calls prog k.fn #[.agg #[.int .i64 t.op,.int .i64 t.n,.string t.s,.slice la ll lc,.int .i64 t.a]] W fun e w' => e = .returned (.bool D1) ∧ Fr W w') := h_ (fun W hW => by
     rw [hD1]; exact HQ.out W ((HF0.out.trans hfr).trans hW) t (List.mem_of_getElem? ht) _ (HL.out.fr hW) k)
    rw [← hD1] at hstep
    have HST := h_ hstep
    obtain ⟨q0,hq0,q1,hq1,q2,hq2,q4,hq4⟩ := qs_ t
    rw [← hq0,← hq1,← hq2,← hq4] at HC
    rw [← hq0] at x0
    rw [← hq1] at x1
    rw [← hq2] at x2
    rw [← hq4] at x4
    clear hln ht hstep hD1 hll hq0 hq1 hq2 hq4
    obtain ⟨fn,hfn⟩ : ∃ x,x = k.fn := ⟨_,rfl⟩
    rw [← hfn] at kcell hent HC
    clear hkcell hkc hka hkj hfn
    cases D1 with
    | true =>
     have HJ2 : Hid (D = hasK (okL (l.drop (j + 1))) (ks.drop (j + 1))) := h_ (by rw [HJ.out,HST.out,Bool.true_and])
     go_wp2_with fail
     refine (HC.out _ (by repeat' first | exact Fr.refl _ | refine Fr.alloc ?_ _)).mono ?_
     rintro e w1 ⟨rfl,hf1⟩
     have hfin := hfr.trans (Fr.trans (by repeat' first | exact Fr.refl _ | refine Fr.alloc ?_ _) hf1)
     go_wp2_with fail
     go_roundw
     case rel => exact ⟨j + 1,by omega,by go_num,HJ2,hfin⟩
     case measure => simp [intOf]; omega
    | false =>
     have HJ2 : Hid (D = false) := h_ (by rw [HJ.out,HST.out,Bool.false_and])
     go_wp2_with fail
     refine (HC.out _ (by repeat' first | exact Fr.refl _ | refine Fr.alloc ?_ _)).mono ?_
     rintro e w1 ⟨rfl,hf1⟩
     have hfin := hfr.trans (Fr.trans (by repeat' first | exact Fr.refl _ | refine Fr.alloc ?_ _) hf1)
     go_wp2_with fail
     go_ret
     rw [HJ2.out]
     exact ⟨rfl,HF0.out.trans hfin⟩
   ·obtain rfl : j = n := by omega
    have HR : Hid (D = true) := h_ (by rw [HJ.out,List.drop_eq_nil_of_le (by rw [← HN.out]; exact Nat.le_refl _),List.drop_eq_nil_of_le (by rw [← HM.out]; exact Nat.le_refl _),okL,hasK])
    go_wp2_with fail
    go_ret
    rw [HR.out]
    exact ⟨rfl,HF0.out.trans hfr⟩
 ·have HR : Hid (D = false) := h_ (by rw [HD.out]; exact hasK_len _ _ (by rw [okL_len,← hn,← hm0]; exact hnm))
  have z0 : ((n : Int) == (m : Int)) = false := by rw [beq_eq_false_iff_ne]; omega
  have z1 : ((n : Int) != (m : Int)) = true := by rw [bne_iff_ne]; omega
  clear hn hm0 hv hq hD hw0 hnm
  go_enter func147,ntmps147
  go_wp2_with fail
  try rw [← HW0.out]
  go_ret
  rw [HR.out]
  exact ⟨rfl,HF0.out⟩
theorem hasSome_any (p : Pr) (t : Nd) (lt : Value) (w : World) (hlt : LN w lt t.l) (hq : PQ w t.l) :
 Calls prog 211 #[ndV t lt,p.val] w fun e w' => e = .returned (.bool (someK (okL t.l) p)) ∧ Fr w w' := by
 obtain ⟨o,nn,s,l,at_⟩ := t
 have hv : LN w lt l := hlt
 have hq : PQ w l := hq
 show Calls _ _ #[.agg #[.int .i64 o,.int .i64 nn,.string s,lt,.int .i64 at_],p.val] w fun e w' => e = .returned (.bool (someK (okL l) p)) ∧ Fr w w'
 obtain ⟨a,cap,rfl,hc,hm,_⟩ := hv.form
 unfold maxLen at hm
 have CA : Hid (∀ W,Fr w W → Calls prog 65 #[.slice a l.length cap,p.val] W fun e w' => e = .returned (.bool (allK (okL l) p)) ∧ Fr W w') := h_ (fun W h => areAll_any p l _ W (hv.fr h) (hq.fr h))
 obtain ⟨D,hD⟩ : ∃ d,d = allK (okL l) p := ⟨_,rfl⟩
 rw [← hD] at CA
 unfold someK
 rw [← hD,okL_len]
 unfold Pr.val at CA ⊢
 obtain ⟨fn,hfn⟩ : ∃ x,x = p.fn := ⟨_,rfl⟩
 obtain ⟨n,hn⟩ : ∃ n,n = l.length := ⟨_,rfl⟩
 rw [← hfn] at CA ⊢
 rw [← hn] at CA hc ⊢
 clear hv hq hD hfn hn
 by_cases h0 : 0 < n
 ·rw [decide_eq_true h0,Bool.true_and]
  go_enter func211,ntmps211
  go_wp2_with fail
  refine (CA.out _ (by repeat' first | exact Fr.refl _ | refine Fr.alloc ?_ _)).mono ?_
  rintro e w1 ⟨rfl,hf1⟩
  have hfin : Fr w w1 := Fr.trans (by repeat' first | exact Fr.refl _ | refine Fr.alloc ?_ _) hf1
  go_wp2_with fail
  go_ret
  exact ⟨rfl,hfin⟩
 ·rw [decide_eq_false h0,Bool.false_and]
  go_enter func211,ntmps211
  go_wp2_with fail
  go_ret
  exact ⟨rfl,by repeat' first | exact Fr.refl _ | refine Fr.alloc ?_ _⟩
theorem hasPairs_any (p : Pr) (t : Nd) (lt : Value) (w : World) (hlt : LN w lt t.l) (hn64 : wf64 t.n) (hq : PQ w t.l) :
 Calls prog 221 #[ndV t lt,p.val] w fun e w' => e = .returned (.bool (pairsK t.n (okL t.l) p)) ∧ Fr w w' := by
 obtain ⟨o,nn,s,l,at_⟩ := t
 have hv : LN w lt l := hlt
 have hq : PQ w l := hq
 show Calls _ _ #[.agg #[.int .i64 o,.int .i64 nn,.string s,lt,.int .i64 at_],p.val] w fun e w' => e = .returned (.bool (pairsK nn (okL l) p)) ∧ Fr w w'
 obtain ⟨a,cap,rfl,hc,hm,hz⟩ := hv.form
 unfold maxLen at hm
 obtain ⟨n,hn⟩ : ∃ n,n = l.length := ⟨_,rfl⟩
 obtain ⟨h,hh⟩ : ∃ h,h = n / 2 := ⟨_,rfl⟩
 have hhn : h ≤ n := by omega
 have CA1 : Hid (∀ W,Fr w W → Calls prog 65 #[.slice a h cap,p.val] W fun e w' => e = .returned (.bool (allK ((okL l).take h) p)) ∧ Fr W w') := h_ (fun W k => by
  rw [okL_take]
  exact areAll_any p (l.take h) _ W ((hv.fr k).take_ h (by omega)) ((hq.fr k).sub fun t ht => List.mem_of_mem_take ht))
 have CA2 : Hid (∀ W,Fr w W → 0 < n → ∃ b off,a = some ⟨b,off,none⟩ ∧ Calls prog 65 #[.slice (some ⟨b,off + h * 5,none⟩) (n - h) (cap - h),(Pr.expr).val] W fun e w' => e = .returned (.bool (allK ((okL l).drop h) .expr)) ∧ Fr W w') := h_ (fun W k h0 => by
  obtain ⟨t,ht⟩ : ∃ t,l[0]? = some t := ⟨_,List.getElem?_eq_getElem (by omega)⟩
  obtain ⟨b,off,lv,rfl,_⟩ := hv.at_ ht
  refine ⟨b,off,rfl,?_⟩
  rw [okL_drop,hn]
  exact areAll_any .expr (l.drop h) _ W ((hv.fr k).drop_ h (by omega)) ((hq.fr k).sub fun t ht => List.mem_of_mem_drop ht))
 obtain ⟨R,hR⟩ : ∃ r,r = pairsK nn (okL l) p := ⟨_,rfl⟩
 rw [← hR]
 have hPL : (okL l).length = n := by rw [okL_len,← hn]
 unfold pairsK at hR
 rw [hPL,← hh] at hR
 rw [← hn] at hc ⊢
 obtain ⟨D1,hD1⟩ : ∃ d,d = allK ((okL l).take h) p := ⟨_,rfl⟩
 obtain ⟨D2,hD2⟩ : ∃ d,d = allK ((okL l).drop h) .expr := ⟨_,rfl⟩
 rw [← hD1] at CA1 hR
 rw [← hD2] at CA2 hR
 have HB0 := h_ (Nb.new w (.int .i64 o) (.int .i64 nn) (.string s) (.slice a n cap) (.int .i64 at_))
 have HG0 : Hid (Fr w w) := h_ (Fr.refl w)
 have q1 : (n : Int).tdiv 2 = (h : Int) := by rw [hh,Int.tdiv_eq_ediv_of_nonneg (by omega)]; omega
 have q2 : IntKind.i64.wrap (h : Int) = (h : Int) := IntWalk.i64_in _ (by omega)
 have q3 : (n : Int).tmod 2 = ((n % 2 : Nat) : Int) := by rw [Int.tmod_eq_emod_of_nonneg (by omega)]; omega
 have q4 : IntKind.i64.wrap ((n % 2 : Nat) : Int) = ((n % 2 : Nat) : Int) := IntWalk.i64_in _ (by omega)
 obtain ⟨m2,hm2⟩ : ∃ x,x = n % 2 := ⟨_,rfl⟩
 rw [← hm2] at q3 q4 hR
 unfold Pr.val at CA1 CA2 ⊢
 obtain ⟨fn,hfn⟩ : ∃ x,x = p.fn := ⟨_,rfl⟩
 rw [← hfn] at CA1 ⊢
 have hhc : (h : Int) ≤ cap := by omega
 clear hv hq hlt hD1 hD2 hn hPL hfn hn64 hz
 have HM2 := h_ hm2
 have HH := h_ hh
 clear hm2 hh
 by_cases h1 : 0 < nn
 ·have e1 : decide ((0 : Int) < nn) = true := decide_eq_true h1
  by_cases h2 : nn = (h : Int)
  ·subst h2
   have e2 : ((h : Int) == (h : Int)) = true := by simp
   have h0n : 0 < n := by have := HH.out; omega
   have hch : ¬ cap = h := by have := HH.out; omega
   obtain ⟨b,off,rfl,hC2⟩ := CA2.out w (Fr.refl w) h0n
   have HC2 : Hid (∀ W,Fr w W → Calls prog 65 #[.slice (some ⟨b,off + h * 5,none⟩) (n - h) (cap - h),.func (.func Pr.expr.fn) #[] #[]] W fun e w' => e = .returned (.bool D2) ∧ Fr W w') := h_ (fun W k => by
    obtain ⟨b2,off2,e,hc⟩ := CA2.out W k h0n
    cases e
    exact hc)
   clear hC2
   by_cases h3 : m2 = 0
   ·subst h3
    cases D1 with
    | true =>
     have HR : Hid (R = D2) := h_ (by rw [hR]; simp; omega)
     clear hR
     go_enter func221,ntmps221
     go_wp2_with fail
     refine (CA1.out _ (by repeat' first | exact HG0.out | refine Fr.alloc ?_ _)).mono ?_
     rintro e w1 ⟨rfl,hf1⟩
     have HG1 : Hid (Fr w w1) := h_ (Fr.trans (by repeat' first | exact Fr.refl _ | refine Fr.alloc ?_ _) hf1)
     have HB1 := h_ (Nb.fr HB0.out hf1)
     obtain ⟨k10,k11,k12,k13,k14⟩ := HB1.out.cells
     clear hf1
     go_wp2_with fail
     refine (HC2.out _ HG1.out).mono ?_
     rintro e w2 ⟨rfl,hf2⟩
     have HG2 : Hid (Fr w w2) := h_ (HG1.out.trans hf2)
     clear hf2
     go_wp2_with fail
     go_ret
     rw [HR.out]
     exact ⟨rfl,HG2.out⟩
    | false =>
     have HR : Hid (R = false) := h_ (by rw [hR]; simp)
     clear hR
     go_enter func221,ntmps221
     go_wp2_with fail
     refine (CA1.out _ (by repeat' first | exact HG0.out | refine Fr.alloc ?_ _)).mono ?_
     rintro e w1 ⟨rfl,hf1⟩
     have HG1 : Hid (Fr w w1) := h_ (Fr.trans (by repeat' first | exact Fr.refl _ | refine Fr.alloc ?_ _) hf1)
     have HB1 := h_ (Nb.fr HB0.out hf1)
     obtain ⟨k10,k11,k12,k13,k14⟩ := HB1.out.cells
     clear hf1
     go_wp2_with fail
     go_ret
     rw [HR.out]
     exact ⟨rfl,HG1.out⟩
   ·have e3 : ((m2 : Int) == 0) = false := by rw [beq_eq_false_iff_ne]; omega
    have HR : Hid (R = false) := h_ (by rw [hR]; simp [h3])
    clear hR
    go_enter func221,ntmps221
    go_wp2_with fail
    go_ret
    rw [HR.out]
    exact ⟨rfl,(by repeat' first | exact Fr.refl _ | refine Fr.alloc ?_ _)⟩
  ·have e2 : (nn == (h : Int)) = false := by rw [beq_eq_false_iff_ne]; exact h2
   have HR : Hid (R = false) := h_ (by rw [hR]; simp [h2])
   clear hR
   go_enter func221,ntmps221
   go_wp2_with fail
   go_ret
   rw [HR.out]
   exact ⟨rfl,(by repeat' first | exact Fr.refl _ | refine Fr.alloc ?_ _)⟩
 ·have e1 : decide ((0 : Int) < nn) = false := decide_eq_false h1
  have HR : Hid (R = false) := h_ (by rw [hR]; simp [show ¬ 0 < nn from h1])
  clear hR
  go_enter func221,ntmps221
  go_wp2_with fail
  go_ret
  rw [HR.out]
  exact ⟨rfl,(by repeat' first | exact Fr.refl _ | refine Fr.alloc ?_ _)⟩
def FB (w W : World) (x0 x1 x2 x3 x4 : Value) : Prop := Fr w W ∧ Nb W w.heap.size x0 x1 x2 x3 x4
theorem FB.new (w : World) (x0 x1 x2 x3 x4 : Value) : FB w (w.alloc (.cells #[x0,x1,x2,x3,x4] 32)) x0 x1 x2 x3 x4 := ⟨(Fr.refl w).alloc _,Nb.new w _ _ _ _ _⟩
theorem FB.al {w W : World} {x0 x1 x2 x3 x4 : Value} (h : FB w W x0 x1 x2 x3 x4) (o : Obj) : FB w (W.alloc o) x0 x1 x2 x3 x4 := ⟨h.1.alloc o,Nb.al h.2 o⟩
theorem FB.st {w W W' : World} {x0 x1 x2 x3 x4 : Value} (h : FB w W x0 x1 x2 x3 x4) (k : Fr W W') : FB w W' x0 x1 x2 x3 x4 := ⟨h.1.trans k,h.2.fr k⟩
theorem c_or {p a b : Prop} [Decidable p] (f : p → a) (g : ¬ p → b) : (p ∧ a) ∨ (¬ p ∧ b) := (Decidable.em p).imp (fun h => ⟨h,f h⟩) (fun h => ⟨h,g h⟩)
theorem c_o1 {p b : Prop} [Decidable p] (g : ¬ p → b) : p ∨ (¬ p ∧ b) := (Decidable.em p).imp id (fun h => ⟨h,g h⟩)
theorem c_emp (s : ByteArray) : (s.size = 0 ∧ s.toList.isEmpty = true) ∨ (¬ s.size = 0 ∧ s.toList.isEmpty = false) := c_or (fun h => emp_yes h) (fun h => emp_no (Nat.pos_of_ne_zero h))
theorem nz {o k : Int} (h : ¬ o = k) : (o == k) = false := by rw [beq_eq_false_iff_ne]; exact h
theorem isName_of (t : Nd) (lt : Value) (w : World) (hlt : LN w lt t.l) (hs : t.s.size ≤ 2000000) (hn64 : wf64 t.n) (hq : PQ w t.l) :
 Calls prog 148 #[ndV t lt] w fun e w' => e = .returned (.bool (nodeR .name t.op t.n t.s (okL t.l))) ∧ Fr w w' := by
 obtain ⟨o,n,s,l,a⟩ := t
 have hlt : LN w lt l := hlt
 have hs : s.size ≤ 2000000 := hs
 have hn64 : wf64 n := hn64
 have hq : PQ w l := hq
 show Calls _ _ #[.agg #[.int .i64 o,.int .i64 n,.string s,lt,.int .i64 a]] w fun e w' => e = .returned (.bool (nodeR .name o n s (okL l))) ∧ Fr w w'
 obtain ⟨b0,cap,rfl,hcap,hcm,_⟩ := hlt.form
 obtain ⟨len,hlen⟩ : ∃ x,x = l.length := ⟨_,rfl⟩
 rw [← hlen] at hlt ⊢
 obtain ⟨P,hP⟩ : ∃ x,x = okL l := ⟨_,rfl⟩
 rw [← hP]
 have CNm : Hid (∀ W,Fr w W → Calls prog 163 #[.agg #[.int .i64 o,.int .i64 n,.string s,.slice b0 len cap,.int .i64 a]] W fun e w' => e = .returned (.bool (named n s)) ∧ Fr W w') := h_ (fun W h => isNamed_any ⟨o,n,s,l,a⟩ _ W)
 have CH : Hid (∀ W,Fr w W → ∀ ks kv,KV W kv ks → Calls prog 147 #[.agg #[.int .i64 o,.int .i64 n,.string s,.slice b0 len cap,.int .i64 a],kv] W fun e w' => e = .returned (.bool (hasK P ks)) ∧ Fr W w') := h_ (fun W h ks kv hk => by rw [hP]; exact kinds_any ⟨o,n,s,l,a⟩ _ W ks kv (hlt.fr h) hk (hq.fr h))
 obtain ⟨R,hR⟩ : ∃ r,r = (nodeR .name o n s P) := ⟨_,rfl⟩
 rw [← hR]
 have HPL : Hid (P.length = len) := h_ (by rw [hP,hlen,okL_len])
 have HLEN := h_ hlen
 have HCAP := h_ hcap
 have hn1 := h_ hn64
 clear hlt hq hP hlen hcap hcm hs hn64
 have G := h_ (FB.new w (.int .i64 o) (.int .i64 n) (.string s) (.slice b0 len cap) (.int .i64 a))
 by_cases g : o = 6
 ·subst g
  replace hR : R = (named n s && hasK P []) := by first | exact hR | (rw [hR]; first | rfl | simp [nodeR,exprR,nameR,plainR,callR,blockR,repR,cmdR,itemR,constR,declR,fewR])
  rcases Bool.eq_false_or_eq_true (named n s) with hv1 | hv1 <;> (rw [hv1] at CNm; try rw [hv1] at hR)
  all_goals
   try simp [*] at hR
   have HR := h_ hR
   clear hR
   try clear h5
   go_enter func148,ntmps148
   go_wp2_with fail
   repeat
    first
     | ((with_reducible refine (CNm.out _ ?_).mono ?_); first | exact G.out.1 | exact (G.out.al _).1)
     | (go_at_call 147; refine (CH.out _ (by first | exact G.out.1 | exact (G.out.al _).1) [] _ (KV.nil _)).mono ?_)
    rintro e w1 ⟨rfl,hf⟩
    first | replace G := h_ (G.out.st hf) | replace G := h_ ((G.out.al _).st hf)
    obtain ⟨k0,k1,k2,k3,k4⟩ := G.out.2.cells
    clear hf
    go_wp2_with fail
   go_ret
   rw [HR.out]
   exact ⟨rfl,(by first | exact G.out.1 | exact (G.out.al _).1)⟩
 have g6 := g
 clear g
 have z6 := nz g6
 replace hR : R = (false) := by first | (rw [hR]; simp [nodeR,exprR,nameR,plainR,callR,blockR,repR,cmdR,itemR,constR,declR,fewR,g6]; done) | (rw [hR]; rfl)
 clear g6
 all_goals
  try simp [*] at hR
  have HR := h_ hR
  clear hR
  try clear h5
  go_enter func148,ntmps148
  go_wp2_with fail
  go_ret
  rw [HR.out]
  exact ⟨rfl,(by first | exact G.out.1 | exact (G.out.al _).1)⟩
theorem isPlainExpression_of (t : Nd) (lt : Value) (w : World) (hlt : LN w lt t.l) (hs : t.s.size ≤ 2000000) (hn64 : wf64 t.n) (hq : PQ w t.l) :
 Calls prog 149 #[ndV t lt] w fun e w' => e = .returned (.bool (plainR t.op (okL t.l))) ∧ Fr w w' := by
 obtain ⟨o,n,s,l,a⟩ := t
 have hlt : LN w lt l := hlt
 have hs : s.size ≤ 2000000 := hs
 have hn64 : wf64 n := hn64
 have hq : PQ w l := hq
 show Calls _ _ #[.agg #[.int .i64 o,.int .i64 n,.string s,lt,.int .i64 a]] w fun e w' => e = .returned (.bool (plainR o (okL l))) ∧ Fr w w'
 obtain ⟨b0,cap,rfl,hcap,hcm,_⟩ := hlt.form
 obtain ⟨len,hlen⟩ : ∃ x,x = l.length := ⟨_,rfl⟩
 rw [← hlen] at hlt ⊢
 obtain ⟨P,hP⟩ : ∃ x,x = okL l := ⟨_,rfl⟩
 rw [← hP]
 have CH : Hid (∀ W,Fr w W → ∀ ks kv,KV W kv ks → Calls prog 147 #[.agg #[.int .i64 o,.int .i64 n,.string s,.slice b0 len cap,.int .i64 a],kv] W fun e w' => e = .returned (.bool (hasK P ks)) ∧ Fr W w') := h_ (fun W h ks kv hk => by rw [hP]; exact kinds_any ⟨o,n,s,l,a⟩ _ W ks kv (hlt.fr h) hk (hq.fr h))
 have CS : Hid (∀ W,Fr w W → ∀ k : Pr,Calls prog 211 #[.agg #[.int .i64 o,.int .i64 n,.string s,.slice b0 len cap,.int .i64 a],k.val] W fun e w' => e = .returned (.bool (someK P k)) ∧ Fr W w') := h_ (fun W h k => by rw [hP]; exact hasSome_any k ⟨o,n,s,l,a⟩ _ W (hlt.fr h) (hq.fr h))
 obtain ⟨R,hR⟩ : ∃ r,r = (plainR o P) := ⟨_,rfl⟩
 rw [← hR]
 have HPL : Hid (P.length = len) := h_ (by rw [hP,hlen,okL_len])
 have HLEN := h_ hlen
 have HCAP := h_ hcap
 have hn1 := h_ hn64
 clear hlt hq hP hlen hcap hcm hs hn64
 have G := h_ (FB.new w (.int .i64 o) (.int .i64 n) (.string s) (.slice b0 len cap) (.int .i64 a))
 by_cases g : o = 3 ∨ o = 4 ∨ o = 5
 ·rcases g with rfl | rfl | rfl
  all_goals
   replace hR : R = (hasK P []) := by first | exact hR | (rw [hR]; first | rfl | simp [nodeR,exprR,nameR,plainR,callR,blockR,repR,cmdR,itemR,constR,declR,fewR])
   all_goals
    try simp [*] at hR
    have HR := h_ hR
    clear hR
    try clear h5
    go_enter func149,ntmps149
    go_wp2_with fail
    repeat
     first
      | (go_at_call 147; refine (CH.out _ (by first | exact G.out.1 | exact (G.out.al _).1) [] _ (KV.nil _)).mono ?_)
     rintro e w1 ⟨rfl,hf⟩
     first | replace G := h_ (G.out.st hf) | replace G := h_ ((G.out.al _).st hf)
     obtain ⟨k0,k1,k2,k3,k4⟩ := G.out.2.cells
     clear hf
     go_wp2_with fail
    go_ret
    rw [HR.out]
    exact ⟨rfl,(by first | exact G.out.1 | exact (G.out.al _).1)⟩
 simp only [not_or] at g
 obtain ⟨g3,g4,g5⟩ := g
 have z3 := nz g3
 have z4 := nz g4
 have z5 := nz g5
 by_cases g : o = 7 ∨ o = 16
 ·rcases g with rfl | rfl
  all_goals
   replace hR : R = (someK P .expr) := by first | exact hR | (rw [hR]; first | rfl | simp [nodeR,exprR,nameR,plainR,callR,blockR,repR,cmdR,itemR,constR,declR,fewR])
   all_goals
    try simp [*] at hR
    have HR := h_ hR
    clear hR
    try clear h5
    go_enter func149,ntmps149
    go_wp2_with fail
    repeat
     first
      | (go_at_call 211; refine (CS.out _ (by first | exact G.out.1 | exact (G.out.al _).1) .expr).mono ?_)
     rintro e w1 ⟨rfl,hf⟩
     first | replace G := h_ (G.out.st hf) | replace G := h_ ((G.out.al _).st hf)
     obtain ⟨k0,k1,k2,k3,k4⟩ := G.out.2.cells
     clear hf
     go_wp2_with fail
    go_ret
    rw [HR.out]
    exact ⟨rfl,(by first | exact G.out.1 | exact (G.out.al _).1)⟩
 simp only [not_or] at g
 obtain ⟨g7,g16⟩ := g
 have z7 := nz g7
 have z16 := nz g16
 by_cases g : o = 8 ∨ o = 9 ∨ o = 17
 ·rcases g with rfl | rfl | rfl
  all_goals
   replace hR : R = (hasK P [.expr,.expr]) := by first | exact hR | (rw [hR]; first | rfl | simp [nodeR,exprR,nameR,plainR,callR,blockR,repR,cmdR,itemR,constR,declR,fewR])
   all_goals
    try simp [*] at hR
    have HR := h_ hR
    clear hR
    try clear h5
    go_enter func149,ntmps149
    go_wp2_with fail
    repeat
     first
      | (go_at_call 147; refine (CH.out _ (by first | exact G.out.1 | exact (G.out.al _).1) [.expr,.expr] _ (KV.two _ _ .expr .expr _ (by simp))).mono ?_)
     rintro e w1 ⟨rfl,hf⟩
     first | replace G := h_ (G.out.st hf) | replace G := h_ ((G.out.al _).st hf)
     obtain ⟨k0,k1,k2,k3,k4⟩ := G.out.2.cells
     clear hf
     go_wp2_with fail
    go_ret
    rw [HR.out]
    exact ⟨rfl,(by first | exact G.out.1 | exact (G.out.al _).1)⟩
 simp only [not_or] at g
 obtain ⟨g8,g9,g17⟩ := g
 have z8 := nz g8
 have z9 := nz g9
 have z17 := nz g17
 by_cases g : o = 10 ∨ o = 11
 ·rcases g with rfl | rfl
  all_goals
   replace hR : R = (hasK P [.expr]) := by first | exact hR | (rw [hR]; first | rfl | simp [nodeR,exprR,nameR,plainR,callR,blockR,repR,cmdR,itemR,constR,declR,fewR])
   all_goals
    try simp [*] at hR
    have HR := h_ hR
    clear hR
    try clear h5
    go_enter func149,ntmps149
    go_wp2_with fail
    repeat
     first
      | (go_at_call 147; refine (CH.out _ (by first | exact G.out.1 | exact (G.out.al _).1) [.expr] _ (KV.one _ _ .expr _ (by simp))).mono ?_)
     rintro e w1 ⟨rfl,hf⟩
     first | replace G := h_ (G.out.st hf) | replace G := h_ ((G.out.al _).st hf)
     obtain ⟨k0,k1,k2,k3,k4⟩ := G.out.2.cells
     clear hf
     go_wp2_with fail
    go_ret
    rw [HR.out]
    exact ⟨rfl,(by first | exact G.out.1 | exact (G.out.al _).1)⟩
 simp only [not_or] at g
 obtain ⟨g10,g11⟩ := g
 have z10 := nz g10
 have z11 := nz g11
 by_cases g : o = 14 ∨ o = 18
 ·rcases g with rfl | rfl
  all_goals
   replace hR : R = (hasK P [.expr,.expr,.expr]) := by first | exact hR | (rw [hR]; first | rfl | simp [nodeR,exprR,nameR,plainR,callR,blockR,repR,cmdR,itemR,constR,declR,fewR])
   all_goals
    try simp [*] at hR
    have HR := h_ hR
    clear hR
    try clear h5
    go_enter func149,ntmps149
    go_wp2_with fail
    repeat
     first
      | (go_at_call 147; refine (CH.out _ (by first | exact G.out.1 | exact (G.out.al _).1) [.expr,.expr,.expr] _ (KV.three _ _ .expr .expr .expr _ (by simp))).mono ?_)
     rintro e w1 ⟨rfl,hf⟩
     first | replace G := h_ (G.out.st hf) | replace G := h_ ((G.out.al _).st hf)
     obtain ⟨k0,k1,k2,k3,k4⟩ := G.out.2.cells
     clear hf
     go_wp2_with fail
    go_ret
    rw [HR.out]
    exact ⟨rfl,(by first | exact G.out.1 | exact (G.out.al _).1)⟩
 simp only [not_or] at g
 obtain ⟨g14,g18⟩ := g
 have z14 := nz g14
 have z18 := nz g18
 by_cases g : o = 15
 ·subst g
  replace hR : R = (hasK P [.block]) := by first | exact hR | (rw [hR]; first | rfl | simp [nodeR,exprR,nameR,plainR,callR,blockR,repR,cmdR,itemR,constR,declR,fewR])
  all_goals
   try simp [*] at hR
   have HR := h_ hR
   clear hR
   try clear h5
   go_enter func149,ntmps149
   go_wp2_with fail
   repeat
    first
     | (go_at_call 147; refine (CH.out _ (by first | exact G.out.1 | exact (G.out.al _).1) [.block] _ (KV.one _ _ .block _ (by simp))).mono ?_)
    rintro e w1 ⟨rfl,hf⟩
    first | replace G := h_ (G.out.st hf) | replace G := h_ ((G.out.al _).st hf)
    obtain ⟨k0,k1,k2,k3,k4⟩ := G.out.2.cells
    clear hf
    go_wp2_with fail
   go_ret
   rw [HR.out]
   exact ⟨rfl,(by first | exact G.out.1 | exact (G.out.al _).1)⟩
 have g15 := g
 clear g
 have z15 := nz g15
 replace hR : R = (false) := by first | (rw [hR]; simp [nodeR,exprR,nameR,plainR,callR,blockR,repR,cmdR,itemR,constR,declR,fewR,g3,g4,g5,g7,g16,g8,g9,g17,g10,g11,g14,g18,g15]; done) | (rw [hR]; rfl)
 clear g3 g4 g5 g7 g16 g8 g9 g17 g10 g11 g14 g18 g15
 all_goals
  try simp [*] at hR
  have HR := h_ hR
  clear hR
  try clear h5
  go_enter func149,ntmps149
  go_wp2_with fail
  go_ret
  rw [HR.out]
  exact ⟨rfl,(by first | exact G.out.1 | exact (G.out.al _).1)⟩
theorem isExpression_of (t : Nd) (lt : Value) (w : World) (hlt : LN w lt t.l) (hs : t.s.size ≤ 2000000) (hn64 : wf64 t.n) (hq : PQ w t.l) :
 Calls prog 71 #[ndV t lt] w fun e w' => e = .returned (.bool (nodeR .expr t.op t.n t.s (okL t.l))) ∧ Fr w w' := by
 obtain ⟨o,n,s,l,a⟩ := t
 have hlt : LN w lt l := hlt
 have hs : s.size ≤ 2000000 := hs
 have hn64 : wf64 n := hn64
 have hq : PQ w l := hq
 show Calls _ _ #[.agg #[.int .i64 o,.int .i64 n,.string s,lt,.int .i64 a]] w fun e w' => e = .returned (.bool (nodeR .expr o n s (okL l))) ∧ Fr w w'
 obtain ⟨b0,cap,rfl,hcap,hcm,_⟩ := hlt.form
 obtain ⟨len,hlen⟩ : ∃ x,x = l.length := ⟨_,rfl⟩
 rw [← hlen] at hlt ⊢
 obtain ⟨P,hP⟩ : ∃ x,x = okL l := ⟨_,rfl⟩
 rw [← hP]
 have CPl : Hid (∀ W,Fr w W → Calls prog 141 #[.agg #[.int .i64 o,.int .i64 n,.string s,.slice b0 len cap,.int .i64 a]] W fun e w' => e = .returned (.bool (bare n s)) ∧ Fr W w') := h_ (fun W h => nPlain_any ⟨o,n,s,l,a⟩ _ W)
 have CQt : Hid (∀ W,Fr w W → Calls prog 64 #[.string s] W fun e w' => e = .returned (.bool (qtb s)) ∧ Fr W w') := h_ (fun W h => isQuotable_any s hs W)
 have CH : Hid (∀ W,Fr w W → ∀ ks kv,KV W kv ks → Calls prog 147 #[.agg #[.int .i64 o,.int .i64 n,.string s,.slice b0 len cap,.int .i64 a],kv] W fun e w' => e = .returned (.bool (hasK P ks)) ∧ Fr W w') := h_ (fun W h ks kv hk => by rw [hP]; exact kinds_any ⟨o,n,s,l,a⟩ _ W ks kv (hlt.fr h) hk (hq.fr h))
 have CX2 : Hid (∀ W,Fr w W → Calls prog 148 #[.agg #[.int .i64 o,.int .i64 n,.string s,.slice b0 len cap,.int .i64 a]] W fun e w' => e = .returned (.bool (nodeR .name o n s P)) ∧ Fr W w') := h_ (fun W h => by rw [hP]; exact isName_of ⟨o,n,s,l,a⟩ _ W (hlt.fr h) hs hn64 (hq.fr h))
 have CX8 : Hid (∀ W,Fr w W → Calls prog 149 #[.agg #[.int .i64 o,.int .i64 n,.string s,.slice b0 len cap,.int .i64 a]] W fun e w' => e = .returned (.bool (plainR o P)) ∧ Fr W w') := h_ (fun W h => by rw [hP]; exact isPlainExpression_of ⟨o,n,s,l,a⟩ _ W (hlt.fr h) hs hn64 (hq.fr h))
 obtain ⟨R,hR⟩ : ∃ r,r = (nodeR .expr o n s P) := ⟨_,rfl⟩
 rw [← hR]
 have HPL : Hid (P.length = len) := h_ (by rw [hP,hlen,okL_len])
 have HLEN := h_ hlen
 have HCAP := h_ hcap
 have hn1 := h_ hn64
 clear hlt hq hP hlen hcap hcm hs hn64
 have G := h_ (FB.new w (.int .i64 o) (.int .i64 n) (.string s) (.slice b0 len cap) (.int .i64 a))
 by_cases g : o = 1
 ·subst g
  replace hR : R = (empS s && decide (-2147483648 ≤ n) && decide (n ≤ 2147483647) && hasK P []) := by first | exact hR | (rw [hR]; first | rfl | simp [nodeR,exprR,nameR,callR,blockR,repR,cmdR,itemR,constR,declR,fewR])
  rcases c_emp s with ⟨h1,e1⟩ | ⟨h1,e1⟩
  rcases c_or (p := -2147483648 ≤ n) (a := decide ((-2147483648 : Int) ≤ n) = true) (b := decide ((-2147483648 : Int) ≤ n) = false) (fun h2 => decide_eq_true h2) (fun h2 => decide_eq_false h2) with ⟨h2,fh2⟩ | ⟨h2,fh2⟩
  rcases c_or (p := n ≤ 2147483647) (a := decide ((n : Int) ≤ 2147483647) = true) (b := decide ((n : Int) ≤ 2147483647) = false) (fun h3 => decide_eq_true h3) (fun h3 => decide_eq_false h3) with ⟨h3,fh3⟩ | ⟨h3,fh3⟩
  all_goals
   try simp [empS, *] at hR
   have HR := h_ hR
   clear hR
   try clear h5
   go_enter func71,ntmps71
   go_wp2_with fail
   repeat
    first
     | (go_at_call 147; refine (CH.out _ (by first | exact G.out.1 | exact (G.out.al _).1) [] _ (KV.nil _)).mono ?_)
    rintro e w1 ⟨rfl,hf⟩
    first | replace G := h_ (G.out.st hf) | replace G := h_ ((G.out.al _).st hf)
    obtain ⟨k0,k1,k2,k3,k4⟩ := G.out.2.cells
    clear hf
    go_wp2_with fail
   go_ret
   rw [HR.out]
   exact ⟨rfl,(by first | exact G.out.1 | exact (G.out.al _).1)⟩
 have g1 := g
 clear g
 have z1 := nz g1
 by_cases g : o = 2
 ·subst g
  replace hR : R = (qtb s && decide (n = 0) && hasK P []) := by first | exact hR | (rw [hR]; first | rfl | simp [nodeR,exprR,nameR,callR,blockR,repR,cmdR,itemR,constR,declR,fewR])
  rcases Bool.eq_false_or_eq_true (qtb s) with hv2 | hv2 <;> (rw [hv2] at CQt; try rw [hv2] at hR)
  rcases c_o1 (p := n = 0) (b := (n == 0) = false) (fun h2 => by rw [beq_eq_false_iff_ne]; exact h2) with rfl | ⟨h2,e2⟩
  all_goals
   try simp [*] at hR
   have HR := h_ hR
   clear hR
   try clear h5
   go_enter func71,ntmps71
   go_wp2_with fail
   repeat
    first
     | ((with_reducible refine (CQt.out _ ?_).mono ?_); first | exact G.out.1 | exact (G.out.al _).1)
     | (go_at_call 147; refine (CH.out _ (by first | exact G.out.1 | exact (G.out.al _).1) [] _ (KV.nil _)).mono ?_)
    rintro e w1 ⟨rfl,hf⟩
    first | replace G := h_ (G.out.st hf) | replace G := h_ ((G.out.al _).st hf)
    obtain ⟨k0,k1,k2,k3,k4⟩ := G.out.2.cells
    clear hf
    go_wp2_with fail
   go_ret
   rw [HR.out]
   exact ⟨rfl,(by first | exact G.out.1 | exact (G.out.al _).1)⟩
 have g2 := g
 clear g
 have z2 := nz g2
 by_cases g : o = 6
 ·subst g
  replace hR : R = (nodeR .name 6 n s P) := by first | exact hR | (rw [hR]; first | rfl | simp [nodeR,exprR,nameR,callR,blockR,repR,cmdR,itemR,constR,declR,fewR])
  all_goals
   try simp [*] at hR
   have HR := h_ hR
   clear hR
   try clear h5
   go_enter func71,ntmps71
   go_wp2_with fail
   repeat
    first
     | ((with_reducible refine (CX2.out _ ?_).mono ?_); first | exact G.out.1 | exact (G.out.al _).1)
    rintro e w1 ⟨rfl,hf⟩
    first | replace G := h_ (G.out.st hf) | replace G := h_ ((G.out.al _).st hf)
    obtain ⟨k0,k1,k2,k3,k4⟩ := G.out.2.cells
    clear hf
    go_wp2_with fail
   go_ret
   rw [HR.out]
   exact ⟨rfl,(by first | exact G.out.1 | exact (G.out.al _).1)⟩
 have g6 := g
 clear g
 have z6 := nz g6
 by_cases g : o = 12
 ·subst g
  replace hR : R = (empS s && decide (1 ≤ n) && decide (n ≤ 17) && hasK P [.expr,.expr]) := by first | exact hR | (rw [hR]; first | rfl | simp [nodeR,exprR,nameR,callR,blockR,repR,cmdR,itemR,constR,declR,fewR])
  rcases c_emp s with ⟨h1,e1⟩ | ⟨h1,e1⟩
  rcases c_or (p := 1 ≤ n) (a := decide ((1 : Int) ≤ n) = true) (b := decide ((1 : Int) ≤ n) = false) (fun h2 => decide_eq_true h2) (fun h2 => decide_eq_false h2) with ⟨h2,fh2⟩ | ⟨h2,fh2⟩
  rcases c_or (p := n ≤ 17) (a := decide ((n : Int) ≤ 17) = true) (b := decide ((n : Int) ≤ 17) = false) (fun h3 => decide_eq_true h3) (fun h3 => decide_eq_false h3) with ⟨h3,fh3⟩ | ⟨h3,fh3⟩
  all_goals
   try simp [empS, *] at hR
   have HR := h_ hR
   clear hR
   try clear h5
   go_enter func71,ntmps71
   go_wp2_with fail
   repeat
    first
     | (go_at_call 147; refine (CH.out _ (by first | exact G.out.1 | exact (G.out.al _).1) [.expr,.expr] _ (KV.two _ _ .expr .expr _ (by simp))).mono ?_)
    rintro e w1 ⟨rfl,hf⟩
    first | replace G := h_ (G.out.st hf) | replace G := h_ ((G.out.al _).st hf)
    obtain ⟨k0,k1,k2,k3,k4⟩ := G.out.2.cells
    clear hf
    go_wp2_with fail
   go_ret
   rw [HR.out]
   exact ⟨rfl,(by first | exact G.out.1 | exact (G.out.al _).1)⟩
 have g12 := g
 clear g
 have z12 := nz g12
 by_cases g : o = 13
 ·subst g
  replace hR : R = (empS s && (decide (n = 18) || decide (n = 19)) && hasK P [.expr]) := by first | exact hR | (rw [hR]; first | rfl | simp [nodeR,exprR,nameR,callR,blockR,repR,cmdR,itemR,constR,declR,fewR])
  rcases c_emp s with ⟨h1,e1⟩ | ⟨h1,e1⟩
  rcases c_o1 (p := n = 18) (b := (n == 18) = false) (fun h180 => by rw [beq_eq_false_iff_ne]; exact h180) with rfl | ⟨h180,e180⟩
  rotate_left 1
  rcases c_o1 (p := n = 19) (b := (n == 19) = false) (fun h190 => by rw [beq_eq_false_iff_ne]; exact h190) with rfl | ⟨h190,e190⟩
  all_goals
   try simp [empS, *] at hR
   have HR := h_ hR
   clear hR
   try clear h5
   go_enter func71,ntmps71
   go_wp2_with fail
   repeat
    first
     | (go_at_call 147; refine (CH.out _ (by first | exact G.out.1 | exact (G.out.al _).1) [.expr] _ (KV.one _ _ .expr _ (by simp))).mono ?_)
    rintro e w1 ⟨rfl,hf⟩
    first | replace G := h_ (G.out.st hf) | replace G := h_ ((G.out.al _).st hf)
    obtain ⟨k0,k1,k2,k3,k4⟩ := G.out.2.cells
    clear hf
    go_wp2_with fail
   go_ret
   rw [HR.out]
   exact ⟨rfl,(by first | exact G.out.1 | exact (G.out.al _).1)⟩
 have g13 := g
 clear g
 have z13 := nz g13
 replace hR : R = (bare n s && plainR o P) := by first | (rw [hR]; simp [nodeR,exprR,nameR,callR,blockR,repR,cmdR,itemR,constR,declR,fewR,g1,g2,g6,g12,g13]; done) | (rw [hR]; rfl)
 clear g1 g2 g6 g12 g13
 rcases Bool.eq_false_or_eq_true (bare n s) with hv3 | hv3 <;> (rw [hv3] at CPl; try rw [hv3] at hR)
 all_goals
  try simp [*] at hR
  have HR := h_ hR
  clear hR
  try clear h5
  go_enter func71,ntmps71
  go_wp2_with fail
  repeat
   first
    | ((with_reducible refine (CPl.out _ ?_).mono ?_); first | exact G.out.1 | exact (G.out.al _).1)
    | ((with_reducible refine (CX8.out _ ?_).mono ?_); first | exact G.out.1 | exact (G.out.al _).1)
   rintro e w1 ⟨rfl,hf⟩
   first | replace G := h_ (G.out.st hf) | replace G := h_ ((G.out.al _).st hf)
   obtain ⟨k0,k1,k2,k3,k4⟩ := G.out.2.cells
   clear hf
   go_wp2_with fail
  go_ret
  rw [HR.out]
  exact ⟨rfl,(by first | exact G.out.1 | exact (G.out.al _).1)⟩
theorem isBlock_of (t : Nd) (lt : Value) (w : World) (hlt : LN w lt t.l) (hs : t.s.size ≤ 2000000) (hn64 : wf64 t.n) (hq : PQ w t.l) :
 Calls prog 164 #[ndV t lt] w fun e w' => e = .returned (.bool (nodeR .block t.op t.n t.s (okL t.l))) ∧ Fr w w' := by
 obtain ⟨o,n,s,l,a⟩ := t
 have hlt : LN w lt l := hlt
 have hs : s.size ≤ 2000000 := hs
 have hn64 : wf64 n := hn64
 have hq : PQ w l := hq
 show Calls _ _ #[.agg #[.int .i64 o,.int .i64 n,.string s,lt,.int .i64 a]] w fun e w' => e = .returned (.bool (nodeR .block o n s (okL l))) ∧ Fr w w'
 obtain ⟨b0,cap,rfl,hcap,hcm,_⟩ := hlt.form
 obtain ⟨len,hlen⟩ : ∃ x,x = l.length := ⟨_,rfl⟩
 rw [← hlen] at hlt ⊢
 obtain ⟨P,hP⟩ : ∃ x,x = okL l := ⟨_,rfl⟩
 rw [← hP]
 have CPl : Hid (∀ W,Fr w W → Calls prog 141 #[.agg #[.int .i64 o,.int .i64 n,.string s,.slice b0 len cap,.int .i64 a]] W fun e w' => e = .returned (.bool (bare n s)) ∧ Fr W w') := h_ (fun W h => nPlain_any ⟨o,n,s,l,a⟩ _ W)
 have CS : Hid (∀ W,Fr w W → ∀ k : Pr,Calls prog 211 #[.agg #[.int .i64 o,.int .i64 n,.string s,.slice b0 len cap,.int .i64 a],k.val] W fun e w' => e = .returned (.bool (someK P k)) ∧ Fr W w') := h_ (fun W h k => by rw [hP]; exact hasSome_any k ⟨o,n,s,l,a⟩ _ W (hlt.fr h) (hq.fr h))
 obtain ⟨R,hR⟩ : ∃ r,r = (nodeR .block o n s P) := ⟨_,rfl⟩
 rw [← hR]
 have HPL : Hid (P.length = len) := h_ (by rw [hP,hlen,okL_len])
 have HLEN := h_ hlen
 have HCAP := h_ hcap
 have hn1 := h_ hn64
 clear hlt hq hP hlen hcap hcm hs hn64
 have G := h_ (FB.new w (.int .i64 o) (.int .i64 n) (.string s) (.slice b0 len cap) (.int .i64 a))
 by_cases g : o = 52
 ·subst g
  replace hR : R = (bare n s && someK P .item) := by first | exact hR | (rw [hR]; first | rfl | simp [nodeR,exprR,nameR,plainR,callR,blockR,repR,cmdR,itemR,constR,declR,fewR,forR])
  rcases Bool.eq_false_or_eq_true (bare n s) with hv4 | hv4 <;> (rw [hv4] at CPl; try rw [hv4] at hR)
  all_goals
   try simp [*] at hR
   have HR := h_ hR
   clear hR
   try clear h5
   go_enter func164,ntmps164
   go_wp2_with fail
   repeat
    first
     | ((with_reducible refine (CPl.out _ ?_).mono ?_); first | exact G.out.1 | exact (G.out.al _).1)
     | (go_at_call 211; refine (CS.out _ (by first | exact G.out.1 | exact (G.out.al _).1) .item).mono ?_)
    rintro e w1 ⟨rfl,hf⟩
    first | replace G := h_ (G.out.st hf) | replace G := h_ ((G.out.al _).st hf)
    obtain ⟨k0,k1,k2,k3,k4⟩ := G.out.2.cells
    clear hf
    go_wp2_with fail
   go_ret
   rw [HR.out]
   exact ⟨rfl,(by first | exact G.out.1 | exact (G.out.al _).1)⟩
 have g52 := g
 clear g
 have z52 := nz g52
 replace hR : R = (false) := by first | (rw [hR]; simp [nodeR,exprR,nameR,plainR,callR,blockR,repR,cmdR,itemR,constR,declR,fewR,forR,g52]; done) | (rw [hR]; rfl)
 clear g52
 all_goals
  try simp [*] at hR
  have HR := h_ hR
  clear hR
  try clear h5
  go_enter func164,ntmps164
  go_wp2_with fail
  go_ret
  rw [HR.out]
  exact ⟨rfl,(by first | exact G.out.1 | exact (G.out.al _).1)⟩
theorem isRepeatable_of (t : Nd) (lt : Value) (w : World) (hlt : LN w lt t.l) (hs : t.s.size ≤ 2000000) (hn64 : wf64 t.n) (hq : PQ w t.l) :
 Calls prog 165 #[ndV t lt] w fun e w' => e = .returned (.bool (nodeR .rep t.op t.n t.s (okL t.l))) ∧ Fr w w' := by
 obtain ⟨o,n,s,l,a⟩ := t
 have hlt : LN w lt l := hlt
 have hs : s.size ≤ 2000000 := hs
 have hn64 : wf64 n := hn64
 have hq : PQ w l := hq
 show Calls _ _ #[.agg #[.int .i64 o,.int .i64 n,.string s,lt,.int .i64 a]] w fun e w' => e = .returned (.bool (nodeR .rep o n s (okL l))) ∧ Fr w w'
 obtain ⟨b0,cap,rfl,hcap,hcm,_⟩ := hlt.form
 obtain ⟨len,hlen⟩ : ∃ x,x = l.length := ⟨_,rfl⟩
 rw [← hlen] at hlt ⊢
 obtain ⟨P,hP⟩ : ∃ x,x = okL l := ⟨_,rfl⟩
 rw [← hP]
 have CPl : Hid (∀ W,Fr w W → Calls prog 141 #[.agg #[.int .i64 o,.int .i64 n,.string s,.slice b0 len cap,.int .i64 a]] W fun e w' => e = .returned (.bool (bare n s)) ∧ Fr W w') := h_ (fun W h => nPlain_any ⟨o,n,s,l,a⟩ _ W)
 have CNm : Hid (∀ W,Fr w W → Calls prog 163 #[.agg #[.int .i64 o,.int .i64 n,.string s,.slice b0 len cap,.int .i64 a]] W fun e w' => e = .returned (.bool (named n s)) ∧ Fr W w') := h_ (fun W h => isNamed_any ⟨o,n,s,l,a⟩ _ W)
 have CH : Hid (∀ W,Fr w W → ∀ ks kv,KV W kv ks → Calls prog 147 #[.agg #[.int .i64 o,.int .i64 n,.string s,.slice b0 len cap,.int .i64 a],kv] W fun e w' => e = .returned (.bool (hasK P ks)) ∧ Fr W w') := h_ (fun W h ks kv hk => by rw [hP]; exact kinds_any ⟨o,n,s,l,a⟩ _ W ks kv (hlt.fr h) hk (hq.fr h))
 have CR : Hid (∀ W,Fr w W → ∀ k : Pr,Calls prog 221 #[.agg #[.int .i64 o,.int .i64 n,.string s,.slice b0 len cap,.int .i64 a],k.val] W fun e w' => e = .returned (.bool (pairsK n P k)) ∧ Fr W w') := h_ (fun W h k => by rw [hP]; exact hasPairs_any k ⟨o,n,s,l,a⟩ _ W (hlt.fr h) hn64 (hq.fr h))
 have CX4 : Hid (∀ W,Fr w W → Calls prog 164 #[.agg #[.int .i64 o,.int .i64 n,.string s,.slice b0 len cap,.int .i64 a]] W fun e w' => e = .returned (.bool (nodeR .block o n s P)) ∧ Fr W w') := h_ (fun W h => by rw [hP]; exact isBlock_of ⟨o,n,s,l,a⟩ _ W (hlt.fr h) hs hn64 (hq.fr h))
 obtain ⟨R,hR⟩ : ∃ r,r = (nodeR .rep o n s P) := ⟨_,rfl⟩
 rw [← hR]
 have HPL : Hid (P.length = len) := h_ (by rw [hP,hlen,okL_len])
 have HLEN := h_ hlen
 have HCAP := h_ hcap
 have hn1 := h_ hn64
 clear hlt hq hP hlen hcap hcm hs hn64
 have G := h_ (FB.new w (.int .i64 o) (.int .i64 n) (.string s) (.slice b0 len cap) (.int .i64 a))
 by_cases g : o = 30
 ·subst g
  replace hR : R = (empS s && pairsK n P .expr) := by first | exact hR | (rw [hR]; first | rfl | simp [nodeR,exprR,nameR,plainR,callR,blockR,repR,cmdR,itemR,constR,declR,fewR,forR])
  rcases c_emp s with ⟨h1,e1⟩ | ⟨h1,e1⟩
  all_goals
   try simp [empS, *] at hR
   have HR := h_ hR
   clear hR
   try clear h5
   go_enter func165,ntmps165
   go_wp2_with fail
   repeat
    first
     | (go_at_call 221; refine (CR.out _ (by first | exact G.out.1 | exact (G.out.al _).1) .expr).mono ?_)
    rintro e w1 ⟨rfl,hf⟩
    first | replace G := h_ (G.out.st hf) | replace G := h_ ((G.out.al _).st hf)
    obtain ⟨k0,k1,k2,k3,k4⟩ := G.out.2.cells
    clear hf
    go_wp2_with fail
   go_ret
   rw [HR.out]
   exact ⟨rfl,(by first | exact G.out.1 | exact (G.out.al _).1)⟩
 have g30 := g
 clear g
 have z30 := nz g30
 by_cases g : o = 31
 ·subst g
  replace hR : R = (bare n s && hasK P [.call]) := by first | exact hR | (rw [hR]; first | rfl | simp [nodeR,exprR,nameR,plainR,callR,blockR,repR,cmdR,itemR,constR,declR,fewR,forR])
  rcases Bool.eq_false_or_eq_true (bare n s) with hv5 | hv5 <;> (rw [hv5] at CPl; try rw [hv5] at hR)
  all_goals
   try simp [*] at hR
   have HR := h_ hR
   clear hR
   try clear h5
   go_enter func165,ntmps165
   go_wp2_with fail
   repeat
    first
     | ((with_reducible refine (CPl.out _ ?_).mono ?_); first | exact G.out.1 | exact (G.out.al _).1)
     | (go_at_call 147; refine (CH.out _ (by first | exact G.out.1 | exact (G.out.al _).1) [.call] _ (KV.one _ _ .call _ (by simp))).mono ?_)
    rintro e w1 ⟨rfl,hf⟩
    first | replace G := h_ (G.out.st hf) | replace G := h_ ((G.out.al _).st hf)
    obtain ⟨k0,k1,k2,k3,k4⟩ := G.out.2.cells
    clear hf
    go_wp2_with fail
   go_ret
   rw [HR.out]
   exact ⟨rfl,(by first | exact G.out.1 | exact (G.out.al _).1)⟩
 have g31 := g
 clear g
 have z31 := nz g31
 by_cases g : o = 52
 ·subst g
  replace hR : R = (nodeR .block 52 n s P) := by first | exact hR | (rw [hR]; first | rfl | simp [nodeR,exprR,nameR,plainR,callR,blockR,repR,cmdR,itemR,constR,declR,fewR,forR])
  all_goals
   try simp [*] at hR
   have HR := h_ hR
   clear hR
   try clear h5
   go_enter func165,ntmps165
   go_wp2_with fail
   repeat
    first
     | ((with_reducible refine (CX4.out _ ?_).mono ?_); first | exact G.out.1 | exact (G.out.al _).1)
    rintro e w1 ⟨rfl,hf⟩
    first | replace G := h_ (G.out.st hf) | replace G := h_ ((G.out.al _).st hf)
    obtain ⟨k0,k1,k2,k3,k4⟩ := G.out.2.cells
    clear hf
    go_wp2_with fail
   go_ret
   rw [HR.out]
   exact ⟨rfl,(by first | exact G.out.1 | exact (G.out.al _).1)⟩
 have g52 := g
 clear g
 have z52 := nz g52
 by_cases g : o = 44 ∨ o = 45 ∨ o = 46 ∨ o = 47 ∨ o = 51
 ·rcases g with rfl | rfl | rfl | rfl | rfl
  all_goals
   replace hR : R = (bare n s && hasK P []) := by first | exact hR | (rw [hR]; first | rfl | simp [nodeR,exprR,nameR,plainR,callR,blockR,repR,cmdR,itemR,constR,declR,fewR,forR])
   rcases Bool.eq_false_or_eq_true (bare n s) with hv6 | hv6 <;> (rw [hv6] at CPl; try rw [hv6] at hR)
   all_goals
    try simp [*] at hR
    have HR := h_ hR
    clear hR
    try clear h5
    go_enter func165,ntmps165
    go_wp2_with fail
    repeat
     first
      | ((with_reducible refine (CPl.out _ ?_).mono ?_); first | exact G.out.1 | exact (G.out.al _).1)
      | (go_at_call 147; refine (CH.out _ (by first | exact G.out.1 | exact (G.out.al _).1) [] _ (KV.nil _)).mono ?_)
     rintro e w1 ⟨rfl,hf⟩
     first | replace G := h_ (G.out.st hf) | replace G := h_ ((G.out.al _).st hf)
     obtain ⟨k0,k1,k2,k3,k4⟩ := G.out.2.cells
     clear hf
     go_wp2_with fail
    go_ret
    rw [HR.out]
    exact ⟨rfl,(by first | exact G.out.1 | exact (G.out.al _).1)⟩
 simp only [not_or] at g
 obtain ⟨g44,g45,g46,g47,g51⟩ := g
 have z44 := nz g44
 have z45 := nz g45
 have z46 := nz g46
 have z47 := nz g47
 have z51 := nz g51
 by_cases g : o = 48
 ·subst g
  replace hR : R = (bare n s && hasK P [.expr]) := by first | exact hR | (rw [hR]; first | rfl | simp [nodeR,exprR,nameR,plainR,callR,blockR,repR,cmdR,itemR,constR,declR,fewR,forR])
  rcases Bool.eq_false_or_eq_true (bare n s) with hv7 | hv7 <;> (rw [hv7] at CPl; try rw [hv7] at hR)
  all_goals
   try simp [*] at hR
   have HR := h_ hR
   clear hR
   try clear h5
   go_enter func165,ntmps165
   go_wp2_with fail
   repeat
    first
     | ((with_reducible refine (CPl.out _ ?_).mono ?_); first | exact G.out.1 | exact (G.out.al _).1)
     | (go_at_call 147; refine (CH.out _ (by first | exact G.out.1 | exact (G.out.al _).1) [.expr] _ (KV.one _ _ .expr _ (by simp))).mono ?_)
    rintro e w1 ⟨rfl,hf⟩
    first | replace G := h_ (G.out.st hf) | replace G := h_ ((G.out.al _).st hf)
    obtain ⟨k0,k1,k2,k3,k4⟩ := G.out.2.cells
    clear hf
    go_wp2_with fail
   go_ret
   rw [HR.out]
   exact ⟨rfl,(by first | exact G.out.1 | exact (G.out.al _).1)⟩
 have g48 := g
 clear g
 have z48 := nz g48
 by_cases g : o = 49
 ·subst g
  replace hR : R = (named n s && hasK P []) := by first | exact hR | (rw [hR]; first | rfl | simp [nodeR,exprR,nameR,plainR,callR,blockR,repR,cmdR,itemR,constR,declR,fewR,forR])
  rcases Bool.eq_false_or_eq_true (named n s) with hv8 | hv8 <;> (rw [hv8] at CNm; try rw [hv8] at hR)
  all_goals
   try simp [*] at hR
   have HR := h_ hR
   clear hR
   try clear h5
   go_enter func165,ntmps165
   go_wp2_with fail
   repeat
    first
     | ((with_reducible refine (CNm.out _ ?_).mono ?_); first | exact G.out.1 | exact (G.out.al _).1)
     | (go_at_call 147; refine (CH.out _ (by first | exact G.out.1 | exact (G.out.al _).1) [] _ (KV.nil _)).mono ?_)
    rintro e w1 ⟨rfl,hf⟩
    first | replace G := h_ (G.out.st hf) | replace G := h_ ((G.out.al _).st hf)
    obtain ⟨k0,k1,k2,k3,k4⟩ := G.out.2.cells
    clear hf
    go_wp2_with fail
   go_ret
   rw [HR.out]
   exact ⟨rfl,(by first | exact G.out.1 | exact (G.out.al _).1)⟩
 have g49 := g
 clear g
 have z49 := nz g49
 by_cases g : o = 37
 ·subst g
  replace hR : R = (bare n s && hasK P [.rep]) := by first | exact hR | (rw [hR]; first | rfl | simp [nodeR,exprR,nameR,plainR,callR,blockR,repR,cmdR,itemR,constR,declR,fewR,forR])
  rcases Bool.eq_false_or_eq_true (bare n s) with hv9 | hv9 <;> (rw [hv9] at CPl; try rw [hv9] at hR)
  all_goals
   try simp [*] at hR
   have HR := h_ hR
   clear hR
   try clear h5
   go_enter func165,ntmps165
   go_wp2_with fail
   repeat
    first
     | ((with_reducible refine (CPl.out _ ?_).mono ?_); first | exact G.out.1 | exact (G.out.al _).1)
     | (go_at_call 147; refine (CH.out _ (by first | exact G.out.1 | exact (G.out.al _).1) [.rep] _ (KV.one _ _ .rep _ (by simp))).mono ?_)
    rintro e w1 ⟨rfl,hf⟩
    first | replace G := h_ (G.out.st hf) | replace G := h_ ((G.out.al _).st hf)
    obtain ⟨k0,k1,k2,k3,k4⟩ := G.out.2.cells
    clear hf
    go_wp2_with fail
   go_ret
   rw [HR.out]
   exact ⟨rfl,(by first | exact G.out.1 | exact (G.out.al _).1)⟩
 have g37 := g
 clear g
 have z37 := nz g37
 by_cases g : o = 38 ∨ o = 39
 ·rcases g with rfl | rfl
  all_goals
   replace hR : R = (bare n s && hasK P [.rep,.expr]) := by first | exact hR | (rw [hR]; first | rfl | simp [nodeR,exprR,nameR,plainR,callR,blockR,repR,cmdR,itemR,constR,declR,fewR,forR])
   rcases Bool.eq_false_or_eq_true (bare n s) with hv10 | hv10 <;> (rw [hv10] at CPl; try rw [hv10] at hR)
   all_goals
    try simp [*] at hR
    have HR := h_ hR
    clear hR
    try clear h5
    go_enter func165,ntmps165
    go_wp2_with fail
    repeat
     first
      | ((with_reducible refine (CPl.out _ ?_).mono ?_); first | exact G.out.1 | exact (G.out.al _).1)
      | (go_at_call 147; refine (CH.out _ (by first | exact G.out.1 | exact (G.out.al _).1) [.rep,.expr] _ (KV.two _ _ .rep .expr _ (by simp))).mono ?_)
     rintro e w1 ⟨rfl,hf⟩
     first | replace G := h_ (G.out.st hf) | replace G := h_ ((G.out.al _).st hf)
     obtain ⟨k0,k1,k2,k3,k4⟩ := G.out.2.cells
     clear hf
     go_wp2_with fail
    go_ret
    rw [HR.out]
    exact ⟨rfl,(by first | exact G.out.1 | exact (G.out.al _).1)⟩
 simp only [not_or] at g
 obtain ⟨g38,g39⟩ := g
 have z38 := nz g38
 have z39 := nz g39
 replace hR : R = (false) := by first | (rw [hR]; simp [nodeR,exprR,nameR,plainR,callR,blockR,repR,cmdR,itemR,constR,declR,fewR,forR,g30,g31,g52,g44,g45,g46,g47,g51,g48,g49,g37,g38,g39]; done) | (rw [hR]; rfl)
 clear g30 g31 g52 g44 g45 g46 g47 g51 g48 g49 g37 g38 g39
 all_goals
  try simp [*] at hR
  have HR := h_ hR
  clear hR
  try clear h5
  go_enter func165,ntmps165
  go_wp2_with fail
  go_ret
  rw [HR.out]
  exact ⟨rfl,(by first | exact G.out.1 | exact (G.out.al _).1)⟩
theorem isFor_of (t : Nd) (lt : Value) (w : World) (hlt : LN w lt t.l) (hs : t.s.size ≤ 2000000) (hn64 : wf64 t.n) (hq : PQ w t.l) :
 Calls prog 162 #[ndV t lt] w fun e w' => e = .returned (.bool (forR t.n t.s (okL t.l))) ∧ Fr w w' := by
 obtain ⟨o,n,s,l,a⟩ := t
 have hlt : LN w lt l := hlt
 have hs : s.size ≤ 2000000 := hs
 have hn64 : wf64 n := hn64
 have hq : PQ w l := hq
 show Calls _ _ #[.agg #[.int .i64 o,.int .i64 n,.string s,lt,.int .i64 a]] w fun e w' => e = .returned (.bool (forR n s (okL l))) ∧ Fr w w'
 obtain ⟨b0,cap,rfl,hcap,hcm,_⟩ := hlt.form
 obtain ⟨len,hlen⟩ : ∃ x,x = l.length := ⟨_,rfl⟩
 rw [← hlen] at hlt ⊢
 obtain ⟨P,hP⟩ : ∃ x,x = okL l := ⟨_,rfl⟩
 rw [← hP]
 have CIn : Hid (∀ W,Fr w W → Calls prog 209 #[.string s] W fun e w' => e = .returned (.bool (isNm s)) ∧ Fr W w') := h_ (fun W h => IsName_any s W)
 have CH : Hid (∀ W,Fr w W → ∀ ks kv,KV W kv ks → Calls prog 147 #[.agg #[.int .i64 o,.int .i64 n,.string s,.slice b0 len cap,.int .i64 a],kv] W fun e w' => e = .returned (.bool (hasK P ks)) ∧ Fr W w') := h_ (fun W h ks kv hk => by rw [hP]; exact kinds_any ⟨o,n,s,l,a⟩ _ W ks kv (hlt.fr h) hk (hq.fr h))
 obtain ⟨R,hR⟩ : ∃ r,r = (forR n s P) := ⟨_,rfl⟩
 rw [← hR]
 have HPL : Hid (P.length = len) := h_ (by rw [hP,hlen,okL_len])
 have HLEN := h_ hlen
 have HCAP := h_ hcap
 have hn1 := h_ hn64
 clear hlt hq hP hlen hcap hcm hs hn64
 have G := h_ (FB.new w (.int .i64 o) (.int .i64 n) (.string s) (.slice b0 len cap) (.int .i64 a))
 replace hR : R = (isNm s && (if n = 0 then hasK P [.expr,.expr,.cmd] else if n = 1 then hasK P [.expr,.expr,.expr,.cmd] else false)) := by first | (rw [hR]; simp [nodeR,exprR,nameR,plainR,callR,blockR,repR,cmdR,itemR,constR,declR,fewR,forR]; done) | (rw [hR]; rfl)
 rcases Bool.eq_false_or_eq_true (isNm s) with hv11 | hv11 <;> (rw [hv11] at CIn; try rw [hv11] at hR)
 rcases c_o1 (p := n = 0) (b := (n == 0) = false) (fun h00 => by rw [beq_eq_false_iff_ne]; exact h00) with rfl | ⟨h00,e00⟩
 rotate_left 1
 rcases c_o1 (p := n = 1) (b := (n == 1) = false) (fun h10 => by rw [beq_eq_false_iff_ne]; exact h10) with rfl | ⟨h10,e10⟩
 all_goals
  try simp [*] at hR
  have HR := h_ hR
  clear hR
  try clear h5
  go_enter func162,ntmps162
  go_wp2_with fail
  repeat
   first
    | ((with_reducible refine (CIn.out _ ?_).mono ?_); first | exact G.out.1 | exact (G.out.al _).1)
    | (go_at_call 147; (with_reducible show Calls _ _ #[_,.slice _ 4 4] _ _); refine (CH.out _ (by first | exact G.out.1 | exact (G.out.al _).1) [.expr,.expr,.expr,.cmd] _ (KV.four _ _ .expr .expr .expr .cmd _ (by simp))).mono ?_)
    | (go_at_call 147; (with_reducible show Calls _ _ #[_,.slice _ 3 3] _ _); refine (CH.out _ (by first | exact G.out.1 | exact (G.out.al _).1) [.expr,.expr,.cmd] _ (KV.three _ _ .expr .expr .cmd _ (by simp))).mono ?_)
   rintro e w1 ⟨rfl,hf⟩
   first | replace G := h_ (G.out.st hf) | replace G := h_ ((G.out.al _).st hf)
   obtain ⟨k0,k1,k2,k3,k4⟩ := G.out.2.cells
   clear hf
   go_wp2_with fail
  go_ret
  rw [HR.out]
  exact ⟨rfl,(by first | exact G.out.1 | exact (G.out.al _).1)⟩
theorem isCommand_of (t : Nd) (lt : Value) (w : World) (hlt : LN w lt t.l) (hs : t.s.size ≤ 2000000) (hn64 : wf64 t.n) (hq : PQ w t.l) :
 Calls prog 84 #[ndV t lt] w fun e w' => e = .returned (.bool (nodeR .cmd t.op t.n t.s (okL t.l))) ∧ Fr w w' := by
 obtain ⟨o,n,s,l,a⟩ := t
 have hlt : LN w lt l := hlt
 have hs : s.size ≤ 2000000 := hs
 have hn64 : wf64 n := hn64
 have hq : PQ w l := hq
 show Calls _ _ #[.agg #[.int .i64 o,.int .i64 n,.string s,lt,.int .i64 a]] w fun e w' => e = .returned (.bool (nodeR .cmd o n s (okL l))) ∧ Fr w w'
 obtain ⟨b0,cap,rfl,hcap,hcm,_⟩ := hlt.form
 obtain ⟨len,hlen⟩ : ∃ x,x = l.length := ⟨_,rfl⟩
 rw [← hlen] at hlt ⊢
 obtain ⟨P,hP⟩ : ∃ x,x = okL l := ⟨_,rfl⟩
 rw [← hP]
 have CPl : Hid (∀ W,Fr w W → Calls prog 141 #[.agg #[.int .i64 o,.int .i64 n,.string s,.slice b0 len cap,.int .i64 a]] W fun e w' => e = .returned (.bool (bare n s)) ∧ Fr W w') := h_ (fun W h => nPlain_any ⟨o,n,s,l,a⟩ _ W)
 have CNm : Hid (∀ W,Fr w W → Calls prog 163 #[.agg #[.int .i64 o,.int .i64 n,.string s,.slice b0 len cap,.int .i64 a]] W fun e w' => e = .returned (.bool (named n s)) ∧ Fr W w') := h_ (fun W h => isNamed_any ⟨o,n,s,l,a⟩ _ W)
 have CH : Hid (∀ W,Fr w W → ∀ ks kv,KV W kv ks → Calls prog 147 #[.agg #[.int .i64 o,.int .i64 n,.string s,.slice b0 len cap,.int .i64 a],kv] W fun e w' => e = .returned (.bool (hasK P ks)) ∧ Fr W w') := h_ (fun W h ks kv hk => by rw [hP]; exact kinds_any ⟨o,n,s,l,a⟩ _ W ks kv (hlt.fr h) hk (hq.fr h))
 have CX5 : Hid (∀ W,Fr w W → Calls prog 165 #[.agg #[.int .i64 o,.int .i64 n,.string s,.slice b0 len cap,.int .i64 a]] W fun e w' => e = .returned (.bool (nodeR .rep o n s P)) ∧ Fr W w') := h_ (fun W h => by rw [hP]; exact isRepeatable_of ⟨o,n,s,l,a⟩ _ W (hlt.fr h) hs hn64 (hq.fr h))
 have CX7 : Hid (∀ W,Fr w W → Calls prog 162 #[.agg #[.int .i64 o,.int .i64 n,.string s,.slice b0 len cap,.int .i64 a]] W fun e w' => e = .returned (.bool (forR n s P)) ∧ Fr W w') := h_ (fun W h => by rw [hP]; exact isFor_of ⟨o,n,s,l,a⟩ _ W (hlt.fr h) hs hn64 (hq.fr h))
 obtain ⟨R,hR⟩ : ∃ r,r = (nodeR .cmd o n s P) := ⟨_,rfl⟩
 rw [← hR]
 have HPL : Hid (P.length = len) := h_ (by rw [hP,hlen,okL_len])
 have HLEN := h_ hlen
 have HCAP := h_ hcap
 have hn1 := h_ hn64
 clear hlt hq hP hlen hcap hcm hs hn64
 have G := h_ (FB.new w (.int .i64 o) (.int .i64 n) (.string s) (.slice b0 len cap) (.int .i64 a))
 by_cases g : o = 40
 ·subst g
  replace hR : R = (forR n s P) := by first | exact hR | (rw [hR]; first | rfl | simp [nodeR,exprR,nameR,plainR,callR,blockR,cmdR,itemR,constR,declR,fewR])
  all_goals
   try simp [*] at hR
   have HR := h_ hR
   clear hR
   try clear h5
   go_enter func84,ntmps84
   go_wp2_with fail
   repeat
    first
     | ((with_reducible refine (CX7.out _ ?_).mono ?_); first | exact G.out.1 | exact (G.out.al _).1)
    rintro e w1 ⟨rfl,hf⟩
    first | replace G := h_ (G.out.st hf) | replace G := h_ ((G.out.al _).st hf)
    obtain ⟨k0,k1,k2,k3,k4⟩ := G.out.2.cells
    clear hf
    go_wp2_with fail
   go_ret
   rw [HR.out]
   exact ⟨rfl,(by first | exact G.out.1 | exact (G.out.al _).1)⟩
 have g40 := g
 clear g
 have z40 := nz g40
 by_cases g : o = 50
 ·subst g
  replace hR : R = (named n s && hasK P [.cmd]) := by first | exact hR | (rw [hR]; first | rfl | simp [nodeR,exprR,nameR,plainR,callR,blockR,cmdR,itemR,constR,declR,fewR])
  rcases Bool.eq_false_or_eq_true (named n s) with hv12 | hv12 <;> (rw [hv12] at CNm; try rw [hv12] at hR)
  all_goals
   try simp [*] at hR
   have HR := h_ hR
   clear hR
   try clear h5
   go_enter func84,ntmps84
   go_wp2_with fail
   repeat
    first
     | ((with_reducible refine (CNm.out _ ?_).mono ?_); first | exact G.out.1 | exact (G.out.al _).1)
     | (go_at_call 147; refine (CH.out _ (by first | exact G.out.1 | exact (G.out.al _).1) [.cmd] _ (KV.one _ _ .cmd _ (by simp))).mono ?_)
    rintro e w1 ⟨rfl,hf⟩
    first | replace G := h_ (G.out.st hf) | replace G := h_ ((G.out.al _).st hf)
    obtain ⟨k0,k1,k2,k3,k4⟩ := G.out.2.cells
    clear hf
    go_wp2_with fail
   go_ret
   rw [HR.out]
   exact ⟨rfl,(by first | exact G.out.1 | exact (G.out.al _).1)⟩
 have g50 := g
 clear g
 have z50 := nz g50
 by_cases g : o = 32 ∨ o = 33 ∨ o = 35 ∨ o = 36 ∨ o = 42
 ·rcases g with rfl | rfl | rfl | rfl | rfl
  all_goals
   replace hR : R = (bare n s && hasK P [.expr,.cmd]) := by first | exact hR | (rw [hR]; first | rfl | simp [nodeR,exprR,nameR,plainR,callR,blockR,cmdR,itemR,constR,declR,fewR])
   rcases Bool.eq_false_or_eq_true (bare n s) with hv13 | hv13 <;> (rw [hv13] at CPl; try rw [hv13] at hR)
   all_goals
    try simp [*] at hR
    have HR := h_ hR
    clear hR
    try clear h5
    go_enter func84,ntmps84
    go_wp2_with fail
    repeat
     first
      | ((with_reducible refine (CPl.out _ ?_).mono ?_); first | exact G.out.1 | exact (G.out.al _).1)
      | (go_at_call 147; refine (CH.out _ (by first | exact G.out.1 | exact (G.out.al _).1) [.expr,.cmd] _ (KV.two _ _ .expr .cmd _ (by simp))).mono ?_)
     rintro e w1 ⟨rfl,hf⟩
     first | replace G := h_ (G.out.st hf) | replace G := h_ ((G.out.al _).st hf)
     obtain ⟨k0,k1,k2,k3,k4⟩ := G.out.2.cells
     clear hf
     go_wp2_with fail
    go_ret
    rw [HR.out]
    exact ⟨rfl,(by first | exact G.out.1 | exact (G.out.al _).1)⟩
 simp only [not_or] at g
 obtain ⟨g32,g33,g35,g36,g42⟩ := g
 have z32 := nz g32
 have z33 := nz g33
 have z35 := nz g35
 have z36 := nz g36
 have z42 := nz g42
 by_cases g : o = 34
 ·subst g
  replace hR : R = (bare n s && hasK P [.expr,.cmd,.cmd]) := by first | exact hR | (rw [hR]; first | rfl | simp [nodeR,exprR,nameR,plainR,callR,blockR,cmdR,itemR,constR,declR,fewR])
  rcases Bool.eq_false_or_eq_true (bare n s) with hv14 | hv14 <;> (rw [hv14] at CPl; try rw [hv14] at hR)
  all_goals
   try simp [*] at hR
   have HR := h_ hR
   clear hR
   try clear h5
   go_enter func84,ntmps84
   go_wp2_with fail
   repeat
    first
     | ((with_reducible refine (CPl.out _ ?_).mono ?_); first | exact G.out.1 | exact (G.out.al _).1)
     | (go_at_call 147; refine (CH.out _ (by first | exact G.out.1 | exact (G.out.al _).1) [.expr,.cmd,.cmd] _ (KV.three _ _ .expr .cmd .cmd _ (by simp))).mono ?_)
    rintro e w1 ⟨rfl,hf⟩
    first | replace G := h_ (G.out.st hf) | replace G := h_ ((G.out.al _).st hf)
    obtain ⟨k0,k1,k2,k3,k4⟩ := G.out.2.cells
    clear hf
    go_wp2_with fail
   go_ret
   rw [HR.out]
   exact ⟨rfl,(by first | exact G.out.1 | exact (G.out.al _).1)⟩
 have g34 := g
 clear g
 have z34 := nz g34
 by_cases g : o = 41
 ·subst g
  replace hR : R = (bare n s && hasK P [.expr,.block]) := by first | exact hR | (rw [hR]; first | rfl | simp [nodeR,exprR,nameR,plainR,callR,blockR,cmdR,itemR,constR,declR,fewR])
  rcases Bool.eq_false_or_eq_true (bare n s) with hv15 | hv15 <;> (rw [hv15] at CPl; try rw [hv15] at hR)
  all_goals
   try simp [*] at hR
   have HR := h_ hR
   clear hR
   try clear h5
   go_enter func84,ntmps84
   go_wp2_with fail
   repeat
    first
     | ((with_reducible refine (CPl.out _ ?_).mono ?_); first | exact G.out.1 | exact (G.out.al _).1)
     | (go_at_call 147; refine (CH.out _ (by first | exact G.out.1 | exact (G.out.al _).1) [.expr,.block] _ (KV.two _ _ .expr .block _ (by simp))).mono ?_)
    rintro e w1 ⟨rfl,hf⟩
    first | replace G := h_ (G.out.st hf) | replace G := h_ ((G.out.al _).st hf)
    obtain ⟨k0,k1,k2,k3,k4⟩ := G.out.2.cells
    clear hf
    go_wp2_with fail
   go_ret
   rw [HR.out]
   exact ⟨rfl,(by first | exact G.out.1 | exact (G.out.al _).1)⟩
 have g41 := g
 clear g
 have z41 := nz g41
 by_cases g : o = 43
 ·subst g
  replace hR : R = (bare n s && hasK P [.cmd]) := by first | exact hR | (rw [hR]; first | rfl | simp [nodeR,exprR,nameR,plainR,callR,blockR,cmdR,itemR,constR,declR,fewR])
  rcases Bool.eq_false_or_eq_true (bare n s) with hv16 | hv16 <;> (rw [hv16] at CPl; try rw [hv16] at hR)
  all_goals
   try simp [*] at hR
   have HR := h_ hR
   clear hR
   try clear h5
   go_enter func84,ntmps84
   go_wp2_with fail
   repeat
    first
     | ((with_reducible refine (CPl.out _ ?_).mono ?_); first | exact G.out.1 | exact (G.out.al _).1)
     | (go_at_call 147; refine (CH.out _ (by first | exact G.out.1 | exact (G.out.al _).1) [.cmd] _ (KV.one _ _ .cmd _ (by simp))).mono ?_)
    rintro e w1 ⟨rfl,hf⟩
    first | replace G := h_ (G.out.st hf) | replace G := h_ ((G.out.al _).st hf)
    obtain ⟨k0,k1,k2,k3,k4⟩ := G.out.2.cells
    clear hf
    go_wp2_with fail
   go_ret
   rw [HR.out]
   exact ⟨rfl,(by first | exact G.out.1 | exact (G.out.al _).1)⟩
 have g43 := g
 clear g
 have z43 := nz g43
 by_cases g : o = 53
 ·subst g
  replace hR : R = (bare n s && hasK P []) := by first | exact hR | (rw [hR]; first | rfl | simp [nodeR,exprR,nameR,plainR,callR,blockR,cmdR,itemR,constR,declR,fewR])
  rcases Bool.eq_false_or_eq_true (bare n s) with hv17 | hv17 <;> (rw [hv17] at CPl; try rw [hv17] at hR)
  all_goals
   try simp [*] at hR
   have HR := h_ hR
   clear hR
   try clear h5
   go_enter func84,ntmps84
   go_wp2_with fail
   repeat
    first
     | ((with_reducible refine (CPl.out _ ?_).mono ?_); first | exact G.out.1 | exact (G.out.al _).1)
     | (go_at_call 147; refine (CH.out _ (by first | exact G.out.1 | exact (G.out.al _).1) [] _ (KV.nil _)).mono ?_)
    rintro e w1 ⟨rfl,hf⟩
    first | replace G := h_ (G.out.st hf) | replace G := h_ ((G.out.al _).st hf)
    obtain ⟨k0,k1,k2,k3,k4⟩ := G.out.2.cells
    clear hf
    go_wp2_with fail
   go_ret
   rw [HR.out]
   exact ⟨rfl,(by first | exact G.out.1 | exact (G.out.al _).1)⟩
 have g53 := g
 clear g
 have z53 := nz g53
 replace hR : R = (nodeR .rep o n s P) := by first | (rw [hR]; simp [nodeR,exprR,nameR,plainR,callR,blockR,cmdR,itemR,constR,declR,fewR,g40,g50,g32,g33,g35,g36,g42,g34,g41,g43,g53]; done) | (rw [hR]; rfl)
 clear g40 g50 g32 g33 g35 g36 g42 g34 g41 g43 g53
 all_goals
  try simp [*] at hR
  have HR := h_ hR
  clear hR
  try clear h5
  go_enter func84,ntmps84
  go_wp2_with fail
  repeat
   first
    | ((with_reducible refine (CX5.out _ ?_).mono ?_); first | exact G.out.1 | exact (G.out.al _).1)
   rintro e w1 ⟨rfl,hf⟩
   first | replace G := h_ (G.out.st hf) | replace G := h_ ((G.out.al _).st hf)
   obtain ⟨k0,k1,k2,k3,k4⟩ := G.out.2.cells
   clear hf
   go_wp2_with fail
  go_ret
  rw [HR.out]
  exact ⟨rfl,(by first | exact G.out.1 | exact (G.out.al _).1)⟩
theorem isItem_of (t : Nd) (lt : Value) (w : World) (hlt : LN w lt t.l) (hs : t.s.size ≤ 2000000) (hn64 : wf64 t.n) (hq : PQ w t.l) :
 Calls prog 220 #[ndV t lt] w fun e w' => e = .returned (.bool (nodeR .item t.op t.n t.s (okL t.l))) ∧ Fr w w' := by
 obtain ⟨o,n,s,l,a⟩ := t
 have hlt : LN w lt l := hlt
 have hs : s.size ≤ 2000000 := hs
 have hn64 : wf64 n := hn64
 have hq : PQ w l := hq
 show Calls _ _ #[.agg #[.int .i64 o,.int .i64 n,.string s,lt,.int .i64 a]] w fun e w' => e = .returned (.bool (nodeR .item o n s (okL l))) ∧ Fr w w'
 obtain ⟨b0,cap,rfl,hcap,hcm,_⟩ := hlt.form
 obtain ⟨len,hlen⟩ : ∃ x,x = l.length := ⟨_,rfl⟩
 rw [← hlen] at hlt ⊢
 obtain ⟨P,hP⟩ : ∃ x,x = okL l := ⟨_,rfl⟩
 rw [← hP]
 have CNm : Hid (∀ W,Fr w W → Calls prog 163 #[.agg #[.int .i64 o,.int .i64 n,.string s,.slice b0 len cap,.int .i64 a]] W fun e w' => e = .returned (.bool (named n s)) ∧ Fr W w') := h_ (fun W h => isNamed_any ⟨o,n,s,l,a⟩ _ W)
 have CH : Hid (∀ W,Fr w W → ∀ ks kv,KV W kv ks → Calls prog 147 #[.agg #[.int .i64 o,.int .i64 n,.string s,.slice b0 len cap,.int .i64 a],kv] W fun e w' => e = .returned (.bool (hasK P ks)) ∧ Fr W w') := h_ (fun W h ks kv hk => by rw [hP]; exact kinds_any ⟨o,n,s,l,a⟩ _ W ks kv (hlt.fr h) hk (hq.fr h))
 have CR : Hid (∀ W,Fr w W → ∀ k : Pr,Calls prog 221 #[.agg #[.int .i64 o,.int .i64 n,.string s,.slice b0 len cap,.int .i64 a],k.val] W fun e w' => e = .returned (.bool (pairsK n P k)) ∧ Fr W w') := h_ (fun W h k => by rw [hP]; exact hasPairs_any k ⟨o,n,s,l,a⟩ _ W (hlt.fr h) hn64 (hq.fr h))
 have CX6 : Hid (∀ W,Fr w W → Calls prog 84 #[.agg #[.int .i64 o,.int .i64 n,.string s,.slice b0 len cap,.int .i64 a]] W fun e w' => e = .returned (.bool (nodeR .cmd o n s P)) ∧ Fr W w') := h_ (fun W h => by rw [hP]; exact isCommand_of ⟨o,n,s,l,a⟩ _ W (hlt.fr h) hs hn64 (hq.fr h))
 obtain ⟨R,hR⟩ : ∃ r,r = (nodeR .item o n s P) := ⟨_,rfl⟩
 rw [← hR]
 have HPL : Hid (P.length = len) := h_ (by rw [hP,hlen,okL_len])
 have HLEN := h_ hlen
 have HCAP := h_ hcap
 have hn1 := h_ hn64
 clear hlt hq hP hlen hcap hcm hs hn64
 have G := h_ (FB.new w (.int .i64 o) (.int .i64 n) (.string s) (.slice b0 len cap) (.int .i64 a))
 by_cases g : o = 54
 ·subst g
  replace hR : R = (empS s && pairsK n P .name) := by first | exact hR | (rw [hR]; first | rfl | simp [nodeR,itemR])
  rcases c_emp s with ⟨h1,e1⟩ | ⟨h1,e1⟩
  all_goals
   try simp [empS, *] at hR
   have HR := h_ hR
   clear hR
   try clear h5
   go_enter func220,ntmps220
   go_wp2_with fail
   repeat
    first
     | (go_at_call 221; refine (CR.out _ (by first | exact G.out.1 | exact (G.out.al _).1) .name).mono ?_)
    rintro e w1 ⟨rfl,hf⟩
    first | replace G := h_ (G.out.st hf) | replace G := h_ ((G.out.al _).st hf)
    obtain ⟨k0,k1,k2,k3,k4⟩ := G.out.2.cells
    clear hf
    go_wp2_with fail
   go_ret
   rw [HR.out]
   exact ⟨rfl,(by first | exact G.out.1 | exact (G.out.al _).1)⟩
 have g54 := g
 clear g
 have z54 := nz g54
 by_cases g : o = 55
 ·subst g
  replace hR : R = (named n s && hasK P [.expr]) := by first | exact hR | (rw [hR]; first | rfl | simp [nodeR,itemR])
  rcases Bool.eq_false_or_eq_true (named n s) with hv18 | hv18 <;> (rw [hv18] at CNm; try rw [hv18] at hR)
  all_goals
   try simp [*] at hR
   have HR := h_ hR
   clear hR
   try clear h5
   go_enter func220,ntmps220
   go_wp2_with fail
   repeat
    first
     | ((with_reducible refine (CNm.out _ ?_).mono ?_); first | exact G.out.1 | exact (G.out.al _).1)
     | (go_at_call 147; refine (CH.out _ (by first | exact G.out.1 | exact (G.out.al _).1) [.expr] _ (KV.one _ _ .expr _ (by simp))).mono ?_)
    rintro e w1 ⟨rfl,hf⟩
    first | replace G := h_ (G.out.st hf) | replace G := h_ ((G.out.al _).st hf)
    obtain ⟨k0,k1,k2,k3,k4⟩ := G.out.2.cells
    clear hf
    go_wp2_with fail
   go_ret
   rw [HR.out]
   exact ⟨rfl,(by first | exact G.out.1 | exact (G.out.al _).1)⟩
 have g55 := g
 clear g
 have z55 := nz g55
 replace hR : R = (nodeR .cmd o n s P) := by first | (rw [hR]; simp [nodeR,itemR,g54,g55]; done) | (rw [hR]; rfl)
 clear g54 g55
 all_goals
  try simp [*] at hR
  have HR := h_ hR
  clear hR
  try clear h5
  go_enter func220,ntmps220
  go_wp2_with fail
  repeat
   first
    | ((with_reducible refine (CX6.out _ ?_).mono ?_); first | exact G.out.1 | exact (G.out.al _).1)
   rintro e w1 ⟨rfl,hf⟩
   first | replace G := h_ (G.out.st hf) | replace G := h_ ((G.out.al _).st hf)
   obtain ⟨k0,k1,k2,k3,k4⟩ := G.out.2.cells
   clear hf
   go_wp2_with fail
  go_ret
  rw [HR.out]
  exact ⟨rfl,(by first | exact G.out.1 | exact (G.out.al _).1)⟩
theorem isCall_of (t : Nd) (lt : Value) (w : World) (hlt : LN w lt t.l) (hs : t.s.size ≤ 2000000) (hn64 : wf64 t.n) (hq : PQ w t.l) :
 Calls prog 222 #[ndV t lt] w fun e w' => e = .returned (.bool (nodeR .call t.op t.n t.s (okL t.l))) ∧ Fr w w' := by
 obtain ⟨o,n,s,l,a⟩ := t
 have hlt : LN w lt l := hlt
 have hs : s.size ≤ 2000000 := hs
 have hn64 : wf64 n := hn64
 have hq : PQ w l := hq
 show Calls _ _ #[.agg #[.int .i64 o,.int .i64 n,.string s,lt,.int .i64 a]] w fun e w' => e = .returned (.bool (nodeR .call o n s (okL l))) ∧ Fr w w'
 obtain ⟨b0,cap,rfl,hcap,hcm,_⟩ := hlt.form
 obtain ⟨len,hlen⟩ : ∃ x,x = l.length := ⟨_,rfl⟩
 rw [← hlen] at hlt ⊢
 obtain ⟨P,hP⟩ : ∃ x,x = okL l := ⟨_,rfl⟩
 rw [← hP]
 have CX1 : Hid (∀ W,Fr w W → Calls prog 71 #[.agg #[.int .i64 o,.int .i64 n,.string s,.slice b0 len cap,.int .i64 a]] W fun e w' => e = .returned (.bool (nodeR .expr o n s P)) ∧ Fr W w') := h_ (fun W h => by rw [hP]; exact isExpression_of ⟨o,n,s,l,a⟩ _ W (hlt.fr h) hs hn64 (hq.fr h))
 obtain ⟨R,hR⟩ : ∃ r,r = (nodeR .call o n s P) := ⟨_,rfl⟩
 rw [← hR]
 have HPL : Hid (P.length = len) := h_ (by rw [hP,hlen,okL_len])
 have HLEN := h_ hlen
 have HCAP := h_ hcap
 have hn1 := h_ hn64
 clear hlt hq hP hlen hcap hcm hs hn64
 have G := h_ (FB.new w (.int .i64 o) (.int .i64 n) (.string s) (.slice b0 len cap) (.int .i64 a))
 by_cases g : o = 7
 ·subst g
  replace hR : R = (nodeR .expr 7 n s P) := by first | exact hR | (rw [hR]; first | rfl | simp [nodeR,callR])
  all_goals
   try simp [*] at hR
   have HR := h_ hR
   clear hR
   try clear h5
   go_enter func222,ntmps222
   go_wp2_with fail
   repeat
    first
     | ((with_reducible refine (CX1.out _ ?_).mono ?_); first | exact G.out.1 | exact (G.out.al _).1)
    rintro e w1 ⟨rfl,hf⟩
    first | replace G := h_ (G.out.st hf) | replace G := h_ ((G.out.al _).st hf)
    obtain ⟨k0,k1,k2,k3,k4⟩ := G.out.2.cells
    clear hf
    go_wp2_with fail
   go_ret
   rw [HR.out]
   exact ⟨rfl,(by first | exact G.out.1 | exact (G.out.al _).1)⟩
 have g7 := g
 clear g
 have z7 := nz g7
 replace hR : R = (false) := by first | (rw [hR]; simp [nodeR,callR,g7]; done) | (rw [hR]; rfl)
 clear g7
 all_goals
  try simp [*] at hR
  have HR := h_ hR
  clear hR
  try clear h5
  go_enter func222,ntmps222
  go_wp2_with fail
  go_ret
  rw [HR.out]
  exact ⟨rfl,(by first | exact G.out.1 | exact (G.out.al _).1)⟩
theorem isConstant_of (t : Nd) (lt : Value) (w : World) (hlt : LN w lt t.l) (hs : t.s.size ≤ 2000000) (hn64 : wf64 t.n) (hq : PQ w t.l) :
 Calls prog 142 #[ndV t lt] w fun e w' => e = .returned (.bool (nodeR .const t.op t.n t.s (okL t.l))) ∧ Fr w w' := by
 obtain ⟨o,n,s,l,a⟩ := t
 have hlt : LN w lt l := hlt
 have hs : s.size ≤ 2000000 := hs
 have hn64 : wf64 n := hn64
 have hq : PQ w l := hq
 show Calls _ _ #[.agg #[.int .i64 o,.int .i64 n,.string s,lt,.int .i64 a]] w fun e w' => e = .returned (.bool (nodeR .const o n s (okL l))) ∧ Fr w w'
 obtain ⟨b0,cap,rfl,hcap,hcm,_⟩ := hlt.form
 obtain ⟨len,hlen⟩ : ∃ x,x = l.length := ⟨_,rfl⟩
 rw [← hlen] at hlt ⊢
 obtain ⟨P,hP⟩ : ∃ x,x = okL l := ⟨_,rfl⟩
 rw [← hP]
 have CNm : Hid (∀ W,Fr w W → Calls prog 163 #[.agg #[.int .i64 o,.int .i64 n,.string s,.slice b0 len cap,.int .i64 a]] W fun e w' => e = .returned (.bool (named n s)) ∧ Fr W w') := h_ (fun W h => isNamed_any ⟨o,n,s,l,a⟩ _ W)
 have CH : Hid (∀ W,Fr w W → ∀ ks kv,KV W kv ks → Calls prog 147 #[.agg #[.int .i64 o,.int .i64 n,.string s,.slice b0 len cap,.int .i64 a],kv] W fun e w' => e = .returned (.bool (hasK P ks)) ∧ Fr W w') := h_ (fun W h ks kv hk => by rw [hP]; exact kinds_any ⟨o,n,s,l,a⟩ _ W ks kv (hlt.fr h) hk (hq.fr h))
 obtain ⟨R,hR⟩ : ∃ r,r = (nodeR .const o n s P) := ⟨_,rfl⟩
 rw [← hR]
 have HPL : Hid (P.length = len) := h_ (by rw [hP,hlen,okL_len])
 have HLEN := h_ hlen
 have HCAP := h_ hcap
 have hn1 := h_ hn64
 clear hlt hq hP hlen hcap hcm hs hn64
 have G := h_ (FB.new w (.int .i64 o) (.int .i64 n) (.string s) (.slice b0 len cap) (.int .i64 a))
 by_cases g : o = 63
 ·subst g
  replace hR : R = (named n s && hasK P [.expr]) := by first | exact hR | (rw [hR]; first | rfl | simp [nodeR,constR])
  rcases Bool.eq_false_or_eq_true (named n s) with hv19 | hv19 <;> (rw [hv19] at CNm; try rw [hv19] at hR)
  all_goals
   try simp [*] at hR
   have HR := h_ hR
   clear hR
   try clear h5
   go_enter func142,ntmps142
   go_wp2_with fail
   repeat
    first
     | ((with_reducible refine (CNm.out _ ?_).mono ?_); first | exact G.out.1 | exact (G.out.al _).1)
     | (go_at_call 147; refine (CH.out _ (by first | exact G.out.1 | exact (G.out.al _).1) [.expr] _ (KV.one _ _ .expr _ (by simp))).mono ?_)
    rintro e w1 ⟨rfl,hf⟩
    first | replace G := h_ (G.out.st hf) | replace G := h_ ((G.out.al _).st hf)
    obtain ⟨k0,k1,k2,k3,k4⟩ := G.out.2.cells
    clear hf
    go_wp2_with fail
   go_ret
   rw [HR.out]
   exact ⟨rfl,(by first | exact G.out.1 | exact (G.out.al _).1)⟩
 have g63 := g
 clear g
 have z63 := nz g63
 replace hR : R = (false) := by first | (rw [hR]; simp [nodeR,constR,g63]; done) | (rw [hR]; rfl)
 clear g63
 all_goals
  try simp [*] at hR
  have HR := h_ hR
  clear hR
  try clear h5
  go_enter func142,ntmps142
  go_wp2_with fail
  go_ret
  rw [HR.out]
  exact ⟨rfl,(by first | exact G.out.1 | exact (G.out.al _).1)⟩
theorem hasNotTooMany_of (t : Nd) (lt : Value) (w : World) (hlt : LN w lt t.l) (hs : t.s.size ≤ 2000000) (hn64 : wf64 t.n) (hq : PQ w t.l) :
 Calls prog 144 #[ndV t lt] w fun e w' => e = .returned (.bool (nodeR .few t.op t.n t.s (okL t.l))) ∧ Fr w w' := by
 obtain ⟨o,n,s,l,a⟩ := t
 have hlt : LN w lt l := hlt
 have hs : s.size ≤ 2000000 := hs
 have hn64 : wf64 n := hn64
 have hq : PQ w l := hq
 show Calls _ _ #[.agg #[.int .i64 o,.int .i64 n,.string s,lt,.int .i64 a]] w fun e w' => e = .returned (.bool (nodeR .few o n s (okL l))) ∧ Fr w w'
 obtain ⟨b0,cap,rfl,hcap,hcm,_⟩ := hlt.form
 obtain ⟨len,hlen⟩ : ∃ x,x = l.length := ⟨_,rfl⟩
 rw [← hlen] at hlt ⊢
 obtain ⟨P,hP⟩ : ∃ x,x = okL l := ⟨_,rfl⟩
 rw [← hP]
 have CA : Hid (∀ W,Fr w W → ∀ k : Pr,Calls prog 65 #[.slice b0 len cap,k.val] W fun e w' => e = .returned (.bool (allK P k)) ∧ Fr W w') := h_ (fun W h k => by rw [hP]; exact areAll_any k l _ W (hlt.fr h) (hq.fr h))
 obtain ⟨R,hR⟩ : ∃ r,r = (nodeR .few o n s P) := ⟨_,rfl⟩
 rw [← hR]
 have HPL : Hid (P.length = len) := h_ (by rw [hP,hlen,okL_len])
 have HLEN := h_ hlen
 have HCAP := h_ hcap
 have hn1 := h_ hn64
 clear hlt hq hP hlen hcap hcm hs hn64
 have G := h_ (FB.new w (.int .i64 o) (.int .i64 n) (.string s) (.slice b0 len cap) (.int .i64 a))
 by_cases g : o = 7 ∨ o = 64
 ·rcases g with rfl | rfl
  all_goals
   replace hR : R = (decide (len ≤ 9) && allK P .few) := by first | exact hR | (rw [hR]; first | rfl | simp [nodeR,fewR,HPL.out])
   rcases c_or (p := len ≤ 9) (a := decide ((len : Int) ≤ 9) = true) (b := decide ((len : Int) ≤ 9) = false) (fun h2 => decide_eq_true (by omega)) (fun h2 => decide_eq_false (by omega)) with ⟨h2,fh2⟩ | ⟨h2,fh2⟩
   all_goals
    try simp [*] at hR
    have HR := h_ hR
    clear hR
    try clear h5
    go_enter func144,ntmps144
    go_wp2_with fail
    repeat
     first
      | (go_at_call 65; refine (CA.out _ (by first | exact G.out.1 | exact (G.out.al _).1) .few).mono ?_)
     rintro e w1 ⟨rfl,hf⟩
     first | replace G := h_ (G.out.st hf) | replace G := h_ ((G.out.al _).st hf)
     obtain ⟨k0,k1,k2,k3,k4⟩ := G.out.2.cells
     clear hf
     go_wp2_with fail
    go_ret
    rw [HR.out]
    exact ⟨rfl,(by first | exact G.out.1 | exact (G.out.al _).1)⟩
 simp only [not_or] at g
 obtain ⟨g7,g64⟩ := g
 have z7 := nz g7
 have z64 := nz g64
 by_cases g : o = 54 ∨ o = 30
 ·rcases g with rfl | rfl
  all_goals
   replace hR : R = (decide (n ≤ 8) && allK P .few) := by first | exact hR | (rw [hR]; first | rfl | simp [nodeR,fewR,HPL.out])
   rcases c_or (p := n ≤ 8) (a := decide ((n : Int) ≤ 8) = true) (b := decide ((n : Int) ≤ 8) = false) (fun h2 => decide_eq_true h2) (fun h2 => decide_eq_false h2) with ⟨h2,fh2⟩ | ⟨h2,fh2⟩
   all_goals
    try simp [*] at hR
    have HR := h_ hR
    clear hR
    try clear h5
    go_enter func144,ntmps144
    go_wp2_with fail
    repeat
     first
      | (go_at_call 65; refine (CA.out _ (by first | exact G.out.1 | exact (G.out.al _).1) .few).mono ?_)
     rintro e w1 ⟨rfl,hf⟩
     first | replace G := h_ (G.out.st hf) | replace G := h_ ((G.out.al _).st hf)
     obtain ⟨k0,k1,k2,k3,k4⟩ := G.out.2.cells
     clear hf
     go_wp2_with fail
    go_ret
    rw [HR.out]
    exact ⟨rfl,(by first | exact G.out.1 | exact (G.out.al _).1)⟩
 simp only [not_or] at g
 obtain ⟨g54,g30⟩ := g
 have z54 := nz g54
 have z30 := nz g30
 by_cases g : o = 16
 ·subst g
  replace hR : R = (decide (len ≤ 100) && allK P .few) := by first | exact hR | (rw [hR]; first | rfl | simp [nodeR,fewR,HPL.out])
  rcases c_or (p := len ≤ 100) (a := decide ((len : Int) ≤ 100) = true) (b := decide ((len : Int) ≤ 100) = false) (fun h2 => decide_eq_true (by omega)) (fun h2 => decide_eq_false (by omega)) with ⟨h2,fh2⟩ | ⟨h2,fh2⟩
  all_goals
   try simp [*] at hR
   have HR := h_ hR
   clear hR
   try clear h5
   go_enter func144,ntmps144
   go_wp2_with fail
   repeat
    first
     | (go_at_call 65; refine (CA.out _ (by first | exact G.out.1 | exact (G.out.al _).1) .few).mono ?_)
    rintro e w1 ⟨rfl,hf⟩
    first | replace G := h_ (G.out.st hf) | replace G := h_ ((G.out.al _).st hf)
    obtain ⟨k0,k1,k2,k3,k4⟩ := G.out.2.cells
    clear hf
    go_wp2_with fail
   go_ret
   rw [HR.out]
   exact ⟨rfl,(by first | exact G.out.1 | exact (G.out.al _).1)⟩
 have g16 := g
 clear g
 have z16 := nz g16
 replace hR : R = (allK P .few) := by first | (rw [hR]; simp [nodeR,fewR,HPL.out,g7,g64,g54,g30,g16]; done) | (rw [hR]; rfl)
 clear g7 g64 g54 g30 g16
 all_goals
  try simp [*] at hR
  have HR := h_ hR
  clear hR
  try clear h5
  go_enter func144,ntmps144
  go_wp2_with fail
  repeat
   first
    | (go_at_call 65; refine (CA.out _ (by first | exact G.out.1 | exact (G.out.al _).1) .few).mono ?_)
   rintro e w1 ⟨rfl,hf⟩
   first | replace G := h_ (G.out.st hf) | replace G := h_ ((G.out.al _).st hf)
   obtain ⟨k0,k1,k2,k3,k4⟩ := G.out.2.cells
   clear hf
   go_wp2_with fail
  go_ret
  rw [HR.out]
  exact ⟨rfl,(by first | exact G.out.1 | exact (G.out.al _).1)⟩
theorem isProc_of (t : Nd) (lt : Value) (w : World) (hlt : LN w lt t.l) (hs : t.s.size ≤ 2000000) (hn64 : wf64 t.n) (hq : PQ w t.l) :
 Calls prog 143 #[ndV t lt] w fun e w' => e = .returned (.bool (procK t.n t.s (okL t.l))) ∧ Fr w w' := by
 obtain ⟨o,n,s,l,a⟩ := t
 have hlt : LN w lt l := hlt
 have hs : s.size ≤ 2000000 := hs
 have hq : PQ w l := hq
 show Calls _ _ #[.agg #[.int .i64 o,.int .i64 n,.string s,lt,.int .i64 a]] w fun e w' => e = .returned (.bool (procK n s (okL l))) ∧ Fr w w'
 obtain ⟨b0,cap,rfl,hcap,hcm,_⟩ := hlt.form
 unfold maxLen at hcm
 have CIn : Hid (∀ W,Fr w W → Calls prog 209 #[.string s] W fun e w' => e = .returned (.bool (isNm s)) ∧ Fr W w') := h_ (fun W h => IsName_any s W)
 obtain ⟨R,hR⟩ : ∃ r,r = procK n s (okL l) := ⟨_,rfl⟩
 rw [← hR]
 have hPL : (okL l).length = l.length := okL_len l
 unfold procK at hR
 rw [hPL] at hR
 have HB0 := h_ (Nb.new w (.int .i64 o) (.int .i64 n) (.string s) (.slice b0 l.length cap) (.int .i64 a))
 have HG0 : Hid (Fr w w) := h_ (Fr.refl w)
 cases hv0 : isNm s with
 | false =>
  rw [hv0] at CIn
  obtain ⟨len,hlen⟩ : ∃ x,x = l.length := ⟨_,rfl⟩
  rw [← hlen] at HB0 ⊢
  have HR : Hid (R = false) := h_ (by rw [hR]; simp [hv0])
  clear hR hlt hq hPL hlen hcap hcm hs hn64 hv0
  go_enter func143,ntmps143
  go_wp2_with fail
  refine (CIn.out _ (by repeat' first | exact HG0.out | refine Fr.alloc ?_ _)).mono ?_
  rintro e w1 ⟨rfl,hf1⟩
  have HG1 : Hid (Fr w w1) := h_ (Fr.trans (by repeat' first | exact HG0.out | refine Fr.alloc ?_ _) hf1)
  have HB1 : Hid (Nb w1 w.heap.size (.int .i64 o) (.int .i64 n) (.string s) (.slice b0 len cap) (.int .i64 a)) := h_ (Nb.fr (by first | exact HB0.out | exact Nb.al HB0.out _) hf1)
  obtain ⟨k10,k11,k12,k13,k14⟩ := HB1.out.cells
  clear hf1
  go_wp2_with fail
  go_ret
  rw [HR.out]
  exact ⟨rfl,(by repeat' first | exact Fr.refl _ | exact HG1.out | refine Fr.alloc ?_ _)⟩
 | true =>
  rw [hv0] at CIn
  by_cases hl0 : l.length = 0
  ·have HR : Hid (R = false) := h_ (by rw [hR]; simp [hv0,hl0])
   rw [hl0] at HB0 ⊢
   clear hR hlt hq hPL hcap hcm hs hn64 hv0 hl0
   go_enter func143,ntmps143
   go_wp2_with fail
   refine (CIn.out _ (by repeat' first | exact HG0.out | refine Fr.alloc ?_ _)).mono ?_
   rintro e w1 ⟨rfl,hf1⟩
   have HG1 : Hid (Fr w w1) := h_ (Fr.trans (by repeat' first | exact HG0.out | refine Fr.alloc ?_ _) hf1)
   have HB1 : Hid (Nb w1 w.heap.size (.int .i64 o) (.int .i64 n) (.string s) (.slice b0 0 cap) (.int .i64 a)) := h_ (Nb.fr (by first | exact HB0.out | exact Nb.al HB0.out _) hf1)
   obtain ⟨k10,k11,k12,k13,k14⟩ := HB1.out.cells
   clear hf1
   go_wp2_with fail
   go_ret
   rw [HR.out]
   exact ⟨rfl,(by repeat' first | exact Fr.refl _ | exact HG1.out | refine Fr.alloc ?_ _)⟩
  ·obtain ⟨k,hk⟩ : ∃ k,l.length = k + 1 := ⟨l.length - 1,by omega⟩
   obtain ⟨t,ht⟩ : ∃ t,l[k]? = some t := ⟨_,List.getElem?_eq_getElem (by omega)⟩
   have hlast : ∀ p,lastK (okL l) p = okP t p := fun p => lastK_some p (by rw [hk]; exact ht)
   have CA1 : Hid (∀ W,Fr w W → Calls prog 65 #[.slice b0 k cap,.func (.func Pr.name.fn) #[] #[]] W fun e w' => e = .returned (.bool (allK ((okL l).take k) .name)) ∧ Fr W w') := h_ (fun W h => by
    rw [okL_take]
    exact areAll_any .name (l.take k) _ W ((hlt.fr h).take_ k (by omega)) ((hq.fr h).sub fun t ht => List.mem_of_mem_take ht))
   have hmem := List.mem_of_getElem? ht
   obtain ⟨b,off,lv,rfl,hc5,hln,_⟩ := hlt.at_ ht
   have HC5 := h_ hc5
   obtain ⟨la,lc,rfl,_,_,_⟩ := hln.form
   obtain ⟨ll,hll⟩ : ∃ x : Nat,x = t.l.length := ⟨_,rfl⟩
   rw [← hll] at HC5 hln
   have CL : Hid (∀ W,Fr w W → ∀ p : Pr,Calls prog p.fn #[.agg #[.int .i64 t.op,.int .i64 t.n,.string t.s,.slice la ll lc,.int .i64 t.a]] W fun e w' => e = .returned (.bool (okP t p)) ∧ Fr W w') := h_ (fun W hW p => hq W hW t hmem _ (hln.fr hW) p)
   rw [hk] at HB0 ⊢
   rw [hk,show k + 1 - 1 = k by omega,hlast,hlast] at hR
   have i1 : IntKind.i64.wrap (((k + 1 : Nat) : Int) - 1) = (k : Int) := by rw [show ((k + 1 : Nat) : Int) - 1 = (k : Int) by omega]; exact IntWalk.i64_in _ (by omega)
   have i2 : decide ((k : Int) < 0) = false := decide_eq_false (by omega)
   obtain ⟨len,hlen⟩ : ∃ x,x = k + 1 := ⟨_,rfl⟩
   rw [← hlen] at HB0 i1 ⊢
   have hkl : k < len := by omega
   have hkc : (k : Int) ≤ cap := by omega
   have hkc2 : (k : Int) < len := by omega
   clear hlt hq hPL hlen hcap hcm hs hn64 hl0 hk ht hmem hlast hc5 hln hll
   cases hv1 : allK ((okL l).take k) .name with
   | false =>
    rw [hv1] at CA1
    have HR : Hid (R = (false)) := h_ (by first | exact hR | (rw [hR]; simp [hv0,hv1]))
    clear hR
    go_enter func143,ntmps143
    go_wp2_with fail
    refine (CIn.out _ (by repeat' first | exact HG0.out | refine Fr.alloc ?_ _)).mono ?_
    rintro e w1 ⟨rfl,hf1⟩
    have HG1 : Hid (Fr w w1) := h_ (Fr.trans (by repeat' first | exact HG0.out | refine Fr.alloc ?_ _) hf1)
    have HB1 : Hid (Nb w1 w.heap.size (.int .i64 o) (.int .i64 n) (.string s) (.slice (some ⟨b,off,none⟩) len cap) (.int .i64 a)) := h_ (Nb.fr (by first | exact HB0.out | exact Nb.al HB0.out _) hf1)
    obtain ⟨k10,k11,k12,k13,k14⟩ := HB1.out.cells
    clear hf1
    go_wp2_with fail
    refine (CA1.out _ (by repeat' first | exact Fr.refl _ | exact HG1.out | refine Fr.alloc ?_ _)).mono ?_
    rintro e w2 ⟨rfl,hf2⟩
    have HG2 : Hid (Fr w w2) := h_ (Fr.trans (by repeat' first | exact Fr.refl _ | exact HG1.out | refine Fr.alloc ?_ _) hf2)
    have HB2 : Hid (Nb w2 w.heap.size (.int .i64 o) (.int .i64 n) (.string s) (.slice (some ⟨b,off,none⟩) len cap) (.int .i64 a)) := h_ (Nb.fr (by first | exact HB1.out | exact Nb.al HB1.out _) hf2)
    obtain ⟨k20,k21,k22,k23,k24⟩ := HB2.out.cells
    clear hf2
    go_wp2_with fail
    go_ret
    rw [HR.out]
    exact ⟨rfl,(by repeat' first | exact Fr.refl _ | exact HG2.out | refine Fr.alloc ?_ _)⟩
   | true =>
    rw [hv1] at CA1
    by_cases h0 : n = 0
    ·subst h0
     have HR : Hid (R = (okP t .expr)) := h_ (by first | exact hR | (rw [hR]; simp [hv0,hv1]))
     clear hR
     go_enter func143,ntmps143
     go_wp2_with fail
     refine (CIn.out _ (by repeat' first | exact HG0.out | refine Fr.alloc ?_ _)).mono ?_
     rintro e w1 ⟨rfl,hf1⟩
     have HG1 : Hid (Fr w w1) := h_ (Fr.trans (by repeat' first | exact HG0.out | refine Fr.alloc ?_ _) hf1)
     have HB1 : Hid (Nb w1 w.heap.size (.int .i64 o) (.int .i64 0) (.string s) (.slice (some ⟨b,off,none⟩) len cap) (.int .i64 a)) := h_ (Nb.fr (by first | exact HB0.out | exact Nb.al HB0.out _) hf1)
     obtain ⟨k10,k11,k12,k13,k14⟩ := HB1.out.cells
     clear hf1
     go_wp2_with fail
     refine (CA1.out _ (by repeat' first | exact Fr.refl _ | exact HG1.out | refine Fr.alloc ?_ _)).mono ?_
     rintro e w2 ⟨rfl,hf2⟩
     have HG2 : Hid (Fr w w2) := h_ (Fr.trans (by repeat' first | exact Fr.refl _ | exact HG1.out | refine Fr.alloc ?_ _) hf2)
     have HB2 : Hid (Nb w2 w.heap.size (.int .i64 o) (.int .i64 0) (.string s) (.slice (some ⟨b,off,none⟩) len cap) (.int .i64 a)) := h_ (Nb.fr (by first | exact HB1.out | exact Nb.al HB1.out _) hf2)
     obtain ⟨k20,k21,k22,k23,k24⟩ := HB2.out.cells
     clear hf2
     obtain ⟨x0,x1,x2,x3,x4⟩ := HC5.out.fr HG2.out
     go_wp2_with fail
     refine (CL.out _ (by repeat' first | exact Fr.refl _ | exact HG2.out | refine Fr.alloc ?_ _) .expr).mono ?_
     rintro e w3 ⟨rfl,hf3⟩
     have HG3 : Hid (Fr w w3) := h_ (Fr.trans (by repeat' first | exact Fr.refl _ | exact HG2.out | refine Fr.alloc ?_ _) hf3)
     have HB3 : Hid (Nb w3 w.heap.size (.int .i64 o) (.int .i64 0) (.string s) (.slice (some ⟨b,off,none⟩) len cap) (.int .i64 a)) := h_ (Nb.fr (by first | exact HB2.out | exact Nb.al HB2.out _) hf3)
     obtain ⟨k30,k31,k32,k33,k34⟩ := HB3.out.cells
     clear hf3
     go_wp2_with fail
     go_ret
     rw [HR.out]
     exact ⟨rfl,(by repeat' first | exact Fr.refl _ | exact HG3.out | refine Fr.alloc ?_ _)⟩
    ·have e0 : (n == 0) = false := by rw [beq_eq_false_iff_ne]; exact h0
     by_cases h1 : n = 1
     ·subst h1
      have HR : Hid (R = (okP t .cmd)) := h_ (by first | exact hR | (rw [hR]; simp [hv0,hv1]))
      clear hR
      go_enter func143,ntmps143
      go_wp2_with fail
      refine (CIn.out _ (by repeat' first | exact HG0.out | refine Fr.alloc ?_ _)).mono ?_
      rintro e w1 ⟨rfl,hf1⟩
      have HG1 : Hid (Fr w w1) := h_ (Fr.trans (by repeat' first | exact HG0.out | refine Fr.alloc ?_ _) hf1)
      have HB1 : Hid (Nb w1 w.heap.size (.int .i64 o) (.int .i64 1) (.string s) (.slice (some ⟨b,off,none⟩) len cap) (.int .i64 a)) := h_ (Nb.fr (by first | exact HB0.out | exact Nb.al HB0.out _) hf1)
      obtain ⟨k10,k11,k12,k13,k14⟩ := HB1.out.cells
      clear hf1
      go_wp2_with fail
      refine (CA1.out _ (by repeat' first | exact Fr.refl _ | exact HG1.out | refine Fr.alloc ?_ _)).mono ?_
      rintro e w2 ⟨rfl,hf2⟩
      have HG2 : Hid (Fr w w2) := h_ (Fr.trans (by repeat' first | exact Fr.refl _ | exact HG1.out | refine Fr.alloc ?_ _) hf2)
      have HB2 : Hid (Nb w2 w.heap.size (.int .i64 o) (.int .i64 1) (.string s) (.slice (some ⟨b,off,none⟩) len cap) (.int .i64 a)) := h_ (Nb.fr (by first | exact HB1.out | exact Nb.al HB1.out _) hf2)
      obtain ⟨k20,k21,k22,k23,k24⟩ := HB2.out.cells
      clear hf2
      obtain ⟨x0,x1,x2,x3,x4⟩ := HC5.out.fr HG2.out
      go_wp2_with fail
      refine (CL.out _ (by repeat' first | exact Fr.refl _ | exact HG2.out | refine Fr.alloc ?_ _) .cmd).mono ?_
      rintro e w3 ⟨rfl,hf3⟩
      have HG3 : Hid (Fr w w3) := h_ (Fr.trans (by repeat' first | exact Fr.refl _ | exact HG2.out | refine Fr.alloc ?_ _) hf3)
      have HB3 : Hid (Nb w3 w.heap.size (.int .i64 o) (.int .i64 1) (.string s) (.slice (some ⟨b,off,none⟩) len cap) (.int .i64 a)) := h_ (Nb.fr (by first | exact HB2.out | exact Nb.al HB2.out _) hf3)
      obtain ⟨k30,k31,k32,k33,k34⟩ := HB3.out.cells
      clear hf3
      go_wp2_with fail
      go_ret
      rw [HR.out]
      exact ⟨rfl,(by repeat' first | exact Fr.refl _ | exact HG3.out | refine Fr.alloc ?_ _)⟩
     ·have e1 : (n == 1) = false := by rw [beq_eq_false_iff_ne]; exact h1
      have HR : Hid (R = (false)) := h_ (by first | exact hR | (rw [hR]; simp [hv0,hv1,h0,h1]))
      clear hR
      go_enter func143,ntmps143
      go_wp2_with fail
      refine (CIn.out _ (by repeat' first | exact HG0.out | refine Fr.alloc ?_ _)).mono ?_
      rintro e w1 ⟨rfl,hf1⟩
      have HG1 : Hid (Fr w w1) := h_ (Fr.trans (by repeat' first | exact HG0.out | refine Fr.alloc ?_ _) hf1)
      have HB1 : Hid (Nb w1 w.heap.size (.int .i64 o) (.int .i64 n) (.string s) (.slice (some ⟨b,off,none⟩) len cap) (.int .i64 a)) := h_ (Nb.fr (by first | exact HB0.out | exact Nb.al HB0.out _) hf1)
      obtain ⟨k10,k11,k12,k13,k14⟩ := HB1.out.cells
      clear hf1
      go_wp2_with fail
      refine (CA1.out _ (by repeat' first | exact Fr.refl _ | exact HG1.out | refine Fr.alloc ?_ _)).mono ?_
      rintro e w2 ⟨rfl,hf2⟩
      have HG2 : Hid (Fr w w2) := h_ (Fr.trans (by repeat' first | exact Fr.refl _ | exact HG1.out | refine Fr.alloc ?_ _) hf2)
      have HB2 : Hid (Nb w2 w.heap.size (.int .i64 o) (.int .i64 n) (.string s) (.slice (some ⟨b,off,none⟩) len cap) (.int .i64 a)) := h_ (Nb.fr (by first | exact HB1.out | exact Nb.al HB1.out _) hf2)
      obtain ⟨k20,k21,k22,k23,k24⟩ := HB2.out.cells
      clear hf2
      obtain ⟨x0,x1,x2,x3,x4⟩ := HC5.out.fr HG2.out
      go_wp2_with fail
      go_ret
      rw [HR.out]
      exact ⟨rfl,(by repeat' first | exact Fr.refl _ | exact HG2.out | refine Fr.alloc ?_ _)⟩
theorem isDeclaration_of (t : Nd) (lt : Value) (w : World) (hlt : LN w lt t.l) (hs : t.s.size ≤ 2000000) (hn64 : wf64 t.n) (hq : PQ w t.l) :
 Calls prog 66 #[ndV t lt] w fun e w' => e = .returned (.bool (nodeR .decl t.op t.n t.s (okL t.l))) ∧ Fr w w' := by
 obtain ⟨o,n,s,l,a⟩ := t
 have hlt : LN w lt l := hlt
 have hs : s.size ≤ 2000000 := hs
 have hn64 : wf64 n := hn64
 have hq : PQ w l := hq
 show Calls _ _ #[.agg #[.int .i64 o,.int .i64 n,.string s,lt,.int .i64 a]] w fun e w' => e = .returned (.bool (nodeR .decl o n s (okL l))) ∧ Fr w w'
 obtain ⟨b0,cap,rfl,hcap,hcm,_⟩ := hlt.form
 obtain ⟨len,hlen⟩ : ∃ x,x = l.length := ⟨_,rfl⟩
 rw [← hlen] at hlt ⊢
 obtain ⟨P,hP⟩ : ∃ x,x = okL l := ⟨_,rfl⟩
 rw [← hP]
 have CPl : Hid (∀ W,Fr w W → Calls prog 141 #[.agg #[.int .i64 o,.int .i64 n,.string s,.slice b0 len cap,.int .i64 a]] W fun e w' => e = .returned (.bool (bare n s)) ∧ Fr W w') := h_ (fun W h => nPlain_any ⟨o,n,s,l,a⟩ _ W)
 have CA : Hid (∀ W,Fr w W → ∀ k : Pr,Calls prog 65 #[.slice b0 len cap,k.val] W fun e w' => e = .returned (.bool (allK P k)) ∧ Fr W w') := h_ (fun W h k => by rw [hP]; exact areAll_any k l _ W (hlt.fr h) (hq.fr h))
 have CX9 : Hid (∀ W,Fr w W → Calls prog 143 #[.agg #[.int .i64 o,.int .i64 n,.string s,.slice b0 len cap,.int .i64 a]] W fun e w' => e = .returned (.bool (procK n s P)) ∧ Fr W w') := h_ (fun W h => by rw [hP]; exact isProc_of ⟨o,n,s,l,a⟩ _ W (hlt.fr h) hs hn64 (hq.fr h))
 obtain ⟨R,hR⟩ : ∃ r,r = (nodeR .decl o n s P) := ⟨_,rfl⟩
 rw [← hR]
 have HPL : Hid (P.length = len) := h_ (by rw [hP,hlen,okL_len])
 have HLEN := h_ hlen
 have HCAP := h_ hcap
 have hn1 := h_ hn64
 clear hlt hq hP hlen hcap hcm hs hn64
 have G := h_ (FB.new w (.int .i64 o) (.int .i64 n) (.string s) (.slice b0 len cap) (.int .i64 a))
 by_cases g : o = 60 ∨ o = 61 ∨ o = 62
 ·rcases g with rfl | rfl | rfl
  all_goals
   replace hR : R = (bare n s && allK P .const) := by first | exact hR | (rw [hR]; first | rfl | simp [nodeR,declR])
   rcases Bool.eq_false_or_eq_true (bare n s) with hv1 | hv1 <;> (rw [hv1] at CPl; try rw [hv1] at hR)
   all_goals
    try simp [*] at hR
    have HR := h_ hR
    clear hR
    try clear h5
    go_enter func66,ntmps66
    go_wp2_with fail
    repeat
     first
      | ((with_reducible refine (CPl.out _ ?_).mono ?_); first | exact G.out.1 | exact (G.out.al _).1)
      | (go_at_call 65; refine (CA.out _ (by first | exact G.out.1 | exact (G.out.al _).1) .const).mono ?_)
     rintro e w1 ⟨rfl,hf⟩
     first | replace G := h_ (G.out.st hf) | replace G := h_ ((G.out.al _).st hf)
     obtain ⟨k0,k1,k2,k3,k4⟩ := G.out.2.cells
     clear hf
     go_wp2_with fail
    go_ret
    rw [HR.out]
    exact ⟨rfl,(by first | exact G.out.1 | exact (G.out.al _).1)⟩
 simp only [not_or] at g
 obtain ⟨g60,g61,g62⟩ := g
 have z60 := nz g60
 have z61 := nz g61
 have z62 := nz g62
 by_cases g : o = 64
 ·subst g
  replace hR : R = (procK n s P) := by first | exact hR | (rw [hR]; first | rfl | simp [nodeR,declR])
  all_goals
   try simp [*] at hR
   have HR := h_ hR
   clear hR
   try clear h5
   go_enter func66,ntmps66
   go_wp2_with fail
   repeat
    first
     | ((with_reducible refine (CX9.out _ ?_).mono ?_); first | exact G.out.1 | exact (G.out.al _).1)
    rintro e w1 ⟨rfl,hf⟩
    first | replace G := h_ (G.out.st hf) | replace G := h_ ((G.out.al _).st hf)
    obtain ⟨k0,k1,k2,k3,k4⟩ := G.out.2.cells
    clear hf
    go_wp2_with fail
   go_ret
   rw [HR.out]
   exact ⟨rfl,(by first | exact G.out.1 | exact (G.out.al _).1)⟩
 have g64 := g
 clear g
 have z64 := nz g64
 replace hR : R = (false) := by first | (rw [hR]; simp [nodeR,declR,g60,g61,g62,g64]; done) | (rw [hR]; rfl)
 clear g60 g61 g62 g64
 all_goals
  try simp [*] at hR
  have HR := h_ hR
  clear hR
  try clear h5
  go_enter func66,ntmps66
  go_wp2_with fail
  go_ret
  rw [HR.out]
  exact ⟨rfl,(by first | exact G.out.1 | exact (G.out.al _).1)⟩
theorem okP_any : ∀ (m : Nat),m ≤ 2000000 → ∀ (t : Nd),t.bulk ≤ m → wfN t → ∀ (p : Pr) (lt : Value) (w : World),LN w lt t.l →
 Calls prog p.fn #[ndV t lt] w fun e w' => e = .returned (.bool (okP t p)) ∧ Fr w w' := by
 intro m
 induction m using Nat.strongRecOn with
 | _ m ih =>
  intro hm t ht hwf p lt w hlt
  have hbe := t.bulk_eq
  have hs : t.s.size ≤ 2000000 := by omega
  have hq : PQ w t.l := by
   intro W hW u hu lu hlu q
   have hub := bulks_mem hu
   have hw : wfN u := by
    cases hlt with
    | mk a cap l lv hc hm hz hr hw hs => exact hw u hu
   exact ih u.bulk (by omega) (by omega) u (Nat.le_refl _) hw q lu W hlu
  rw [okP_eq]
  cases p with
  | expr => exact isExpression_of t lt w hlt hs hwf.n hq
  | name => exact isName_of t lt w hlt hs hwf.n hq
  | call => exact isCall_of t lt w hlt hs hwf.n hq
  | block => exact isBlock_of t lt w hlt hs hwf.n hq
  | item => exact isItem_of t lt w hlt hs hwf.n hq
  | cmd => exact isCommand_of t lt w hlt hs hwf.n hq
  | rep => exact isRepeatable_of t lt w hlt hs hwf.n hq
  | const => exact isConstant_of t lt w hlt hs hwf.n hq
  | decl => exact isDeclaration_of t lt w hlt hs hwf.n hq
  | few => exact hasNotTooMany_of t lt w hlt hs hwf.n hq
theorem PQ_all (w : World) (l : List Nd) (hb : bulks l ≤ 2000000) (hw : ∀ t ∈ l,wfN t) : PQ w l := by
 intro W hW t ht lt hlt p
 have := bulks_mem ht
 exact okP_any t.bulk (by omega) t (Nat.le_refl _) (hw t ht) p lt W hlt
theorem LN.wf {w : World} {v : Value} {l : List Nd} (h : LN w v l) : ∀ t ∈ l,wfN t := by
 cases h with
 | mk a cap l lv hc hm hz hr hw hs => exact hw
def dpL (l : List Nd) : Bool := l.any fun t => decide (40 < 1 + lvlL t.l)
noncomputable def limE (l : List Nd) : Nat := if allK (okL l) .few = false then 2 else if 20000 < ndsL l then 2 else if dpL l = true then 31 else 0
noncomputable def chkE (s : ByteArray) (l : List Nd) : Nat := if qtb s = false then 3 else if allK (okL l) .decl = false then 3 else limE l
noncomputable def chkN (t : Nd) (p : Pr) : Nat := if okP t p = false then 3 else limE [t]
theorem dpL_drop {l : List Nd} {j : Nat} {t : Nd} (ht : l[j]? = some t) : dpL (l.drop j) = (decide (40 < 1 + lvlL t.l) || dpL (l.drop (j + 1))) := by
 unfold dpL; rw [any_drop _ ht]
theorem LN.one {w : World} {B : Nat} {t : Nd} {lt : Value} (hB : B = w.heap.size) (hw : wfN t) (h : LN w lt t.l) :
 LN (w.alloc (.cells #[.int .i64 t.op,.int .i64 t.n,.string t.s,lt,.int .i64 t.a] 32)) (.slice (some ⟨B,0,none⟩) 1 1) [t] := by
 subst hB
 have hb := (Nb.new w (.int .i64 t.op) (.int .i64 t.n) (.string t.s) lt (.int .i64 t.a)).cells
 have hfr : Fr w (w.alloc (.cells #[.int .i64 t.op,.int .i64 t.n,.string t.s,lt,.int .i64 t.a] 32)) := (Fr.refl w).alloc _
 refine LN.mk (some ⟨w.heap.size,0,none⟩) 1 [t] (fun _ => lt) (Nat.le_refl _) (by unfold maxLen; omega) (fun h => by cases h) (fun _ => ⟨_,_,rfl,fun i u hu => ?_⟩) (fun u hu => ?_) (fun i u hu => ?_)
 ·match i,hu with
  | 0,hu =>
   simp at hu; subst hu
   exact ⟨hb.1,hb.2.1,hb.2.2.1,hb.2.2.2.1,hb.2.2.2.2⟩
 ·simp at hu; subst hu; exact hw
 ·match i,hu with
  | 0,hu =>
   simp at hu; subst hu
   exact h.fr hfr
theorem withinLimits_any (l : List Nd) (v : Value) (w : World) (hv : LN w v l) (hb : bulks l ≤ 2000000) :
 Calls prog 67 #[v] w fun e w' => e = .returned (.int .i64 (limE l : Nat)) ∧ Fr w w' := by
 have HV := h_ hv
 have hq := PQ_all w l hb hv.wf
 have HBK := h_ hb
 have CA := h_ (fun W (h : Fr w W) => areAll_any .few l v W (hv.fr h) (hq.fr h))
 have CS := h_ (fun W (h : Fr w W) => Size_any (bulks l) (by omega) l (Nat.le_refl _) v W (hv.fr h))
 obtain ⟨a,cap,rfl,hc,hm,_⟩ := hv.form
 unfold maxLen at hm
 obtain ⟨R,hR⟩ : ∃ r,r = limE l := ⟨_,rfl⟩
 rw [← hR]
 unfold limE at hR
 obtain ⟨D1,hD1⟩ : ∃ d,d = allK (okL l) .few := ⟨_,rfl⟩
 obtain ⟨S,hS⟩ : ∃ d,d = ndsL l := ⟨_,rfl⟩
 obtain ⟨D2,hD2⟩ : ∃ d,d = dpL l := ⟨_,rfl⟩
 rw [← hD1] at CA hR
 rw [← hS] at CS hR
 rw [← hD2] at hR
 have HD2 := h_ hD2
 obtain ⟨n,hn⟩ : ∃ n,n = l.length := ⟨_,rfl⟩
 have HN := h_ hn
 rw [← hn] at CA CS hc HV ⊢
 have CA' : Hid (∀ W,Fr w W → Calls prog 65 #[.slice a n cap,.func (.func Pr.few.fn) #[] #[]] W fun e w' => e = .returned (.bool D1) ∧ Fr W w') := CA
 have CS' : Hid (∀ W,Fr w W → Calls prog 32 #[.slice a n cap] W fun e w' => e = .returned (.int .i64 (S : Nat)) ∧ Fr W w') := CS
 have HG0 : Hid (Fr w w) := h_ (Fr.refl w)
 clear hv hq hb hD1 hS hD2 hn CA CS
 cases D1 with
 | false =>
  have HR : Hid (R = 2) := h_ (by rw [hR]; simp)
  clear hR
  go_enter func67,ntmps67
  go_wp2_with fail
  refine (CA'.out _ HG0.out).mono ?_
  rintro e w1 ⟨rfl,hf1⟩
  go_wp2_with fail
  go_ret
  rw [HR.out]
  exact ⟨rfl,hf1⟩
 | true =>
  by_cases h2 : 20000 < S
  ·have e2 : decide ((20000 : Int) < (S : Int)) = true := decide_eq_true (by omega)
   have e2' : decide ((S : Int) > 20000) = true := decide_eq_true (by omega)
   have HR : Hid (R = 2) := h_ (by rw [hR]; simp [h2])
   clear hR
   go_enter func67,ntmps67
   go_wp2_with fail
   refine (CA'.out _ HG0.out).mono ?_
   rintro e w1 ⟨rfl,hf1⟩
   have HG1 : Hid (Fr w w1) := h_ hf1
   clear hf1
   go_wp2_with fail
   refine (CS'.out _ HG1.out).mono ?_
   rintro e w2 ⟨rfl,hf2⟩
   have HG2 : Hid (Fr w w2) := h_ (HG1.out.trans hf2)
   clear hf2
   go_wp2_with fail
   go_ret
   rw [HR.out]
   exact ⟨rfl,HG2.out⟩
  ·have e2 : decide ((20000 : Int) < (S : Int)) = false := decide_eq_false (by omega)
   have e2' : decide ((S : Int) > 20000) = false := decide_eq_false (by omega)
   have HR0 : Hid (R = if D2 = true then 31 else 0) := h_ (by rw [hR]; simp [h2])
   clear hR
   go_enter func67,ntmps67
   go_wp2_with fail
   refine (CA'.out _ HG0.out).mono ?_
   rintro e w1 ⟨rfl,hf1⟩
   have HG1 : Hid (Fr w w1) := h_ hf1
   clear hf1
   go_wp2_with fail
   refine (CS'.out _ HG1.out).mono ?_
   rintro e w2 ⟨rfl,hf2⟩
   have HG2 : Hid (Fr w w2) := h_ (HG1.out.trans hf2)
   clear hf2
   go_wp2_with fail
   go_loopw [15] (fun i wr => ∃ j : Nat,j ≤ n ∧ i = .int .i64 j ∧ Hid (D2 = dpL (l.drop j)) ∧ Fr w wr) (fun i _ => n - (intOf i).toNat)
   case atStart => exact ⟨0,Nat.zero_le _,rfl,h_ (by rw [HD2.out]; rfl),HG2.out⟩
   case round =>
    obtain ⟨j,hj,rfl,HJ,hfr⟩ := hrel
    by_cases hlt : j < n
    ·obtain ⟨t,ht⟩ : ∃ t,l[j]? = some t := ⟨_,List.getElem?_eq_getElem (by rw [← HN.out]; exact hlt)⟩
     have hstep := dpL_drop ht
     have htb := bulks_mem (List.mem_of_getElem? ht)
     have hlh := lvlL_hi t.l
     have hbe := t.bulk_eq
     have hbk := HBK.out
     obtain ⟨b,off,lv,rfl,hc5,hln,_⟩ := (HV.out.fr hfr).at_ ht
     obtain ⟨x0,x1,x2,x3,x4⟩ := hc5
     obtain ⟨la,lc,rfl,_,_,_⟩ := hln.form
     obtain ⟨ll,hll⟩ : ∃ x : Nat,x = t.l.length := ⟨_,rfl⟩
     rw [← hll] at x3 hln
     have HL := h_ hln
     obtain ⟨d,hd⟩ : ∃ d,d = 1 + lvlL t.l := ⟨_,rfl⟩
     have HC : Hid (∀ W,Fr wr W → Calls prog 37 #[.agg #[.int .i64 t.op,.int .i64 t.n,.string t.s,.slice la ll lc,.int .i64 t.a]] W fun e w' => e = .returned (.int .i64 (d : Int)) ∧ Fr W w') := h_ (fun W hW => by
      rw [hd]; exact Levels_any (bulks t.l) (by omega) t.op t.n t.s t.l t.a (Nat.le_refl _) _ W (HL.out.fr hW))
     rw [← hd] at hstep
     have HST := h_ hstep
     obtain ⟨q0,hq0,q1,hq1,q2,hq2,q4,hq4⟩ := qs_ t
     rw [← hq0,← hq1,← hq2,← hq4] at HC
     rw [← hq0] at x0
     rw [← hq1] at x1
     rw [← hq2] at x2
     rw [← hq4] at x4
     clear hln ht hstep hd hll hq0 hq1 hq2 hq4 htb hlh hbe hbk
     by_cases h40 : 40 < d
     ·have f1 : decide ((40 : Int) < (d : Int)) = true := decide_eq_true (by omega)
      have f2 : decide ((d : Int) > 40) = true := decide_eq_true (by omega)
      have HR : Hid (R = 31) := h_ (by rw [HR0.out,HJ.out,HST.out,decide_eq_true h40]; simp)
      go_wp2_with fail
      refine (HC.out _ (by repeat' first | exact Fr.refl _ | refine Fr.alloc ?_ _)).mono ?_
      rintro e w3 ⟨rfl,hf1⟩
      have hfin := hfr.trans (Fr.trans (by repeat' first | exact Fr.refl _ | refine Fr.alloc ?_ _) hf1)
      go_wp2_with fail
      go_ret
      rw [HR.out]
      exact ⟨rfl,hfin⟩
     ·have f1 : decide ((40 : Int) < (d : Int)) = false := decide_eq_false (by omega)
      have f2 : decide ((d : Int) > 40) = false := decide_eq_false (by omega)
      have HJ2 : Hid (D2 = dpL (l.drop (j + 1))) := h_ (by rw [HJ.out,HST.out,decide_eq_false h40,Bool.false_or])
      go_wp2_with fail
      refine (HC.out _ (by repeat' first | exact Fr.refl _ | refine Fr.alloc ?_ _)).mono ?_
      rintro e w3 ⟨rfl,hf1⟩
      have hfin := hfr.trans (Fr.trans (by repeat' first | exact Fr.refl _ | refine Fr.alloc ?_ _) hf1)
      go_wp2_with fail
      go_roundw
      case rel => exact ⟨j + 1,by omega,by go_num,HJ2,hfin⟩
      case measure => simp [intOf]; omega
    ·obtain rfl : j = n := by omega
     have HR : Hid (R = 0) := h_ (by rw [HR0.out,HJ.out,List.drop_eq_nil_of_le (by rw [← HN.out]; exact Nat.le_refl _)]; rfl)
     go_wp2_with fail
     go_ret
     rw [HR.out]
     exact ⟨rfl,hfr⟩
theorem checkNode_any (p : Pr) (t : Nd) (lt : Value) (w : World) (hlt : LN w lt t.l) (hw : wfN t) (hb : t.bulk ≤ 2000000) :
 Calls prog 70 #[ndV t lt,p.val] w fun e w' => e = .returned (.int .i64 (chkN t p : Nat)) ∧ Fr w w' := by
 have CP := h_ (fun W (h : Fr w W) => okP_any t.bulk hb t (Nat.le_refl _) hw p lt W (hlt.fr h))
 have CL := h_ (fun W (h : Fr w W) B (hB : B = W.heap.size) => withinLimits_any [t] _ (W.alloc (.cells #[.int .i64 t.op,.int .i64 t.n,.string t.s,lt,.int .i64 t.a] 32)) (LN.one hB hw (hlt.fr h)) (by rw [bulks,bulks]; omega))
 obtain ⟨a,cap,rfl,hc,hm,_⟩ := hlt.form
 obtain ⟨n,hn⟩ : ∃ n,n = t.l.length := ⟨_,rfl⟩
 rw [← hn] at CP CL ⊢
 obtain ⟨R,hR⟩ : ∃ r,r = chkN t p := ⟨_,rfl⟩
 rw [← hR]
 unfold chkN at hR
 obtain ⟨L,hL⟩ : ∃ x,x = limE [t] := ⟨_,rfl⟩
 obtain ⟨D,hD⟩ : ∃ x,x = okP t p := ⟨_,rfl⟩
 rw [← hL] at CL hR
 rw [← hD] at CP hR
 have hent := p.fn_enter
 unfold Pr.val
 obtain ⟨fn,hfn⟩ : ∃ x,x = p.fn := ⟨_,rfl⟩
 rw [← hfn] at CP hent ⊢
 unfold ndV at CP ⊢
 obtain ⟨q0,hq0,q1,hq1,q2,hq2,q4,hq4⟩ := qs_ t
 rw [← hq0,← hq1,← hq2,← hq4] at CP CL
 rw [← hq0,← hq1,← hq2,← hq4]
 have CP' : Hid (∀ W,Fr w W → Calls prog fn #[.agg #[.int .i64 q0,.int .i64 q1,.string q2,.slice a n cap,.int .i64 q4]] W fun e w' => e = .returned (.bool D) ∧ Fr W w') := CP
 have HB0 := h_ (Nb.new w (.int .i64 q0) (.int .i64 q1) (.string q2) (.slice a n cap) (.int .i64 q4))
 have HG0 : Hid (Fr w w) := h_ (Fr.refl w)
 clear hq0 hq1 hq2 hq4 hfn hD hL hn hm hc hlt hw hb CP
 cases D with
 | false =>
  have HR : Hid (R = 3) := h_ (by rw [hR]; simp)
  clear hR
  go_enter func70,ntmps70
  go_wp2_with fail
  refine (CP'.out _ (by repeat' first | exact Fr.refl _ | refine Fr.alloc ?_ _)).mono ?_
  rintro e w1 ⟨rfl,hf1⟩
  have hfin : Fr w w1 := Fr.trans (by repeat' first | exact Fr.refl _ | refine Fr.alloc ?_ _) hf1
  go_wp2_with fail
  go_ret
  rw [HR.out]
  exact ⟨rfl,hfin⟩
 | true =>
  have HR : Hid (R = L) := h_ (by rw [hR]; simp)
  clear hR
  go_enter func70,ntmps70
  go_wp2_with fail
  refine (CP'.out _ (by repeat' first | exact Fr.refl _ | refine Fr.alloc ?_ _)).mono ?_
  rintro e w1 ⟨rfl,hf1⟩
  have HG1 : Hid (Fr w w1) := h_ (Fr.trans (by repeat' first | exact Fr.refl _ | refine Fr.alloc ?_ _) hf1)
  have HB1 := h_ (HB0.out.fr hf1)
  obtain ⟨k0,k1,k2,k3,k4⟩ := HB1.out.cells
  clear hf1
  go_wp2_with fail
  refine (CL.out _ HG1.out _ (by simp)).mono ?_
  rintro e w2 ⟨rfl,hf2⟩
  have hfin : Fr w w2 := Fr.trans (HG1.out.alloc _) hf2
  go_wp2_with fail
  go_ret
  rw [HR.out]
  exact ⟨rfl,hfin⟩
theorem CheckExpr_any (t : Nd) (lt : Value) (w : World) (hlt : LN w lt t.l) (hw : wfN t) (hb : t.bulk ≤ 2000000) :
 Calls prog 24 #[ndV t lt] w fun e w' => e = .returned (.int .i64 (chkN t .expr : Nat)) ∧ Fr w w' := by
 have CL : Hid (∀ W,Fr w W → Calls prog 70 #[ndV t lt,.func (.func Pr.expr.fn) #[] #[]] W fun e w' => e = .returned (.int .i64 (chkN t .expr : Nat)) ∧ Fr W w') := h_ (fun W (h : Fr w W) => checkNode_any .expr t lt W (hlt.fr h) hw hb)
 obtain ⟨a,cap,rfl,hc,hm,_⟩ := hlt.form
 obtain ⟨R,hR⟩ : ∃ r,r = chkN t .expr := ⟨_,rfl⟩
 rw [← hR] at CL ⊢
 unfold ndV at CL ⊢
 obtain ⟨n,hn⟩ : ∃ n,n = t.l.length := ⟨_,rfl⟩
 obtain ⟨q0,hq0,q1,hq1,q2,hq2,q4,hq4⟩ := qs_ t
 rw [← hq0,← hq1,← hq2,← hq4,← hn] at CL
 rw [← hq0,← hq1,← hq2,← hq4,← hn]
 clear hq0 hq1 hq2 hq4 hn hm hc hlt hw hb hR
 go_enter func24,ntmps24
 go_wp2_with fail
 refine (CL.out _ (by repeat' first | exact Fr.refl _ | refine Fr.alloc ?_ _)).mono ?_
 rintro e w1 ⟨rfl,hf1⟩
 have hfin : Fr w w1 := Fr.trans (by repeat' first | exact Fr.refl _ | refine Fr.alloc ?_ _) hf1
 go_wp2_with fail
 go_ret
 exact ⟨rfl,hfin⟩
theorem Check_any (s : ByteArray) (l : List Nd) (v : Value) (w : World) (hs : s.size ≤ 2000000) (hv : LN w v l) (hb : bulks l ≤ 2000000) :
 Calls prog 22 #[.agg #[.string s,v]] w fun e w' => e = .returned (.int .i64 (chkE s l : Nat)) ∧ Fr w w' := by
 have CQ := h_ (fun W => isQuotable_any s hs W)
 have hq := PQ_all w l hb hv.wf
 have CA := h_ (fun W (h : Fr w W) => areAll_any .decl l v W (hv.fr h) (hq.fr h))
 have CL := h_ (fun W (h : Fr w W) => withinLimits_any l v W (hv.fr h) hb)
 obtain ⟨a,cap,rfl,hc,hm,_⟩ := hv.form
 obtain ⟨n,hn⟩ : ∃ n,n = l.length := ⟨_,rfl⟩
 obtain ⟨R,hR⟩ : ∃ r,r = chkE s l := ⟨_,rfl⟩
 rw [← hR]
 unfold chkE at hR
 obtain ⟨D0,hD0⟩ : ∃ d,d = qtb s := ⟨_,rfl⟩
 obtain ⟨D1,hD1⟩ : ∃ d,d = allK (okL l) .decl := ⟨_,rfl⟩
 obtain ⟨L,hL⟩ : ∃ d,d = limE l := ⟨_,rfl⟩
 rw [← hD0] at CQ hR
 rw [← hD1] at CA hR
 rw [← hL] at CL hR
 rw [← hn] at CA CL ⊢
 have CA' : Hid (∀ W,Fr w W → Calls prog 65 #[.slice a n cap,.func (.func Pr.decl.fn) #[] #[]] W fun e w' => e = .returned (.bool D1) ∧ Fr W w') := CA
 clear hv hq hb hD0 hD1 hL hn hm hc hs CA
 have HS0 : Hid (SecB (w.alloc (.cells #[.string s,.slice a n cap] 24)) w.heap.size (.string s) (.slice a n cap)) := h_ (SecB.new w _ _)
 cases D0 with
 | false =>
  have HR : Hid (R = 3) := h_ (by rw [hR]; simp)
  clear hR
  go_enter func22,ntmps22
  go_wp2_with fail
  refine (CQ.out _).mono ?_
  rintro e w1 ⟨rfl,hf1⟩
  have hfin : Fr w w1 := Fr.trans (by repeat' first | exact Fr.refl _ | refine Fr.alloc ?_ _) hf1
  go_wp2_with fail
  go_ret
  rw [HR.out]
  exact ⟨rfl,hfin⟩
 | true =>
  cases D1 with
  | false =>
   have HR : Hid (R = 3) := h_ (by rw [hR]; simp)
   clear hR
   go_enter func22,ntmps22
   go_wp2_with fail
   refine (CQ.out _).mono ?_
   rintro e w1 ⟨rfl,hf1⟩
   have HG1 : Hid (Fr w w1) := h_ (Fr.trans (by repeat' first | exact Fr.refl _ | refine Fr.alloc ?_ _) hf1)
   obtain ⟨k0,k1⟩ := (HS0.out.fr hf1).cells
   clear hf1
   go_wp2_with fail
   refine (CA'.out _ HG1.out).mono ?_
   rintro e w2 ⟨rfl,hf2⟩
   have hfin : Fr w w2 := HG1.out.trans hf2
   go_wp2_with fail
   go_ret
   rw [HR.out]
   exact ⟨rfl,hfin⟩
  | true =>
   have HR : Hid (R = L) := h_ (by rw [hR]; simp)
   clear hR
   go_enter func22,ntmps22
   go_wp2_with fail
   refine (CQ.out _).mono ?_
   rintro e w1 ⟨rfl,hf1⟩
   have HG1 : Hid (Fr w w1) := h_ (Fr.trans (by repeat' first | exact Fr.refl _ | refine Fr.alloc ?_ _) hf1)
   have HS1 := h_ (HS0.out.fr hf1)
   obtain ⟨k0,k1⟩ := HS1.out.cells
   clear hf1
   go_wp2_with fail
   refine (CA'.out _ HG1.out).mono ?_
   rintro e w2 ⟨rfl,hf2⟩
   have HG2 : Hid (Fr w w2) := h_ (HG1.out.trans hf2)
   obtain ⟨j0,j1⟩ := (HS1.out.fr hf2).cells
   clear hf2
   go_wp2_with fail
   refine (CL.out _ HG2.out).mono ?_
   rintro e w3 ⟨rfl,hf3⟩
   have hfin : Fr w w3 := HG2.out.trans hf3
   go_wp2_with fail
   go_ret
   rw [HR.out]
   exact ⟨rfl,hfin⟩
end Go.Proofs.YtbaelbafhdjlnaaGreatDoor
