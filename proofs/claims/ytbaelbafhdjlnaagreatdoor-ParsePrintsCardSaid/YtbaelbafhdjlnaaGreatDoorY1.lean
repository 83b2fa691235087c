/- A part of the proof that the law ParsePrints holds for every input. -/
import Derived.Test.YtbaelbafhdjlnaaGreatDoorP1
import Derived.Test.YtbaelbafhdjlnaaGreatDoorX1
import Derived.Deep.RegionHeld3
namespace Go.Proofs.YtbaelbafhdjlnaaGreatDoor
open Go.RowKit _root_.Go.Proofs.Tryz
set_option linter.unusedVariables false
set_option linter.unusedSimpArgs false
set_option maxRecDepth 100000
set_option maxHeartbeats 8000000
theorem SL.inv {w : World} {a : Option Addr} {n c : Nat} {xs : List ByteArray} (h : SL w (.slice a n c) xs) : n = xs.length ∧ (0 < xs.length → ∃ b off,a = some ⟨b,off,none⟩ ∧ ∀ (i : Nat) (s : ByteArray),xs[i]? = some s → w.cell? ⟨b,off + i,none⟩ = some (.string s)) := by
 obtain ⟨a',c',e,_,_,h3⟩ := h
 simp only [Value.slice.injEq] at e
 obtain ⟨rfl,rfl,rfl⟩ := e
 exact ⟨rfl,h3⟩
theorem OS.low {w : World} {B B' : Nat} {v : Value} {xs : List ByteArray} (h : OS w B v xs) (hb : B' ≤ B) : OS w B' v xs := by
 refine ⟨h.1,?_⟩
 rcases h.2 with hn | ⟨g,cap,cur,e,hg,r⟩
 ·exact .inl hn
 ·exact .inr ⟨g,cap,cur,e,Nat.le_trans hb hg,r⟩
theorem OS.fr {w w' : World} {B : Nat} {v : Value} {xs : List ByteArray} (h : OS w B v xs) (k : Fr w w') : OS w' B v xs := h.kept (nfr_grow k none) (by cases Value.ownBlock _ <;> simp)
theorem SL.cells {w : World} {b off n c : Nat} {xs : List ByteArray} (h : SL w (.slice (some ⟨b,off,none⟩) n c) xs) : ∀ w',Fr w w' → ∀ j u,(strs xs)[j]? = some u → w'.cell? ((⟨b,off,none⟩ : Addr).add j) = some u := by
 intro w' hf j u hu
 rw [List.getElem?_map] at hu
 obtain ⟨s,hs,rfl⟩ := Option.map_eq_some_iff.1 hu
 have hj := (List.getElem?_eq_some_iff.1 hs).1
 obtain ⟨b',off',e,h3⟩ := h.inv.2 (by omega)
 simp only [Option.some.injEq,Addr.mk.injEq,and_true] at e
 obtain ⟨rfl,rfl⟩ := e
 rw [ap_add]
 exact hf.cell (h3 j s hs)
theorem strs_one (xs : List ByteArray) : ∀ u ∈ strs xs,u.oneCell' = true := by
 intro u hu
 obtain ⟨s,_,rfl⟩ := List.mem_map.1 hu
 rfl
theorem strs_app (xs ys : List ByteArray) : strs (xs ++ ys) = strs xs ++ strs ys := by simp
theorem own_emptyS (w : World) : OS (w.alloc (.cells #[] 9)) w.heap.size (.slice (some ⟨w.heap.size,0,none⟩) 0 0) [] :=
 ⟨rfl,.inr ⟨w.heap.size,0,#[],rfl,Nat.le_refl _,by simp only [World.alloc,Array.getElem?_push_size],Nat.le_refl _,Nat.zero_le _,rfl,rfl⟩⟩
theorem own_oneS (w : World) (s : ByteArray) : OS (w.alloc (.cells #[.string s] 9)) w.heap.size (.slice (some ⟨w.heap.size,0,none⟩) 1 1) [s] :=
 ⟨rfl,.inr ⟨w.heap.size,1,#[.string s],rfl,Nat.le_refl _,by simp only [World.alloc,Array.getElem?_push_size],Nat.le_refl _,by unfold maxLen; omega,rfl,rfl⟩⟩
def StopS (p : Prop) : Prop := p
theorem stop_append_s {P : Program} {ops : Array Oper} {rest : List Oper} {x y dst ty pos aft g} {a : Act} {w : World} {Q : Exit → Act → World → Prop}
 (h : StopS (wpList P ops Q (⟨dst,.call { callee := .builtin .append,args := x,argTypes := y },ty,pos,aft,g⟩ :: rest) a w)) : wpList P ops Q (⟨dst,.call { callee := .builtin .append,args := x,argTypes := y },ty,pos,aft,g⟩ :: rest) a w := h
theorem infoS : ∃ i,prog.info? 9 = some i ∧ i.zero = some (.string ⟨#[]⟩) ∧ i.size = 1 ∧ i.bytes = 16 := info_of Tryz.infoStrN
theorem wpS_append {ops : Array Oper} {rest : List Oper} {o : Oper} {a : Act} {w w0 : World} {Q : Exit → Act → World → Prop} (sl x : Operand) (ho : o.op = .call { callee := .builtin .append,args := #[sl,x],argTypes := #[50,50] }) (hgd : o.guard = none)
 (v u : Value) (xs ys : List ByteArray) (hs : a.eval sl = v) (hx : a.eval x = u) (hown : OS w w0.heap.size v xs) (hu : SL w u ys) (hf : Fr w0 w) (hlen : xs.length + ys.length ≤ 4000000)
 (h : ∀ v' w',OS w' w0.heap.size v' (xs ++ ys) → Fr w0 w' → w.grownBy w' v.ownBlock → wpList prog ops Q rest (a.put o.dst v') w') : wpList prog ops Q (o :: rest) a w := by
 obtain ⟨i,hi,hz,h1,h2⟩ := infoS
 obtain ⟨ua,uc,rfl,huc,hum,hur⟩ := hu
 by_cases h0 : ys = []
 ·subst h0
  have hnone : ∀ (ua : Option Addr),∃ v' w',(Builtin.append_ #[50,50] o.type #[v,.slice ua 0 uc]).run prog w = .ok v' w' ∧ OS w' w0.heap.size v' xs ∧ w.grownBy w' v.ownBlock := by
   intro ua
   cases ua with
   | none =>
    obtain ⟨av,cv,rfl⟩ := own_formS hown
    refine ⟨_,w,?_,hown,nfr_grow (Fr.refl w) _⟩
    rcases hown.2 with ⟨e,_⟩ | ⟨g,cap,cur,e,_,hg,hnc,_,hsz,_⟩
    ·simp only [Value.slice.injEq] at e
     obtain ⟨rfl,e2,rfl⟩ := e
     rw [e2]
     simp [Builtin.append_,run_underlying underlying50,sizeOf,typeInfo,hi,Builtin.lenOf,Builtin.firstCells]
    ·simp only [Value.slice.injEq] at e
     obtain ⟨rfl,_,rfl⟩ := e
     simp [Builtin.append_,run_underlying underlying50,sizeOf,typeInfo,hi,Builtin.lenOf,Builtin.firstCells,hnc,storeCells]
   | some ad =>
    obtain ⟨v',w',hr,ho2,hg,_⟩ := run_append_own (P := prog) w w0.heap.size 50 o.type 9 i _ 1 16 underlying50 hi hz h1 h2 rfl (by omega) v xs.length _ hown ad 0 uc [] rfl (by simp) (by simp) (by unfold maxLen; simp at hlen; omega) (by simp at hlen; omega) hf.size
    exact ⟨v',w',hr,by simpa using ho2,hg⟩
  obtain ⟨v',w',hr,ho2,hg⟩ := hnone ua
  refine wpList_plain hgd fun K hK => ?_
  unfold Oper.wp
  simp only [List.length_nil] at hx
  simp [execOp,ho,resolve,invoke,builtin,hs,hx,hr,Result.andThen]
  exact hK _ _ (h v' w' (by simpa using ho2) (own_fr5 hf hown hg) hg)
 ·have hpos : 0 < ys.length := by cases ys with | nil => exact absurd rfl h0 | cons _ _ => simp
  obtain ⟨b,off,rfl,hc⟩ := hur hpos
  have hu2 : SL w (.slice (some ⟨b,off,none⟩) ys.length uc) ys := ⟨_,_,rfl,huc,hum,fun _ => ⟨b,off,rfl,hc⟩⟩
  refine wpList_append_own w hgd sl x 50 ho w0.heap.size 9 i _ 1 16 underlying50 hi hz h1 h2 rfl (by omega) v xs.length _ hs hown ⟨b,off,none⟩ ys.length uc (strs ys) hx (by simp) (SL.cells hu2 w (Fr.refl w)) (strs_one ys) (by unfold maxLen; omega) (by omega) hf.size fun v' w' ho2 hg _ => ?_
  have ho3 : OS w' w0.heap.size v' (xs ++ ys) := by
   unfold OS
   rw [strs_app,List.length_append]
   exact ho2
  exact h v' w' ho3 (own_fr5 hf hown hg) hg
theorem one_x (s : ByteArray) (w : World) : Calls prog 154 #[.string s] w fun e w' => ∃ v,e = .returned v ∧ OS w' w.heap.size v [s] ∧ Fr w w' := by
 have HO := h_ (own_oneS w s)
 have HF : Hid (Fr w (w.alloc (.cells #[.string s] 9))) := h_ ((Fr.refl w).alloc _)
 go_enter func154,ntmps154
 go_wp2_with fail
 go_ret
 exact ⟨_,rfl,HO.out,HF.out⟩
theorem wrap_x (p q : ByteArray) (v : Value) (A : List ByteArray) (w : World) (hv : SL w v A) (hl : A.length ≤ 2000000) : Calls prog 152 #[.string p,v,.string q] w fun e w' => ∃ v,e = .returned v ∧ OS w' w.heap.size v ([p] ++ A ++ [q]) ∧ Fr w w' := by
 obtain ⟨R,hR⟩ : ∃ R,R = [p] ++ A ++ [q] := ⟨_,rfl⟩
 rw [← hR]
 have HR := h_ hR
 clear hR
 have HO := h_ (own_oneS w p)
 have HF : Hid (Fr w (w.alloc (.cells #[.string p] 9))) := h_ ((Fr.refl w).alloc _)
 have HV := h_ hv
 have HL := h_ hl
 clear hv hl
 go_enter func152,ntmps152
 go_wp2_with (with_reducible refine stop_append_s ?_)
 unfold StopS
 refine wpS_append (.tmp 9) (.tmp 10) rfl rfl _ _ [p] A (by rfl) (by rfl) HO.out (HV.out.fr HF.out) HF.out (by have := HL.out; simp; omega) fun v1 w1 ho1 hf1 hg1 => ?_
 obtain ⟨a1,c1,rfl⟩ := own_formS ho1
 obtain ⟨n1,hn1⟩ : ∃ k,k = ([p] ++ A).length := ⟨_,rfl⟩
 rw [← hn1] at ho1 ⊢
 have HO1 := h_ ho1
 have HF1 := h_ hf1
 clear ho1 hf1 hg1 hn1
 go_wp2_with (with_reducible refine stop_append_s ?_)
 unfold StopS
 refine wpS_append (.tmp 12) (.tmp 14) rfl rfl _ _ ([p] ++ A) [q] (by rfl) (by rfl) (HO1.out.fr ((Fr.refl w1).alloc _)) (OS.sl (own_oneS w1 q)) (HF1.out.alloc _) (by have := HL.out; simp; omega) fun v2 w2 ho2 hf2 hg2 => ?_
 rw [← HR.out] at ho2
 obtain ⟨a2,c2,rfl⟩ := own_formS ho2
 obtain ⟨n2,hn2⟩ : ∃ k,k = R.length := ⟨_,rfl⟩
 rw [← hn2] at ho2 ⊢
 have HO2 := h_ ho2
 have HF2 := h_ hf2
 clear ho2 hf2 hg2 hn2
 go_wp2_with fail
 go_ret
 exact ⟨_,rfl,HO2.out,HF2.out⟩
theorem joined_x (v1 v2 : Value) (A B : List ByteArray) (s : ByteArray) (w : World) (h1 : SL w v1 A) (h2 : SL w v2 B) (hl : A.length + B.length ≤ 2000000) : Calls prog 159 #[v1,.string s,v2] w fun e w' => ∃ v,e = .returned v ∧ OS w' w.heap.size v (A ++ [s] ++ B) ∧ Fr w w' := by
 obtain ⟨R1,hR1⟩ : ∃ R,R = A ++ [s] := ⟨_,rfl⟩
 obtain ⟨R,hR⟩ : ∃ R,R = R1 ++ B := ⟨_,rfl⟩
 rw [← hR1,← hR]
 have HR1 := h_ hR1
 have HR := h_ hR
 have HL1 : Hid (R1.length = A.length + 1) := h_ (by rw [hR1]; simp)
 clear hR1 hR
 have HO := h_ (own_emptyS w)
 have HF : Hid (Fr w (w.alloc (.cells #[] 9))) := h_ ((Fr.refl w).alloc _)
 have H1 := h_ h1
 have H2 := h_ h2
 have HL := h_ hl
 clear h1 h2 hl
 go_enter func159,ntmps159
 go_wp2_with (with_reducible refine stop_append_s ?_)
 unfold StopS
 refine wpS_append (.tmp 8) (.tmp 9) rfl rfl _ _ [] A (by rfl) (by rfl) HO.out (H1.out.fr HF.out) HF.out (by have := HL.out; simp; omega) fun u1 w1 ho1 hf1 hg1 => ?_
 rw [List.nil_append] at ho1
 obtain ⟨a1,c1,rfl⟩ := own_formS ho1
 obtain ⟨n1,hn1⟩ : ∃ k,k = A.length := ⟨_,rfl⟩
 rw [← hn1] at ho1 ⊢
 have HO1 := h_ ho1
 have HF1 := h_ hf1
 clear ho1 hf1 hg1 hn1
 go_wp2_with (with_reducible refine stop_append_s ?_)
 unfold StopS
 refine wpS_append (.tmp 11) (.tmp 13) rfl rfl _ _ A [s] (by rfl) (by rfl) (HO1.out.fr ((Fr.refl w1).alloc _)) (OS.sl (own_oneS w1 s)) (HF1.out.alloc _) (by have := HL.out; simp; omega) fun u2 w2 ho2 hf2 hg2 => ?_
 rw [← HR1.out] at ho2
 obtain ⟨a2,c2,rfl⟩ := own_formS ho2
 obtain ⟨n2,hn2⟩ : ∃ k,k = R1.length := ⟨_,rfl⟩
 rw [← hn2] at ho2 ⊢
 have HO2 := h_ ho2
 have HF2 := h_ hf2
 clear ho2 hf2 hg2 hn2
 go_wp2_with (with_reducible refine stop_append_s ?_)
 unfold StopS
 refine wpS_append (.tmp 15) (.tmp 16) rfl rfl _ _ R1 B (by rfl) (by rfl) HO2.out (H2.out.fr HF2.out) HF2.out (by have := HL.out; have := HL1.out; omega) fun u3 w3 ho3 hf3 hg3 => ?_
 rw [← HR.out] at ho3
 obtain ⟨a3,c3,rfl⟩ := own_formS ho3
 obtain ⟨n3,hn3⟩ : ∃ k,k = R.length := ⟨_,rfl⟩
 rw [← hn3] at ho3 ⊢
 have HO3 := h_ ho3
 have HF3 := h_ hf3
 clear ho3 hf3 hg3 hn3
 go_wp2_with fail
 go_ret
 exact ⟨_,rfl,HO3.out,HF3.out⟩
def Rx (fn : Nat) (ar : Value → Array Value) (n : Nd) (A : List ByteArray) : Prop := ∀ (w : World) (lv : Value),LN w lv n.l →
 Calls prog fn (ar (ndV n lv)) w fun e w' => ∃ v,e = .returned v ∧ OS w' w.heap.size v A ∧ Fr w w'
def mk1 (v : Value) : Array Value := #[v]
def mkL (L : Int) (v : Value) : Array Value := #[v,.int .i64 L]
theorem joinT_step2 (s : ByteArray) (L : List (List ByteArray)) (i : Nat) (x : List ByteArray) (h : L[i]? = some x) :
 (if i = 0 then joinT s (L.take i) else joinT s (L.take i) ++ [s]) ++ x = joinT s (L.take (i + 1)) := by
 have hi := (List.getElem?_eq_some_iff.1 h).1
 have e : L.take (i + 1) = L.take i ++ [x] := by rw [List.take_add_one,h]; rfl
 rw [e]
 by_cases h0 : i = 0
 ·subst h0; simp [joinT]
 ·rw [if_neg h0,joinT_snoc s _ x (by intro hh; have := congrArg List.length hh; rw [List.length_take,List.length_nil] at this; omega)]
theorem joinT_len_mono (s : ByteArray) (L : List (List ByteArray)) : ∀ j i,i + j = L.length → (joinT s (L.take i)).length ≤ (joinT s L).length := by
 intro j
 induction j with
 | zero => intro i e; rw [List.take_of_length_le (by omega)]; exact Nat.le_refl _
 | succ j ih =>
  intro i e
  refine Nat.le_trans ?_ (ih (i + 1) (by omega))
  obtain ⟨x,hx⟩ : ∃ x,L[i]? = some x := ⟨_,List.getElem?_eq_getElem (by omega)⟩
  rw [← joinT_step2 s L i x hx]
  split <;> simp <;> omega
theorem rlisted_x (l : List Nd) (tk : Nd → List ByteArray) (v : Value) (w : World) (hv : LN w v l) (hd : ∀ x ∈ l,Rx 83 mk1 x (tk x)) (hlen : (joinT ⟨#[44]⟩ (l.map tk)).length ≤ 1000000) :
 Calls prog 153 #[v] w fun e w' => ∃ v,e = .returned v ∧ OS w' w.heap.size v (joinT ⟨#[44]⟩ (l.map tk)) ∧ Fr w w' := by
 have HV := h_ hv
 have HD := h_ hd
 have HLE := h_ hlen
 obtain ⟨a,cap,rfl,hc,hm,_⟩ := hv.form
 obtain ⟨n,hn⟩ : ∃ n,n = l.length := ⟨_,rfl⟩
 have HN := h_ hn
 rw [← hn] at hc HV ⊢
 unfold maxLen at hm
 clear hn hv hd hlen
 go_enter func153,ntmps153
 go_wp2_with fail
 go_loopw [3,4] (fun o i wr => ∃ j : Nat,j ≤ n ∧ i = .int .i64 j ∧ OS wr w.heap.size o (joinT ⟨#[44]⟩ ((l.map tk).take j)) ∧ Fr w wr) (fun _ i _ => n - (intOf i).toNat)
 case atStart => exact ⟨0,Nat.zero_le _,rfl,World.ownsRow_nil _ _ _ _,Fr.refl _⟩
 case round =>
  obtain ⟨j,hj,rfl,hown,hfr⟩ := hrel
  obtain ⟨xs,hxs⟩ : ∃ xs,xs = joinT ⟨#[44]⟩ ((l.map tk).take j) := ⟨_,rfl⟩
  rw [← hxs] at hown
  have HXS := h_ hxs
  obtain ⟨ay,cy,rfl⟩ := own_formS hown
  have HO := h_ hown
  have HFW := h_ hfr
  obtain ⟨ny,hny⟩ : ∃ k,k = xs.length := ⟨_,rfl⟩
  rw [← hny] at HO ⊢
  have HNY := h_ hny
  clear hown hxs hny
  by_cases hlt : j < n
  ·obtain ⟨t,ht⟩ : ∃ t,l[j]? = some t := ⟨_,List.getElem?_eq_getElem (by rw [← HN.out]; exact hlt)⟩
   have hlx : xs.length ≤ 1000000 := by rw [HXS.out]; exact Nat.le_trans (joinT_len_mono _ (l.map tk) (l.length - j) j (by rw [List.length_map]; have := HN.out; omega)) HLE.out
   obtain ⟨b,off,lv,rfl,hc5,hln,_⟩ := HV.out.at_ ht
   obtain ⟨x0,x1,x2,x3,x4⟩ := hc5.fr hfr
   obtain ⟨la,lc,rfl,_,_,_⟩ := hln.form
   have HL := h_ hln
   have HC5 := h_ hc5
   have HC : Hid (∀ W,Fr w W → Calls prog 83 #[.agg #[.int .i64 t.op,.int .i64 t.n,.string t.s,.slice la t.l.length lc,.int .i64 t.a]] W fun e w' => ∃ v,e = .returned v ∧ OS w' W.heap.size v (tk t) ∧ Fr W w') := h_ (fun W h => HD.out t (List.mem_of_getElem? ht) W _ (HL.out.fr h))
   have hj1 : (l.map tk)[j]? = some (tk t) := by rw [List.getElem?_map,ht]; rfl
   have hst := joinT_step2 ⟨#[44]⟩ (l.map tk) j (tk t) hj1
   obtain ⟨Y,hY⟩ : ∃ Y,Y = joinT ⟨#[44]⟩ ((l.map tk).take (j + 1)) := ⟨_,rfl⟩
   have HY := h_ hY
   have htl : (joinT ⟨#[44]⟩ ((l.map tk).take (j + 1))).length ≤ 1000000 := Nat.le_trans (joinT_len_mono _ (l.map tk) (l.length - (j + 1)) (j + 1) (by rw [List.length_map]; have := HN.out; omega)) HLE.out
   rw [← hY] at htl hst
   have HTL := h_ htl
   obtain ⟨ll,hll⟩ : ∃ x : Nat,x = t.l.length := ⟨_,rfl⟩
   rw [← hll] at x3 HC HC5
   clear hln ht hll hj1 htl hfr hc5 hY
   by_cases h0 : j = 0
   ·have HST : Hid (xs ++ tk t = Y) := h_ (by rw [if_pos h0,← HXS.out] at hst; exact hst)
    clear hst
    subst h0
    have z0 : decide ((0 : Int) < ((0 : Nat) : Int)) = false := rfl
    simp only [Nat.zero_mul,Nat.add_zero] at x0 x1 x2 x3 x4
    go_wp2_with fail
    refine (HC.out _ HFW.out).mono ?_
    rintro e w1 ⟨v1,rfl,ho1,hf1⟩
    have HS1 := h_ ho1.sl
    have HF1 := h_ hf1
    obtain ⟨a1,c1,rfl⟩ := own_formS ho1
    clear ho1 hf1
    go_wp2_with (with_reducible refine stop_append_s ?_)
    unfold StopS
    refine wpS_append (.tmp 16) (.tmp 21) rfl rfl _ _ xs (tk t) (by rfl) (by rfl) (HO.out.fr HF1.out) HS1.out (HFW.out.trans HF1.out) (by have h := HTL.out; rw [← HST.out,List.length_append] at h; omega) fun v2 w2 ho2 hf2 hg2 => ?_
    have HO2 : Hid (OS w2 w.heap.size v2 Y) := h_ (by rw [← HST.out]; exact ho2)
    have HF2 := h_ hf2
    clear ho2 hf2 hg2
    go_wp2_with fail
    go_roundw
    case rel => exact ⟨1,by omega,by go_num,by have h := HY.out; rw [Nat.zero_add] at h; rw [← h]; exact HO2.out,HF2.out⟩
    case measure => simp [intOf]; omega
   ·have HST : Hid ((xs ++ [⟨#[44]⟩]) ++ tk t = Y) := h_ (by rw [if_neg h0,← HXS.out] at hst; exact hst)
    clear hst
    have z0 : decide ((0 : Int) < (j : Int)) = true := decide_eq_true (by omega)
    go_wp2_with (with_reducible refine stop_append_s ?_)
    unfold StopS
    refine wpS_append (.tmp 13) (.tmp 14) rfl rfl _ _ xs [⟨#[44]⟩] (by rfl) (by rfl) (HO.out.fr ((Fr.refl wr).alloc _)) (OS.sl (own_oneS wr ⟨#[44]⟩)) (HFW.out.alloc _) (by simp; omega) fun v0 w0 ho0 hf0 hg0 => ?_
    obtain ⟨a0,c0,rfl⟩ := own_formS ho0
    have HO0 := h_ ho0
    have HF0 := h_ hf0
    obtain ⟨m0,hm0⟩ : ∃ k,k = (xs ++ [(⟨#[44]⟩ : BA)]).length := ⟨_,rfl⟩
    have HM0 := h_ hm0
    rw [← hm0] at HO0 ⊢
    obtain ⟨q0,q1,q2,q3,q4⟩ := HC5.out.fr hf0
    clear ho0 hf0 hg0 hm0 x0 x1 x2 x3 x4
    go_wp2_with fail
    refine (HC.out _ HF0.out).mono ?_
    rintro e w1 ⟨v1,rfl,ho1,hf1⟩
    have HS1 := h_ ho1.sl
    have HF1 := h_ hf1
    obtain ⟨a1,c1,rfl⟩ := own_formS ho1
    clear ho1 hf1
    go_wp2_with (with_reducible refine stop_append_s ?_)
    unfold StopS
    refine wpS_append (.tmp 16) (.tmp 21) rfl rfl _ _ (xs ++ [⟨#[44]⟩]) (tk t) (by rfl) (by rfl) (HO0.out.fr HF1.out) HS1.out (HF0.out.trans HF1.out) (by have h := HTL.out; rw [← HST.out,List.length_append] at h; omega) fun v2 w2 ho2 hf2 hg2 => ?_
    have HO2 : Hid (OS w2 w.heap.size v2 Y) := h_ (by rw [← HST.out]; exact ho2)
    have HF2 := h_ hf2
    clear ho2 hf2 hg2
    go_wp2_with fail
    go_roundw
    case rel => exact ⟨j + 1,by omega,by go_num,by rw [← HY.out]; exact HO2.out,HF2.out⟩
    case measure => simp [intOf]; omega
  ·obtain rfl : j = n := by omega
   have HRT : Hid (xs = joinT ⟨#[44]⟩ (l.map tk)) := h_ (by rw [HXS.out,List.take_of_length_le (by rw [List.length_map,← HN.out]; exact Nat.le_refl _)])
   go_wp2_with fail
   go_ret
   rw [← HRT.out]
   exact ⟨_,rfl,by rw [HNY.out] at HO ⊢; exact HO.out,HFW.out⟩
theorem words_x (vs : List Value) (As : List (List ByteArray)) (b n : Nat) (w : World) (hn : n = As.length) (hvs : ∀ (i : Nat) (A : List ByteArray),As[i]? = some A → ∃ v,w.cell? ⟨b,i,none⟩ = some v ∧ SL w v A) (hlen : As.flatten.length ≤ 1000000) (hn6 : n ≤ 1000) :
 Calls prog 79 #[.slice (some ⟨b,0,none⟩) n n] w fun e w' => ∃ v,e = .returned v ∧ OS w' w.heap.size v As.flatten ∧ Fr w w' := by
 have HV := h_ hvs
 have HLE := h_ hlen
 have HN := h_ hn
 clear hn hvs hlen
 go_enter func79,ntmps79
 go_wp2_with fail
 go_loopw [3,4] (fun o i wr => ∃ j : Nat,j ≤ n ∧ i = .int .i64 j ∧ OS wr w.heap.size o (As.take j).flatten ∧ Fr w wr) (fun _ i _ => n - (intOf i).toNat)
 case atStart => exact ⟨0,Nat.zero_le _,rfl,World.ownsRow_nil _ _ _ _,Fr.refl _⟩
 case round =>
  obtain ⟨j,hj,rfl,hown,hfr⟩ := hrel
  obtain ⟨xs,hxs⟩ : ∃ xs,xs = (As.take j).flatten := ⟨_,rfl⟩
  rw [← hxs] at hown
  have HXS := h_ hxs
  obtain ⟨ay,cy,rfl⟩ := own_formS hown
  have HO := h_ hown
  have HFW := h_ hfr
  obtain ⟨ny,hny⟩ : ∃ k,k = xs.length := ⟨_,rfl⟩
  rw [← hny] at HO ⊢
  have HNY := h_ hny
  clear hown hxs hny
  by_cases hlt : j < n
  ·obtain ⟨A,hA⟩ : ∃ A,As[j]? = some A := ⟨_,List.getElem?_eq_getElem (by rw [← HN.out]; exact hlt)⟩
   obtain ⟨v,hc,hs⟩ := HV.out j A hA
   have x0 := hfr.cell hc
   have HS1 := h_ (hs.fr hfr)
   obtain ⟨av,cv,rfl,_⟩ := hs
   have HST : Hid (xs ++ A = (As.take (j + 1)).flatten) := h_ (by rw [HXS.out,List.take_add_one,hA]; simp)
   have HL2 : Hid (xs.length + A.length ≤ 1000000) := h_ (by
    have h1 : (As.take (j + 1)).flatten.length ≤ As.flatten.length := by
     conv => rhs; rw [← List.take_append_drop (j + 1) As]
     rw [List.flatten_append,List.length_append]; omega
    rw [← HST.out,List.length_append] at h1
    have := HLE.out
    omega)
   clear hA hc hfr
   go_wp2_with (with_reducible refine stop_append_s ?_)
   unfold StopS
   refine wpS_append (.tmp 11) (.tmp 15) rfl rfl _ _ xs A (by rfl) (by rfl) HO.out HS1.out HFW.out (by have := HL2.out; omega) fun v2 w2 ho2 hf2 hg2 => ?_
   have HO2 : Hid (OS w2 w.heap.size v2 (As.take (j + 1)).flatten) := h_ (by rw [← HST.out]; exact ho2)
   have HF2 := h_ hf2
   clear ho2 hf2 hg2
   go_wp2_with fail
   go_roundw
   case rel => exact ⟨j + 1,by omega,by go_num,HO2.out,HF2.out⟩
   case measure => simp [intOf]; omega
  ·obtain rfl : j = n := by omega
   have HRT : Hid (xs = As.flatten) := h_ (by rw [HXS.out,List.take_of_length_le (by rw [← HN.out]; exact Nat.le_refl _)])
   go_wp2_with fail
   go_ret
   rw [← HRT.out]
   exact ⟨_,rfl,by rw [HNY.out] at HO ⊢; exact HO.out,HFW.out⟩
def lineB : List ByteArray → ByteArray
 | [] => ⟨#[]⟩
 | x :: r => r.foldl (fun t s => t ++ ⟨#[32]⟩ ++ s) x
theorem lineB_snoc (L : List ByteArray) (x : ByteArray) (h : L ≠ []) : lineB (L ++ [x]) = lineB L ++ ⟨#[32]⟩ ++ x := by
 cases L with
 | nil => exact absurd rfl h
 | cons y r => simp [lineB,List.foldl_append]
theorem lineB_step (L : List ByteArray) (i : Nat) (x : ByteArray) (h : L[i]? = some x) : (if i = 0 then lineB (L.take i) else lineB (L.take i) ++ ⟨#[32]⟩) ++ x = lineB (L.take (i + 1)) := by
 have hi := (List.getElem?_eq_some_iff.1 h).1
 have e : L.take (i + 1) = L.take i ++ [x] := by rw [List.take_add_one,h]; rfl
 rw [e]
 by_cases h0 : i = 0
 ·subst h0
  simp only [if_pos,List.take_zero,lineB,List.nil_append,List.foldl_nil]
  exact ByteArray.ext (by simp [ByteArray.data_append])
 ·rw [if_neg h0,lineB_snoc _ x (by intro hh; have := congrArg List.length hh; rw [List.length_take,List.length_nil] at this; omega)]
theorem al1 (w : World) (x0 x1 x2 x3 x4 : Value) : ∃ w1,Hid (w1 = w.alloc (.cells #[x0,x1,x2,x3,x4] 32)) ∧ Hid (Fr w w1) ∧ Hid (Nb w1 w.heap.size x0 x1 x2 x3 x4) := ⟨_,rfl,(Fr.refl w).alloc _,Nb.new w _ _ _ _ _⟩
theorem kid1 {w : World} {lv : Value} {n c0 : Nd} (hl : LN w lv n.l) (hnl : n.l = [c0]) : ∃ b off lc a0 k0,lv = .slice (some ⟨b,off,none⟩) 1 lc ∧ Hid (NdC w b off c0 (.slice a0 c0.l.length k0)) ∧ LN w (.slice a0 c0.l.length k0) c0.l ∧ 1 ≤ lc ∧ lc ≤ maxLen := by
 obtain ⟨la,lc,rfl,hlc,hlm,_⟩ := hl.form
 obtain ⟨b,off,lv0,rfl,hc0,hl0,_⟩ := hl.at_ (i := 0) (t := c0) (by rw [hnl]; rfl)
 obtain ⟨a0,k0,rfl,_,_,_⟩ := hl0.form
 simp only [Nat.zero_mul,Nat.add_zero] at hc0
 have HNC0 := h_ hc0
 rw [show n.l.length = 1 from by rw [hnl]; rfl] at hlc ⊢
 exact ⟨b,off,lc,a0,k0,rfl,HNC0,hl0,hlc,hlm⟩
theorem hk1 {w w1 W' : World} {b off : Nat} {x0 x1 x2 x3 x4 : Value} {c0 : Nd} {a0 : Option Addr} {k0 : Nat} (hb : Nb w1 w.heap.size x0 x1 x2 x3 x4) (hf : Fr w w1) (h0 : NdC w b off c0 (.slice a0 c0.l.length k0)) (h : Fr w1 W') : nQ w W' (x0) (x1) (x2) (x3) (dQ W' b off (off + 1) (off + 2) (off + 3) (off + 4) c0 a0 k0) := by
 obtain ⟨q0,q1,q2,q3,_⟩ := (hb.fr h).cells
 obtain ⟨y00,y01,y02,y03,y04⟩ := h0.fr (hf.trans h)
 exact ⟨q0,q1,q2,q3,y00,y01,y02,y03,y04⟩
theorem kid2 {w : World} {lv : Value} {n c0 c1 : Nd} (hl : LN w lv n.l) (hnl : n.l = [c0,c1]) : ∃ b off lc a0 k0 a1 k1,lv = .slice (some ⟨b,off,none⟩) 2 lc ∧ Hid (NdC w b off c0 (.slice a0 c0.l.length k0)) ∧ LN w (.slice a0 c0.l.length k0) c0.l ∧ Hid (NdC w b (off + 5) c1 (.slice a1 c1.l.length k1)) ∧ LN w (.slice a1 c1.l.length k1) c1.l ∧ 2 ≤ lc ∧ lc ≤ maxLen := by
 obtain ⟨la,lc,rfl,hlc,hlm,_⟩ := hl.form
 obtain ⟨b,off,lv0,rfl,hc0,hl0,_⟩ := hl.at_ (i := 0) (t := c0) (by rw [hnl]; rfl)
 obtain ⟨a0,k0,rfl,_,_,_⟩ := hl0.form
 obtain ⟨b1,off1,lv1,e1,hc1,hl1,_⟩ := hl.at_ (i := 1) (t := c1) (by rw [hnl]; rfl)
 obtain ⟨rfl,rfl⟩ : b = b1 ∧ off = off1 := by simpa using e1
 obtain ⟨a1,k1,rfl,_,_,_⟩ := hl1.form
 simp only [Nat.zero_mul,Nat.add_zero] at hc0
 have HNC0 := h_ hc0
 rw [Nat.one_mul] at hc1
 have HNC1 := h_ hc1
 rw [show n.l.length = 2 from by rw [hnl]; rfl] at hlc ⊢
 exact ⟨b,off,lc,a0,k0,a1,k1,rfl,HNC0,hl0,HNC1,hl1,hlc,hlm⟩
theorem hk2 {w w1 W' : World} {b off : Nat} {x0 x1 x2 x3 x4 : Value} {c0 c1 : Nd} {a0 a1 : Option Addr} {k0 k1 : Nat} (hb : Nb w1 w.heap.size x0 x1 x2 x3 x4) (hf : Fr w w1) (h0 : NdC w b off c0 (.slice a0 c0.l.length k0)) (h1 : NdC w b (off + 5) c1 (.slice a1 c1.l.length k1)) (h : Fr w1 W') : nQ w W' (x0) (x1) (x2) (x3) (cQ W' b off (off + 1) (off + 2) (off + 3) (off + 4) c0 a0 k0 (dQ W' b (off + 5) (off + 6) (off + 7) (off + 8) (off + 9) c1 a1 k1)) := by
 obtain ⟨q0,q1,q2,q3,_⟩ := (hb.fr h).cells
 obtain ⟨y00,y01,y02,y03,y04⟩ := h0.fr (hf.trans h)
 obtain ⟨y10,y11,y12,y13,y14⟩ := h1.fr (hf.trans h)
 exact ⟨q0,q1,q2,q3,y00,y01,y02,y03,y04,y10,y11,y12,y13,y14⟩
theorem kid3 {w : World} {lv : Value} {n c0 c1 c2 : Nd} (hl : LN w lv n.l) (hnl : n.l = [c0,c1,c2]) : ∃ b off lc a0 k0 a1 k1 a2 k2,lv = .slice (some ⟨b,off,none⟩) 3 lc ∧ Hid (NdC w b off c0 (.slice a0 c0.l.length k0)) ∧ LN w (.slice a0 c0.l.length k0) c0.l ∧ Hid (NdC w b (off + 5) c1 (.slice a1 c1.l.length k1)) ∧ LN w (.slice a1 c1.l.length k1) c1.l ∧ Hid (NdC w b (off + 10) c2 (.slice a2 c2.l.length k2)) ∧ LN w (.slice a2 c2.l.length k2) c2.l ∧ 3 ≤ lc ∧ lc ≤ maxLen := by
 obtain ⟨la,lc,rfl,hlc,hlm,_⟩ := hl.form
 obtain ⟨b,off,lv0,rfl,hc0,hl0,_⟩ := hl.at_ (i := 0) (t := c0) (by rw [hnl]; rfl)
 obtain ⟨a0,k0,rfl,_,_,_⟩ := hl0.form
 obtain ⟨b1,off1,lv1,e1,hc1,hl1,_⟩ := hl.at_ (i := 1) (t := c1) (by rw [hnl]; rfl)
 obtain ⟨rfl,rfl⟩ : b = b1 ∧ off = off1 := by simpa using e1
 obtain ⟨a1,k1,rfl,_,_,_⟩ := hl1.form
 obtain ⟨b2,off2,lv2,e2,hc2,hl2,_⟩ := hl.at_ (i := 2) (t := c2) (by rw [hnl]; rfl)
 obtain ⟨rfl,rfl⟩ : b = b2 ∧ off = off2 := by simpa using e2
 obtain ⟨a2,k2,rfl,_,_,_⟩ := hl2.form
 simp only [Nat.zero_mul,Nat.add_zero] at hc0
 have HNC0 := h_ hc0
 rw [Nat.one_mul] at hc1
 have HNC1 := h_ hc1
 rw [show 2 * 5 = 10 from rfl] at hc2
 have HNC2 := h_ hc2
 rw [show n.l.length = 3 from by rw [hnl]; rfl] at hlc ⊢
 exact ⟨b,off,lc,a0,k0,a1,k1,a2,k2,rfl,HNC0,hl0,HNC1,hl1,HNC2,hl2,hlc,hlm⟩
theorem hk3 {w w1 W' : World} {b off : Nat} {x0 x1 x2 x3 x4 : Value} {c0 c1 c2 : Nd} {a0 a1 a2 : Option Addr} {k0 k1 k2 : Nat} (hb : Nb w1 w.heap.size x0 x1 x2 x3 x4) (hf : Fr w w1) (h0 : NdC w b off c0 (.slice a0 c0.l.length k0)) (h1 : NdC w b (off + 5) c1 (.slice a1 c1.l.length k1)) (h2 : NdC w b (off + 10) c2 (.slice a2 c2.l.length k2)) (h : Fr w1 W') : nQ w W' (x0) (x1) (x2) (x3) (cQ W' b off (off + 1) (off + 2) (off + 3) (off + 4) c0 a0 k0 (cQ W' b (off + 5) (off + 6) (off + 7) (off + 8) (off + 9) c1 a1 k1 (dQ W' b (off + 10) (off + 11) (off + 12) (off + 13) (off + 14) c2 a2 k2))) := by
 obtain ⟨q0,q1,q2,q3,_⟩ := (hb.fr h).cells
 obtain ⟨y00,y01,y02,y03,y04⟩ := h0.fr (hf.trans h)
 obtain ⟨y10,y11,y12,y13,y14⟩ := h1.fr (hf.trans h)
 obtain ⟨y20,y21,y22,y23,y24⟩ := h2.fr (hf.trans h)
 exact ⟨q0,q1,q2,q3,y00,y01,y02,y03,y04,y10,y11,y12,y13,y14,y20,y21,y22,y23,y24⟩
theorem words_2 (r0 r1 : Value) (A0 A1 : List ByteArray) (b : Nat) (w : World) (hb : b = w.heap.size) (h0 : SL w r0 A0) (h1 : SL w r1 A1) (hl : ([A0,A1] : List (List ByteArray)).flatten.length ≤ 1000000) :
 Calls prog 79 #[.slice (some ⟨b,0,none⟩) 2 2] (w.alloc (.cells #[r0,r1] 50)) fun e w' => ∃ v,e = .returned v ∧ OS w' w.heap.size v ([A0,A1] : List (List ByteArray)).flatten ∧ Fr w w' := by
 subst hb
 have hf := (Fr.refl w).alloc (.cells #[r0,r1] 50)
 refine (words_x [r0,r1] [A0,A1] w.heap.size 2 _ rfl (fun i A hA => ?_) hl (by omega)).mono ?_
 ·match i,hA with
  | 0,hA => obtain rfl : _ = A := Option.some.inj hA; exact ⟨r0,by simp,h0.fr hf⟩
  | 1,hA => obtain rfl : _ = A := Option.some.inj hA; exact ⟨r1,by simp,h1.fr hf⟩
  | (i + 2),hA => simp at hA
 ·rintro e w' ⟨v,rfl,ho,hf2⟩
  exact ⟨v,rfl,ho.low (by rw [size_alloc']; omega),hf.trans hf2⟩
theorem words_3 (r0 r1 r2 : Value) (A0 A1 A2 : List ByteArray) (b : Nat) (w : World) (hb : b = w.heap.size) (h0 : SL w r0 A0) (h1 : SL w r1 A1) (h2 : SL w r2 A2) (hl : ([A0,A1,A2] : List (List ByteArray)).flatten.length ≤ 1000000) :
 Calls prog 79 #[.slice (some ⟨b,0,none⟩) 3 3] (w.alloc (.cells #[r0,r1,r2] 50)) fun e w' => ∃ v,e = .returned v ∧ OS w' w.heap.size v ([A0,A1,A2] : List (List ByteArray)).flatten ∧ Fr w w' := by
 subst hb
 have hf := (Fr.refl w).alloc (.cells #[r0,r1,r2] 50)
 refine (words_x [r0,r1,r2] [A0,A1,A2] w.heap.size 3 _ rfl (fun i A hA => ?_) hl (by omega)).mono ?_
 ·match i,hA with
  | 0,hA => obtain rfl : _ = A := Option.some.inj hA; exact ⟨r0,by simp,h0.fr hf⟩
  | 1,hA => obtain rfl : _ = A := Option.some.inj hA; exact ⟨r1,by simp,h1.fr hf⟩
  | 2,hA => obtain rfl : _ = A := Option.some.inj hA; exact ⟨r2,by simp,h2.fr hf⟩
  | (i + 3),hA => simp at hA
 ·rintro e w' ⟨v,rfl,ho,hf2⟩
  exact ⟨v,rfl,ho.low (by rw [size_alloc']; omega),hf.trans hf2⟩
theorem words_4 (r0 r1 r2 r3 : Value) (A0 A1 A2 A3 : List ByteArray) (b : Nat) (w : World) (hb : b = w.heap.size) (h0 : SL w r0 A0) (h1 : SL w r1 A1) (h2 : SL w r2 A2) (h3 : SL w r3 A3) (hl : ([A0,A1,A2,A3] : List (List ByteArray)).flatten.length ≤ 1000000) :
 Calls prog 79 #[.slice (some ⟨b,0,none⟩) 4 4] (w.alloc (.cells #[r0,r1,r2,r3] 50)) fun e w' => ∃ v,e = .returned v ∧ OS w' w.heap.size v ([A0,A1,A2,A3] : List (List ByteArray)).flatten ∧ Fr w w' := by
 subst hb
 have hf := (Fr.refl w).alloc (.cells #[r0,r1,r2,r3] 50)
 refine (words_x [r0,r1,r2,r3] [A0,A1,A2,A3] w.heap.size 4 _ rfl (fun i A hA => ?_) hl (by omega)).mono ?_
 ·match i,hA with
  | 0,hA => obtain rfl : _ = A := Option.some.inj hA; exact ⟨r0,by simp,h0.fr hf⟩
  | 1,hA => obtain rfl : _ = A := Option.some.inj hA; exact ⟨r1,by simp,h1.fr hf⟩
  | 2,hA => obtain rfl : _ = A := Option.some.inj hA; exact ⟨r2,by simp,h2.fr hf⟩
  | 3,hA => obtain rfl : _ = A := Option.some.inj hA; exact ⟨r3,by simp,h3.fr hf⟩
  | (i + 4),hA => simp at hA
 ·rintro e w' ⟨v,rfl,ho,hf2⟩
  exact ⟨v,rfl,ho.low (by rw [size_alloc']; omega),hf.trans hf2⟩
theorem words_6 (r0 r1 r2 r3 r4 r5 : Value) (A0 A1 A2 A3 A4 A5 : List ByteArray) (b : Nat) (w : World) (hb : b = w.heap.size) (h0 : SL w r0 A0) (h1 : SL w r1 A1) (h2 : SL w r2 A2) (h3 : SL w r3 A3) (h4 : SL w r4 A4) (h5 : SL w r5 A5) (hl : ([A0,A1,A2,A3,A4,A5] : List (List ByteArray)).flatten.length ≤ 1000000) :
 Calls prog 79 #[.slice (some ⟨b,0,none⟩) 6 6] (w.alloc (.cells #[r0,r1,r2,r3,r4,r5] 50)) fun e w' => ∃ v,e = .returned v ∧ OS w' w.heap.size v ([A0,A1,A2,A3,A4,A5] : List (List ByteArray)).flatten ∧ Fr w w' := by
 subst hb
 have hf := (Fr.refl w).alloc (.cells #[r0,r1,r2,r3,r4,r5] 50)
 refine (words_x [r0,r1,r2,r3,r4,r5] [A0,A1,A2,A3,A4,A5] w.heap.size 6 _ rfl (fun i A hA => ?_) hl (by omega)).mono ?_
 ·match i,hA with
  | 0,hA => obtain rfl : _ = A := Option.some.inj hA; exact ⟨r0,by simp,h0.fr hf⟩
  | 1,hA => obtain rfl : _ = A := Option.some.inj hA; exact ⟨r1,by simp,h1.fr hf⟩
  | 2,hA => obtain rfl : _ = A := Option.some.inj hA; exact ⟨r2,by simp,h2.fr hf⟩
  | 3,hA => obtain rfl : _ = A := Option.some.inj hA; exact ⟨r3,by simp,h3.fr hf⟩
  | 4,hA => obtain rfl : _ = A := Option.some.inj hA; exact ⟨r4,by simp,h4.fr hf⟩
  | 5,hA => obtain rfl : _ = A := Option.some.inj hA; exact ⟨r5,by simp,h5.fr hf⟩
  | (i + 6),hA => simp at hA
 ·rintro e w' ⟨v,rfl,ho,hf2⟩
  exact ⟨v,rfl,ho.low (by rw [size_alloc']; omega),hf.trans hf2⟩
theorem r_sub (n c0 c1 : Nd) (A0 A1 : List ByteArray) (hop : n.op = 8) (hnl : n.l = [c0,c1]) (h0 : Rx 158 (mkL 9) c0 A0) (h1 : Rx 158 (mkL 10) c1 A1) (hsz : ((A0 ++ [(⟨#[33]⟩ : BA)] ++ A1)).length ≤ 1000000) : Rx 83 mk1 n ((A0 ++ [(⟨#[33]⟩ : BA)] ++ A1)) := by
 intro w lv hl
 show Calls prog 83 #[ndV n lv] w _
 obtain ⟨b,off,lc,a0,k0,a1,k1,rfl,HNC0,hl0,HNC1,hl1,hlc,hlm⟩ := kid2 hl hnl
 rw [ndV_eq,hop]
 have C0 := h_ (fun W (h : Fr w W) => h0 W _ (hl0.fr h))
 rw [ndV_eq] at C0
 unfold mkL at C0
 have C1 := h_ (fun W (h : Fr w W) => h1 W _ (hl1.fr h))
 rw [ndV_eq] at C1
 unfold mkL at C1
 have HSZ := h_ hsz
 obtain ⟨w1,HW1,HF1,HNB⟩ := al1 w (.int .i64 8) (.int .i64 n.n) (.string n.s) (.slice (some ⟨b,off,none⟩) 2 lc) (.int .i64 n.a)
 have HK := h_ (fun W' (h : Fr w1 W') => hk2 HNB.out HF1.out HNC0.out HNC1.out h)
 have hq0 : Fr w1 w1.drew := (Fr.refl _).drew
 have hq1 : Fr w1 w1 := Fr.refl _
 clear hl hop hnl hsz hl0 hl1 h0 h1 hlm
 obtain ⟨z0,z1,z2,z3,x0,x1,x2,x3,x4,x5,x6,x7,x8,x9⟩ := HK.out w1 (Fr.refl _)
 rw [HW1.out] at z0
 clear z1 z2 z3 x0 x1 x2 x3 x4 x5 x6 x7 x8 x9
 go_enter func83,ntmps83
 go_wp2_with fail
 rw [← HW1.out]
 clear z0
 go_region_held3 (fun W' => nQ w W' (.int .i64 8) (.int .i64 n.n) (.string n.s) (.slice (some ⟨b,off,none⟩) 2 lc) (cQ W' b off (off + 1) (off + 2) (off + 3) (off + 4) c0 a0 k0 (dQ W' b (off + 5) (off + 6) (off + 7) (off + 8) (off + 9) c1 a1 k1)))
  (first | exact HK.out _ (by assumption) | exact HK.out _ (Fr.alloc (by assumption) _))
  ((first
  | (go_at_call 158; with_reducible refine (C0.out _ ?_).mono ?_; exact HF1.out.trans (by assumption); rintro e wx ⟨r0,rfl,ho0,hfx⟩; have hs0 := OS.sl ho0; have hqx := Fr.trans (by assumption : Fr w1 _) hfx)
  | (go_at_call 158; with_reducible refine (C1.out _ ?_).mono ?_; exact HF1.out.trans (by assumption); rintro e wx ⟨r1,rfl,ho1,hfx⟩; have hs1 := OS.sl ho1; have hqx := Fr.trans (by assumption : Fr w1 _) hfx; have hs0 := hs0.fr hfx)
  | (go_at_call 159; with_reducible refine (joined_x r0 r1 A0 A1 (⟨#[33]⟩ : BA) _ hs0 hs1 ?_).mono ?_; (have hz := HSZ.out; simp at hz ⊢; omega); rintro e wx ⟨r2,rfl,ho2,hfx⟩; have hs2 := OS.sl ho2; have hqx := Fr.trans (by assumption : Fr w1 _) hfx; have hs0 := hs0.fr hfx; have hs1 := hs1.fr hfx)))
 have hfin : Fr w wx := HF1.out.trans hqx
 have hlo := ho2.low (B' := w.heap.size) (Nat.le_trans HF1.out.size (by first | exact Fr.size (by assumption) | exact Below.size (by assumption)))
 go_wp2_with fail
 go_ret
 exact ⟨_,rfl,hlo,hfin⟩
theorem r_byte (n c0 c1 : Nd) (A0 A1 : List ByteArray) (hop : n.op = 9) (hnl : n.l = [c0,c1]) (h0 : Rx 158 (mkL 9) c0 A0) (h1 : Rx 158 (mkL 10) c1 A1) (hsz : ((A0 ++ [(⟨#[37]⟩ : BA)] ++ A1)).length ≤ 1000000) : Rx 83 mk1 n ((A0 ++ [(⟨#[37]⟩ : BA)] ++ A1)) := by
 intro w lv hl
 show Calls prog 83 #[ndV n lv] w _
 obtain ⟨b,off,lc,a0,k0,a1,k1,rfl,HNC0,hl0,HNC1,hl1,hlc,hlm⟩ := kid2 hl hnl
 rw [ndV_eq,hop]
 have C0 := h_ (fun W (h : Fr w W) => h0 W _ (hl0.fr h))
 rw [ndV_eq] at C0
 unfold mkL at C0
 have C1 := h_ (fun W (h : Fr w W) => h1 W _ (hl1.fr h))
 rw [ndV_eq] at C1
 unfold mkL at C1
 have HSZ := h_ hsz
 obtain ⟨w1,HW1,HF1,HNB⟩ := al1 w (.int .i64 9) (.int .i64 n.n) (.string n.s) (.slice (some ⟨b,off,none⟩) 2 lc) (.int .i64 n.a)
 have HK := h_ (fun W' (h : Fr w1 W') => hk2 HNB.out HF1.out HNC0.out HNC1.out h)
 have hq0 : Fr w1 w1.drew := (Fr.refl _).drew
 have hq1 : Fr w1 w1 := Fr.refl _
 clear hl hop hnl hsz hl0 hl1 h0 h1 hlm
 obtain ⟨z0,z1,z2,z3,x0,x1,x2,x3,x4,x5,x6,x7,x8,x9⟩ := HK.out w1 (Fr.refl _)
 rw [HW1.out] at z0
 clear z1 z2 z3 x0 x1 x2 x3 x4 x5 x6 x7 x8 x9
 go_enter func83,ntmps83
 go_wp2_with fail
 rw [← HW1.out]
 clear z0
 go_region_held3 (fun W' => nQ w W' (.int .i64 9) (.int .i64 n.n) (.string n.s) (.slice (some ⟨b,off,none⟩) 2 lc) (cQ W' b off (off + 1) (off + 2) (off + 3) (off + 4) c0 a0 k0 (dQ W' b (off + 5) (off + 6) (off + 7) (off + 8) (off + 9) c1 a1 k1)))
  (first | exact HK.out _ (by assumption) | exact HK.out _ (Fr.alloc (by assumption) _))
  ((first
  | (go_at_call 158; with_reducible refine (C0.out _ ?_).mono ?_; exact HF1.out.trans (by assumption); rintro e wx ⟨r0,rfl,ho0,hfx⟩; have hs0 := OS.sl ho0; have hqx := Fr.trans (by assumption : Fr w1 _) hfx)
  | (go_at_call 158; with_reducible refine (C1.out _ ?_).mono ?_; exact HF1.out.trans (by assumption); rintro e wx ⟨r1,rfl,ho1,hfx⟩; have hs1 := OS.sl ho1; have hqx := Fr.trans (by assumption : Fr w1 _) hfx; have hs0 := hs0.fr hfx)
  | (go_at_call 159; with_reducible refine (joined_x r0 r1 A0 A1 (⟨#[37]⟩ : BA) _ hs0 hs1 ?_).mono ?_; (have hz := HSZ.out; simp at hz ⊢; omega); rintro e wx ⟨r2,rfl,ho2,hfx⟩; have hs2 := OS.sl ho2; have hqx := Fr.trans (by assumption : Fr w1 _) hfx; have hs0 := hs0.fr hfx; have hs1 := hs1.fr hfx)))
 have hfin : Fr w wx := HF1.out.trans hqx
 have hlo := ho2.low (B' := w.heap.size) (Nat.le_trans HF1.out.size (by first | exact Fr.size (by assumption) | exact Below.size (by assumption)))
 go_wp2_with fail
 go_ret
 exact ⟨_,rfl,hlo,hfin⟩
theorem r_sel (n c0 c1 : Nd) (A0 A1 : List ByteArray) (hop : n.op = 17) (hnl : n.l = [c0,c1]) (h0 : Rx 158 (mkL 9) c0 A0) (h1 : Rx 158 (mkL 10) c1 A1) (hsz : ((A0 ++ [(⟨#[111,102]⟩ : BA)] ++ A1)).length ≤ 1000000) : Rx 83 mk1 n ((A0 ++ [(⟨#[111,102]⟩ : BA)] ++ A1)) := by
 intro w lv hl
 show Calls prog 83 #[ndV n lv] w _
 obtain ⟨b,off,lc,a0,k0,a1,k1,rfl,HNC0,hl0,HNC1,hl1,hlc,hlm⟩ := kid2 hl hnl
 rw [ndV_eq,hop]
 have C0 := h_ (fun W (h : Fr w W) => h0 W _ (hl0.fr h))
 rw [ndV_eq] at C0
 unfold mkL at C0
 have C1 := h_ (fun W (h : Fr w W) => h1 W _ (hl1.fr h))
 rw [ndV_eq] at C1
 unfold mkL at C1
 have HSZ := h_ hsz
 obtain ⟨w1,HW1,HF1,HNB⟩ := al1 w (.int .i64 17) (.int .i64 n.n) (.string n.s) (.slice (some ⟨b,off,none⟩) 2 lc) (.int .i64 n.a)
 have HK := h_ (fun W' (h : Fr w1 W') => hk2 HNB.out HF1.out HNC0.out HNC1.out h)
 have hq0 : Fr w1 w1.drew := (Fr.refl _).drew
 have hq1 : Fr w1 w1 := Fr.refl _
 clear hl hop hnl hsz hl0 hl1 h0 h1 hlm
 obtain ⟨z0,z1,z2,z3,x0,x1,x2,x3,x4,x5,x6,x7,x8,x9⟩ := HK.out w1 (Fr.refl _)
 rw [HW1.out] at z0
 clear z1 z2 z3 x0 x1 x2 x3 x4 x5 x6 x7 x8 x9
 go_enter func83,ntmps83
 go_wp2_with fail
 rw [← HW1.out]
 clear z0
 go_region_held3 (fun W' => nQ w W' (.int .i64 17) (.int .i64 n.n) (.string n.s) (.slice (some ⟨b,off,none⟩) 2 lc) (cQ W' b off (off + 1) (off + 2) (off + 3) (off + 4) c0 a0 k0 (dQ W' b (off + 5) (off + 6) (off + 7) (off + 8) (off + 9) c1 a1 k1)))
  (first | exact HK.out _ (by assumption) | exact HK.out _ (Fr.alloc (by assumption) _))
  ((first
  | (go_at_call 158; with_reducible refine (C0.out _ ?_).mono ?_; exact HF1.out.trans (by assumption); rintro e wx ⟨r0,rfl,ho0,hfx⟩; have hs0 := OS.sl ho0; have hqx := Fr.trans (by assumption : Fr w1 _) hfx)
  | (go_at_call 158; with_reducible refine (C1.out _ ?_).mono ?_; exact HF1.out.trans (by assumption); rintro e wx ⟨r1,rfl,ho1,hfx⟩; have hs1 := OS.sl ho1; have hqx := Fr.trans (by assumption : Fr w1 _) hfx; have hs0 := hs0.fr hfx)
  | (go_at_call 159; with_reducible refine (joined_x r0 r1 A0 A1 (⟨#[111,102]⟩ : BA) _ hs0 hs1 ?_).mono ?_; (have hz := HSZ.out; simp at hz ⊢; omega); rintro e wx ⟨r2,rfl,ho2,hfx⟩; have hs2 := OS.sl ho2; have hqx := Fr.trans (by assumption : Fr w1 _) hfx; have hs0 := hs0.fr hfx; have hs1 := hs1.fr hfx)))
 have hfin : Fr w wx := HF1.out.trans hqx
 have hlo := ho2.low (B' := w.heap.size) (Nat.le_trans HF1.out.size (by first | exact Fr.size (by assumption) | exact Below.size (by assumption)))
 go_wp2_with fail
 go_ret
 exact ⟨_,rfl,hlo,hfin⟩
theorem r_cond (n c0 c1 c2 : Nd) (A0 A1 A3 : List ByteArray) (hop : n.op = 14) (hnl : n.l = [c0,c1,c2]) (h0 : Rx 158 (mkL 1) c0 A0) (h1 : Rx 83 mk1 c1 A1) (h3 : Rx 83 mk1 c2 A3) (hsz : (((A0 ++ [(⟨#[45,62]⟩ : BA)] ++ A1) ++ [(⟨#[44]⟩ : BA)] ++ A3)).length ≤ 1000000) : Rx 83 mk1 n (((A0 ++ [(⟨#[45,62]⟩ : BA)] ++ A1) ++ [(⟨#[44]⟩ : BA)] ++ A3)) := by
 intro w lv hl
 show Calls prog 83 #[ndV n lv] w _
 obtain ⟨b,off,lc,a0,k0,a1,k1,a2,k2,rfl,HNC0,hl0,HNC1,hl1,HNC2,hl2,hlc,hlm⟩ := kid3 hl hnl
 rw [ndV_eq,hop]
 have C0 := h_ (fun W (h : Fr w W) => h0 W _ (hl0.fr h))
 rw [ndV_eq] at C0
 unfold mkL at C0
 have C1 := h_ (fun W (h : Fr w W) => h1 W _ (hl1.fr h))
 rw [ndV_eq] at C1
 unfold mk1 at C1
 have C3 := h_ (fun W (h : Fr w W) => h3 W _ (hl2.fr h))
 rw [ndV_eq] at C3
 unfold mk1 at C3
 have HSZ := h_ hsz
 obtain ⟨w1,HW1,HF1,HNB⟩ := al1 w (.int .i64 14) (.int .i64 n.n) (.string n.s) (.slice (some ⟨b,off,none⟩) 3 lc) (.int .i64 n.a)
 have HK := h_ (fun W' (h : Fr w1 W') => hk3 HNB.out HF1.out HNC0.out HNC1.out HNC2.out h)
 have hq0 : Fr w1 w1.drew := (Fr.refl _).drew
 have hq1 : Fr w1 w1 := Fr.refl _
 clear hl hop hnl hsz hl0 hl1 hl2 h0 h1 h3 hlm
 obtain ⟨z0,z1,z2,z3,x0,x1,x2,x3,x4,x5,x6,x7,x8,x9,x10,x11,x12,x13,x14⟩ := HK.out w1 (Fr.refl _)
 rw [HW1.out] at z0
 clear z1 z2 z3 x0 x1 x2 x3 x4 x5 x6 x7 x8 x9 x10 x11 x12 x13 x14
 go_enter func83,ntmps83
 go_wp2_with fail
 rw [← HW1.out]
 clear z0
 go_region_held3 (fun W' => nQ w W' (.int .i64 14) (.int .i64 n.n) (.string n.s) (.slice (some ⟨b,off,none⟩) 3 lc) (cQ W' b off (off + 1) (off + 2) (off + 3) (off + 4) c0 a0 k0 (cQ W' b (off + 5) (off + 6) (off + 7) (off + 8) (off + 9) c1 a1 k1 (dQ W' b (off + 10) (off + 11) (off + 12) (off + 13) (off + 14) c2 a2 k2))))
  (first | exact HK.out _ (by assumption) | exact HK.out _ (Fr.alloc (by assumption) _))
  ((first
  | (go_at_call 158; with_reducible refine (C0.out _ ?_).mono ?_; exact HF1.out.trans (by assumption); rintro e wx ⟨r0,rfl,ho0,hfx⟩; have hs0 := OS.sl ho0; have hqx := Fr.trans (by assumption : Fr w1 _) hfx)
  | (go_at_call 83; with_reducible refine (C1.out _ ?_).mono ?_; exact HF1.out.trans (by assumption); rintro e wx ⟨r1,rfl,ho1,hfx⟩; have hs1 := OS.sl ho1; have hqx := Fr.trans (by assumption : Fr w1 _) hfx; have hs0 := hs0.fr hfx)
  | (go_at_call 159; with_reducible refine (joined_x r0 r1 A0 A1 (⟨#[45,62]⟩ : BA) _ hs0 hs1 ?_).mono ?_; (have hz := HSZ.out; simp at hz ⊢; omega); rintro e wx ⟨r2,rfl,ho2,hfx⟩; have hs2 := OS.sl ho2; have hqx := Fr.trans (by assumption : Fr w1 _) hfx; have hs0 := hs0.fr hfx; have hs1 := hs1.fr hfx)
  | (go_at_call 83; with_reducible refine (C3.out _ ?_).mono ?_; exact HF1.out.trans (by assumption); rintro e wx ⟨r3,rfl,ho3,hfx⟩; have hs3 := OS.sl ho3; have hqx := Fr.trans (by assumption : Fr w1 _) hfx; have hs0 := hs0.fr hfx; have hs1 := hs1.fr hfx; have hs2 := hs2.fr hfx)
  | (go_at_call 159; with_reducible refine (joined_x r2 r3 (A0 ++ [(⟨#[45,62]⟩ : BA)] ++ A1) A3 (⟨#[44]⟩ : BA) _ hs2 hs3 ?_).mono ?_; (have hz := HSZ.out; simp at hz ⊢; omega); rintro e wx ⟨r4,rfl,ho4,hfx⟩; have hs4 := OS.sl ho4; have hqx := Fr.trans (by assumption : Fr w1 _) hfx; have hs0 := hs0.fr hfx; have hs1 := hs1.fr hfx; have hs2 := hs2.fr hfx; have hs3 := hs3.fr hfx)))
 have hfin : Fr w wx := HF1.out.trans hqx
 have hlo := ho4.low (B' := w.heap.size) (Nat.le_trans HF1.out.size (by first | exact Fr.size (by assumption) | exact Below.size (by assumption)))
 go_wp2_with fail
 go_ret
 exact ⟨_,rfl,hlo,hfin⟩
end Go.Proofs.YtbaelbafhdjlnaaGreatDoor
