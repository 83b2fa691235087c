/- A part of the proof that the law ParsePrints holds for every input. -/
import Derived.Test.YtbaelbafhdjlnaaGreatDoorX2
namespace Go.Proofs.YtbaelbafhdjlnaaGreatDoor
open Go.RowKit _root_.Go.Proofs.Tryz
set_option linter.unusedVariables false
set_option linter.unusedSimpArgs false
set_option maxRecDepth 100000
set_option maxHeartbeats 8000000
theorem constants_x (key sg : ByteArray) (hkey : tkOk key) (hsg : tkOk sg) (l : List Nd) (tk : Nd → List ByteArray) (t : ByteArray) (w0 : World) (g : Nat) (w : World) (tv : Value) (a : Option Addr) (c : Nat) (hlen : l.length ≤ 1000000) (hov : Ov w0) (hnv : Nv w0) (hl : RowN w0 a l) (hf : Fr w0 w) (hs : Wt w0.heap.size g w tv t)
 (hd : ∀ x ∈ l,Wk sg x (tk x)) (hz : (pt t ([key,⟨#[123]⟩] ++ joinT ⟨#[59]⟩ (l.map tk) ++ [⟨#[125]⟩])).size ≤ 100000000) :
 Calls prog 150 #[.pointer (some ⟨g,0,none⟩),.string key,.string sg,.slice a l.length c] w fun e w' => e = .returned (.tuple #[]) ∧ ∃ tv',Wn w0.heap.size g w tv w' tv' (pt t ([key,⟨#[123]⟩] ++ joinT ⟨#[59]⟩ (l.map tk) ++ [⟨#[125]⟩])) := by
 simp only [pt_append] at hz ⊢
 have hz2 : (pt (pt t [key,⟨#[123]⟩]) (joinT ⟨#[59]⟩ (l.map tk))).size ≤ 100000000 := Nat.le_trans (pt_size_le _ _) hz
 have hz1 : (pt t [key,⟨#[123]⟩]).size ≤ 100000000 := Nat.le_trans (pt_size_le _ _) hz2
 have hz0 : t.size ≤ 100000000 := Nat.le_trans (pt_size_le _ _) hz1
 have HFA : Hid (Fr w ((w.alloc (.cells #[.pointer (some ⟨g,0,none⟩)] 82)).alloc (.cells #[.string sg] 9))) := h_ (((Fr.refl w).alloc _).alloc _)
 have HKV : Hid (Kv ((w.alloc (.cells #[.pointer (some ⟨g,0,none⟩)] 82)).alloc (.cells #[.string sg] 9)) tv g w.heap.size (w.heap.size + 1) sg) := h_ (by
  clear hz hz0 hz1 hz2
  have h1 := hs.cell.lt
  refine ⟨by simp,by simp,by omega,by omega,fun e => ?_,fun e => ?_⟩
  ·have := (hs.own.lt _ e.symm).2; omega
  ·have := (hs.own.lt _ e.symm).2; omega)
 have HS := h_ hs
 have HFF := h_ hf
 have C1 := h_ (fun W c tv' (hc : c = W.heap.size) (h : Wt w0.heap.size g W tv' t) => put_2 w0.heap.size g W tv' t key ⟨#[123]⟩ c hc h hkey ⟨by decide,by decide⟩ hz0)
 have C3 := h_ (fun W c tv' (hc : c = W.heap.size) (h : Wt w0.heap.size g W tv' (pt (pt t [key,⟨#[123]⟩]) (joinT ⟨#[59]⟩ (l.map tk)))) => put_1 w0.heap.size g W tv' _ ⟨#[125]⟩ c hc h ⟨by decide,by decide⟩ hz2)
 have C2 : Hid (∀ W tv',Fr w0 W → Wt w0.heap.size g W tv' (pt t [key,⟨#[123]⟩]) → Kv W tv' g w.heap.size (w.heap.size + 1) sg → Calls prog 212 #[.pointer (some ⟨g,0,none⟩),.slice a l.length c,.string ⟨#[59]⟩,.func (.func 213) #[] #[.pointer (some ⟨w.heap.size,0,none⟩),.pointer (some ⟨w.heap.size + 1,0,none⟩)]] W fun e w' => e = .returned (.tuple #[]) ∧ ∃ tv'',Wn w0.heap.size g W tv' w' tv'' (pt (pt t [key,⟨#[123]⟩]) (joinT ⟨#[59]⟩ (l.map tk)))) := h_ (fun W tv' h h2 h3 => by
  have h4 := list_const l (fun i => pt (pt t [key,⟨#[123]⟩]) (joinT ⟨#[59]⟩ ((l.map tk).take i))) ⟨#[59]⟩ (pt t [key,⟨#[123]⟩]) (by decide) (by decide) w0 g W tv' a c hlen hov hnv hl h (by simpa [joinT,pt_nil] using h2) (w.heap.size) (w.heap.size + 1) sg h3 tk hd rfl (by rw [take_len]; exact hz2)
  rw [take_len] at h4
  exact h4)
 have hmf : ∀ (fn : Fn) (first cap : Array Value) (w : World),(Instr.makeFunc fn first cap).run prog w = .ok (.func fn first cap) w := fun _ _ _ _ => rfl
 have HWS := h_ (HS.out.step HFA.out)
 have HF0 := h_ (HFF.out.trans HFA.out)
 have HV0 := h_ ((HS.out.fr HFA.out).refl)
 have kp := HKV.out.p
 have ks := HKV.out.s
 clear hov hnv hl hf hs hd hz hz0 hz1 hz2 hkey hsg hlen
 go_enter func150,ntmps150
 go_wp2_with fail
 refine (C1.out _ _ _ (by simp) HV0.out.st).mono ?_
 rintro e w1 ⟨rfl,tv1,hw⟩
 have HV1 := h_ (HV0.out.trans hw)
 have HF1 : Hid (Fr w0 w1) := h_ ((HWS.out.trans HV1.out).frame HS.out HFF.out)
 have HK1 := h_ (HKV.out.step HV1.out)
 clear hw kp ks
 have kp := HK1.out.p
 have ks := HK1.out.s
 go_wp2_with fail
 refine (C2.out _ _ HF1.out HV1.out.st HK1.out).mono ?_
 rintro e w2 ⟨rfl,tv2,hw⟩
 have HV2 := h_ (HV1.out.trans hw)
 have HK2 := h_ (HKV.out.step HV2.out)
 clear hw kp ks
 have kp := HK2.out.p
 have ks := HK2.out.s
 go_wp2_with fail
 refine (C3.out _ _ _ (by simp) HV2.out.st).mono ?_
 rintro e w3 ⟨rfl,tv3,hw⟩
 have HV3 := h_ (HWS.out.trans (HV2.out.trans hw))
 clear hw
 go_wp2_with fail
 first | go_end0 | refine bodyPost_ret (results_none rfl _ _ _) rfl ?_
 exact ⟨rfl,_,HV3.out⟩
theorem declaration_60 (n : Nd) (tk : Nd → List ByteArray) (hop : n.op = 60) (hlen : n.l.length ≤ 1000000) (hd : ∀ x ∈ n.l,Wk ⟨#[61]⟩ x (tk x)) : Wx 75 ar0 n ([⟨#[109,97,110,105,102,101,115,116]⟩,⟨#[123]⟩] ++ joinT ⟨#[59]⟩ (n.l.map tk) ++ [⟨#[125]⟩]) := by
 intro t
 refine ⟨pt_size_le t _,?_⟩
 intro w0 g w tv lv hov hnv hl hf hs hz
 show Calls prog 75 #[.pointer (some ⟨g,0,none⟩),ndV n lv] w _
 obtain ⟨la,lc,rfl,hlc,_,_⟩ := hl.form
 rw [ndV_eq]
 have HFA := h_ (fa_ n w la lc)
 have HN := h_ (nn_ n w la lc)
 have HS := h_ hs
 have CS := h_ (fun W (h : Fr w W) => constants_x ⟨#[109,97,110,105,102,101,115,116]⟩ ⟨#[61]⟩ ⟨by decide,by decide⟩ ⟨by decide,by decide⟩ n.l tk t w0 g W tv la lc hlen hov hnv hl.rowN (hf.trans h) (hs.fr h) hd hz)
 rw [hop] at HN HFA ⊢
 obtain ⟨c0,c1,c2,c3,c4⟩ := HN.out.cells
 have HWS := h_ (HS.out.step HFA.out)
 clear hov hnv hl hf hs hz hd hop
 go_enter func75,ntmps75
 go_wp2_with fail
 refine (CS.out _ HFA.out).mono ?_
 rintro e w1 ⟨rfl,tv1,hw⟩
 have HV1 := h_ (HWS.out.trans hw)
 clear hw
 go_wp2_with fail
 first | go_end0 | refine bodyPost_ret (results_none rfl _ _ _) rfl ?_
 exact ⟨rfl,_,HV1.out⟩
theorem declaration_61 (n : Nd) (tk : Nd → List ByteArray) (hop : n.op = 61) (hlen : n.l.length ≤ 1000000) (hd : ∀ x ∈ n.l,Wk ⟨#[61]⟩ x (tk x)) : Wx 75 ar0 n ([⟨#[115,116,97,116,105,99]⟩,⟨#[123]⟩] ++ joinT ⟨#[59]⟩ (n.l.map tk) ++ [⟨#[125]⟩]) := by
 intro t
 refine ⟨pt_size_le t _,?_⟩
 intro w0 g w tv lv hov hnv hl hf hs hz
 show Calls prog 75 #[.pointer (some ⟨g,0,none⟩),ndV n lv] w _
 obtain ⟨la,lc,rfl,hlc,_,_⟩ := hl.form
 rw [ndV_eq]
 have HFA := h_ (fa_ n w la lc)
 have HN := h_ (nn_ n w la lc)
 have HS := h_ hs
 have CS := h_ (fun W (h : Fr w W) => constants_x ⟨#[115,116,97,116,105,99]⟩ ⟨#[61]⟩ ⟨by decide,by decide⟩ ⟨by decide,by decide⟩ n.l tk t w0 g W tv la lc hlen hov hnv hl.rowN (hf.trans h) (hs.fr h) hd hz)
 rw [hop] at HN HFA ⊢
 obtain ⟨c0,c1,c2,c3,c4⟩ := HN.out.cells
 have HWS := h_ (HS.out.step HFA.out)
 clear hov hnv hl hf hs hz hd hop
 go_enter func75,ntmps75
 go_wp2_with fail
 refine (CS.out _ HFA.out).mono ?_
 rintro e w1 ⟨rfl,tv1,hw⟩
 have HV1 := h_ (HWS.out.trans hw)
 clear hw
 go_wp2_with fail
 first | go_end0 | refine bodyPost_ret (results_none rfl _ _ _) rfl ?_
 exact ⟨rfl,_,HV1.out⟩
theorem declaration_62 (n : Nd) (tk : Nd → List ByteArray) (hop : n.op = 62) (hlen : n.l.length ≤ 1000000) (hd : ∀ x ∈ n.l,Wk ⟨#[58]⟩ x (tk x)) : Wx 75 ar0 n ([⟨#[103,108,111,98,97,108]⟩,⟨#[123]⟩] ++ joinT ⟨#[59]⟩ (n.l.map tk) ++ [⟨#[125]⟩]) := by
 intro t
 refine ⟨pt_size_le t _,?_⟩
 intro w0 g w tv lv hov hnv hl hf hs hz
 show Calls prog 75 #[.pointer (some ⟨g,0,none⟩),ndV n lv] w _
 obtain ⟨la,lc,rfl,hlc,_,_⟩ := hl.form
 rw [ndV_eq]
 have HFA := h_ (fa_ n w la lc)
 have HN := h_ (nn_ n w la lc)
 have HS := h_ hs
 have CS := h_ (fun W (h : Fr w W) => constants_x ⟨#[103,108,111,98,97,108]⟩ ⟨#[58]⟩ ⟨by decide,by decide⟩ ⟨by decide,by decide⟩ n.l tk t w0 g W tv la lc hlen hov hnv hl.rowN (hf.trans h) (hs.fr h) hd hz)
 rw [hop] at HN HFA ⊢
 obtain ⟨c0,c1,c2,c3,c4⟩ := HN.out.cells
 have HWS := h_ (HS.out.step HFA.out)
 clear hov hnv hl hf hs hz hd hop
 go_enter func75,ntmps75
 go_wp2_with fail
 refine (CS.out _ HFA.out).mono ?_
 rintro e w1 ⟨rfl,tv1,hw⟩
 have HV1 := h_ (HWS.out.trans hw)
 clear hw
 go_wp2_with fail
 first | go_end0 | refine bodyPost_ret (results_none rfl _ _ _) rfl ?_
 exact ⟨rfl,_,HV1.out⟩
theorem procedure_fun (n bd : Nd) (ps : List Nd) (T : Nat → ByteArray) (t t' : ByteArray) (hn1 : n.n = 0) (hnl : n.l = ps ++ [bd]) (hlen : ps.length ≤ 1000000) (hp : 0 < n.s.size) (hq : n.s.size ≤ 1000000) (hT : T 0 = pt t [⟨#[108,101,116]⟩,n.s,⟨#[40]⟩])
 (hps : ∀ i y,ps[i]? = some y → Wd 167 ar0 y (if i = 0 then T i else pt (T i) [⟨#[44]⟩]) (T (i + 1))) (hd : Wd 167 ar0 bd (pt (pt (T ps.length) [⟨#[41]⟩]) [⟨#[61]⟩]) t') : Wd 151 ar0 n t t' := by
 have hm0 : (T ps.length).size ≤ t'.size := Nat.le_trans (pt_one_size _ _) (Nat.le_trans (pt_one_size _ _) hd.1)
 have hm1 : t.size ≤ (T ps.length).size := Nat.le_trans (by rw [hT]; exact pt_size_le t _) (grows hps ps.length 0 (by omega))
 refine ⟨Nat.le_trans hm1 hm0,?_⟩
 intro w0 g w tv lv hov hnv hl hf hs hz
 show Calls prog 151 #[.pointer (some ⟨g,0,none⟩),ndV n lv] w _
 obtain ⟨la,lc,rfl,_,_,_⟩ := hl.form
 rw [ndV_eq]
 have HFA := h_ (fa_ n w la lc)
 have HN := h_ (nn_ n w la lc)
 have HS := h_ hs
 have hmf : ∀ (fn : Fn) (first cap : Array Value) (w : World),(Instr.makeFunc fn first cap).run prog w = .ok (.func fn first cap) w := fun _ _ _ _ => rfl
 have hz2 : (pt (T ps.length) [⟨#[41]⟩]).size ≤ 100000000 := Nat.le_trans (Nat.le_trans (pt_one_size _ _) hd.1) hz
 have hz1 : (T ps.length).size ≤ 100000000 := Nat.le_trans hm0 hz
 have hz0 : t.size ≤ 100000000 := Nat.le_trans hm1 hz1
 have hll : n.l.length = ps.length + 1 := by rw [hnl]; simp
 obtain ⟨b,off,lvx,rfl,hnc,hlx,_⟩ := hl.at_ (i := ps.length) (t := bd) (by rw [hnl]; simp)
 obtain ⟨xa,xc,rfl,_,_,_⟩ := hlx.form
 have hlr := (hl.take_ ps.length (by omega)).rowN
 rw [show n.l.take ps.length = ps from by rw [hnl]; simp] at hlr
 rw [hn1,hll] at HN HFA ⊢
 have CX := h_ (fun W tv' (h : Fr w0 W) (h2 : Wt w0.heap.size g W tv' (pt (pt (T ps.length) [⟨#[41]⟩]) [⟨#[61]⟩])) => hd.2 w0 g W tv' _ hov hnv hlx h h2 hz)
 rw [ndV_eq] at CX
 unfold ar0 at CX
 have C3 := h_ (fun W c (hc : c = W.heap.size) (h : Fr w W) => put_three w0.heap.size g W tv t ⟨#[108,101,116]⟩ n.s ⟨#[40]⟩ c hc (hs.fr h) ⟨by decide,hp,by decide⟩ ⟨by decide,hq,by decide⟩ hz0)
 have CL := h_ (fun W tv' c (h : Fr w0 W) (h2 : Wt w0.heap.size g W tv' (T 0)) => list_part ps T ⟨#[44]⟩ (by decide) (by decide) w0 g W tv' _ c hlen hov hnv hlr h h2 hps hz1)
 have CP := h_ (fun W c tv t s (hb : c = W.heap.size) (h : Wt w0.heap.size g W tv t) (hz : t.size ≤ 100000000) (hs : s = ⟨#[41]⟩ ∨ s = ⟨#[61]⟩) => put_one w0.heap.size g W tv t s c hb h (by rcases hs with rfl | rfl <;> decide) (by rcases hs with rfl | rfl <;> decide) hz)
 rw [hT] at CL
 have HZ := h_ (And.intro hz1 hz2)
 obtain ⟨rl,hrl⟩ : ∃ y,y = ps.length := ⟨_,rfl⟩
 rw [← hrl] at HN HFA CX CL HZ hnc ⊢
 have q1 : wrap64 (rl : Int) = (rl : Int) := IntWalk.wrap64_in _ (by omega)
 have q2 : (rl : Int).toNat = rl := Int.toNat_natCast rl
 have hcap : rl + 1 ≤ lc := by rw [hrl,← hll]; assumption
 have HFF := h_ hf
 have HNC := h_ hnc
 have hbl : b < w0.heap.size := by have := World.block_lt_of_cell? w0 _ hnc.op; simpa using this
 have hgb := hs.gb
 obtain ⟨hne1,hnr1⟩ := nr_ hs
 obtain ⟨c0,c1,c2,c3,c4⟩ := HN.out.cells
 clear hov hnv hl hf hs hz hd hn1 hnl hlen hp hq hT hps hm0 hm1 hz0 hz1 hz2 hll hlx hlr hrl hnc
 go_enter func151,ntmps151
 go_wp2_with fail
 refine (C3.out _ _ (by simp) HFA.out).mono ?_
 rintro e w1 ⟨rfl,tv1,hw1⟩
 have HWS := h_ (HS.out.step HFA.out)
 have HC0 := h_ (And.intro c1 c3)
 have HW1 := h_ hw1
 have HF1 : Hid (Fr w0 w1) := h_ ((HWS.out.trans hw1).frame HS.out HFF.out)
 have d1 := hw1.side c1 hne1 hnr1
 have d3 := hw1.side c3 hne1 hnr1
 clear hw1
 go_wp2_with fail
 refine (CL.out _ _ _ HF1.out HW1.out.st).mono ?_
 rintro e w2 ⟨rfl,tv2,hw2⟩
 have HW2 := h_ (HW1.out.trans hw2)
 clear hw2
 go_wp2_with fail
 refine (CP.out _ _ _ _ _ rfl HW2.out.st HZ.out.1 (.inl rfl)).mono ?_
 rintro e w3 ⟨rfl,tv3,hw3⟩
 have HW3 := h_ (HW2.out.trans hw3)
 clear hw3
 have e1 := HW3.out.side HC0.out.1 hne1 hnr1
 have e3 := HW3.out.side HC0.out.2 hne1 hnr1
 have z1 : ((1 : Int) == 0) = false := rfl
 go_wp2_with fail
 refine (CP.out _ _ _ _ _ rfl HW3.out.st HZ.out.2 (.inr rfl)).mono ?_
 rintro e w4 ⟨rfl,tv4,hw4⟩
 have HW4 := h_ (HW3.out.trans hw4)
 clear hw4
 have HF4 : Hid (Fr w0 w4) := h_ ((HWS.out.trans HW4.out).frame HS.out HFF.out)
 have g3 := HW4.out.side HC0.out.2 hne1 hnr1
 have y0 := HF4.out.cell HNC.out.op
 have y1 := HF4.out.cell HNC.out.n
 have y2 := HF4.out.cell HNC.out.s
 have y3 := HF4.out.cell HNC.out.l
 have y4 := HF4.out.cell HNC.out.a
 go_wp2_with fail
 refine (CX.out _ _ HF4.out HW4.out.st).mono ?_
 rintro e w5 ⟨rfl,tv5,hw5⟩
 have HW5 := h_ (HWS.out.trans (HW4.out.trans hw5))
 clear hw5
 go_wp2_with fail
 first | go_end0 | refine bodyPost_ret (results_none rfl _ _ _) rfl ?_
 exact ⟨rfl,_,HW5.out⟩
theorem proc_be (n bd : Nd) (ps : List Nd) (tk : Nd → List ByteArray) (B : List ByteArray) (hn1 : n.n = 1) (hnl : n.l = ps ++ [bd]) (hlen : ps.length ≤ 1000000) (hns : tkOk n.s) (hps : ∀ x ∈ ps,Wx 167 ar0 x (tk x)) (hd : Wx 85 ar0 bd B) :
 Wx 151 ar0 n ([⟨#[108,101,116]⟩,n.s,⟨#[40]⟩] ++ joinT ⟨#[44]⟩ (ps.map tk) ++ [⟨#[41]⟩] ++ [⟨#[98,101]⟩] ++ B) := by
 intro t
 have h := procedure_cmd n bd ps (fun i => pt (pt t [⟨#[108,101,116]⟩,n.s,⟨#[40]⟩]) (joinT ⟨#[44]⟩ ((ps.map tk).take i))) t (pt t ([⟨#[108,101,116]⟩,n.s,⟨#[40]⟩] ++ joinT ⟨#[44]⟩ (ps.map tk) ++ [⟨#[41]⟩] ++ [⟨#[98,101]⟩] ++ B)) hn1 hnl hlen hns.1 hns.2 (by simp [joinT,pt_nil])
  (lists_of _ _ ps tk ⟨#[44]⟩ _ hps) (by rw [take_len]; simp only [pt_append]; exact hd _)
 exact h
theorem decl_proc (n : Nd) (A : List ByteArray) (hop : n.op = 64) (hd : Wx 151 ar0 n A) : Wx 75 ar0 n A := fun t => declaration_proc n t _ hop (hd t)
theorem proc_eq (n bd : Nd) (ps : List Nd) (tk : Nd → List ByteArray) (B : List ByteArray) (hn1 : n.n = 0) (hnl : n.l = ps ++ [bd]) (hlen : ps.length ≤ 1000000) (hns : tkOk n.s) (hps : ∀ x ∈ ps,Wx 167 ar0 x (tk x)) (hd : Wx 167 ar0 bd B) :
 Wx 151 ar0 n ([⟨#[108,101,116]⟩,n.s,⟨#[40]⟩] ++ joinT ⟨#[44]⟩ (ps.map tk) ++ [⟨#[41]⟩] ++ [⟨#[61]⟩] ++ B) := by
 intro t
 have h := procedure_fun n bd ps (fun i => pt (pt t [⟨#[108,101,116]⟩,n.s,⟨#[40]⟩]) (joinT ⟨#[44]⟩ ((ps.map tk).take i))) t (pt t ([⟨#[108,101,116]⟩,n.s,⟨#[40]⟩] ++ joinT ⟨#[44]⟩ (ps.map tk) ++ [⟨#[41]⟩] ++ [⟨#[61]⟩] ++ B)) hn1 hnl hlen hns.1 hns.2 (by simp [joinT,pt_nil])
  (lists_of _ _ ps tk ⟨#[44]⟩ _ hps) (by rw [take_len]; simp only [pt_append]; exact hd _)
 exact h
theorem decl_proc2 (n : Nd) (A : List ByteArray) (hop : n.op = 64) (hd : Wx 151 ar0 n A) : Wx 75 ar0 n A := fun t => declaration_proc n t _ hop (hd t)
theorem PrintExpr_ok (n : Nd) (lv : Value) (A : List ByteArray) (w : World) (hov : Ov w) (hnv : Nv w) (hl : LN w lv n.l) (hck : ∀ W,Fr w W → Calls prog 24 #[ndV n lv] W fun e w' => e = .returned (.int .i64 0) ∧ Fr W w') (hd : Wx 82 (arL 0) n A) (hz : (pt ⟨#[]⟩ A).size ≤ 100000000) :
 Calls prog 28 #[ndV n lv] w fun e w' => e = .returned (if 40000 < (pt ⟨#[]⟩ A).size then .tuple #[.string ⟨#[]⟩,.int .i64 2] else .tuple #[.string (pt ⟨#[]⟩ A),.int .i64 0]) ∧ Fr w w' := by
 have CX := h_ (fun w0 (h0 : Fr w w0) W tv (h : Fr w0 W) (h2 : Wt w0.heap.size w0.heap.size W tv ⟨#[]⟩) => (hd ⟨#[]⟩).2 w0 w0.heap.size W tv _ (hov.fr h0) (hnv.fr h0) (hl.fr h0) h h2 hz)
 have CK := h_ hck
 obtain ⟨la,lc,rfl,hlc,hlm,_⟩ := hl.form
 rw [ndV_eq] at CX CK ⊢
 unfold arL at CX
 obtain ⟨t,ht⟩ : ∃ t,t = pt ⟨#[]⟩ A := ⟨_,rfl⟩
 rw [← ht] at CX hz ⊢
 obtain ⟨R,hR⟩ : ∃ R : Value,R = (if 40000 < t.size then .tuple #[.string ⟨#[]⟩,.int .i64 2] else .tuple #[.string t,.int .i64 0]) := ⟨_,rfl⟩
 obtain ⟨p,q,hpq⟩ : ∃ p q,R = .tuple #[p,q] := by
  rw [hR]; split
  ·exact ⟨_,_,rfl⟩
  ·exact ⟨_,_,rfl⟩
 rw [← hR]
 have CM := h_ (fun B g W tv (h : Wt B g W tv t) => whole_any B g W tv t h hz)
 rw [← hR,hpq] at CM
 rw [hpq]
 have HFA := h_ (fa_ n w la lc)
 have HN := h_ (nn_ n w la lc)
 obtain ⟨z0,z1,z2,z3,z4⟩ := HN.out.cells
 clear hl hov hnv hck hd hz hR hpq ht
 go_enter func28,ntmps28
 go_wp2_with fail
 refine (CK.out _ HFA.out).mono ?_
 rintro e w0 ⟨rfl,hf1⟩
 have HF1 : Hid (Fr w w0) := h_ (HFA.out.trans hf1)
 have HN1 := h_ ((HN.out.fr hf1).fr ((Fr.refl w0).alloc (.cells #[.slice none 0 0] 84)))
 have HW0 : Hid (Wt w0.heap.size w0.heap.size (w0.alloc (.cells #[.slice none 0 0] 84)) (.slice none 0 0) ⟨#[]⟩) := h_
  ⟨Cb.new w0 _ _,World.ownsRow_nil _ _ _ _,by rw [size_alloc']; omega,by simp [Value.ownBlock],Nat.le_refl _⟩
 have HF2 : Hid (Fr w0 (w0.alloc (.cells #[.slice none 0 0] 84))) := h_ ((Fr.refl w0).alloc _)
 obtain ⟨y0,y1,y2,y3,y4⟩ := HN1.out.cells
 clear z0 z1 z2 z3 z4 hf1
 go_wp2_with fail
 refine (CX.out _ HF1.out _ _ HF2.out HW0.out).mono ?_
 rintro e w3 ⟨rfl,tv3,hw3⟩
 have HW3 := h_ hw3
 have HF3 : Hid (Fr w w3) := h_ (HF1.out.trans (hw3.frame HW0.out HF2.out))
 clear hw3 y0 y1 y2 y3 y4
 go_wp2_with fail
 refine (CM.out _ _ _ _ HW3.out.st).mono ?_
 rintro e w4 ⟨rfl,hf4⟩
 have HF4 : Hid (Fr w w4) := h_ (HF3.out.trans hf4)
 clear hf4
 go_wp2_with fail
 first | go_ret2 | go_ret
 exact ⟨rfl,HF4.out⟩
theorem PrintCommand_ok (n : Nd) (lv : Value) (A : List ByteArray) (w : World) (hov : Ov w) (hnv : Nv w) (hl : LN w lv n.l) (hck : ∀ W,Fr w W → Calls prog 70 #[ndV n lv,.func (.func 84) #[] #[]] W fun e w' => e = .returned (.int .i64 0) ∧ Fr W w') (hd : Wx 85 ar0 n A) (hz : (pt ⟨#[]⟩ A).size ≤ 100000000) :
 Calls prog 30 #[ndV n lv] w fun e w' => e = .returned (if 40000 < (pt ⟨#[]⟩ A).size then .tuple #[.string ⟨#[]⟩,.int .i64 2] else .tuple #[.string (pt ⟨#[]⟩ A),.int .i64 0]) ∧ Fr w w' := by
 have CX := h_ (fun w0 (h0 : Fr w w0) W tv (h : Fr w0 W) (h2 : Wt w0.heap.size w0.heap.size W tv ⟨#[]⟩) => (hd ⟨#[]⟩).2 w0 w0.heap.size W tv _ (hov.fr h0) (hnv.fr h0) (hl.fr h0) h h2 hz)
 have CK := h_ hck
 obtain ⟨la,lc,rfl,hlc,hlm,_⟩ := hl.form
 rw [ndV_eq] at CX CK ⊢
 unfold ar0 at CX
 obtain ⟨t,ht⟩ : ∃ t,t = pt ⟨#[]⟩ A := ⟨_,rfl⟩
 rw [← ht] at CX hz ⊢
 obtain ⟨R,hR⟩ : ∃ R : Value,R = (if 40000 < t.size then .tuple #[.string ⟨#[]⟩,.int .i64 2] else .tuple #[.string t,.int .i64 0]) := ⟨_,rfl⟩
 obtain ⟨p,q,hpq⟩ : ∃ p q,R = .tuple #[p,q] := by
  rw [hR]; split
  ·exact ⟨_,_,rfl⟩
  ·exact ⟨_,_,rfl⟩
 rw [← hR]
 have CM := h_ (fun B g W tv (h : Wt B g W tv t) => whole_any B g W tv t h hz)
 rw [← hR,hpq] at CM
 rw [hpq]
 have HFA := h_ (fa_ n w la lc)
 have HN := h_ (nn_ n w la lc)
 obtain ⟨z0,z1,z2,z3,z4⟩ := HN.out.cells
 clear hl hov hnv hck hd hz hR hpq ht
 go_enter func30,ntmps30
 go_wp2_with fail
 refine (CK.out _ HFA.out).mono ?_
 rintro e w0 ⟨rfl,hf1⟩
 have HF1 : Hid (Fr w w0) := h_ (HFA.out.trans hf1)
 have HN1 := h_ ((HN.out.fr hf1).fr ((Fr.refl w0).alloc (.cells #[.slice none 0 0] 84)))
 have HW0 : Hid (Wt w0.heap.size w0.heap.size (w0.alloc (.cells #[.slice none 0 0] 84)) (.slice none 0 0) ⟨#[]⟩) := h_
  ⟨Cb.new w0 _ _,World.ownsRow_nil _ _ _ _,by rw [size_alloc']; omega,by simp [Value.ownBlock],Nat.le_refl _⟩
 have HF2 : Hid (Fr w0 (w0.alloc (.cells #[.slice none 0 0] 84))) := h_ ((Fr.refl w0).alloc _)
 obtain ⟨y0,y1,y2,y3,y4⟩ := HN1.out.cells
 clear z0 z1 z2 z3 z4 hf1
 go_wp2_with fail
 refine (CX.out _ HF1.out _ _ HF2.out HW0.out).mono ?_
 rintro e w3 ⟨rfl,tv3,hw3⟩
 have HW3 := h_ hw3
 have HF3 : Hid (Fr w w3) := h_ (HF1.out.trans (hw3.frame HW0.out HF2.out))
 clear hw3 y0 y1 y2 y3 y4
 go_wp2_with fail
 refine (CM.out _ _ _ _ HW3.out.st).mono ?_
 rintro e w4 ⟨rfl,hf4⟩
 have HF4 : Hid (Fr w w4) := h_ (HF3.out.trans hf4)
 clear hf4
 go_wp2_with fail
 first | go_ret2 | go_ret
 exact ⟨rfl,HF4.out⟩
theorem Print_none (l : List Nd) (T : Nat → ByteArray) (w : World) (a : Option Addr) (c : Nat) (hlen : l.length ≤ 1000000) (hov : Ov w) (hnv : Nv w) (hl : RowN w a l) (hT : T 0 = ⟨#[]⟩)
 (hck : ∀ W,Fr w W → Calls prog 22 #[.agg #[.string ⟨#[]⟩,.slice a l.length c]] W fun e w' => e = .returned (.int .i64 0) ∧ Fr W w')
 (hd : ∀ i n,l[i]? = some n → Wd 75 ar0 n (if i = 0 then T i else T i ++ ⟨#[10]⟩) (T (i + 1))) (hz : (T l.length).size ≤ 99999999) :
 Calls prog 26 #[.agg #[.string ⟨#[]⟩,.slice a l.length c]] w fun e w' => e = .returned (if 40000 < (T l.length ++ (⟨#[10]⟩ : BA)).size then .tuple #[.string ⟨#[]⟩,.int .i64 2] else .tuple #[.string (T l.length ++ (⟨#[10]⟩ : BA)),.int .i64 0]) ∧ Fr w w' := by
 obtain ⟨R,hR⟩ : ∃ R : Value,R = (if 40000 < (T l.length ++ (⟨#[10]⟩ : BA)).size then .tuple #[.string ⟨#[]⟩,.int .i64 2] else .tuple #[.string (T l.length ++ (⟨#[10]⟩ : BA)),.int .i64 0]) := ⟨_,rfl⟩
 obtain ⟨p,q,hpq⟩ : ∃ p q,R = .tuple #[p,q] := by
  rw [hR]; split
  ·exact ⟨_,_,rfl⟩
  ·exact ⟨_,_,rfl⟩
 rw [← hR,hpq]
 have HRR := h_ (hpq.symm.trans hR)
 clear hR hpq
 have HG : Hid (∀ i,i ≤ l.length → (T i).size ≤ 99999999) := h_ (fun i hi => Nat.le_trans (growsL hd (l.length - i) i (by omega)) hz)
 have HD := h_ hd
 have HCK := h_ hck
 have HOV := h_ (And.intro hov hnv)
 have HT := h_ hT
 obtain ⟨b,off,hab,hrow⟩ := hl
 have HR := h_ hrow
 have HA := h_ hab
 obtain ⟨ln,hln⟩ : ∃ x,x = l.length := ⟨_,rfl⟩
 have HL := h_ hln
 have hl6 : ln ≤ 1000000 := by omega
 rw [← hln] at HCK ⊢
 have HB := h_ (SecB.new w (.string ⟨#[]⟩) (.slice a ln c))
 have HF0 : Hid (Fr w (w.alloc (.cells #[.string ⟨#[]⟩,.slice a ln c] 24))) := h_ ((Fr.refl w).alloc _)
 clear hd hck hov hnv hT hrow hab hz hlen hln
 go_enter func26,ntmps26
 go_wp2_with fail
 refine (HCK.out _ HF0.out).mono ?_
 rintro e w0 ⟨rfl,hf1⟩
 have HF1 : Hid (Fr w w0) := h_ (HF0.out.trans hf1)
 have HB1 := h_ ((HB.out.fr hf1).fr ((Fr.refl w0).alloc (.cells #[.slice none 0 0] 84)))
 have HW0 : Hid (Wt w0.heap.size w0.heap.size (w0.alloc (.cells #[.slice none 0 0] 84)) (.slice none 0 0) (T 0)) := h_ (by
  rw [HT.out]
  exact ⟨Cb.new w0 _ _,World.ownsRow_nil _ _ _ _,by rw [size_alloc']; omega,by simp [Value.ownBlock],Nat.le_refl _⟩)
 have HF2 : Hid (Fr w0 (w0.alloc (.cells #[.slice none 0 0] 84))) := h_ ((Fr.refl w0).alloc _)
 obtain ⟨s0,s1⟩ := HB1.out.cells
 clear hf1
 go_wp2_with fail
 have HFA : Hid (Fr w0 w0) := h_ (Fr.refl w0)
 have HOV2 : Hid (Ov w0 ∧ Nv w0) := h_ ⟨HOV.out.1.fr HF1.out,HOV.out.2.fr HF1.out⟩
 go_loopw [28] (fun i wr => ∃ k : Nat,k ≤ ln ∧ i = .int .i64 k ∧ ∃ tv',Wn w0.heap.size w0.heap.size (w0.alloc (.cells #[.slice none 0 0] 84)) (.slice none 0 0) wr tv' (T k)) (fun i _ => ln - (intOf i).toNat)
 case atStart => exact ⟨0,Nat.zero_le _,rfl,_,HW0.out.refl⟩
 case round =>
  obtain ⟨k,hk,rfl,tv1,hw1⟩ := hrel
  have HW1 := h_ hw1
  have HFR : Hid (Fr w0 wr) := h_ (hw1.frame HW0.out HF2.out)
  by_cases hlt : k < ln
  ·obtain ⟨n,hn⟩ : ∃ n,l[k]? = some n := ⟨_,List.getElem?_eq_getElem (by rw [← HL.out]; exact hlt)⟩
   obtain ⟨lv,hnc,hln⟩ := HR.out k n hn
   obtain rfl := HA.out (by rw [← HL.out]; omega)
   obtain ⟨la,lc,rfl,_,_,_⟩ := hln.form
   have x0 := (HF1.out.trans HFR.out).cell hnc.op
   have x1 := (HF1.out.trans HFR.out).cell hnc.n
   have x2 := (HF1.out.trans HFR.out).cell hnc.s
   have x3 := (HF1.out.trans HFR.out).cell hnc.l
   have x4 := (HF1.out.trans HFR.out).cell hnc.a
   have HDK := h_ (HD.out k n hn)
   have HNL := h_ (hln.fr HF1.out)
   have HGK : Hid ((T k).size ≤ 99999999 ∧ (T (k + 1)).size ≤ 99999999) := h_ ⟨HG.out k (by rw [← HL.out]; omega),HG.out (k + 1) (by rw [← HL.out]; omega)⟩
   have HNB := h_ (Nb.new wr (.int .i64 n.op) (.int .i64 n.n) (.string n.s) (.slice la n.l.length lc) (.int .i64 n.a))
   have HF1' : Hid (Fr wr (wr.alloc (.cells #[.int .i64 n.op,.int .i64 n.n,.string n.s,.slice la n.l.length lc,.int .i64 n.a] 32))) := h_ ((Fr.refl wr).alloc _)
   have HW2 := h_ (HW1.out.trans (HW1.out.st.step HF1'.out))
   have hji : (k : Int).toNat = k := Int.toNat_natCast k
   clear hw1 hnc hln hn
   by_cases h0 : k = 0
   ·subst h0
    simp only [Nat.zero_mul,Nat.add_zero] at x0 x1 x2 x3 x4
    have CW := h_ (fun W tv' (h : Fr w0 W) (h2 : Wt w0.heap.size w0.heap.size W tv' (T 0)) => HDK.out.2 w0 _ W tv' _ HOV2.out.1 HOV2.out.2 HNL.out h h2 (Nat.le_trans HGK.out.2 (by omega)))
    rw [ndV_eq] at CW
    unfold ar0 at CW
    obtain ⟨c0,c1,c2,c3,c4⟩ := HNB.out.cells
    go_wp2_with fail
    refine (CW.out _ _ (HFR.out.trans HF1'.out) HW2.out.st).mono ?_
    rintro e w3 ⟨rfl,tv3,hw3⟩
    have HW3 := h_ (HW2.out.trans hw3)
    clear hw3
    go_wp2_with fail
    go_roundw
    case rel => exact ⟨1,by omega,by go_num,_,HW3.out⟩
    case measure => simp [intOf]; omega
   ·have z1 : decide ((0 : Int) < (k : Int)) = true := decide_eq_true (by omega)
    have CW : Hid (∀ W tv',Fr w0 W → Wt w0.heap.size w0.heap.size W tv' (T k ++ ⟨#[10]⟩) → Calls prog 75 (ar0 (.pointer (some ⟨w0.heap.size,0,none⟩)) (ndV n (.slice la n.l.length lc))) W fun e w' => e = .returned (.tuple #[]) ∧ ∃ tv'',Wn w0.heap.size w0.heap.size W tv' w' tv'' (T (k + 1))) := h_ (fun W tv' h h2 => HDK.out.2 w0 _ W tv' _ HOV2.out.1 HOV2.out.2 HNL.out h (by rw [if_neg h0]; exact h2) (Nat.le_trans HGK.out.2 (by omega)))
    rw [ndV_eq] at CW
    unfold ar0 at CW
    obtain ⟨c0,c1,c2,c3,c4⟩ := HNB.out.cells
    have hne1 : wr.heap.size ≠ w0.heap.size := by have := HW1.out.st.cell.lt; omega
    have hnr1 : some wr.heap.size ≠ tv1.ownBlock := fun e => by have := (HW1.out.st.own.lt _ e.symm).2; omega
    go_wp2_with fail
    refine (line_any w0.heap.size w0.heap.size _ tv1 (T k) HW2.out.st (Nat.le_trans HGK.out.1 (by omega))).mono ?_
    rintro e w3 ⟨rfl,tv3,hw3⟩
    have d0 := hw3.side c0 hne1 hnr1
    have d1 := hw3.side c1 hne1 hnr1
    have d2 := hw3.side c2 hne1 hnr1
    have d3 := hw3.side c3 hne1 hnr1
    have d4 := hw3.side c4 hne1 hnr1
    have HW3 := h_ (HW2.out.trans hw3)
    have HF3 : Hid (Fr w0 w3) := h_ (HW3.out.frame HW0.out HF2.out)
    clear hw3
    go_wp2_with fail
    refine (CW.out _ _ HF3.out HW3.out.st).mono ?_
    rintro e w4 ⟨rfl,tv4,hw4⟩
    have HW4 := h_ (HW3.out.trans hw4)
    clear hw4
    go_wp2_with fail
    go_roundw
    case rel => exact ⟨k + 1,by omega,by go_num,_,HW4.out⟩
    case measure => simp [intOf]; omega
  ·obtain rfl : k = ln := by omega
   have HGN : Hid ((T k).size ≤ 99999999) := h_ (HG.out k (by rw [← HL.out]; omega))
   clear hw1
   go_wp2_with fail
   refine (line_any w0.heap.size w0.heap.size _ tv1 (T k) HW1.out.st (Nat.le_trans HGN.out (by omega))).mono ?_
   rintro e w3 ⟨rfl,tv3,hw3⟩
   have HW3 := h_ (HW1.out.trans hw3)
   have HF3 : Hid (Fr w0 w3) := h_ (HW3.out.frame HW0.out HF2.out)
   have HZ3 : Hid ((T k ++ (⟨#[10]⟩ : BA)).size ≤ 100000000) := h_ (by rw [ByteArray.size_append]; have := HGN.out; show (T k).size + 1 ≤ _; omega)
   clear hw3
   go_wp2_with fail
   have hwh := whole_any w0.heap.size w0.heap.size w3 tv3 _ HW3.out.st HZ3.out
   have HLN0 : T l.length = T k := by rw [HL.out]
   have hrr := HRR.out
   rw [HLN0] at hrr
   rw [← hrr] at hwh
   clear hrr
   have HWH := h_ hwh
   clear hwh
   refine HWH.out.mono ?_
   rintro e w4 ⟨rfl,hf4⟩
   have HF4 : Hid (Fr w w4) := h_ ((HF1.out.trans HF3.out).trans hf4)
   clear hf4
   have HLN : Hid (T l.length = T k) := h_ (by rw [HL.out])
   go_wp2_with fail
   go_ret2
   exact ⟨rfl,HF4.out⟩
theorem Print_named (s : ByteArray) (l : List Nd) (T : Nat → ByteArray) (w : World) (a : Option Addr) (c : Nat) (hlen : l.length ≤ 1000000) (hov : Ov w) (hnv : Nv w) (hl : RowN w a l) (hs0 : ¬ s = ⟨#[]⟩) (hs1 : s.size ≤ 2000000) (htk : tkOk (quo s).t) (hT : T 0 = pt ⟨#[]⟩ [⟨#[115,101,99,116,105,111,110]⟩,(quo s).t])
 (hck : ∀ W,Fr w W → Calls prog 22 #[.agg #[.string s,.slice a l.length c]] W fun e w' => e = .returned (.int .i64 0) ∧ Fr W w')
 (hd : ∀ i n,l[i]? = some n → Wd 75 ar0 n (if i = 0 then T i else T i ++ ⟨#[10]⟩) (T (i + 1))) (hz : (T l.length).size ≤ 99999999) :
 Calls prog 26 #[.agg #[.string s,.slice a l.length c]] w fun e w' => e = .returned (if 40000 < (T l.length ++ (⟨#[10]⟩ : BA)).size then .tuple #[.string ⟨#[]⟩,.int .i64 2] else .tuple #[.string (T l.length ++ (⟨#[10]⟩ : BA)),.int .i64 0]) ∧ Fr w w' := by
 obtain ⟨R,hR⟩ : ∃ R : Value,R = (if 40000 < (T l.length ++ (⟨#[10]⟩ : BA)).size then .tuple #[.string ⟨#[]⟩,.int .i64 2] else .tuple #[.string (T l.length ++ (⟨#[10]⟩ : BA)),.int .i64 0]) := ⟨_,rfl⟩
 obtain ⟨p,q,hpq⟩ : ∃ p q,R = .tuple #[p,q] := by
  rw [hR]; split
  ·exact ⟨_,_,rfl⟩
  ·exact ⟨_,_,rfl⟩
 rw [← hR,hpq]
 have HRR := h_ (hpq.symm.trans hR)
 clear hR hpq
 have HG : Hid (∀ i,i ≤ l.length → (T i).size ≤ 99999999) := h_ (fun i hi => Nat.le_trans (growsL hd (l.length - i) i (by omega)) hz)
 have HD := h_ hd
 have HCK := h_ hck
 have HOV := h_ (And.intro hov hnv)
 have HT := h_ hT
 obtain ⟨b,off,hab,hrow⟩ := hl
 have HR := h_ hrow
 have HA := h_ hab
 obtain ⟨ln,hln⟩ : ∃ x,x = l.length := ⟨_,rfl⟩
 have HL := h_ hln
 have hl6 : ln ≤ 1000000 := by omega
 rw [← hln] at HCK ⊢
 have HB := h_ (SecB.new w (.string s) (.slice a ln c))
 have HF0 : Hid (Fr w (w.alloc (.cells #[.string s,.slice a ln c] 24))) := h_ ((Fr.refl w).alloc _)
 have HSS := h_ (And.intro hs1 htk)
 have hse : s.toList.isEmpty = false := by
  have h := s_no hs0
  simpa using h
 clear hs1 htk
 clear hd hck hov hnv hT hrow hab hz hlen hln
 go_enter func26,ntmps26
 go_wp2_with fail
 refine (HCK.out _ HF0.out).mono ?_
 rintro e w0 ⟨rfl,hf1⟩
 have HF1 : Hid (Fr w w0) := h_ (HF0.out.trans hf1)
 have HB1 := h_ ((HB.out.fr hf1).fr ((Fr.refl w0).alloc (.cells #[.slice none 0 0] 84)))
 have HW0 : Hid (Wt w0.heap.size w0.heap.size (w0.alloc (.cells #[.slice none 0 0] 84)) (.slice none 0 0) ⟨#[]⟩) := h_
  ⟨Cb.new w0 _ _,World.ownsRow_nil _ _ _ _,by rw [size_alloc']; omega,by simp [Value.ownBlock],Nat.le_refl _⟩
 have HF2 : Hid (Fr w0 (w0.alloc (.cells #[.slice none 0 0] 84))) := h_ ((Fr.refl w0).alloc _)
 obtain ⟨s0,s1⟩ := HB1.out.cells
 have hlw : w.heap.size < w0.heap.size := by have h := hf1.size; rw [size_alloc'] at h; omega
 have hne1 : w.heap.size ≠ w0.heap.size := by omega
 have hnr1 : some w.heap.size ≠ (Value.slice none 0 0).ownBlock := by simp [Value.ownBlock]
 clear hf1 hlw
 go_wp2_with fail
 refine (put_1 w0.heap.size w0.heap.size _ _ ⟨#[]⟩ ⟨#[115,101,99,116,105,111,110]⟩ _ (by simp) HW0.out ⟨by decide,by decide⟩ (by decide)).mono ?_
 rintro e wq ⟨rfl,tvq,hwq⟩
 have HQ1 := h_ hwq
 have HC := h_ (And.intro s0 s1)
 have s0 := hwq.side s0 hne1 hnr1
 have s1 := hwq.side s1 hne1 hnr1
 clear hwq
 go_wp2_with fail
 refine (quoted_of s HSS.out.1 HSS.out.2 w0.heap.size w0.heap.size wq tvq _ HQ1.out.st (by decide)).mono ?_
 rintro e wk ⟨rfl,tvk,hwk⟩
 have HQ2 := h_ (HQ1.out.trans hwk)
 clear s0 s1 hwk
 have s1 := HQ2.out.side HC.out.2 hne1 hnr1
 have HST : Hid (∃ tv',Wn w0.heap.size w0.heap.size (w0.alloc (.cells #[.slice none 0 0] 84)) (.slice none 0 0) wk tv' (T 0)) := h_ ⟨_,by rw [HT.out]; exact HQ2.out⟩
 go_wp2_with fail
 have HFA : Hid (Fr w0 w0) := h_ (Fr.refl w0)
 have HOV2 : Hid (Ov w0 ∧ Nv w0) := h_ ⟨HOV.out.1.fr HF1.out,HOV.out.2.fr HF1.out⟩
 go_loopw [28] (fun i wr => ∃ k : Nat,k ≤ ln ∧ i = .int .i64 k ∧ ∃ tv',Wn w0.heap.size w0.heap.size (w0.alloc (.cells #[.slice none 0 0] 84)) (.slice none 0 0) wr tv' (T k)) (fun i _ => ln - (intOf i).toNat)
 case atStart => exact ⟨0,Nat.zero_le _,rfl,HST.out⟩
 case round =>
  obtain ⟨k,hk,rfl,tv1,hw1⟩ := hrel
  have HW1 := h_ hw1
  have HFR : Hid (Fr w0 wr) := h_ (hw1.frame HW0.out HF2.out)
  by_cases hlt : k < ln
  ·obtain ⟨n,hn⟩ : ∃ n,l[k]? = some n := ⟨_,List.getElem?_eq_getElem (by rw [← HL.out]; exact hlt)⟩
   obtain ⟨lv,hnc,hln⟩ := HR.out k n hn
   obtain rfl := HA.out (by rw [← HL.out]; omega)
   obtain ⟨la,lc,rfl,_,_,_⟩ := hln.form
   have x0 := (HF1.out.trans HFR.out).cell hnc.op
   have x1 := (HF1.out.trans HFR.out).cell hnc.n
   have x2 := (HF1.out.trans HFR.out).cell hnc.s
   have x3 := (HF1.out.trans HFR.out).cell hnc.l
   have x4 := (HF1.out.trans HFR.out).cell hnc.a
   have HDK := h_ (HD.out k n hn)
   have HNL := h_ (hln.fr HF1.out)
   have HGK : Hid ((T k).size ≤ 99999999 ∧ (T (k + 1)).size ≤ 99999999) := h_ ⟨HG.out k (by rw [← HL.out]; omega),HG.out (k + 1) (by rw [← HL.out]; omega)⟩
   have HNB := h_ (Nb.new wr (.int .i64 n.op) (.int .i64 n.n) (.string n.s) (.slice la n.l.length lc) (.int .i64 n.a))
   have HF1' : Hid (Fr wr (wr.alloc (.cells #[.int .i64 n.op,.int .i64 n.n,.string n.s,.slice la n.l.length lc,.int .i64 n.a] 32))) := h_ ((Fr.refl wr).alloc _)
   have HW2 := h_ (HW1.out.trans (HW1.out.st.step HF1'.out))
   have hji : (k : Int).toNat = k := Int.toNat_natCast k
   clear hw1 hnc hln hn
   by_cases h0 : k = 0
   ·subst h0
    simp only [Nat.zero_mul,Nat.add_zero] at x0 x1 x2 x3 x4
    have CW := h_ (fun W tv' (h : Fr w0 W) (h2 : Wt w0.heap.size w0.heap.size W tv' (T 0)) => HDK.out.2 w0 _ W tv' _ HOV2.out.1 HOV2.out.2 HNL.out h h2 (Nat.le_trans HGK.out.2 (by omega)))
    rw [ndV_eq] at CW
    unfold ar0 at CW
    obtain ⟨c0,c1,c2,c3,c4⟩ := HNB.out.cells
    go_wp2_with fail
    refine (CW.out _ _ (HFR.out.trans HF1'.out) HW2.out.st).mono ?_
    rintro e w3 ⟨rfl,tv3,hw3⟩
    have HW3 := h_ (HW2.out.trans hw3)
    clear hw3
    go_wp2_with fail
    go_roundw
    case rel => exact ⟨1,by omega,by go_num,_,HW3.out⟩
    case measure => simp [intOf]; omega
   ·have z1 : decide ((0 : Int) < (k : Int)) = true := decide_eq_true (by omega)
    have CW : Hid (∀ W tv',Fr w0 W → Wt w0.heap.size w0.heap.size W tv' (T k ++ ⟨#[10]⟩) → Calls prog 75 (ar0 (.pointer (some ⟨w0.heap.size,0,none⟩)) (ndV n (.slice la n.l.length lc))) W fun e w' => e = .returned (.tuple #[]) ∧ ∃ tv'',Wn w0.heap.size w0.heap.size W tv' w' tv'' (T (k + 1))) := h_ (fun W tv' h h2 => HDK.out.2 w0 _ W tv' _ HOV2.out.1 HOV2.out.2 HNL.out h (by rw [if_neg h0]; exact h2) (Nat.le_trans HGK.out.2 (by omega)))
    rw [ndV_eq] at CW
    unfold ar0 at CW
    obtain ⟨c0,c1,c2,c3,c4⟩ := HNB.out.cells
    have hne1 : wr.heap.size ≠ w0.heap.size := by have := HW1.out.st.cell.lt; omega
    have hnr1 : some wr.heap.size ≠ tv1.ownBlock := fun e => by have := (HW1.out.st.own.lt _ e.symm).2; omega
    go_wp2_with fail
    refine (line_any w0.heap.size w0.heap.size _ tv1 (T k) HW2.out.st (Nat.le_trans HGK.out.1 (by omega))).mono ?_
    rintro e w3 ⟨rfl,tv3,hw3⟩
    have d0 := hw3.side c0 hne1 hnr1
    have d1 := hw3.side c1 hne1 hnr1
    have d2 := hw3.side c2 hne1 hnr1
    have d3 := hw3.side c3 hne1 hnr1
    have d4 := hw3.side c4 hne1 hnr1
    have HW3 := h_ (HW2.out.trans hw3)
    have HF3 : Hid (Fr w0 w3) := h_ (HW3.out.frame HW0.out HF2.out)
    clear hw3
    go_wp2_with fail
    refine (CW.out _ _ HF3.out HW3.out.st).mono ?_
    rintro e w4 ⟨rfl,tv4,hw4⟩
    have HW4 := h_ (HW3.out.trans hw4)
    clear hw4
    go_wp2_with fail
    go_roundw
    case rel => exact ⟨k + 1,by omega,by go_num,_,HW4.out⟩
    case measure => simp [intOf]; omega
  ·obtain rfl : k = ln := by omega
   have HGN : Hid ((T k).size ≤ 99999999) := h_ (HG.out k (by rw [← HL.out]; omega))
   clear hw1
   go_wp2_with fail
   refine (line_any w0.heap.size w0.heap.size _ tv1 (T k) HW1.out.st (Nat.le_trans HGN.out (by omega))).mono ?_
   rintro e w3 ⟨rfl,tv3,hw3⟩
   have HW3 := h_ (HW1.out.trans hw3)
   have HF3 : Hid (Fr w0 w3) := h_ (HW3.out.frame HW0.out HF2.out)
   have HZ3 : Hid ((T k ++ (⟨#[10]⟩ : BA)).size ≤ 100000000) := h_ (by rw [ByteArray.size_append]; have := HGN.out; show (T k).size + 1 ≤ _; omega)
   clear hw3
   go_wp2_with fail
   have hwh := whole_any w0.heap.size w0.heap.size w3 tv3 _ HW3.out.st HZ3.out
   have HLN0 : T l.length = T k := by rw [HL.out]
   have hrr := HRR.out
   rw [HLN0] at hrr
   rw [← hrr] at hwh
   clear hrr
   have HWH := h_ hwh
   clear hwh
   refine HWH.out.mono ?_
   rintro e w4 ⟨rfl,hf4⟩
   have HF4 : Hid (Fr w w4) := h_ ((HF1.out.trans HF3.out).trans hf4)
   clear hf4
   have HLN : Hid (T l.length = T k) := h_ (by rw [HL.out])
   go_wp2_with fail
   go_ret2
   exact ⟨rfl,HF4.out⟩
end Go.Proofs.YtbaelbafhdjlnaaGreatDoor
