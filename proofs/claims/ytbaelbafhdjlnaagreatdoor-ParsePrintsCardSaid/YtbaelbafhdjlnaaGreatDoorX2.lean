/- A part of the proof that the law ParsePrints holds for every input. -/
import Derived.Test.YtbaelbafhdjlnaaGreatDoorX1
namespace Go.Proofs.YtbaelbafhdjlnaaGreatDoor
open Go.RowKit _root_.Go.Proofs.Tryz
set_option linter.unusedVariables false
set_option linter.unusedSimpArgs false
set_option maxRecDepth 100000
set_option maxHeartbeats 8000000
inductive DsK : Int → Nat → (Value → Value → Array Value) → Prop
 | d32 : DsK 32 166 (fun p v => #[p,.string ⟨#[105,102]⟩,v])
 | d33 : DsK 33 166 (fun p v => #[p,.string ⟨#[117,110,108,101,115,115]⟩,v])
 | d35 : DsK 35 166 (fun p v => #[p,.string ⟨#[119,104,105,108,101]⟩,v])
 | d36 : DsK 36 166 (fun p v => #[p,.string ⟨#[117,110,116,105,108]⟩,v])
 | d40 : DsK 40 168 ar0
 | d37 : DsK 37 169 ar0
 | d38 : DsK 38 169 ar0
 | d39 : DsK 39 169 ar0
 | d30 : DsK 30 171 ar0
 | d31 : DsK 31 171 ar0
 | d44 : DsK 44 171 ar0
 | d45 : DsK 45 171 ar0
 | d46 : DsK 46 171 ar0
 | d47 : DsK 47 171 ar0
 | d48 : DsK 48 171 ar0
 | d49 : DsK 49 171 ar0
 | d51 : DsK 51 171 ar0
 | d52 : DsK 52 171 ar0
 | d53 : DsK 53 171 ar0
theorem item_disp {o : Int} {G : Nat} {X : Value → Value → Array Value} (hK : DsK o G X) (n : Nd) (A : List ByteArray) (hop : n.op = o) (hd : Wx G X n A) : Wx 85 ar0 n A := by
 cases hK
 all_goals
  intro t
  refine ⟨pt_size_le t _,?_⟩
  intro w0 g w tv lv hov hnv hl hf hs hz
  show Calls prog 85 #[.pointer (some ⟨g,0,none⟩),ndV n lv] w _
  obtain ⟨la,lc,rfl,_,_,_⟩ := hl.form
  rw [ndV_eq]
  have HFA := h_ (fa_ n w la lc)
  have HN := h_ (nn_ n w la lc)
  have HS := h_ hs
  have CS := h_ (fun W (h : Fr w W) => (hd t).2 w0 g W tv _ hov hnv hl (hf.trans h) (hs.fr h) hz)
  rw [ndV_eq] at CS
  try unfold ar0 at CS
  try simp only [] at CS
  rw [hop] at HN HFA CS ⊢
  obtain ⟨c0,c1,c2,c3,c4⟩ := HN.out.cells
  clear hov hnv hl hf hs hz hd hop
  go_enter func85,ntmps85
  go_wp2_with fail
  refine (CS.out _ HFA.out).mono ?_
  rintro e w1 ⟨rfl,tv1,hw1⟩
  have HW := h_ ((HS.out.step HFA.out).trans hw1)
  clear hw1
  go_wp2_with fail
  first | go_end0 | refine bodyPost_ret (results_none rfl _ _ _) rfl ?_
  exact ⟨rfl,_,HW.out⟩



















theorem basic_assign (n : Nd) (A : List ByteArray) (hop : n.op = 30) (hd : Wx 170 (fun p v => #[p,v,.string ⟨#[58,61]⟩]) n A) : Wx 171 ar0 n A := by
 intro t
 refine ⟨pt_size_le t _,?_⟩
 intro w0 g w tv lv hov hnv hl hf hs hz
 show Calls prog 171 #[.pointer (some ⟨g,0,none⟩),ndV n lv] w _
 obtain ⟨la,lc,rfl,_,_,_⟩ := hl.form
 rw [ndV_eq]
 have HFA := h_ (fa_ n w la lc)
 have HN := h_ (nn_ n w la lc)
 have HS := h_ hs
 have CS := h_ (fun W (h : Fr w W) => (hd t).2 w0 g W tv _ hov hnv hl (hf.trans h) (hs.fr h) hz)
 rw [ndV_eq] at CS
 simp only [] at CS
 rw [hop] at HN HFA CS ⊢
 obtain ⟨c0,c1,c2,c3,c4⟩ := HN.out.cells
 clear hov hnv hl hf hs hz hd hop
 go_enter func171,ntmps171
 go_wp2_with fail
 refine (CS.out _ HFA.out).mono ?_
 rintro e w1 ⟨rfl,tv1,hw1⟩
 have HW := h_ ((HS.out.step HFA.out).trans hw1)
 clear hw1
 go_wp2_with fail
 first | go_end0 | refine bodyPost_ret (results_none rfl _ _ _) rfl ?_
 exact ⟨rfl,_,HW.out⟩
theorem basic_null (n : Nd) (hop : n.op = 53) : Wx 171 ar0 n [] := by
 intro t
 refine ⟨pt_size_le t _,?_⟩
 intro w0 g w tv lv hov hnv hl hf hs hz
 show Calls prog 171 #[.pointer (some ⟨g,0,none⟩),ndV n lv] w _
 obtain ⟨la,lc,rfl,_,_,_⟩ := hl.form
 rw [ndV_eq]
 have HFA := h_ (fa_ n w la lc)
 have HN := h_ (nn_ n w la lc)
 have HS := h_ hs
 rw [hop] at HN HFA ⊢
 obtain ⟨c0,c1,c2,c3,c4⟩ := HN.out.cells
 clear hov hnv hl hf hs hz hop
 go_enter func171,ntmps171
 go_wp2_with fail
 first | go_end0 | refine bodyPost_ret (results_none rfl _ _ _) rfl ?_
 exact ⟨rfl,_,HS.out.step HFA.out⟩
theorem simple_table (n : Nd) (tk : Nd → List ByteArray) (hop : n.op = 16) (hlen : n.l.length ≤ 1000000) (hd : ∀ x ∈ n.l,Wx 167 ar0 x (tk x)) : Wx 218 ar0 n ([⟨#[116,97,98,108,101]⟩] ++ ([⟨#[40]⟩] ++ joinT ⟨#[44]⟩ (n.l.map tk) ++ [⟨#[41]⟩])) := by
 intro t
 refine ⟨pt_size_le t _,?_⟩
 intro w0 g w tv lv hov hnv hl hf hs hz
 show Calls prog 218 #[.pointer (some ⟨g,0,none⟩),ndV n lv] w _
 simp only [pt_append] at hz ⊢
 obtain ⟨la,lc,rfl,_,_,_⟩ := hl.form
 rw [ndV_eq]
 have HFA := h_ (fa_ n w la lc)
 have HN := h_ (nn_ n w la lc)
 have hz0 : t.size ≤ 100000000 := Nat.le_trans (pt_size_le _ _) (Nat.le_trans (pt_size_le _ _) (Nat.le_trans (pt_size_le _ _) (Nat.le_trans (pt_size_le _ _) hz)))
 have CP := h_ (fun W c (hc : c = W.heap.size) (h : Fr w W) => put_1 w0.heap.size g W tv t ⟨#[116,97,98,108,101]⟩ c hc (hs.fr h) ⟨by decide,by decide⟩ hz0)
 have CL := h_ (fun W tv' (h : Fr w0 W) (h2 : Wt w0.heap.size g W tv' (pt t [⟨#[116,97,98,108,101]⟩])) => listed_x n.l tk (pt t [⟨#[116,97,98,108,101]⟩]) w0 g W tv' la lc hlen hov hnv hl.rowN h h2 hd hz)
 have HFF := h_ hf
 have HS := h_ hs
 obtain ⟨hne1,hnr1⟩ := nr_ hs
 rw [hop] at HN HFA ⊢
 obtain ⟨ln,hln⟩ : ∃ y,y = n.l.length := ⟨_,rfl⟩
 rw [← hln] at CL HN HFA ⊢
 obtain ⟨c0,c1,c2,c3,c4⟩ := HN.out.cells
 have HWS := h_ (HS.out.step HFA.out)
 have HCC := h_ c3
 clear hov hnv hl hf hs hz hz0 hd hop hlen hln
 go_enter func218,ntmps218
 go_wp2_with fail
 refine (CP.out _ _ (by simp) HFA.out).mono ?_
 rintro e w1 ⟨rfl,tv1,hw1⟩
 have HV1 := h_ hw1
 have HF1 : Hid (Fr w0 w1) := h_ ((HWS.out.trans hw1).frame HS.out HFF.out)
 have d3 := hw1.side HCC.out hne1 hnr1
 clear hw1 c0 c1 c2 c3 c4
 go_wp2_with fail
 refine (CL.out _ _ HF1.out HV1.out.st).mono ?_
 rintro e w2 ⟨rfl,tv2,hw2⟩
 have HV2 := h_ (HWS.out.trans (HV1.out.trans hw2))
 clear hw2
 go_wp2_with fail
 first | go_end0 | refine bodyPost_ret (results_none rfl _ _ _) rfl ?_
 exact ⟨rfl,_,HV2.out⟩
theorem simple_slct (n : Nd) (tk : Nd → List ByteArray) (hop : n.op = 18) (hlen : n.l.length ≤ 1000000) (hd : ∀ x ∈ n.l,Wx 167 ar0 x (tk x)) : Wx 218 ar0 n ([⟨#[115,108,99,116]⟩] ++ ([⟨#[40]⟩] ++ joinT ⟨#[44]⟩ (n.l.map tk) ++ [⟨#[41]⟩])) := by
 intro t
 refine ⟨pt_size_le t _,?_⟩
 intro w0 g w tv lv hov hnv hl hf hs hz
 show Calls prog 218 #[.pointer (some ⟨g,0,none⟩),ndV n lv] w _
 simp only [pt_append] at hz ⊢
 obtain ⟨la,lc,rfl,_,_,_⟩ := hl.form
 rw [ndV_eq]
 have HFA := h_ (fa_ n w la lc)
 have HN := h_ (nn_ n w la lc)
 have hz0 : t.size ≤ 100000000 := Nat.le_trans (pt_size_le _ _) (Nat.le_trans (pt_size_le _ _) (Nat.le_trans (pt_size_le _ _) (Nat.le_trans (pt_size_le _ _) hz)))
 have CP := h_ (fun W c (hc : c = W.heap.size) (h : Fr w W) => put_1 w0.heap.size g W tv t ⟨#[115,108,99,116]⟩ c hc (hs.fr h) ⟨by decide,by decide⟩ hz0)
 have CL := h_ (fun W tv' (h : Fr w0 W) (h2 : Wt w0.heap.size g W tv' (pt t [⟨#[115,108,99,116]⟩])) => listed_x n.l tk (pt t [⟨#[115,108,99,116]⟩]) w0 g W tv' la lc hlen hov hnv hl.rowN h h2 hd hz)
 have HFF := h_ hf
 have HS := h_ hs
 obtain ⟨hne1,hnr1⟩ := nr_ hs
 rw [hop] at HN HFA ⊢
 obtain ⟨ln,hln⟩ : ∃ y,y = n.l.length := ⟨_,rfl⟩
 rw [← hln] at CL HN HFA ⊢
 obtain ⟨c0,c1,c2,c3,c4⟩ := HN.out.cells
 have HWS := h_ (HS.out.step HFA.out)
 have HCC := h_ c3
 clear hov hnv hl hf hs hz hz0 hd hop hlen hln
 go_enter func218,ntmps218
 go_wp2_with fail
 refine (CP.out _ _ (by simp) HFA.out).mono ?_
 rintro e w1 ⟨rfl,tv1,hw1⟩
 have HV1 := h_ hw1
 have HF1 : Hid (Fr w0 w1) := h_ ((HWS.out.trans hw1).frame HS.out HFF.out)
 have d3 := hw1.side HCC.out hne1 hnr1
 clear hw1 c0 c1 c2 c3 c4
 go_wp2_with fail
 refine (CL.out _ _ HF1.out HV1.out.st).mono ?_
 rintro e w2 ⟨rfl,tv2,hw2⟩
 have HV2 := h_ (HWS.out.trans (HV1.out.trans hw2))
 clear hw2
 go_wp2_with fail
 first | go_end0 | refine bodyPost_ret (results_none rfl _ _ _) rfl ?_
 exact ⟨rfl,_,HV2.out⟩
theorem basic_block (n : Nd) (tk : Nd → List ByteArray) (hop : n.op = 52) (hlen : n.l.length ≤ 1000000) (hd : ∀ x ∈ n.l,Wx 85 ar0 x (tk x)) : Wx 171 ar0 n ([⟨#[123]⟩] ++ joinT ⟨#[59]⟩ (n.l.map tk) ++ [⟨#[125]⟩]) := by
 intro t
 refine ⟨pt_size_le t _,?_⟩
 intro w0 g w tv lv hov hnv hl hf hs hz
 show Calls prog 171 #[.pointer (some ⟨g,0,none⟩),ndV n lv] w _
 have hmf : ∀ (fn : Fn) (first cap : Array Value) (w : World),(Instr.makeFunc fn first cap).run prog w = .ok (.func fn first cap) w := fun _ _ _ _ => rfl
 simp only [pt_append] at hz ⊢
 obtain ⟨la,lc,rfl,_,_,_⟩ := hl.form
 rw [ndV_eq]
 have HFA := h_ (fa_ n w la lc)
 have HN := h_ (nn_ n w la lc)
 have hz1 : (pt (pt t [⟨#[123]⟩]) (joinT ⟨#[59]⟩ (n.l.map tk))).size ≤ 100000000 := Nat.le_trans (pt_size_le _ _) hz
 have hz0 : t.size ≤ 100000000 := Nat.le_trans (pt_size_le _ _) (Nat.le_trans (pt_size_le _ _) hz1)
 have CP := h_ (fun W c tv t (hc : c = W.heap.size) (h : Wt w0.heap.size g W tv t) (hz : t.size ≤ 100000000) (s) (hs : s = ⟨#[123]⟩ ∨ s = ⟨#[125]⟩) => put_1 w0.heap.size g W tv t s c hc h (by rcases hs with rfl | rfl <;> exact ⟨by decide,by decide⟩) hz)
 have CL := h_ (fun W tv' (h : Fr w0 W) (h2 : Wt w0.heap.size g W tv' (pt t [⟨#[123]⟩])) => list_item_x n.l tk ⟨#[59]⟩ (pt t [⟨#[123]⟩]) ⟨by decide,by decide⟩ w0 g W tv' la lc hlen hov hnv hl.rowN h h2 hd hz1)
 have HFF := h_ hf
 have HS := h_ hs
 have HZ := h_ (And.intro hz0 hz1)
 obtain ⟨hne1,hnr1⟩ := nr_ hs
 rw [hop] at HN HFA ⊢
 obtain ⟨ln,hln⟩ : ∃ y,y = n.l.length := ⟨_,rfl⟩
 rw [← hln] at CL HN HFA ⊢
 obtain ⟨c0,c1,c2,c3,c4⟩ := HN.out.cells
 have HWS := h_ (HS.out.step HFA.out)
 have HV0 := h_ ((HS.out.fr HFA.out).refl)
 have HCC := h_ c3
 clear hov hnv hl hf hs hz hz0 hz1 hd hop hlen hln
 go_enter func171,ntmps171
 go_wp2_with fail
 refine (CP.out _ _ _ _ (by simp) HV0.out.st HZ.out.1 _ (.inl rfl)).mono ?_
 rintro e w1 ⟨rfl,tv1,hw1⟩
 have HV1 := h_ hw1
 have HF1 : Hid (Fr w0 w1) := h_ ((HWS.out.trans hw1).frame HS.out HFF.out)
 have d3 := hw1.side HCC.out hne1 hnr1
 clear hw1 c0 c1 c2 c3 c4
 go_wp2_with fail
 refine (CL.out _ _ HF1.out HV1.out.st).mono ?_
 rintro e w2 ⟨rfl,tv2,hw2⟩
 have HV2 := h_ (HV1.out.trans hw2)
 clear hw2
 go_wp2_with fail
 refine (CP.out _ _ _ _ (by simp) HV2.out.st HZ.out.2 _ (.inr rfl)).mono ?_
 rintro e w3 ⟨rfl,tv3,hw3⟩
 have HV3 := h_ (HWS.out.trans (HV2.out.trans hw3))
 clear hw3
 go_wp2_with fail
 first | go_end0 | refine bodyPost_ret (results_none rfl _ _ _) rfl ?_
 exact ⟨rfl,_,HV3.out⟩
theorem quoted_of (s : ByteArray) (hs : s.size ≤ 2000000) (ht : tkOk (quo s).t) (B g : Nat) (w : World) (tv : Value) (t : ByteArray) (h : Wt B g w tv t) (hz : t.size ≤ 100000000) :
 Calls prog 73 #[.pointer (some ⟨g,0,none⟩),.string s] w fun e w' => e = .returned (.tuple #[]) ∧ ∃ tv',Wn B g w tv w' tv' (pt t [(quo s).t]) := by
 have C1 := h_ (Quote_any s hs w)
 have C2 := h_ (fun W c (hc : c = W.heap.size) (h : Wt B g W tv t) => put_1 B g W tv t (quo s).t c hc h ht hz)
 have HH := h_ h
 obtain ⟨qt,hqt⟩ : ∃ x,x = (quo s).t := ⟨_,rfl⟩
 rw [← hqt] at C1 C2 ⊢
 clear hs ht h hz hqt
 go_enter func73,ntmps73
 go_wp2_with fail
 refine C1.out.mono ?_
 rintro e w1 ⟨rfl,hf1⟩
 have HF1 := h_ hf1
 clear hf1
 go_wp2_with fail
 refine (C2.out _ _ (by simp) (HH.out.fr HF1.out)).mono ?_
 rintro e w2 ⟨rfl,tv2,hw2⟩
 have HW2 := h_ ((HH.out.step HF1.out).trans hw2)
 clear hw2
 go_wp2_with fail
 go_end0
 exact ⟨rfl,_,HW2.out⟩
theorem simple_str_w (n : Nd) (h1 : n.op = 2) (hsz : n.s.size ≤ 2000000) (ht : tkOk (quo n.s).t) : Wx 218 ar0 n [(quo n.s).t] := by
 intro t
 refine ⟨pt_size_le t _,?_⟩
 intro w0 g w tv lv hov hnv hl hf hs hz
 show Calls prog 218 #[.pointer (some ⟨g,0,none⟩),ndV n lv] w _
 obtain ⟨la,lc,rfl,_,_,_⟩ := hl.form
 rw [ndV_eq]
 have HFA := h_ (fa_ n w la lc)
 have HN := h_ (nn_ n w la lc)
 have HS := h_ hs
 have hz0 : t.size ≤ 100000000 := Nat.le_trans (pt_size_le t _) hz
 have CN := h_ (fun W (h : Fr w W) => quoted_of n.s hsz ht w0.heap.size g W tv t (hs.fr h) hz0)
 rw [h1] at HN HFA ⊢
 obtain ⟨c0,c1,c2,c3,c4⟩ := HN.out.cells
 clear hov hnv hl hf hs hz hz0 h1 hsz ht
 go_enter func218,ntmps218
 go_wp2_with fail
 refine (CN.out _ HFA.out).mono ?_
 rintro e w1 ⟨rfl,tv1,hw1⟩
 have HW := h_ ((HS.out.step HFA.out).trans hw1)
 clear hw1
 go_wp2_with fail
 first | go_end0 | refine bodyPost_ret (results_none rfl _ _ _) rfl ?_
 exact ⟨rfl,_,HW.out⟩
theorem expression_x (L : Int) (n : Nd) (A : List ByteArray) (hd : Wx 156 ar0 n A) : Wx 82 (arL L) n (if L ≤ lvE n.op n.n then A else [⟨#[40]⟩] ++ A ++ [⟨#[41]⟩]) := by
 intro t
 by_cases h : L ≤ lvE n.op n.n
 ·rw [if_pos h]; exact expression_bare L n t _ h (hd t)
 ·rw [if_neg h,pt_append,pt_append]; exact expression_paren L n t _ h (hd _)
theorem part_x (n : Nd) (A : List ByteArray) (hd : Wx 82 (arL 0) n A) : Wx 167 ar0 n A := fun t => part_of n t _ (hd t)
theorem bare_op_x (n a b : Nd) (x : Opr) (A B : List ByteArray) (hn : opfN n.op n.n = some x) (hnl : n.l = [a,b]) (hda : Wx 82 (arL (if x.l = 5 then 6 else x.l)) a A) (hdb : Wx 82 (arL (x.l + 1)) b B) : Wx 156 ar0 n (A ++ [x.t] ++ B) := by
 intro t
 rw [pt_append,pt_append]
 exact bare_op n a b x t _ _ hn hnl (hda t) (hdb _)
theorem bare_call_x (n x : Nd) (r : List Nd) (tk : Nd → List ByteArray) (A : List ByteArray) (h7 : n.op = 7) (hnl : n.l = x :: r) (hlen : r.length ≤ 1000000) (hd0 : Wx 82 (arL 11) x A) (hd : ∀ y ∈ r,Wx 167 ar0 y (tk y)) : Wx 156 ar0 n (A ++ ([⟨#[40]⟩] ++ joinT ⟨#[44]⟩ (r.map tk) ++ [⟨#[41]⟩])) := by
 intro t
 have h := bare_call n x r (fun i => pt (pt (pt t A) [⟨#[40]⟩]) (joinT ⟨#[44]⟩ ((r.map tk).take i))) t (pt t A) h7 hnl hlen (by simp [joinT,pt_nil]) (hd0 t) (lists_of _ _ r tk _ _ hd)
 rw [take_len] at h
 rw [pt_append,pt_append,pt_append]
 exact h
theorem simple_x (n : Nd) (A : List ByteArray) (hn : opfN n.op n.n = none) (h14 : ¬ n.op = 14) (h13 : ¬ n.op = 13) (h10 : ¬ n.op = 10) (h11 : ¬ n.op = 11) (h7 : ¬ n.op = 7) (hd : Wx 218 ar0 n A) : Wx 156 ar0 n A := fun t => bare_simple n t _ hn h14 h13 h10 h11 h7 (hd t)
theorem opfN_not (op n : Int) (h : ¬ op = 12 ∧ ¬ op = 8 ∧ ¬ op = 9 ∧ ¬ op = 17) : opfN op n = none := by
 unfold opfN
 rw [List.find?_eq_none]
 intro y hy
 have : y.op = 12 ∨ y.op = 8 ∨ y.op = 9 ∨ y.op = 17 := by
  simp [opTab] at hy
  rcases hy with rfl | rfl | rfl | rfl | rfl | rfl | rfl | rfl | rfl | rfl | rfl | rfl | rfl | rfl | rfl | rfl | rfl | rfl | rfl | rfl <;> decide
 simp
 omega
theorem bare_un (n : Nd) (A : List ByteArray) (hop : n.op = 13) (hd : Wx 216 ar0 n A) : Wx 156 ar0 n A := by
 intro t
 refine ⟨pt_size_le t _,?_⟩
 intro w0 g w tv lv hov hnv hl hf hs hz
 show Calls prog 156 #[.pointer (some ⟨g,0,none⟩),ndV n lv] w _
 obtain ⟨la,lc,rfl,_,_,_⟩ := hl.form
 rw [ndV_eq]
 have HFA := h_ (fa_ n w la lc)
 have HN := h_ (nn_ n w la lc)
 have HS := h_ hs
 have CO : Hid (∀ W,Fr w W → Calls prog 214 #[.agg #[.int .i64 n.op,.int .i64 n.n,.string n.s,.slice la n.l.length lc,.int .i64 n.a]] W fun e w' => e = .returned (.tuple #[.agg #[.string ⟨#[]⟩,.int .i64 0,.int .i64 0,.int .i64 0],.bool false]) ∧ Fr W w') := h_ (fun W h => by
  have h1 := operatorOf_any n.op n.n n.s (.slice la n.l.length lc) n.a ⟨_,_,_,rfl⟩ W (hov.fr (hf.trans h))
  rw [opfN_not n.op n.n (by rw [hop]; decide)] at h1
  exact h1)
 have CW := h_ (fun W (h : Fr w W) => (hd t).2 w0 g W tv _ hov hnv hl (hf.trans h) (hs.fr h) hz)
 rw [ndV_eq] at CW
 unfold ar0 at CW
 rw [hop] at HN HFA CO CW ⊢
 clear hov hnv hl hf hs hz hd hop
 go_enter func156,ntmps156
 go_wp2_with fail
 refine (CO.out _ HFA.out).mono ?_
 rintro e w1 ⟨rfl,hf1⟩
 have HF1 : Hid (Fr w (w1.alloc (.cells #[.string ⟨#[]⟩,.int .i64 0,.int .i64 0,.int .i64 0] 154))) := h_ ((HFA.out.trans hf1).alloc _)
 have HN1 := h_ ((HN.out.fr hf1).fr ((Fr.refl w1).alloc (.cells #[.string ⟨#[]⟩,.int .i64 0,.int .i64 0,.int .i64 0] 154)))
 obtain ⟨c0,c1,c2,c3,c4⟩ := HN1.out.cells
 clear hf1
 go_wp2_with fail
 refine (CW.out _ HF1.out).mono ?_
 rintro e w2 ⟨rfl,tv2,hw2⟩
 have HW := h_ ((HS.out.step HF1.out).trans hw2)
 clear hw2
 go_wp2_with fail
 first | go_end0 | refine bodyPost_ret (results_none rfl _ _ _) rfl ?_
 exact ⟨rfl,_,HW.out⟩
theorem bare_cond (n x : Nd) (r : List Nd) (tk : Nd → List ByteArray) (A : List ByteArray) (hop : n.op = 14) (hnl : n.l = x :: r) (hr2 : r.length = 2) (hd0 : Wx 82 (arL 1) x A) (hd : ∀ y ∈ r,Wx 167 ar0 y (tk y)) : Wx 156 ar0 n (A ++ [⟨#[45,62]⟩] ++ joinT ⟨#[44]⟩ (r.map tk)) := by
 intro t
 refine ⟨pt_size_le t _,?_⟩
 intro w0 g w tv lv hov hnv hl hf hs hz
 show Calls prog 156 #[.pointer (some ⟨g,0,none⟩),ndV n lv] w _
 have hmf : ∀ (fn : Fn) (first cap : Array Value) (w : World),(Instr.makeFunc fn first cap).run prog w = .ok (.func fn first cap) w := fun _ _ _ _ => rfl
 simp only [pt_append] at hz ⊢
 have hz1 : (pt (pt t A) [⟨#[45,62]⟩]).size ≤ 100000000 := Nat.le_trans (pt_size_le _ _) hz
 have hz0 : (pt t A).size ≤ 100000000 := Nat.le_trans (pt_size_le _ _) hz1
 obtain ⟨la,lc,rfl,hlc,_,_⟩ := hl.form
 rw [ndV_eq]
 have HFA := h_ (fa_ n w la lc)
 have HN := h_ (nn_ n w la lc)
 have HS := h_ hs
 have CO : Hid (∀ W,Fr w W → Calls prog 214 #[.agg #[.int .i64 n.op,.int .i64 n.n,.string n.s,.slice la n.l.length lc,.int .i64 n.a]] W fun e w' => e = .returned (.tuple #[.agg #[.string ⟨#[]⟩,.int .i64 0,.int .i64 0,.int .i64 0],.bool false]) ∧ Fr W w') := h_ (fun W h => by
  have h1 := operatorOf_any n.op n.n n.s (.slice la n.l.length lc) n.a ⟨_,_,_,rfl⟩ W (hov.fr (hf.trans h))
  rw [opfN_not n.op n.n (by rw [hop]; decide)] at h1
  exact h1)
 obtain ⟨b,off,lvx,rfl,hnc,hlx,_⟩ := hl.at_ (i := 0) (t := x) (by rw [hnl]; rfl)
 obtain ⟨xa,xc,rfl,_,_,_⟩ := hlx.form
 have hlr := (hl.drop_ 1 (by rw [hnl]; simp)).rowN
 rw [show n.l.drop 1 = r from by rw [hnl]; rfl,Nat.one_mul] at hlr
 have hll : n.l.length = 3 := by rw [hnl,List.length_cons,hr2]
 rw [hop] at HN HFA CO ⊢
 rw [hll] at HN HFA CO hlc ⊢
 have CX := h_ (fun W (h : Fr w W) => (hd0 t).2 w0 g W tv _ hov hnv hlx (hf.trans h) (hs.fr h) hz0)
 rw [ndV_eq] at CX
 unfold arL at CX
 have CP := h_ (fun W c tv' (hc : c = W.heap.size) (h : Wt w0.heap.size g W tv' (pt t A)) => put_1 w0.heap.size g W tv' (pt t A) ⟨#[45,62]⟩ c hc h ⟨by decide,by decide⟩ hz0)
 have CD := h_ (fun W tv' c (h : Fr w0 W) (h2 : Wt w0.heap.size g W tv' (pt (pt t A) [⟨#[45,62]⟩])) => list_part_x r tk ⟨#[44]⟩ (pt (pt t A) [⟨#[45,62]⟩]) ⟨by decide,by decide⟩ w0 g W tv' _ c (by omega) hov hnv hlr h h2 hd hz)
 rw [hr2] at CD
 have HFF := h_ hf
 simp only [Nat.zero_mul,Nat.add_zero] at hnc
 have HNC := h_ hnc
 obtain ⟨hne1,hnr1⟩ := nr_ hs
 clear hov hnv hl hf hs hz hd hop hnl hd0 hz1 hz0 hlx hlr hll hnc hr2
 go_enter func156,ntmps156
 go_wp2_with fail
 refine (CO.out _ HFA.out).mono ?_
 rintro e w1 ⟨rfl,hf1⟩
 have HF1 : Hid (Fr w (w1.alloc (.cells #[.string ⟨#[]⟩,.int .i64 0,.int .i64 0,.int .i64 0] 154))) := h_ ((HFA.out.trans hf1).alloc _)
 have HN1 := h_ ((HN.out.fr hf1).fr ((Fr.refl w1).alloc (.cells #[.string ⟨#[]⟩,.int .i64 0,.int .i64 0,.int .i64 0] 154)))
 obtain ⟨c0,c1,c2,c3,c4⟩ := HN1.out.cells
 have HC3 := h_ c3
 have y0 := (HFF.out.trans HF1.out).cell HNC.out.op
 have y1 := (HFF.out.trans HF1.out).cell HNC.out.n
 have y2 := (HFF.out.trans HF1.out).cell HNC.out.s
 have y3 := (HFF.out.trans HF1.out).cell HNC.out.l
 have y4 := (HFF.out.trans HF1.out).cell HNC.out.a
 clear hf1
 go_wp2_with fail
 refine (CX.out _ HF1.out).mono ?_
 rintro e w2 ⟨rfl,tv2,hw2⟩
 have HV2 := h_ hw2
 have HW := h_ ((HS.out.step HF1.out).trans hw2)
 clear hw2 c0 c1 c2 c3 c4 y0 y1 y2 y3 y4
 go_wp2_with fail
 refine (CP.out _ _ _ (by simp) HW.out.st).mono ?_
 rintro e w3 ⟨rfl,tv3,hw3⟩
 have HV3 := h_ (HV2.out.trans hw3)
 have HW3 := h_ (HW.out.trans hw3)
 have HF3 : Hid (Fr w0 w3) := h_ (HW3.out.frame HS.out HFF.out)
 have d3 := HV3.out.side HC3.out hne1 hnr1
 clear hw3
 go_wp2_with fail
 all_goals
  refine (CD.out _ _ _ HF3.out HW3.out.st).mono ?_
  rintro e w4 ⟨rfl,tv4,hw4⟩
  have HW4 := h_ (HW3.out.trans hw4)
  clear hw4
  go_wp2_with fail
  first | go_end0 | refine bodyPost_ret (results_none rfl _ _ _) rfl ?_
  exact ⟨rfl,_,HW4.out⟩
theorem pairs_x (sg : ByteArray) (hsg : tkOk sg) (n : Nd) (N : Nat) (tk : Nd → List ByteArray) (hnN : n.n = N) (h1 : 1 ≤ N) (hN : n.l.length = N + N) (hN6 : N ≤ 1000) (hd : ∀ x ∈ n.l,Wx 167 ar0 x (tk x)) :
 Wx 170 (fun p v => #[p,v,.string sg]) n (joinT ⟨#[44]⟩ ((n.l.take N).map tk) ++ [sg] ++ joinT ⟨#[44]⟩ ((n.l.drop N).map tk)) := by
 have htl : (n.l.take N).length = N := by rw [List.length_take]; omega
 have hdl : (n.l.drop N).length = N := by rw [List.length_drop]; omega
 have hNt : (n.l.take N).length ≤ 1000000 := by omega
 have hNd : (n.l.drop N).length ≤ 1000000 := by omega
 have hN0 : 0 < n.l.length := by omega
 have hN1 : N ≤ n.l.length := by omega
 have q1 : wrap64 (N : Int) = (N : Int) := IntWalk.wrap64_in _ (by omega)
 have q2 : (N : Int).toNat = N := Int.toNat_natCast N
 obtain ⟨K,hK⟩ : ∃ y,y = N + N := ⟨_,rfl⟩
 have q3 : K - N = N := by omega
 have q4 : N ≤ K := by omega
 intro t
 refine ⟨pt_size_le t _,?_⟩
 intro w0 g w tv lv hov hnv hl hf hs hz
 show Calls prog 170 #[.pointer (some ⟨g,0,none⟩),ndV n lv,.string sg] w _
 have hmf : ∀ (fn : Fn) (first cap : Array Value) (w : World),(Instr.makeFunc fn first cap).run prog w = .ok (.func fn first cap) w := fun _ _ _ _ => rfl
 simp only [pt_append] at hz ⊢
 have hz2 : (pt (pt t (joinT ⟨#[44]⟩ ((n.l.take N).map tk))) [sg]).size ≤ 100000000 := Nat.le_trans (pt_size_le _ _) hz
 have hz1 : (pt t (joinT ⟨#[44]⟩ ((n.l.take N).map tk))).size ≤ 100000000 := Nat.le_trans (pt_size_le _ _) hz2
 obtain ⟨la,lc,rfl,hlc,_,_⟩ := hl.form
 rw [ndV_eq]
 have HFA := h_ (fa_ n w la lc)
 have HN := h_ (nn_ n w la lc)
 have HS := h_ hs
 obtain ⟨x0,hx0⟩ : ∃ x,n.l[0]? = some x := ⟨_,List.getElem?_eq_getElem hN0⟩
 obtain ⟨b,off,lvx,rfl,_,_,_⟩ := hl.at_ hx0
 have hlt := (hl.take_ N hN1).rowN
 have hlr := (hl.drop_ N hN1).rowN
 rw [hnN,hN] at HN HFA ⊢
 rw [hN] at hlc
 rw [← hK] at HN HFA hlc ⊢
 have CT := h_ (fun W tv' c (h : Fr w0 W) (h2 : Wt w0.heap.size g W tv' t) => list_part_x (n.l.take N) tk ⟨#[44]⟩ t ⟨by decide,by decide⟩ w0 g W tv' _ c hNt hov hnv hlt h h2 (fun x hx => hd x (List.mem_of_mem_take hx)) hz1)
 have CP := h_ (fun W c tv' (hc : c = W.heap.size) (h : Wt w0.heap.size g W tv' (pt t (joinT ⟨#[44]⟩ ((n.l.take N).map tk)))) => put_1 w0.heap.size g W tv' _ sg c hc h hsg hz1)
 have CD := h_ (fun W tv' c (h : Fr w0 W) (h2 : Wt w0.heap.size g W tv' (pt (pt t (joinT ⟨#[44]⟩ ((n.l.take N).map tk))) [sg])) => list_part_x (n.l.drop N) tk ⟨#[44]⟩ (pt (pt t (joinT ⟨#[44]⟩ ((n.l.take N).map tk))) [sg]) ⟨by decide,by decide⟩ w0 g W tv' _ c hNd hov hnv hlr h h2 (fun x hx => hd x (List.mem_of_mem_drop hx)) hz)
 rw [htl] at CT
 rw [hdl] at CD
 have HFF := h_ hf
 clear hz hz1 hz2
 obtain ⟨hne1,hnr1⟩ := nr_ hs
 have q5 : N ≤ lc := by omega
 have q7 : ¬ N = lc := by omega
 have q8 : K ≤ lc := hlc
 clear hov hnv hl hf hs hd hnN hN hlt hlr htl hdl hx0 hlc hK hNt hNd hN0 hN1 h1 hN6
 obtain ⟨c0,c1,c2,c3,c4⟩ := HN.out.cells
 have HWS := h_ (HS.out.step HFA.out)
 have HF0 : Hid (Fr w0 (w.alloc (.cells #[.int .i64 n.op,.int .i64 N,.string n.s,.slice (some ⟨b,off,none⟩) K lc,.int .i64 n.a] 32))) := h_ (HFF.out.trans HFA.out)
 have HV0 := h_ ((HS.out.fr HFA.out).refl)
 have HCC := h_ (And.intro c1 c3)
 go_enter func170,ntmps170
 go_wp2_with fail
 refine (CT.out _ _ _ HF0.out HV0.out.st).mono ?_
 rintro e w1 ⟨rfl,tv1,hw1⟩
 have HV1 := h_ hw1
 have HF1 : Hid (Fr w0 w1) := h_ ((HWS.out.trans hw1).frame HS.out HFF.out)
 clear hw1 c0 c1 c2 c3 c4
 go_wp2_with fail
 refine (CP.out _ _ _ (by simp) HV1.out.st).mono ?_
 rintro e w2 ⟨rfl,tv2,hw2⟩
 have HV2 := h_ (HV1.out.trans hw2)
 have HF2 : Hid (Fr w0 w2) := h_ ((HWS.out.trans HV2.out).frame HS.out HFF.out)
 have d1 := HV2.out.side HCC.out.1 hne1 hnr1
 have d3 := HV2.out.side HCC.out.2 hne1 hnr1
 clear hw2
 go_wp2_with fail
 all_goals
  refine (CD.out _ _ _ HF2.out HV2.out.st).mono ?_
  rintro e w3 ⟨rfl,tv3,hw3⟩
  have HV3 := h_ (HWS.out.trans (HV2.out.trans hw3))
  clear hw3
  go_wp2_with fail
  first | go_end0 | refine bodyPost_ret (results_none rfl _ _ _) rfl ?_
  exact ⟨rfl,_,HV3.out⟩
theorem item_let (n : Nd) (A : List ByteArray) (hop : n.op = 54) (hd : Wx 170 (fun p v => #[p,v,.string ⟨#[61]⟩]) n A) : Wx 85 ar0 n ([⟨#[108,101,116]⟩] ++ A) := by
 intro t
 refine ⟨pt_size_le t _,?_⟩
 intro w0 g w tv lv hov hnv hl hf hs hz
 show Calls prog 85 #[.pointer (some ⟨g,0,none⟩),ndV n lv] w _
 simp only [pt_append] at hz ⊢
 have hz1 : (pt t [⟨#[108,101,116]⟩]).size ≤ 100000000 := Nat.le_trans (pt_size_le _ _) hz
 have hz0 : t.size ≤ 100000000 := Nat.le_trans (pt_size_le _ _) hz1
 obtain ⟨la,lc,rfl,hlc,_,_⟩ := hl.form
 rw [ndV_eq]
 have HFA := h_ (fa_ n w la lc)
 have HN := h_ (nn_ n w la lc)
 have HS := h_ hs
 have CP := h_ (fun W c (hc : c = W.heap.size) (h : Fr w W) => put_1 w0.heap.size g W tv t ⟨#[108,101,116]⟩ c hc (hs.fr h) ⟨by decide,by decide⟩ hz0)
 have CS := h_ (fun W tv' (h : Fr w0 W) (h2 : Wt w0.heap.size g W tv' (pt t [⟨#[108,101,116]⟩])) => (hd (pt t [⟨#[108,101,116]⟩])).2 w0 g W tv' _ hov hnv hl h h2 hz)
 rw [ndV_eq] at CS
 simp only [] at CS
 have HFF := h_ hf
 clear hz hz0 hz1
 obtain ⟨hne1,hnr1⟩ := nr_ hs
 rw [hop] at HN HFA CS ⊢
 obtain ⟨c0,c1,c2,c3,c4⟩ := HN.out.cells
 have HWS := h_ (HS.out.step HFA.out)
 clear hov hnv hl hf hs hd hop
 go_enter func85,ntmps85
 go_wp2_with fail
 refine (CP.out _ _ (by simp) HFA.out).mono ?_
 rintro e w1 ⟨rfl,tv1,hw1⟩
 have HV1 := h_ hw1
 have HF1 : Hid (Fr w0 w1) := h_ ((HWS.out.trans hw1).frame HS.out HFF.out)
 have d0 := hw1.side c0 hne1 hnr1
 have d1 := hw1.side c1 hne1 hnr1
 have d2 := hw1.side c2 hne1 hnr1
 have d3 := hw1.side c3 hne1 hnr1
 have d4 := hw1.side c4 hne1 hnr1
 clear hw1 c0 c1 c2 c3 c4
 go_wp2_with fail
 refine (CS.out _ _ HF1.out HV1.out.st).mono ?_
 rintro e w2 ⟨rfl,tv2,hw2⟩
 have HV2 := h_ (HWS.out.trans (HV1.out.trans hw2))
 clear hw2
 go_wp2_with fail
 first | go_end0 | refine bodyPost_ret (results_none rfl _ _ _) rfl ?_
 exact ⟨rfl,_,HV2.out⟩
structure Kv (w : World) (tv : Value) (g cw cs : Nat) (sg : ByteArray) : Prop where
 p : w.cell? ⟨cw,0,none⟩ = some (.pointer (some ⟨g,0,none⟩))
 s : w.cell? ⟨cs,0,none⟩ = some (.string sg)
 pg : cw ≠ g
 sg : cs ≠ g
 po : some cw ≠ tv.ownBlock
 so : some cs ≠ tv.ownBlock
theorem Kv.step {B g cw cs : Nat} {w w' : World} {tv tv' : Value} {t' sg : ByteArray} (h : Kv w tv g cw cs sg) (k : Wn B g w tv w' tv' t') : Kv w' tv' g cw cs sg := by
 have l1 : cw < w.heap.size := by have := World.block_lt_of_cell? w _ h.p; simpa using this
 have l2 : cs < w.heap.size := by have := World.block_lt_of_cell? w _ h.s; simpa using this
 refine ⟨k.side h.p h.pg h.po,k.side h.s h.sg h.so,h.pg,h.sg,fun e => ?_,fun e => ?_⟩
 ·rcases k.nw _ e.symm with h1 | h1
  ·exact h.po h1.symm
  ·omega
 ·rcases k.nw _ e.symm with h1 | h1
  ·exact h.so h1.symm
  ·omega
theorem Kv.fr {w w' : World} {tv : Value} {g cw cs : Nat} {sg : ByteArray} (h : Kv w tv g cw cs sg) (k : Fr w w') : Kv w' tv g cw cs sg :=
 ⟨k.cell h.p,k.cell h.s,h.pg,h.sg,h.po,h.so⟩
def Wk (sg : ByteArray) (n : Nd) (A : List ByteArray) : Prop :=
 ∀ (t : ByteArray) (cw cs : Nat) (w0 : World) (g : Nat) (w : World) (tv lv : Value),Ov w0 → Nv w0 → LN w0 lv n.l → Fr w0 w → Wt w0.heap.size g w tv t → Kv w tv g cw cs sg → (pt t A).size ≤ 100000000 →
  Calls prog 213 #[ndV n lv,.pointer (some ⟨cw,0,none⟩),.pointer (some ⟨cs,0,none⟩)] w fun e w' => e = .returned (.tuple #[]) ∧ ∃ tv',Wn w0.heap.size g w tv w' tv' (pt t A)
theorem const_one (sg : ByteArray) (hsg : tkOk sg) (n x : Nd) (A : List ByteArray) (hnl : n.l = [x]) (hns : tkOk n.s) (hd : Wx 167 ar0 x A) : Wk sg n ([n.s,sg] ++ A) := by
 intro t cw cs w0 g w tv lv hov hnv hl hf hs hkv hz
 simp only [pt_append] at hz ⊢
 have hz1 : (pt t [n.s,sg]).size ≤ 100000000 := Nat.le_trans (pt_size_le _ _) hz
 have hz0 : t.size ≤ 100000000 := Nat.le_trans (pt_size_le _ _) hz1
 obtain ⟨la,lc,rfl,hlc,_,_⟩ := hl.form
 rw [ndV_eq]
 have HFA := h_ (fa_ n w la lc)
 have HN := h_ (nn_ n w la lc)
 have HS := h_ hs
 have HFF := h_ hf
 obtain ⟨b,off,lvx,rfl,hnc,hlx,_⟩ := hl.at_ (i := 0) (t := x) (by rw [hnl]; rfl)
 obtain ⟨xa,xc,rfl,_,_,_⟩ := hlx.form
 have CP := h_ (fun W c tv' (hc : c = W.heap.size) (h : Wt w0.heap.size g W tv' t) => put_2 w0.heap.size g W tv' t n.s sg c hc h hns hsg hz0)
 have CS := h_ (fun W tv' (h : Fr w0 W) (h2 : Wt w0.heap.size g W tv' (pt t [n.s,sg])) => (hd (pt t [n.s,sg])).2 w0 g W tv' _ hov hnv hlx h h2 hz)
 rw [ndV_eq] at CS
 unfold ar0 at CS
 simp only [Nat.zero_mul,Nat.add_zero] at hnc
 have HNC := h_ hnc
 clear hz hz0 hz1
 obtain ⟨hne1,hnr1⟩ := nr_ hs
 rw [show n.l.length = 1 from by rw [hnl]; rfl] at HN HFA hlc ⊢
 have HKV := h_ hkv
 obtain ⟨c0,c1,c2,c3,c4⟩ := HN.out.cells
 have HKA := h_ (hkv.fr HFA.out)
 have kp := HKA.out.p
 have ks := HKA.out.s
 have HWS := h_ (HS.out.step HFA.out)
 have HF0 : Hid (Fr w0 (w.alloc (.cells #[.int .i64 n.op,.int .i64 n.n,.string n.s,.slice (some ⟨b,off,none⟩) 1 lc,.int .i64 n.a] 32))) := h_ (HFF.out.trans HFA.out)
 have HV0 := h_ ((HS.out.fr HFA.out).refl)
 have HCC := h_ c3
 clear hov hnv hl hf hs hd hnl hns hsg hlx hnc hkv
 go_enter func213,ntmps213
 go_wp2_with fail
 refine (CP.out _ _ _ (by simp) HV0.out.st).mono ?_
 rintro e w1 ⟨rfl,tv1,hw1⟩
 have HV1 := h_ (HV0.out.trans hw1)
 have HF1 : Hid (Fr w0 w1) := h_ ((HWS.out.trans HV1.out).frame HS.out HFF.out)
 have HK1 := h_ (HKA.out.step HV1.out)
 clear hw1 c0 c1 c2 c3 c4 kp ks
 have HKP : Hid (∀ W',Fr w1 W' → (W'.cell? ⟨cw,0,none⟩ = some (.pointer (some ⟨g,0,none⟩)) ∧ W'.cell? ⟨w.heap.size,3,none⟩ = some (.slice (some ⟨b,off,none⟩) 1 lc) ∧ dQ W' b off (off + 1) (off + 2) (off + 3) (off + 4) x xa xc)) := h_ (fun W' h => ⟨h.cell HK1.out.p,h.cell (HV1.out.side HCC.out hne1 hnr1),h.cell (HF1.out.cell HNC.out.op),h.cell (HF1.out.cell HNC.out.n),h.cell (HF1.out.cell HNC.out.s),h.cell (HF1.out.cell HNC.out.l),h.cell (HF1.out.cell HNC.out.a)⟩)
 have hq0 : Fr w1 w1.drew := (Fr.refl _).drew
 have HKQ : Hid (∀ W' tv' t',Wn w0.heap.size g w1.drew tv1 W' tv' t' → (W'.cell? ⟨cw,0,none⟩ = some (.pointer (some ⟨g,0,none⟩)) ∧ W'.cell? ⟨w.heap.size,3,none⟩ = some (.slice (some ⟨b,off,none⟩) 1 lc) ∧ dQ W' b off (off + 1) (off + 2) (off + 3) (off + 4) x xa xc)) := h_ (fun W' tv' t' h => by
  have hv : Wn w0.heap.size g (w.alloc (.cells #[.int .i64 n.op,.int .i64 n.n,.string n.s,.slice (some ⟨b,off,none⟩) 1 lc,.int .i64 n.a] 32)) tv W' tv' t' := HV1.out.trans ((HV1.out.st.step hq0).trans h)
  have hff : Fr w0 W' := (HWS.out.trans hv).frame HS.out HFF.out
  exact ⟨(HKA.out.step hv).p,hv.side HCC.out hne1 hnr1,hff.cell HNC.out.op,hff.cell HNC.out.n,hff.cell HNC.out.s,hff.cell HNC.out.l,hff.cell HNC.out.a⟩)
 go_wp2_with fail
 go_region_held3 (fun W' => W'.cell? ⟨cw,0,none⟩ = some (.pointer (some ⟨g,0,none⟩)) ∧ W'.cell? ⟨w.heap.size,3,none⟩ = some (.slice (some ⟨b,off,none⟩) 1 lc) ∧ dQ W' b off (off + 1) (off + 2) (off + 3) (off + 4) x xa xc)
  (first | exact HKP.out _ (by assumption) | exact HKQ.out _ _ _ (by assumption))
  ((first | (go_at_call 167; refine (CS.out _ _ (HF1.out.trans (by assumption)) (HV1.out.st.fr (by assumption))).mono ?_; rintro e wx ⟨rfl,tvx,hwx⟩)))
 have HV2 := h_ (HWS.out.trans (HV1.out.trans ((HV1.out.st.step hq0).trans hwx)))
 clear hwx
 go_wp2_with fail
 first | go_end0 | refine bodyPost_ret (results_none rfl _ _ _) rfl ?_
 exact ⟨rfl,_,HV2.out⟩
theorem list_const (l : List Nd) (T : Nat → ByteArray) (s t : ByteArray) (hs0 : 0 < s.size) (hs1 : s.size ≤ 1000000) (w0 : World) (g : Nat) (w : World) (tv : Value) (a : Option Addr) (c : Nat) (hlen : l.length ≤ 1000000) (hov : Ov w0) (hnv : Nv w0) (hl : RowN w0 a l) (hf : Fr w0 w) (hs : Wt w0.heap.size g w tv (T 0))
 (cw cs : Nat) (sg : ByteArray) (hkv : Kv w tv g cw cs sg) (tk : Nd → List ByteArray) (hd : ∀ x ∈ l,Wk sg x (tk x)) (hT : T = fun i => pt t (joinT s ((l.map tk).take i))) (hz : (T l.length).size ≤ 100000000) :
 Calls prog 212 #[.pointer (some ⟨g,0,none⟩),.slice a l.length c,.string s,.func (.func 213) #[] #[.pointer (some ⟨cw,0,none⟩),.pointer (some ⟨cs,0,none⟩)]] w fun e w' => e = .returned (.tuple #[]) ∧ ∃ tv',Wn w0.heap.size g w tv w' tv' (T l.length) := by
 have hst : ∀ i n,l[i]? = some n → T (i + 1) = pt (if i = 0 then T i else pt (T i) [s]) (tk n) := by
  intro i n hn
  rw [hT]
  exact (joinT_step s t (l.map tk) i (tk n) (by rw [List.getElem?_map,hn]; rfl)).symm
 have hgr : ∀ j i,i + j = l.length → (T i).size ≤ (T l.length).size := by
  intro j
  induction j with
  | zero => intro i e; rw [show i = l.length by omega]; exact Nat.le_refl _
  | succ j ih =>
   intro i e
   refine Nat.le_trans ?_ (ih (i + 1) (by omega))
   rw [hst i l[i] (by simp)]
   refine Nat.le_trans ?_ (pt_size_le _ _)
   by_cases h0 : i = 0
   ·rw [if_pos h0]; exact Nat.le_refl _
   ·rw [if_neg h0]; exact pt_one_size _ _
 have HG : Hid (∀ i,i ≤ l.length → (T i).size ≤ 100000000) := h_ (fun i hi => Nat.le_trans (hgr (l.length - i) i (by omega)) hz)
 have HD : Hid (∀ i n,l[i]? = some n → ∀ (w0 : World) (g : Nat) (w : World) (tv lv : Value),Ov w0 → Nv w0 → LN w0 lv n.l → Fr w0 w → Wt w0.heap.size g w tv (if i = 0 then T i else pt (T i) [s]) → Kv w tv g cw cs sg → (T (i + 1)).size ≤ 100000000 →
  Calls prog 213 #[ndV n lv,.pointer (some ⟨cw,0,none⟩),.pointer (some ⟨cs,0,none⟩)] w fun e w' => e = .returned (.tuple #[]) ∧ ∃ tv',Wn w0.heap.size g w tv w' tv' (T (i + 1))) := h_ (fun i n hn w0 g w tv lv h1 h2 h3 h4 h5 h6 h7 => by
  rw [hst i n hn] at h7 ⊢
  exact hd n (List.mem_of_getElem? hn) _ cw cs w0 g w tv lv h1 h2 h3 h4 h5 h6 h7)
 have HK := h_ hkv
 have HOV := h_ (And.intro hov hnv)
 have HF := h_ hf
 have HS := h_ hs
 have CP := h_ (fun W b tv t (hb : b = W.heap.size) (h : Wt w0.heap.size g W tv t) (hz : t.size ≤ 100000000) => put_one w0.heap.size g W tv t s b hb h hs0 hs1 hz)
 obtain ⟨b,off,hab,hrow⟩ := hl
 have HR := h_ hrow
 have HA := h_ hab
 obtain ⟨ln,hln⟩ : ∃ x,x = l.length := ⟨_,rfl⟩
 have HL := h_ hln
 have hl6 : ln ≤ 1000000 := by omega
 rw [← hln]
 clear hd hst hgr hT hkv hov hnv hf hs hrow hab hz hs0 hs1 hlen hln
 go_enter func212,ntmps212
 go_wp2_with fail
 go_loopw [12] (fun i wr => ∃ k : Nat,k ≤ ln ∧ i = .int .i64 k ∧ ∃ tv',Wn w0.heap.size g w tv wr tv' (T k)) (fun i _ => ln - (intOf i).toNat)
 case atStart => exact ⟨0,Nat.zero_le _,rfl,_,HS.out.refl⟩
 case round =>
  obtain ⟨k,hk,rfl,tv1,hw1⟩ := hrel
  have HW1 := h_ hw1
  have HFR : Hid (Fr w0 wr) := h_ (hw1.frame HS.out HF.out)
  by_cases hlt : k < ln
  ·obtain ⟨n,hn⟩ : ∃ n,l[k]? = some n := ⟨_,List.getElem?_eq_getElem (by rw [← HL.out]; exact hlt)⟩
   obtain ⟨lv,hnc,hln⟩ := HR.out k n hn
   obtain rfl := HA.out (by rw [← HL.out]; omega)
   obtain ⟨la,lc,rfl,_,_,_⟩ := hln.form
   have x0 := HFR.out.cell hnc.op
   have x1 := HFR.out.cell hnc.n
   have x2 := HFR.out.cell hnc.s
   have x3 := HFR.out.cell hnc.l
   have x4 := HFR.out.cell hnc.a
   have HDK := h_ (HD.out k n hn)
   have HNL := h_ hln
   have HGK : Hid ((T k).size ≤ 100000000 ∧ (T (k + 1)).size ≤ 100000000) := h_ ⟨HG.out k (by rw [← HL.out]; omega),HG.out (k + 1) (by rw [← HL.out]; omega)⟩
   have HNB := h_ (Nb.new wr (.int .i64 n.op) (.int .i64 n.n) (.string n.s) (.slice la n.l.length lc) (.int .i64 n.a))
   have HF1 : Hid (Fr wr (wr.alloc (.cells #[.int .i64 n.op,.int .i64 n.n,.string n.s,.slice la n.l.length lc,.int .i64 n.a] 32))) := h_ ((Fr.refl wr).alloc _)
   have HW2 := h_ (HW1.out.trans (HW1.out.st.step HF1.out))
   have hji : (k : Int).toNat = k := Int.toNat_natCast k
   clear hw1 hnc hln hn
   by_cases h0 : k = 0
   ·subst h0
    simp only [Nat.zero_mul,Nat.add_zero] at x0 x1 x2 x3 x4
    have CW := h_ (fun W tv' (h : Fr w0 W) (h2 : Wn w0.heap.size g w tv W tv' (T 0)) => HDK.out w0 g W tv' _ HOV.out.1 HOV.out.2 HNL.out h h2.st (HK.out.step h2) HGK.out.2)
    rw [ndV_eq] at CW
    obtain ⟨c0,c1,c2,c3,c4⟩ := HNB.out.cells
    go_wp2_with fail
    refine (CW.out _ _ (HFR.out.trans HF1.out) HW2.out).mono ?_
    rintro e w3 ⟨rfl,tv3,hw3⟩
    have HW3 := h_ (HW2.out.trans hw3)
    clear hw3
    go_wp2_with fail
    go_roundw
    case rel => exact ⟨1,by omega,by go_num,_,HW3.out⟩
    case measure => simp [intOf]; omega
   ·have z1 : decide ((0 : Int) < (k : Int)) = true := decide_eq_true (by omega)
    have CW : Hid (∀ W tv',Fr w0 W → Wn w0.heap.size g w tv W tv' (pt (T k) [s]) → Calls prog 213 #[ndV n (.slice la n.l.length lc),.pointer (some ⟨cw,0,none⟩),.pointer (some ⟨cs,0,none⟩)] W fun e w' => e = .returned (.tuple #[]) ∧ ∃ tv'',Wn w0.heap.size g W tv' w' tv'' (T (k + 1))) := h_ (fun W tv' h h2 => HDK.out w0 g W tv' _ HOV.out.1 HOV.out.2 HNL.out h (by rw [if_neg h0]; exact h2.st) (HK.out.step h2) HGK.out.2)
    rw [ndV_eq] at CW
    obtain ⟨c0,c1,c2,c3,c4⟩ := HNB.out.cells
    have hne1 : wr.heap.size ≠ g := by have := HW1.out.st.cell.lt; omega
    have hnr1 : some wr.heap.size ≠ tv1.ownBlock := fun e => by have := (HW1.out.st.own.lt _ e.symm).2; omega
    go_wp2_with fail
    refine (CP.out _ _ _ _ (by simp) HW2.out.st HGK.out.1).mono ?_
    rintro e w3 ⟨rfl,tv3,hw3⟩
    have d0 := hw3.side c0 hne1 hnr1
    have d1 := hw3.side c1 hne1 hnr1
    have d2 := hw3.side c2 hne1 hnr1
    have d3 := hw3.side c3 hne1 hnr1
    have d4 := hw3.side c4 hne1 hnr1
    have HW3 := h_ (HW2.out.trans hw3)
    have HF3 : Hid (Fr w0 w3) := h_ (HW3.out.frame HS.out HF.out)
    clear hw3
    go_wp2_with fail
    refine (CW.out _ _ HF3.out HW3.out).mono ?_
    rintro e w4 ⟨rfl,tv4,hw4⟩
    have HW4 := h_ (HW3.out.trans hw4)
    clear hw4
    go_wp2_with fail
    go_roundw
    case rel => exact ⟨k + 1,by omega,by go_num,_,HW4.out⟩
    case measure => simp [intOf]; omega
  ·obtain rfl : k = ln := by omega
   clear hw1
   go_wp2_with fail
   go_end0
   exact ⟨rfl,_,HW1.out⟩
end Go.Proofs.YtbaelbafhdjlnaaGreatDoor
