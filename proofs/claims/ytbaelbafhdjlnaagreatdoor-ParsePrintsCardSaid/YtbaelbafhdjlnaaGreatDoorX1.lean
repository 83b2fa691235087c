/- A part of the proof that the law ParsePrints holds for every input. -/
import Derived.Test.YtbaelbafhdjlnaaGreatDoorM8
namespace Go.Proofs.YtbaelbafhdjlnaaGreatDoor
open Go.RowKit _root_.Go.Proofs.Tryz
set_option linter.unusedVariables false
set_option linter.unusedSimpArgs false
set_option maxRecDepth 100000
set_option maxHeartbeats 8000000
theorem pt_append (t : ByteArray) (A B : List ByteArray) : pt t (A ++ B) = pt (pt t A) B := by
 unfold pt; rw [List.foldl_append]
theorem pt_nil (t : ByteArray) : pt t [] = t := rfl
def Wx (fn : Nat) (ar : Value → Value → Array Value) (n : Nd) (A : List ByteArray) : Prop := ∀ t,Wd fn ar n t (pt t A)
theorem str_at4 (w : World) (s t u x4 : ByteArray) : ∀ i x,([s,t,u,x4] : List ByteArray)[i]? = some x → (w.alloc (.cells #[.string s,.string t,.string u,.string x4] 9)).cell? ⟨w.heap.size,i,none⟩ = some (.string x) := by
 intro i x hx
 match i,hx with
 | 0,hx => simp at hx; subst hx; simp
 | 1,hx => simp at hx; subst hx; simp
 | 2,hx => simp at hx; subst hx; simp
 | 3,hx => simp at hx; subst hx; simp
 | (i + 4),hx => simp at hx
def tkOk (s : ByteArray) : Prop := 0 < s.size ∧ s.size ≤ 1000000
theorem put_1 (B g : Nat) (w : World) (tv : Value) (t s : ByteArray) (b : Nat) (hb : b = w.heap.size) (h : Wt B g w tv t) (h1 : tkOk s) (hz : t.size ≤ 100000000) :
 Calls prog 72 #[.pointer (some ⟨g,0,none⟩),.slice (some ⟨b,0,none⟩) 1 1] (w.alloc (.cells #[.string s] 9)) fun e w' => e = .returned (.tuple #[]) ∧ ∃ tv',Wn B g w tv w' tv' (pt t [s]) := put_one B g w tv t s b hb h h1.1 h1.2 hz
theorem put_2 (B g : Nat) (w : World) (tv : Value) (t s s2 : ByteArray) (b : Nat) (hb : b = w.heap.size) (h : Wt B g w tv t) (h1 : tkOk s) (h2 : tkOk s2) (hz : t.size ≤ 100000000) :
 Calls prog 72 #[.pointer (some ⟨g,0,none⟩),.slice (some ⟨b,0,none⟩) 2 2] (w.alloc (.cells #[.string s,.string s2] 9)) fun e w' => e = .returned (.tuple #[]) ∧ ∃ tv',Wn B g w tv w' tv' (pt t [s,s2]) := by
 subst hb
 exact put_new B g w tv t [s,s2] 2 _ h (str_at2 w s s2) (by intro x hx; simp at hx; rcases hx with rfl | rfl; exact h1.1; exact h2.1) (by intro x hx; simp at hx; rcases hx with rfl | rfl; exact h1.2; exact h2.2) (by simp) hz
theorem put_3 (B g : Nat) (w : World) (tv : Value) (t s s2 s3 : ByteArray) (b : Nat) (hb : b = w.heap.size) (h : Wt B g w tv t) (h1 : tkOk s) (h2 : tkOk s2) (h3 : tkOk s3) (hz : t.size ≤ 100000000) :
 Calls prog 72 #[.pointer (some ⟨g,0,none⟩),.slice (some ⟨b,0,none⟩) 3 3] (w.alloc (.cells #[.string s,.string s2,.string s3] 9)) fun e w' => e = .returned (.tuple #[]) ∧ ∃ tv',Wn B g w tv w' tv' (pt t [s,s2,s3]) := put_three B g w tv t s s2 s3 b hb h ⟨h1.1,h2.1,h3.1⟩ ⟨h1.2,h2.2,h3.2⟩ hz
theorem put_4 (B g : Nat) (w : World) (tv : Value) (t s s2 s3 s4 : ByteArray) (b : Nat) (hb : b = w.heap.size) (h : Wt B g w tv t) (h1 : tkOk s) (h2 : tkOk s2) (h3 : tkOk s3) (h4 : tkOk s4) (hz : t.size ≤ 100000000) :
 Calls prog 72 #[.pointer (some ⟨g,0,none⟩),.slice (some ⟨b,0,none⟩) 4 4] (w.alloc (.cells #[.string s,.string s2,.string s3,.string s4] 9)) fun e w' => e = .returned (.tuple #[]) ∧ ∃ tv',Wn B g w tv w' tv' (pt t [s,s2,s3,s4]) := by
 subst hb
 exact put_new B g w tv t [s,s2,s3,s4] 4 _ h (str_at4 w s s2 s3 s4) (by intro x hx; simp at hx; rcases hx with rfl | rfl | rfl | rfl; exact h1.1; exact h2.1; exact h3.1; exact h4.1) (by intro x hx; simp at hx; rcases hx with rfl | rfl | rfl | rfl; exact h1.2; exact h2.2; exact h3.2; exact h4.2) (by simp) hz
def joinT (s : ByteArray) : List (List ByteArray) → List ByteArray
 | [] => []
 | [x] => x
 | x :: y :: r => x ++ [s] ++ joinT s (y :: r)
theorem joinT_snoc (s : ByteArray) : ∀ (L : List (List ByteArray)) (x : List ByteArray),L ≠ [] → joinT s (L ++ [x]) = joinT s L ++ [s] ++ x
 | [],x,h => absurd rfl h
 | [y],x,_ => by simp [joinT]
 | y :: z :: r,x,_ => by
  have := joinT_snoc s (z :: r) x (by simp)
  simp only [List.cons_append,joinT] at this ⊢
  rw [this]
  simp [List.append_assoc]
theorem joinT_step (s : ByteArray) (t : ByteArray) (L : List (List ByteArray)) (i : Nat) (x : List ByteArray) (h : L[i]? = some x) :
 pt (if i = 0 then pt t (joinT s (L.take i)) else pt (pt t (joinT s (L.take i))) [s]) x = pt t (joinT s (L.take (i + 1))) := by
 have hi := (List.getElem?_eq_some_iff.1 h).1
 have e : L.take (i + 1) = L.take i ++ [x] := by rw [List.take_add_one,h]; rfl
 rw [e]
 by_cases h0 : i = 0
 ·subst h0; simp [joinT,pt_nil]
 ·rw [if_neg h0,joinT_snoc s _ x (by intro hh; have := congrArg List.length hh; rw [List.length_take,List.length_nil] at this; omega),pt_append,pt_append]
theorem lists_of (fn : Nat) (ar : Value → Value → Array Value) (l : List Nd) (tk : Nd → List ByteArray) (s t : ByteArray) (hd : ∀ x ∈ l,Wx fn ar x (tk x)) :
 ∀ i n,l[i]? = some n → Wd fn ar n (if i = 0 then pt t (joinT s ((l.map tk).take i)) else pt (pt t (joinT s ((l.map tk).take i))) [s]) (pt t (joinT s ((l.map tk).take (i + 1)))) := by
 intro i n hn
 rw [← joinT_step s t (l.map tk) i (tk n) (by rw [List.getElem?_map,hn]; rfl)]
 exact hd n (List.mem_of_getElem? hn) _
theorem take_len {α β : Type} (f : α → β) (l : List α) : (l.map f).take l.length = l.map f := by rw [List.take_of_length_le (by simp)]
theorem list_part_x (l : List Nd) (tk : Nd → List ByteArray) (s t : ByteArray) (hs : tkOk s) (w0 : World) (g : Nat) (w : World) (tv : Value) (a : Option Addr) (c : Nat) (hlen : l.length ≤ 1000000) (hov : Ov w0) (hnv : Nv w0) (hl : RowN w0 a l) (hf : Fr w0 w) (hw : Wt w0.heap.size g w tv t)
 (hd : ∀ x ∈ l,Wx 167 ar0 x (tk x)) (hz : (pt t (joinT s (l.map tk))).size ≤ 100000000) :
 Calls prog 212 #[.pointer (some ⟨g,0,none⟩),.slice a l.length c,.string s,.func (.func 167) #[.pointer (some ⟨g,0,none⟩)] #[]] w fun e w' => e = .returned (.tuple #[]) ∧ ∃ tv',Wn w0.heap.size g w tv w' tv' (pt t (joinT s (l.map tk))) := by
 have h := list_part l (fun i => pt t (joinT s ((l.map tk).take i))) s hs.1 hs.2 w0 g w tv a c hlen hov hnv hl hf (by simpa [joinT,pt_nil] using hw) (lists_of _ _ l tk s t hd) (by rw [take_len]; exact hz)
 rw [take_len] at h
 exact h
theorem list_item_x (l : List Nd) (tk : Nd → List ByteArray) (s t : ByteArray) (hs : tkOk s) (w0 : World) (g : Nat) (w : World) (tv : Value) (a : Option Addr) (c : Nat) (hlen : l.length ≤ 1000000) (hov : Ov w0) (hnv : Nv w0) (hl : RowN w0 a l) (hf : Fr w0 w) (hw : Wt w0.heap.size g w tv t)
 (hd : ∀ x ∈ l,Wx 85 ar0 x (tk x)) (hz : (pt t (joinT s (l.map tk))).size ≤ 100000000) :
 Calls prog 212 #[.pointer (some ⟨g,0,none⟩),.slice a l.length c,.string s,.func (.func 85) #[.pointer (some ⟨g,0,none⟩)] #[]] w fun e w' => e = .returned (.tuple #[]) ∧ ∃ tv',Wn w0.heap.size g w tv w' tv' (pt t (joinT s (l.map tk))) := by
 have h := list_item l (fun i => pt t (joinT s ((l.map tk).take i))) s hs.1 hs.2 w0 g w tv a c hlen hov hnv hl hf (by simpa [joinT,pt_nil] using hw) (lists_of _ _ l tk s t hd) (by rw [take_len]; exact hz)
 rw [take_len] at h
 exact h
theorem listed_x (l : List Nd) (tk : Nd → List ByteArray) (t : ByteArray) (w0 : World) (g : Nat) (w : World) (tv : Value) (a : Option Addr) (c : Nat) (hlen : l.length ≤ 1000000) (hov : Ov w0) (hnv : Nv w0) (hl : RowN w0 a l) (hf : Fr w0 w) (hw : Wt w0.heap.size g w tv t)
 (hd : ∀ x ∈ l,Wx 167 ar0 x (tk x)) (hz : (pt (pt (pt t [⟨#[40]⟩]) (joinT ⟨#[44]⟩ (l.map tk))) [⟨#[41]⟩]).size ≤ 100000000) :
 Calls prog 217 #[.pointer (some ⟨g,0,none⟩),.slice a l.length c] w fun e w' => e = .returned (.tuple #[]) ∧ ∃ tv',Wn w0.heap.size g w tv w' tv' (pt (pt (pt t [⟨#[40]⟩]) (joinT ⟨#[44]⟩ (l.map tk))) [⟨#[41]⟩]) := by
 have h := listed_of l (fun i => pt (pt t [⟨#[40]⟩]) (joinT ⟨#[44]⟩ ((l.map tk).take i))) t w0 g w tv a c hlen hov hnv hl hf hw (by simp [joinT,pt_nil]) (lists_of _ _ l tk _ _ hd) (by rw [take_len]; exact Nat.le_trans (pt_size_le _ _) hz)
 rw [take_len] at h
 exact h
theorem unary_not (n c0 : Nd) (A0 : List ByteArray) (hnv1 : n.n = 19) (hnl : n.l = [c0]) (hd0 : Wx 82 (arL 4) c0 A0) : Wx 216 ar0 n ([⟨#[126]⟩] ++ A0) := by
 intro t
 refine ⟨pt_size_le t _,?_⟩
 intro w0 g w tv lv hov hnv hl hf hs hz
 show Calls prog 216 #[.pointer (some ⟨g,0,none⟩),ndV n lv] w _
 try simp only [pt_append] at hz ⊢
 obtain ⟨la,lc,rfl,hlc,_,_⟩ := hl.form
 rw [ndV_eq]
 have HFA := h_ (fa_ n w la lc)
 have HN := h_ (nn_ n w la lc)
 have hz2 : (pt (pt t [⟨#[126]⟩]) A0).size ≤ 100000000 := hz
 have hz1 : (pt t [⟨#[126]⟩]).size ≤ 100000000 := Nat.le_trans (pt_size_le _ _) hz2
 have hz0 : t.size ≤ 100000000 := Nat.le_trans (pt_size_le _ _) hz1
 obtain ⟨b,off,lv0,rfl,hc0,hl0,_⟩ := hl.at_ (i := 0) (t := c0) (by rw [hnl]; rfl)
 obtain ⟨a0,k0,rfl,_,_,_⟩ := hl0.form
 rw [show n.l.length = 1 from by rw [hnl]; rfl] at HN HFA hlc ⊢
 rw [hnv1] at HN HFA ⊢
 have CS0 := h_ (fun W c tv' (hc : c = W.heap.size) (h : Wt w0.heap.size g W tv' t) => put_1 w0.heap.size g W tv' t ⟨#[126]⟩ c hc h ⟨by decide,by decide⟩ hz0)
 have CS1 := h_ (fun W tv' (h : Fr w0 W) (h2 : Wt w0.heap.size g W tv' (pt t [⟨#[126]⟩])) => (hd0 (pt t [⟨#[126]⟩])).2 w0 g W tv' _ hov hnv hl0 h h2 hz2)
 rw [ndV_eq] at CS1
 unfold arL at CS1
 simp only [Nat.zero_mul,Nat.add_zero] at hc0
 have HNC0 := h_ hc0
 have HFF := h_ hf
 have HS := h_ hs
 obtain ⟨hne1,hnr1⟩ := nr_ hs
 clear hov hnv hl hf hs hz hz0 hz1 hz2 hnv1 hnl hd0 hl0 hc0
 obtain ⟨c_0,c_1,c_2,c_3,c_4⟩ := HN.out.cells
 have HWS := h_ (HS.out.step HFA.out)
 have HF0 : Hid (Fr w0 (w.alloc (.cells #[.int .i64 n.op,.int .i64 19,.string n.s,.slice (some ⟨b,off,none⟩) 1 lc,.int .i64 n.a] 32))) := h_ (HFF.out.trans HFA.out)
 have HV0 := h_ ((HS.out.fr HFA.out).refl)
 go_enter func216,ntmps216
 have HC_ := h_ (And.intro c_0 (And.intro c_1 (And.intro c_2 c_3)))
 go_wp2_with fail
 refine (CS0.out _ _ _ (by simp) HV0.out.st).mono ?_
 rintro e w1 ⟨rfl,tv1,hw⟩
 have HV1 := h_ (HV0.out.trans hw)
 have HF1 : Hid (Fr w0 w1) := h_ ((HWS.out.trans HV1.out).frame HS.out HFF.out)
 clear hw
 clear c_0 c_1 c_2 c_3 c_4
 have u1_0 := HV1.out.side HC_.out.1 hne1 hnr1
 have u1_1 := HV1.out.side HC_.out.2.1 hne1 hnr1
 have u1_2 := HV1.out.side HC_.out.2.2.1 hne1 hnr1
 have u1_3 := HV1.out.side HC_.out.2.2.2 hne1 hnr1
 have y0 := HF1.out.cell HNC0.out.op
 have y1 := HF1.out.cell HNC0.out.n
 have y2 := HF1.out.cell HNC0.out.s
 have y3 := HF1.out.cell HNC0.out.l
 have y4 := HF1.out.cell HNC0.out.a
 go_wp2_with fail
 refine (CS1.out _ _ HF1.out HV1.out.st).mono ?_
 rintro e w2 ⟨rfl,tv2,hw⟩
 have HV2 := h_ (HV1.out.trans hw)
 have HF2 : Hid (Fr w0 w2) := h_ ((HWS.out.trans HV2.out).frame HS.out HFF.out)
 clear hw
 clear u1_0 u1_1 u1_2 u1_3
 clear y0 y1 y2 y3 y4
 have u_0 := HV2.out.side HC_.out.1 hne1 hnr1
 have u_1 := HV2.out.side HC_.out.2.1 hne1 hnr1
 go_wp2_with fail
 first | go_end0 | refine bodyPost_ret (results_none rfl _ _ _) rfl ?_
 exact ⟨rfl,_,(HWS.out.trans HV2.out)⟩
theorem unary_neg (n c0 : Nd) (A0 : List ByteArray) (hnl : n.l = [c0]) (hn19 : ¬ n.n = 19) (hd0 : Wx 82 (arL 8) c0 A0) : Wx 216 ar0 n ([⟨#[45]⟩] ++ A0) := by
 intro t
 refine ⟨pt_size_le t _,?_⟩
 intro w0 g w tv lv hov hnv hl hf hs hz
 show Calls prog 216 #[.pointer (some ⟨g,0,none⟩),ndV n lv] w _
 try simp only [pt_append] at hz ⊢
 obtain ⟨la,lc,rfl,hlc,_,_⟩ := hl.form
 rw [ndV_eq]
 have HFA := h_ (fa_ n w la lc)
 have HN := h_ (nn_ n w la lc)
 have hz2 : (pt (pt t [⟨#[45]⟩]) A0).size ≤ 100000000 := hz
 have hz1 : (pt t [⟨#[45]⟩]).size ≤ 100000000 := Nat.le_trans (pt_size_le _ _) hz2
 have hz0 : t.size ≤ 100000000 := Nat.le_trans (pt_size_le _ _) hz1
 obtain ⟨b,off,lv0,rfl,hc0,hl0,_⟩ := hl.at_ (i := 0) (t := c0) (by rw [hnl]; rfl)
 obtain ⟨a0,k0,rfl,_,_,_⟩ := hl0.form
 rw [show n.l.length = 1 from by rw [hnl]; rfl] at HN HFA hlc ⊢
 have CS0 := h_ (fun W c tv' (hc : c = W.heap.size) (h : Wt w0.heap.size g W tv' t) => put_1 w0.heap.size g W tv' t ⟨#[45]⟩ c hc h ⟨by decide,by decide⟩ hz0)
 have CS1 := h_ (fun W tv' (h : Fr w0 W) (h2 : Wt w0.heap.size g W tv' (pt t [⟨#[45]⟩])) => (hd0 (pt t [⟨#[45]⟩])).2 w0 g W tv' _ hov hnv hl0 h h2 hz2)
 rw [ndV_eq] at CS1
 unfold arL at CS1
 simp only [Nat.zero_mul,Nat.add_zero] at hc0
 have HNC0 := h_ hc0
 have HFF := h_ hf
 have HS := h_ hs
 obtain ⟨hne1,hnr1⟩ := nr_ hs
 have z19 : (n.n == 19) = false := by rw [beq_eq_false_iff_ne]; exact hn19
 clear hn19
 clear hov hnv hl hf hs hz hz0 hz1 hz2 hnl hd0 hl0 hc0
 obtain ⟨c_0,c_1,c_2,c_3,c_4⟩ := HN.out.cells
 have HWS := h_ (HS.out.step HFA.out)
 have HF0 : Hid (Fr w0 (w.alloc (.cells #[.int .i64 n.op,.int .i64 n.n,.string n.s,.slice (some ⟨b,off,none⟩) 1 lc,.int .i64 n.a] 32))) := h_ (HFF.out.trans HFA.out)
 have HV0 := h_ ((HS.out.fr HFA.out).refl)
 go_enter func216,ntmps216
 have HC_ := h_ (And.intro c_0 (And.intro c_1 (And.intro c_2 c_3)))
 go_wp2_with fail
 refine (CS0.out _ _ _ (by simp) HV0.out.st).mono ?_
 rintro e w1 ⟨rfl,tv1,hw⟩
 have HV1 := h_ (HV0.out.trans hw)
 have HF1 : Hid (Fr w0 w1) := h_ ((HWS.out.trans HV1.out).frame HS.out HFF.out)
 clear hw
 clear c_0 c_1 c_2 c_3 c_4
 have u1_0 := HV1.out.side HC_.out.1 hne1 hnr1
 have u1_1 := HV1.out.side HC_.out.2.1 hne1 hnr1
 have u1_2 := HV1.out.side HC_.out.2.2.1 hne1 hnr1
 have u1_3 := HV1.out.side HC_.out.2.2.2 hne1 hnr1
 have y0 := HF1.out.cell HNC0.out.op
 have y1 := HF1.out.cell HNC0.out.n
 have y2 := HF1.out.cell HNC0.out.s
 have y3 := HF1.out.cell HNC0.out.l
 have y4 := HF1.out.cell HNC0.out.a
 go_wp2_with fail
 refine (CS1.out _ _ HF1.out HV1.out.st).mono ?_
 rintro e w2 ⟨rfl,tv2,hw⟩
 have HV2 := h_ (HV1.out.trans hw)
 have HF2 : Hid (Fr w0 w2) := h_ ((HWS.out.trans HV2.out).frame HS.out HFF.out)
 clear hw
 clear u1_0 u1_1 u1_2 u1_3
 clear y0 y1 y2 y3 y4
 have u_0 := HV2.out.side HC_.out.1 hne1 hnr1
 have u_1 := HV2.out.side HC_.out.2.1 hne1 hnr1
 go_wp2_with fail
 first | go_end0 | refine bodyPost_ret (results_none rfl _ _ _) rfl ?_
 exact ⟨rfl,_,(HWS.out.trans HV2.out)⟩
theorem bare_load (n c0 : Nd) (A0 : List ByteArray) (hop : n.op = 10) (hnl : n.l = [c0]) (hd0 : Wx 82 (arL 10) c0 A0) : Wx 156 ar0 n ([⟨#[33]⟩] ++ A0) := by
 intro t
 refine ⟨pt_size_le t _,?_⟩
 intro w0 g w tv lv hov hnv hl hf hs hz
 show Calls prog 156 #[.pointer (some ⟨g,0,none⟩),ndV n lv] w _
 try simp only [pt_append] at hz ⊢
 obtain ⟨la,lc,rfl,hlc,_,_⟩ := hl.form
 rw [ndV_eq]
 have HFA := h_ (fa_ n w la lc)
 have HN := h_ (nn_ n w la lc)
 have hz2 : (pt (pt t [⟨#[33]⟩]) A0).size ≤ 100000000 := hz
 have hz1 : (pt t [⟨#[33]⟩]).size ≤ 100000000 := Nat.le_trans (pt_size_le _ _) hz2
 have hz0 : t.size ≤ 100000000 := Nat.le_trans (pt_size_le _ _) hz1
 obtain ⟨b,off,lv0,rfl,hc0,hl0,_⟩ := hl.at_ (i := 0) (t := c0) (by rw [hnl]; rfl)
 obtain ⟨a0,k0,rfl,_,_,_⟩ := hl0.form
 rw [show n.l.length = 1 from by rw [hnl]; rfl] at HN HFA hlc ⊢
 rw [hop] at HN HFA ⊢
 have hno : opfN 10 n.n = none := by
  unfold opfN
  rw [List.find?_eq_none]
  intro y hy
  have : y.op = 12 ∨ y.op = 8 ∨ y.op = 9 ∨ y.op = 17 := by
   simp [opTab] at hy
   rcases hy with rfl | rfl | rfl | rfl | rfl | rfl | rfl | rfl | rfl | rfl | rfl | rfl | rfl | rfl | rfl | rfl | rfl | rfl | rfl | rfl <;> decide
  simp
  omega
 have CO : Hid (∀ W,Fr w W → Calls prog 214 #[.agg #[.int .i64 10,.int .i64 n.n,.string n.s,.slice (some ⟨b,off,none⟩) 1 lc,.int .i64 n.a]] W fun e w' => e = .returned (.tuple #[.agg #[.string ⟨#[]⟩,.int .i64 0,.int .i64 0,.int .i64 0],.bool false]) ∧ Fr W w') := h_ (fun W h => by
  have h1 := operatorOf_any 10 n.n n.s (.slice (some ⟨b,off,none⟩) 1 lc) n.a ⟨_,_,_,rfl⟩ W (hov.fr (hf.trans h))
  rw [hno] at h1
  exact h1)
 have CS0 := h_ (fun W c tv' (hc : c = W.heap.size) (h : Wt w0.heap.size g W tv' t) => put_1 w0.heap.size g W tv' t ⟨#[33]⟩ c hc h ⟨by decide,by decide⟩ hz0)
 have CS1 := h_ (fun W tv' (h : Fr w0 W) (h2 : Wt w0.heap.size g W tv' (pt t [⟨#[33]⟩])) => (hd0 (pt t [⟨#[33]⟩])).2 w0 g W tv' _ hov hnv hl0 h h2 hz2)
 rw [ndV_eq] at CS1
 unfold arL at CS1
 simp only [Nat.zero_mul,Nat.add_zero] at hc0
 have HNC0 := h_ hc0
 have HFF := h_ hf
 have HS := h_ hs
 obtain ⟨hne1,hnr1⟩ := nr_ hs
 clear hov hnv hl hf hs hz hz0 hz1 hz2 hop hnl hno hd0 hl0 hc0
 obtain ⟨q_0,q_1,q_2,q_3,q_4⟩ := HN.out.cells
 go_enter func156,ntmps156
 go_wp2_with fail
 refine (CO.out _ HFA.out).mono ?_
 rintro e wO ⟨rfl,hfO⟩
 have HFO : Hid (Fr w (wO.alloc (.cells #[.string ⟨#[]⟩,.int .i64 0,.int .i64 0,.int .i64 0] 154))) := h_ ((HFA.out.trans hfO).alloc _)
 have HNO := h_ ((HN.out.fr hfO).fr ((Fr.refl wO).alloc (.cells #[.string ⟨#[]⟩,.int .i64 0,.int .i64 0,.int .i64 0] 154)))
 clear hfO q_0 q_1 q_2 q_3 q_4
 obtain ⟨c_0,c_1,c_2,c_3,c_4⟩ := HNO.out.cells
 have HWS := h_ (HS.out.step HFO.out)
 have HF0 : Hid (Fr w0 (wO.alloc (.cells #[.string ⟨#[]⟩,.int .i64 0,.int .i64 0,.int .i64 0] 154))) := h_ (HFF.out.trans HFO.out)
 have HV0 := h_ ((HS.out.fr HFO.out).refl)
 have HC_ := h_ (And.intro c_0 (And.intro c_1 (And.intro c_2 c_3)))
 go_wp2_with fail
 refine (CS0.out _ _ _ (by simp) HV0.out.st).mono ?_
 rintro e w1 ⟨rfl,tv1,hw⟩
 have HV1 := h_ (HV0.out.trans hw)
 have HF1 : Hid (Fr w0 w1) := h_ ((HWS.out.trans HV1.out).frame HS.out HFF.out)
 clear hw
 clear c_0 c_1 c_2 c_3 c_4
 have u1_0 := HV1.out.side HC_.out.1 hne1 hnr1
 have u1_1 := HV1.out.side HC_.out.2.1 hne1 hnr1
 have u1_2 := HV1.out.side HC_.out.2.2.1 hne1 hnr1
 have u1_3 := HV1.out.side HC_.out.2.2.2 hne1 hnr1
 have y0 := HF1.out.cell HNC0.out.op
 have y1 := HF1.out.cell HNC0.out.n
 have y2 := HF1.out.cell HNC0.out.s
 have y3 := HF1.out.cell HNC0.out.l
 have y4 := HF1.out.cell HNC0.out.a
 go_wp2_with fail
 refine (CS1.out _ _ HF1.out HV1.out.st).mono ?_
 rintro e w2 ⟨rfl,tv2,hw⟩
 have HV2 := h_ (HV1.out.trans hw)
 have HF2 : Hid (Fr w0 w2) := h_ ((HWS.out.trans HV2.out).frame HS.out HFF.out)
 clear hw
 clear u1_0 u1_1 u1_2 u1_3
 clear y0 y1 y2 y3 y4
 have u_0 := HV2.out.side HC_.out.1 hne1 hnr1
 have u_1 := HV2.out.side HC_.out.2.1 hne1 hnr1
 go_wp2_with fail
 first | go_end0 | refine bodyPost_ret (results_none rfl _ _ _) rfl ?_
 exact ⟨rfl,_,(HWS.out.trans HV2.out)⟩
theorem bare_addr (n c0 : Nd) (A0 : List ByteArray) (hop : n.op = 11) (hnl : n.l = [c0]) (hd0 : Wx 82 (arL 10) c0 A0) : Wx 156 ar0 n ([⟨#[64]⟩] ++ A0) := by
 intro t
 refine ⟨pt_size_le t _,?_⟩
 intro w0 g w tv lv hov hnv hl hf hs hz
 show Calls prog 156 #[.pointer (some ⟨g,0,none⟩),ndV n lv] w _
 try simp only [pt_append] at hz ⊢
 obtain ⟨la,lc,rfl,hlc,_,_⟩ := hl.form
 rw [ndV_eq]
 have HFA := h_ (fa_ n w la lc)
 have HN := h_ (nn_ n w la lc)
 have hz2 : (pt (pt t [⟨#[64]⟩]) A0).size ≤ 100000000 := hz
 have hz1 : (pt t [⟨#[64]⟩]).size ≤ 100000000 := Nat.le_trans (pt_size_le _ _) hz2
 have hz0 : t.size ≤ 100000000 := Nat.le_trans (pt_size_le _ _) hz1
 obtain ⟨b,off,lv0,rfl,hc0,hl0,_⟩ := hl.at_ (i := 0) (t := c0) (by rw [hnl]; rfl)
 obtain ⟨a0,k0,rfl,_,_,_⟩ := hl0.form
 rw [show n.l.length = 1 from by rw [hnl]; rfl] at HN HFA hlc ⊢
 rw [hop] at HN HFA ⊢
 have hno : opfN 11 n.n = none := by
  unfold opfN
  rw [List.find?_eq_none]
  intro y hy
  have : y.op = 12 ∨ y.op = 8 ∨ y.op = 9 ∨ y.op = 17 := by
   simp [opTab] at hy
   rcases hy with rfl | rfl | rfl | rfl | rfl | rfl | rfl | rfl | rfl | rfl | rfl | rfl | rfl | rfl | rfl | rfl | rfl | rfl | rfl | rfl <;> decide
  simp
  omega
 have CO : Hid (∀ W,Fr w W → Calls prog 214 #[.agg #[.int .i64 11,.int .i64 n.n,.string n.s,.slice (some ⟨b,off,none⟩) 1 lc,.int .i64 n.a]] W fun e w' => e = .returned (.tuple #[.agg #[.string ⟨#[]⟩,.int .i64 0,.int .i64 0,.int .i64 0],.bool false]) ∧ Fr W w') := h_ (fun W h => by
  have h1 := operatorOf_any 11 n.n n.s (.slice (some ⟨b,off,none⟩) 1 lc) n.a ⟨_,_,_,rfl⟩ W (hov.fr (hf.trans h))
  rw [hno] at h1
  exact h1)
 have CS0 := h_ (fun W c tv' (hc : c = W.heap.size) (h : Wt w0.heap.size g W tv' t) => put_1 w0.heap.size g W tv' t ⟨#[64]⟩ c hc h ⟨by decide,by decide⟩ hz0)
 have CS1 := h_ (fun W tv' (h : Fr w0 W) (h2 : Wt w0.heap.size g W tv' (pt t [⟨#[64]⟩])) => (hd0 (pt t [⟨#[64]⟩])).2 w0 g W tv' _ hov hnv hl0 h h2 hz2)
 rw [ndV_eq] at CS1
 unfold arL at CS1
 simp only [Nat.zero_mul,Nat.add_zero] at hc0
 have HNC0 := h_ hc0
 have HFF := h_ hf
 have HS := h_ hs
 obtain ⟨hne1,hnr1⟩ := nr_ hs
 clear hov hnv hl hf hs hz hz0 hz1 hz2 hop hnl hno hd0 hl0 hc0
 obtain ⟨q_0,q_1,q_2,q_3,q_4⟩ := HN.out.cells
 go_enter func156,ntmps156
 go_wp2_with fail
 refine (CO.out _ HFA.out).mono ?_
 rintro e wO ⟨rfl,hfO⟩
 have HFO : Hid (Fr w (wO.alloc (.cells #[.string ⟨#[]⟩,.int .i64 0,.int .i64 0,.int .i64 0] 154))) := h_ ((HFA.out.trans hfO).alloc _)
 have HNO := h_ ((HN.out.fr hfO).fr ((Fr.refl wO).alloc (.cells #[.string ⟨#[]⟩,.int .i64 0,.int .i64 0,.int .i64 0] 154)))
 clear hfO q_0 q_1 q_2 q_3 q_4
 obtain ⟨c_0,c_1,c_2,c_3,c_4⟩ := HNO.out.cells
 have HWS := h_ (HS.out.step HFO.out)
 have HF0 : Hid (Fr w0 (wO.alloc (.cells #[.string ⟨#[]⟩,.int .i64 0,.int .i64 0,.int .i64 0] 154))) := h_ (HFF.out.trans HFO.out)
 have HV0 := h_ ((HS.out.fr HFO.out).refl)
 have HC_ := h_ (And.intro c_0 (And.intro c_1 (And.intro c_2 c_3)))
 go_wp2_with fail
 refine (CS0.out _ _ _ (by simp) HV0.out.st).mono ?_
 rintro e w1 ⟨rfl,tv1,hw⟩
 have HV1 := h_ (HV0.out.trans hw)
 have HF1 : Hid (Fr w0 w1) := h_ ((HWS.out.trans HV1.out).frame HS.out HFF.out)
 clear hw
 clear c_0 c_1 c_2 c_3 c_4
 have u1_0 := HV1.out.side HC_.out.1 hne1 hnr1
 have u1_1 := HV1.out.side HC_.out.2.1 hne1 hnr1
 have u1_2 := HV1.out.side HC_.out.2.2.1 hne1 hnr1
 have u1_3 := HV1.out.side HC_.out.2.2.2 hne1 hnr1
 have y0 := HF1.out.cell HNC0.out.op
 have y1 := HF1.out.cell HNC0.out.n
 have y2 := HF1.out.cell HNC0.out.s
 have y3 := HF1.out.cell HNC0.out.l
 have y4 := HF1.out.cell HNC0.out.a
 go_wp2_with fail
 refine (CS1.out _ _ HF1.out HV1.out.st).mono ?_
 rintro e w2 ⟨rfl,tv2,hw⟩
 have HV2 := h_ (HV1.out.trans hw)
 have HF2 : Hid (Fr w0 w2) := h_ ((HWS.out.trans HV2.out).frame HS.out HFF.out)
 clear hw
 clear u1_0 u1_1 u1_2 u1_3
 clear y0 y1 y2 y3 y4
 have u_0 := HV2.out.side HC_.out.1 hne1 hnr1
 have u_1 := HV2.out.side HC_.out.2.1 hne1 hnr1
 go_wp2_with fail
 first | go_end0 | refine bodyPost_ret (results_none rfl _ _ _) rfl ?_
 exact ⟨rfl,_,(HWS.out.trans HV2.out)⟩
theorem simple_valof (n c0 : Nd) (A0 : List ByteArray) (hop : n.op = 15) (hnl : n.l = [c0]) (hd0 : Wx 85 ar0 c0 A0) : Wx 218 ar0 n ([⟨#[118,97,108,111,102]⟩] ++ A0) := by
 intro t
 refine ⟨pt_size_le t _,?_⟩
 intro w0 g w tv lv hov hnv hl hf hs hz
 show Calls prog 218 #[.pointer (some ⟨g,0,none⟩),ndV n lv] w _
 try simp only [pt_append] at hz ⊢
 obtain ⟨la,lc,rfl,hlc,_,_⟩ := hl.form
 rw [ndV_eq]
 have HFA := h_ (fa_ n w la lc)
 have HN := h_ (nn_ n w la lc)
 have hz2 : (pt (pt t [⟨#[118,97,108,111,102]⟩]) A0).size ≤ 100000000 := hz
 have hz1 : (pt t [⟨#[118,97,108,111,102]⟩]).size ≤ 100000000 := Nat.le_trans (pt_size_le _ _) hz2
 have hz0 : t.size ≤ 100000000 := Nat.le_trans (pt_size_le _ _) hz1
 obtain ⟨b,off,lv0,rfl,hc0,hl0,_⟩ := hl.at_ (i := 0) (t := c0) (by rw [hnl]; rfl)
 obtain ⟨a0,k0,rfl,_,_,_⟩ := hl0.form
 rw [show n.l.length = 1 from by rw [hnl]; rfl] at HN HFA hlc ⊢
 rw [hop] at HN HFA ⊢
 have CS0 := h_ (fun W c tv' (hc : c = W.heap.size) (h : Wt w0.heap.size g W tv' t) => put_1 w0.heap.size g W tv' t ⟨#[118,97,108,111,102]⟩ c hc h ⟨by decide,by decide⟩ hz0)
 have CS1 := h_ (fun W tv' (h : Fr w0 W) (h2 : Wt w0.heap.size g W tv' (pt t [⟨#[118,97,108,111,102]⟩])) => (hd0 (pt t [⟨#[118,97,108,111,102]⟩])).2 w0 g W tv' _ hov hnv hl0 h h2 hz2)
 rw [ndV_eq] at CS1
 unfold ar0 at CS1
 simp only [Nat.zero_mul,Nat.add_zero] at hc0
 have HNC0 := h_ hc0
 have HFF := h_ hf
 have HS := h_ hs
 obtain ⟨hne1,hnr1⟩ := nr_ hs
 clear hov hnv hl hf hs hz hz0 hz1 hz2 hop hnl hd0 hl0 hc0
 obtain ⟨c_0,c_1,c_2,c_3,c_4⟩ := HN.out.cells
 have HWS := h_ (HS.out.step HFA.out)
 have HF0 : Hid (Fr w0 (w.alloc (.cells #[.int .i64 15,.int .i64 n.n,.string n.s,.slice (some ⟨b,off,none⟩) 1 lc,.int .i64 n.a] 32))) := h_ (HFF.out.trans HFA.out)
 have HV0 := h_ ((HS.out.fr HFA.out).refl)
 go_enter func218,ntmps218
 have HC_ := h_ (And.intro c_0 (And.intro c_1 (And.intro c_2 c_3)))
 go_wp2_with fail
 refine (CS0.out _ _ _ (by simp) HV0.out.st).mono ?_
 rintro e w1 ⟨rfl,tv1,hw⟩
 have HV1 := h_ (HV0.out.trans hw)
 have HF1 : Hid (Fr w0 w1) := h_ ((HWS.out.trans HV1.out).frame HS.out HFF.out)
 clear hw
 clear c_0 c_1 c_2 c_3 c_4
 have u1_0 := HV1.out.side HC_.out.1 hne1 hnr1
 have u1_1 := HV1.out.side HC_.out.2.1 hne1 hnr1
 have u1_2 := HV1.out.side HC_.out.2.2.1 hne1 hnr1
 have u1_3 := HV1.out.side HC_.out.2.2.2 hne1 hnr1
 have y0 := HF1.out.cell HNC0.out.op
 have y1 := HF1.out.cell HNC0.out.n
 have y2 := HF1.out.cell HNC0.out.s
 have y3 := HF1.out.cell HNC0.out.l
 have y4 := HF1.out.cell HNC0.out.a
 go_wp2_with fail
 refine (CS1.out _ _ HF1.out HV1.out.st).mono ?_
 rintro e w2 ⟨rfl,tv2,hw⟩
 have HV2 := h_ (HV1.out.trans hw)
 have HF2 : Hid (Fr w0 w2) := h_ ((HWS.out.trans HV2.out).frame HS.out HFF.out)
 clear hw
 clear u1_0 u1_1 u1_2 u1_3
 clear y0 y1 y2 y3 y4
 have u_0 := HV2.out.side HC_.out.1 hne1 hnr1
 have u_1 := HV2.out.side HC_.out.2.1 hne1 hnr1
 go_wp2_with fail
 first | go_end0 | refine bodyPost_ret (results_none rfl _ _ _) rfl ?_
 exact ⟨rfl,_,(HWS.out.trans HV2.out)⟩
theorem guarded_x (key : ByteArray) (hkey : tkOk key) (n c0 c1 : Nd) (A0 A1 : List ByteArray) (hnl : n.l = [c0,c1]) (hd0 : Wx 167 ar0 c0 A0) (hd1 : Wx 85 ar0 c1 A1) : Wx 166 (fun p v => #[p,.string key,v]) n ([key] ++ A0 ++ [⟨#[100,111]⟩] ++ A1) := by
 intro t
 refine ⟨pt_size_le t _,?_⟩
 intro w0 g w tv lv hov hnv hl hf hs hz
 show Calls prog 166 #[.pointer (some ⟨g,0,none⟩),.string key,ndV n lv] w _
 try simp only [pt_append] at hz ⊢
 obtain ⟨la,lc,rfl,hlc,_,_⟩ := hl.form
 rw [ndV_eq]
 have HFA := h_ (fa_ n w la lc)
 have HN := h_ (nn_ n w la lc)
 have hz4 : (pt (pt (pt (pt t [key]) A0) [⟨#[100,111]⟩]) A1).size ≤ 100000000 := hz
 have hz3 : (pt (pt (pt t [key]) A0) [⟨#[100,111]⟩]).size ≤ 100000000 := Nat.le_trans (pt_size_le _ _) hz4
 have hz2 : (pt (pt t [key]) A0).size ≤ 100000000 := Nat.le_trans (pt_size_le _ _) hz3
 have hz1 : (pt t [key]).size ≤ 100000000 := Nat.le_trans (pt_size_le _ _) hz2
 have hz0 : t.size ≤ 100000000 := Nat.le_trans (pt_size_le _ _) hz1
 obtain ⟨b,off,lv0,rfl,hc0,hl0,_⟩ := hl.at_ (i := 0) (t := c0) (by rw [hnl]; rfl)
 obtain ⟨a0,k0,rfl,_,_,_⟩ := hl0.form
 obtain ⟨b1,off1,lv1,e1,hc1,hl1,_⟩ := hl.at_ (i := 1) (t := c1) (by rw [hnl]; rfl)
 obtain ⟨rfl,rfl⟩ : b = b1 ∧ off = off1 := by simpa using e1
 obtain ⟨a1,k1,rfl,_,_,_⟩ := hl1.form
 rw [show n.l.length = 2 from by rw [hnl]; rfl] at HN HFA hlc ⊢
 have CS0 := h_ (fun W c tv' (hc : c = W.heap.size) (h : Wt w0.heap.size g W tv' t) => put_1 w0.heap.size g W tv' t key c hc h hkey hz0)
 have CS1 := h_ (fun W tv' (h : Fr w0 W) (h2 : Wt w0.heap.size g W tv' (pt t [key])) => (hd0 (pt t [key])).2 w0 g W tv' _ hov hnv hl0 h h2 hz2)
 rw [ndV_eq] at CS1
 unfold ar0 at CS1
 have CS2 := h_ (fun W c tv' (hc : c = W.heap.size) (h : Wt w0.heap.size g W tv' (pt (pt t [key]) A0)) => put_1 w0.heap.size g W tv' (pt (pt t [key]) A0) ⟨#[100,111]⟩ c hc h ⟨by decide,by decide⟩ hz2)
 have CS3 := h_ (fun W tv' (h : Fr w0 W) (h2 : Wt w0.heap.size g W tv' (pt (pt (pt t [key]) A0) [⟨#[100,111]⟩])) => (hd1 (pt (pt (pt t [key]) A0) [⟨#[100,111]⟩])).2 w0 g W tv' _ hov hnv hl1 h h2 hz4)
 rw [ndV_eq] at CS3
 unfold ar0 at CS3
 simp only [Nat.zero_mul,Nat.add_zero] at hc0
 have HNC0 := h_ hc0
 rw [Nat.one_mul] at hc1
 have HNC1 := h_ hc1
 have HFF := h_ hf
 have HS := h_ hs
 obtain ⟨hne1,hnr1⟩ := nr_ hs
 clear hov hnv hl hf hs hz hz0 hz1 hz2 hz3 hz4 hnl hd0 hd1 hl0 hc0 hl1 hc1 e1 hkey
 obtain ⟨c_0,c_1,c_2,c_3,c_4⟩ := HN.out.cells
 have HWS := h_ (HS.out.step HFA.out)
 have HF0 : Hid (Fr w0 (w.alloc (.cells #[.int .i64 n.op,.int .i64 n.n,.string n.s,.slice (some ⟨b,off,none⟩) 2 lc,.int .i64 n.a] 32))) := h_ (HFF.out.trans HFA.out)
 have HV0 := h_ ((HS.out.fr HFA.out).refl)
 go_enter func166,ntmps166
 have HC_ := h_ (And.intro c_0 (And.intro c_1 (And.intro c_2 c_3)))
 go_wp2_with fail
 refine (CS0.out _ _ _ (by simp) HV0.out.st).mono ?_
 rintro e w1 ⟨rfl,tv1,hw⟩
 have HV1 := h_ (HV0.out.trans hw)
 have HF1 : Hid (Fr w0 w1) := h_ ((HWS.out.trans HV1.out).frame HS.out HFF.out)
 clear hw
 clear c_0 c_1 c_2 c_3 c_4
 have u1_0 := HV1.out.side HC_.out.1 hne1 hnr1
 have u1_1 := HV1.out.side HC_.out.2.1 hne1 hnr1
 have u1_2 := HV1.out.side HC_.out.2.2.1 hne1 hnr1
 have u1_3 := HV1.out.side HC_.out.2.2.2 hne1 hnr1
 have y0 := HF1.out.cell HNC0.out.op
 have y1 := HF1.out.cell HNC0.out.n
 have y2 := HF1.out.cell HNC0.out.s
 have y3 := HF1.out.cell HNC0.out.l
 have y4 := HF1.out.cell HNC0.out.a
 go_wp2_with fail
 refine (CS1.out _ _ HF1.out HV1.out.st).mono ?_
 rintro e w2 ⟨rfl,tv2,hw⟩
 have HV2 := h_ (HV1.out.trans hw)
 have HF2 : Hid (Fr w0 w2) := h_ ((HWS.out.trans HV2.out).frame HS.out HFF.out)
 clear hw
 clear u1_0 u1_1 u1_2 u1_3
 clear y0 y1 y2 y3 y4
 have u2_0 := HV2.out.side HC_.out.1 hne1 hnr1
 have u2_1 := HV2.out.side HC_.out.2.1 hne1 hnr1
 have u2_2 := HV2.out.side HC_.out.2.2.1 hne1 hnr1
 have u2_3 := HV2.out.side HC_.out.2.2.2 hne1 hnr1
 go_wp2_with fail
 refine (CS2.out _ _ _ (by simp) HV2.out.st).mono ?_
 rintro e w3 ⟨rfl,tv3,hw⟩
 have HV3 := h_ (HV2.out.trans hw)
 have HF3 : Hid (Fr w0 w3) := h_ ((HWS.out.trans HV3.out).frame HS.out HFF.out)
 clear hw
 clear u2_0 u2_1 u2_2 u2_3
 have u3_0 := HV3.out.side HC_.out.1 hne1 hnr1
 have u3_1 := HV3.out.side HC_.out.2.1 hne1 hnr1
 have u3_2 := HV3.out.side HC_.out.2.2.1 hne1 hnr1
 have u3_3 := HV3.out.side HC_.out.2.2.2 hne1 hnr1
 have y0 := HF3.out.cell HNC1.out.op
 have y1 := HF3.out.cell HNC1.out.n
 have y2 := HF3.out.cell HNC1.out.s
 have y3 := HF3.out.cell HNC1.out.l
 have y4 := HF3.out.cell HNC1.out.a
 go_wp2_with fail
 refine (CS3.out _ _ HF3.out HV3.out.st).mono ?_
 rintro e w4 ⟨rfl,tv4,hw⟩
 have HV4 := h_ (HV3.out.trans hw)
 have HF4 : Hid (Fr w0 w4) := h_ ((HWS.out.trans HV4.out).frame HS.out HFF.out)
 clear hw
 clear u3_0 u3_1 u3_2 u3_3
 clear y0 y1 y2 y3 y4
 have u_0 := HV4.out.side HC_.out.1 hne1 hnr1
 have u_1 := HV4.out.side HC_.out.2.1 hne1 hnr1
 go_wp2_with fail
 first | go_end0 | refine bodyPost_ret (results_none rfl _ _ _) rfl ?_
 exact ⟨rfl,_,(HWS.out.trans HV4.out)⟩
theorem item_test (n c0 c1 c2 : Nd) (A0 A1 A2 : List ByteArray) (hop : n.op = 34) (hnl : n.l = [c0,c1,c2]) (hd0 : Wx 167 ar0 c0 A0) (hd1 : Wx 85 ar0 c1 A1) (hd2 : Wx 85 ar0 c2 A2) : Wx 85 ar0 n ([⟨#[116,101,115,116]⟩] ++ A0 ++ [⟨#[116,104,101,110]⟩] ++ A1 ++ [⟨#[101,108,115,101]⟩] ++ A2) := by
 intro t
 refine ⟨pt_size_le t _,?_⟩
 intro w0 g w tv lv hov hnv hl hf hs hz
 show Calls prog 85 #[.pointer (some ⟨g,0,none⟩),ndV n lv] w _
 try simp only [pt_append] at hz ⊢
 obtain ⟨la,lc,rfl,hlc,_,_⟩ := hl.form
 rw [ndV_eq]
 have HFA := h_ (fa_ n w la lc)
 have HN := h_ (nn_ n w la lc)
 have hz6 : (pt (pt (pt (pt (pt (pt t [⟨#[116,101,115,116]⟩]) A0) [⟨#[116,104,101,110]⟩]) A1) [⟨#[101,108,115,101]⟩]) A2).size ≤ 100000000 := hz
 have hz5 : (pt (pt (pt (pt (pt t [⟨#[116,101,115,116]⟩]) A0) [⟨#[116,104,101,110]⟩]) A1) [⟨#[101,108,115,101]⟩]).size ≤ 100000000 := Nat.le_trans (pt_size_le _ _) hz6
 have hz4 : (pt (pt (pt (pt t [⟨#[116,101,115,116]⟩]) A0) [⟨#[116,104,101,110]⟩]) A1).size ≤ 100000000 := Nat.le_trans (pt_size_le _ _) hz5
 have hz3 : (pt (pt (pt t [⟨#[116,101,115,116]⟩]) A0) [⟨#[116,104,101,110]⟩]).size ≤ 100000000 := Nat.le_trans (pt_size_le _ _) hz4
 have hz2 : (pt (pt t [⟨#[116,101,115,116]⟩]) A0).size ≤ 100000000 := Nat.le_trans (pt_size_le _ _) hz3
 have hz1 : (pt t [⟨#[116,101,115,116]⟩]).size ≤ 100000000 := Nat.le_trans (pt_size_le _ _) hz2
 have hz0 : t.size ≤ 100000000 := Nat.le_trans (pt_size_le _ _) hz1
 obtain ⟨b,off,lv0,rfl,hc0,hl0,_⟩ := hl.at_ (i := 0) (t := c0) (by rw [hnl]; rfl)
 obtain ⟨a0,k0,rfl,_,_,_⟩ := hl0.form
 obtain ⟨b1,off1,lv1,e1,hc1,hl1,_⟩ := hl.at_ (i := 1) (t := c1) (by rw [hnl]; rfl)
 obtain ⟨rfl,rfl⟩ : b = b1 ∧ off = off1 := by simpa using e1
 obtain ⟨a1,k1,rfl,_,_,_⟩ := hl1.form
 obtain ⟨b2,off2,lv2,e2,hc2,hl2,_⟩ := hl.at_ (i := 2) (t := c2) (by rw [hnl]; rfl)
 obtain ⟨rfl,rfl⟩ : b = b2 ∧ off = off2 := by simpa using e2
 obtain ⟨a2,k2,rfl,_,_,_⟩ := hl2.form
 rw [show n.l.length = 3 from by rw [hnl]; rfl] at HN HFA hlc ⊢
 rw [hop] at HN HFA ⊢
 have CS0 := h_ (fun W c tv' (hc : c = W.heap.size) (h : Wt w0.heap.size g W tv' t) => put_1 w0.heap.size g W tv' t ⟨#[116,101,115,116]⟩ c hc h ⟨by decide,by decide⟩ hz0)
 have CS1 := h_ (fun W tv' (h : Fr w0 W) (h2 : Wt w0.heap.size g W tv' (pt t [⟨#[116,101,115,116]⟩])) => (hd0 (pt t [⟨#[116,101,115,116]⟩])).2 w0 g W tv' _ hov hnv hl0 h h2 hz2)
 rw [ndV_eq] at CS1
 unfold ar0 at CS1
 have CS2 := h_ (fun W c tv' (hc : c = W.heap.size) (h : Wt w0.heap.size g W tv' (pt (pt t [⟨#[116,101,115,116]⟩]) A0)) => put_1 w0.heap.size g W tv' (pt (pt t [⟨#[116,101,115,116]⟩]) A0) ⟨#[116,104,101,110]⟩ c hc h ⟨by decide,by decide⟩ hz2)
 have CS3 := h_ (fun W tv' (h : Fr w0 W) (h2 : Wt w0.heap.size g W tv' (pt (pt (pt t [⟨#[116,101,115,116]⟩]) A0) [⟨#[116,104,101,110]⟩])) => (hd1 (pt (pt (pt t [⟨#[116,101,115,116]⟩]) A0) [⟨#[116,104,101,110]⟩])).2 w0 g W tv' _ hov hnv hl1 h h2 hz4)
 rw [ndV_eq] at CS3
 unfold ar0 at CS3
 have CS4 := h_ (fun W c tv' (hc : c = W.heap.size) (h : Wt w0.heap.size g W tv' (pt (pt (pt (pt t [⟨#[116,101,115,116]⟩]) A0) [⟨#[116,104,101,110]⟩]) A1)) => put_1 w0.heap.size g W tv' (pt (pt (pt (pt t [⟨#[116,101,115,116]⟩]) A0) [⟨#[116,104,101,110]⟩]) A1) ⟨#[101,108,115,101]⟩ c hc h ⟨by decide,by decide⟩ hz4)
 have CS5 := h_ (fun W tv' (h : Fr w0 W) (h2 : Wt w0.heap.size g W tv' (pt (pt (pt (pt (pt t [⟨#[116,101,115,116]⟩]) A0) [⟨#[116,104,101,110]⟩]) A1) [⟨#[101,108,115,101]⟩])) => (hd2 (pt (pt (pt (pt (pt t [⟨#[116,101,115,116]⟩]) A0) [⟨#[116,104,101,110]⟩]) A1) [⟨#[101,108,115,101]⟩])).2 w0 g W tv' _ hov hnv hl2 h h2 hz6)
 rw [ndV_eq] at CS5
 unfold ar0 at CS5
 simp only [Nat.zero_mul,Nat.add_zero] at hc0
 have HNC0 := h_ hc0
 rw [Nat.one_mul] at hc1
 have HNC1 := h_ hc1
 rw [show 2 * 5 = 10 from rfl] at hc2
 have HNC2 := h_ hc2
 have HFF := h_ hf
 have HS := h_ hs
 obtain ⟨hne1,hnr1⟩ := nr_ hs
 clear hov hnv hl hf hs hz hz0 hz1 hz2 hz3 hz4 hz5 hz6 hop hnl hd0 hd1 hd2 hl0 hc0 hl1 hc1 e1 hl2 hc2 e2
 obtain ⟨c_0,c_1,c_2,c_3,c_4⟩ := HN.out.cells
 have HWS := h_ (HS.out.step HFA.out)
 have HF0 : Hid (Fr w0 (w.alloc (.cells #[.int .i64 34,.int .i64 n.n,.string n.s,.slice (some ⟨b,off,none⟩) 3 lc,.int .i64 n.a] 32))) := h_ (HFF.out.trans HFA.out)
 have HV0 := h_ ((HS.out.fr HFA.out).refl)
 go_enter func85,ntmps85
 have HC_ := h_ (And.intro c_0 (And.intro c_1 (And.intro c_2 c_3)))
 go_wp2_with fail
 refine (CS0.out _ _ _ (by simp) HV0.out.st).mono ?_
 rintro e w1 ⟨rfl,tv1,hw⟩
 have HV1 := h_ (HV0.out.trans hw)
 have HF1 : Hid (Fr w0 w1) := h_ ((HWS.out.trans HV1.out).frame HS.out HFF.out)
 clear hw
 clear c_0 c_1 c_2 c_3 c_4
 have u1_0 := HV1.out.side HC_.out.1 hne1 hnr1
 have u1_1 := HV1.out.side HC_.out.2.1 hne1 hnr1
 have u1_2 := HV1.out.side HC_.out.2.2.1 hne1 hnr1
 have u1_3 := HV1.out.side HC_.out.2.2.2 hne1 hnr1
 have y0 := HF1.out.cell HNC0.out.op
 have y1 := HF1.out.cell HNC0.out.n
 have y2 := HF1.out.cell HNC0.out.s
 have y3 := HF1.out.cell HNC0.out.l
 have y4 := HF1.out.cell HNC0.out.a
 go_wp2_with fail
 refine (CS1.out _ _ HF1.out HV1.out.st).mono ?_
 rintro e w2 ⟨rfl,tv2,hw⟩
 have HV2 := h_ (HV1.out.trans hw)
 have HF2 : Hid (Fr w0 w2) := h_ ((HWS.out.trans HV2.out).frame HS.out HFF.out)
 clear hw
 clear u1_0 u1_1 u1_2 u1_3
 clear y0 y1 y2 y3 y4
 have u2_0 := HV2.out.side HC_.out.1 hne1 hnr1
 have u2_1 := HV2.out.side HC_.out.2.1 hne1 hnr1
 have u2_2 := HV2.out.side HC_.out.2.2.1 hne1 hnr1
 have u2_3 := HV2.out.side HC_.out.2.2.2 hne1 hnr1
 go_wp2_with fail
 refine (CS2.out _ _ _ (by simp) HV2.out.st).mono ?_
 rintro e w3 ⟨rfl,tv3,hw⟩
 have HV3 := h_ (HV2.out.trans hw)
 have HF3 : Hid (Fr w0 w3) := h_ ((HWS.out.trans HV3.out).frame HS.out HFF.out)
 clear hw
 clear u2_0 u2_1 u2_2 u2_3
 have u3_0 := HV3.out.side HC_.out.1 hne1 hnr1
 have u3_1 := HV3.out.side HC_.out.2.1 hne1 hnr1
 have u3_2 := HV3.out.side HC_.out.2.2.1 hne1 hnr1
 have u3_3 := HV3.out.side HC_.out.2.2.2 hne1 hnr1
 have y0 := HF3.out.cell HNC1.out.op
 have y1 := HF3.out.cell HNC1.out.n
 have y2 := HF3.out.cell HNC1.out.s
 have y3 := HF3.out.cell HNC1.out.l
 have y4 := HF3.out.cell HNC1.out.a
 go_wp2_with fail
 refine (CS3.out _ _ HF3.out HV3.out.st).mono ?_
 rintro e w4 ⟨rfl,tv4,hw⟩
 have HV4 := h_ (HV3.out.trans hw)
 have HF4 : Hid (Fr w0 w4) := h_ ((HWS.out.trans HV4.out).frame HS.out HFF.out)
 clear hw
 clear u3_0 u3_1 u3_2 u3_3
 clear y0 y1 y2 y3 y4
 have u4_0 := HV4.out.side HC_.out.1 hne1 hnr1
 have u4_1 := HV4.out.side HC_.out.2.1 hne1 hnr1
 have u4_2 := HV4.out.side HC_.out.2.2.1 hne1 hnr1
 have u4_3 := HV4.out.side HC_.out.2.2.2 hne1 hnr1
 go_wp2_with fail
 refine (CS4.out _ _ _ (by simp) HV4.out.st).mono ?_
 rintro e w5 ⟨rfl,tv5,hw⟩
 have HV5 := h_ (HV4.out.trans hw)
 have HF5 : Hid (Fr w0 w5) := h_ ((HWS.out.trans HV5.out).frame HS.out HFF.out)
 clear hw
 clear u4_0 u4_1 u4_2 u4_3
 have u5_0 := HV5.out.side HC_.out.1 hne1 hnr1
 have u5_1 := HV5.out.side HC_.out.2.1 hne1 hnr1
 have u5_2 := HV5.out.side HC_.out.2.2.1 hne1 hnr1
 have u5_3 := HV5.out.side HC_.out.2.2.2 hne1 hnr1
 have y0 := HF5.out.cell HNC2.out.op
 have y1 := HF5.out.cell HNC2.out.n
 have y2 := HF5.out.cell HNC2.out.s
 have y3 := HF5.out.cell HNC2.out.l
 have y4 := HF5.out.cell HNC2.out.a
 go_wp2_with fail
 refine (CS5.out _ _ HF5.out HV5.out.st).mono ?_
 rintro e w6 ⟨rfl,tv6,hw⟩
 have HV6 := h_ (HV5.out.trans hw)
 have HF6 : Hid (Fr w0 w6) := h_ ((HWS.out.trans HV6.out).frame HS.out HFF.out)
 clear hw
 clear u5_0 u5_1 u5_2 u5_3
 clear y0 y1 y2 y3 y4
 have u_0 := HV6.out.side HC_.out.1 hne1 hnr1
 have u_1 := HV6.out.side HC_.out.2.1 hne1 hnr1
 go_wp2_with fail
 first | go_end0 | refine bodyPost_ret (results_none rfl _ _ _) rfl ?_
 exact ⟨rfl,_,(HWS.out.trans HV6.out)⟩
theorem item_switch (n c0 c1 : Nd) (A0 A1 : List ByteArray) (hop : n.op = 41) (hnl : n.l = [c0,c1]) (hd0 : Wx 167 ar0 c0 A0) (hd1 : Wx 85 ar0 c1 A1) : Wx 85 ar0 n ([⟨#[115,119,105,116,99,104,111,110]⟩] ++ A0 ++ [⟨#[105,110,116,111]⟩] ++ A1) := by
 intro t
 refine ⟨pt_size_le t _,?_⟩
 intro w0 g w tv lv hov hnv hl hf hs hz
 show Calls prog 85 #[.pointer (some ⟨g,0,none⟩),ndV n lv] w _
 try simp only [pt_append] at hz ⊢
 obtain ⟨la,lc,rfl,hlc,_,_⟩ := hl.form
 rw [ndV_eq]
 have HFA := h_ (fa_ n w la lc)
 have HN := h_ (nn_ n w la lc)
 have hz4 : (pt (pt (pt (pt t [⟨#[115,119,105,116,99,104,111,110]⟩]) A0) [⟨#[105,110,116,111]⟩]) A1).size ≤ 100000000 := hz
 have hz3 : (pt (pt (pt t [⟨#[115,119,105,116,99,104,111,110]⟩]) A0) [⟨#[105,110,116,111]⟩]).size ≤ 100000000 := Nat.le_trans (pt_size_le _ _) hz4
 have hz2 : (pt (pt t [⟨#[115,119,105,116,99,104,111,110]⟩]) A0).size ≤ 100000000 := Nat.le_trans (pt_size_le _ _) hz3
 have hz1 : (pt t [⟨#[115,119,105,116,99,104,111,110]⟩]).size ≤ 100000000 := Nat.le_trans (pt_size_le _ _) hz2
 have hz0 : t.size ≤ 100000000 := Nat.le_trans (pt_size_le _ _) hz1
 obtain ⟨b,off,lv0,rfl,hc0,hl0,_⟩ := hl.at_ (i := 0) (t := c0) (by rw [hnl]; rfl)
 obtain ⟨a0,k0,rfl,_,_,_⟩ := hl0.form
 obtain ⟨b1,off1,lv1,e1,hc1,hl1,_⟩ := hl.at_ (i := 1) (t := c1) (by rw [hnl]; rfl)
 obtain ⟨rfl,rfl⟩ : b = b1 ∧ off = off1 := by simpa using e1
 obtain ⟨a1,k1,rfl,_,_,_⟩ := hl1.form
 rw [show n.l.length = 2 from by rw [hnl]; rfl] at HN HFA hlc ⊢
 rw [hop] at HN HFA ⊢
 have CS0 := h_ (fun W c tv' (hc : c = W.heap.size) (h : Wt w0.heap.size g W tv' t) => put_1 w0.heap.size g W tv' t ⟨#[115,119,105,116,99,104,111,110]⟩ c hc h ⟨by decide,by decide⟩ hz0)
 have CS1 := h_ (fun W tv' (h : Fr w0 W) (h2 : Wt w0.heap.size g W tv' (pt t [⟨#[115,119,105,116,99,104,111,110]⟩])) => (hd0 (pt t [⟨#[115,119,105,116,99,104,111,110]⟩])).2 w0 g W tv' _ hov hnv hl0 h h2 hz2)
 rw [ndV_eq] at CS1
 unfold ar0 at CS1
 have CS2 := h_ (fun W c tv' (hc : c = W.heap.size) (h : Wt w0.heap.size g W tv' (pt (pt t [⟨#[115,119,105,116,99,104,111,110]⟩]) A0)) => put_1 w0.heap.size g W tv' (pt (pt t [⟨#[115,119,105,116,99,104,111,110]⟩]) A0) ⟨#[105,110,116,111]⟩ c hc h ⟨by decide,by decide⟩ hz2)
 have CS3 := h_ (fun W tv' (h : Fr w0 W) (h2 : Wt w0.heap.size g W tv' (pt (pt (pt t [⟨#[115,119,105,116,99,104,111,110]⟩]) A0) [⟨#[105,110,116,111]⟩])) => (hd1 (pt (pt (pt t [⟨#[115,119,105,116,99,104,111,110]⟩]) A0) [⟨#[105,110,116,111]⟩])).2 w0 g W tv' _ hov hnv hl1 h h2 hz4)
 rw [ndV_eq] at CS3
 unfold ar0 at CS3
 simp only [Nat.zero_mul,Nat.add_zero] at hc0
 have HNC0 := h_ hc0
 rw [Nat.one_mul] at hc1
 have HNC1 := h_ hc1
 have HFF := h_ hf
 have HS := h_ hs
 obtain ⟨hne1,hnr1⟩ := nr_ hs
 clear hov hnv hl hf hs hz hz0 hz1 hz2 hz3 hz4 hop hnl hd0 hd1 hl0 hc0 hl1 hc1 e1
 obtain ⟨c_0,c_1,c_2,c_3,c_4⟩ := HN.out.cells
 have HWS := h_ (HS.out.step HFA.out)
 have HF0 : Hid (Fr w0 (w.alloc (.cells #[.int .i64 41,.int .i64 n.n,.string n.s,.slice (some ⟨b,off,none⟩) 2 lc,.int .i64 n.a] 32))) := h_ (HFF.out.trans HFA.out)
 have HV0 := h_ ((HS.out.fr HFA.out).refl)
 go_enter func85,ntmps85
 have HC_ := h_ (And.intro c_0 (And.intro c_1 (And.intro c_2 c_3)))
 go_wp2_with fail
 refine (CS0.out _ _ _ (by simp) HV0.out.st).mono ?_
 rintro e w1 ⟨rfl,tv1,hw⟩
 have HV1 := h_ (HV0.out.trans hw)
 have HF1 : Hid (Fr w0 w1) := h_ ((HWS.out.trans HV1.out).frame HS.out HFF.out)
 clear hw
 clear c_0 c_1 c_2 c_3 c_4
 have u1_0 := HV1.out.side HC_.out.1 hne1 hnr1
 have u1_1 := HV1.out.side HC_.out.2.1 hne1 hnr1
 have u1_2 := HV1.out.side HC_.out.2.2.1 hne1 hnr1
 have u1_3 := HV1.out.side HC_.out.2.2.2 hne1 hnr1
 have y0 := HF1.out.cell HNC0.out.op
 have y1 := HF1.out.cell HNC0.out.n
 have y2 := HF1.out.cell HNC0.out.s
 have y3 := HF1.out.cell HNC0.out.l
 have y4 := HF1.out.cell HNC0.out.a
 go_wp2_with fail
 refine (CS1.out _ _ HF1.out HV1.out.st).mono ?_
 rintro e w2 ⟨rfl,tv2,hw⟩
 have HV2 := h_ (HV1.out.trans hw)
 have HF2 : Hid (Fr w0 w2) := h_ ((HWS.out.trans HV2.out).frame HS.out HFF.out)
 clear hw
 clear u1_0 u1_1 u1_2 u1_3
 clear y0 y1 y2 y3 y4
 have u2_0 := HV2.out.side HC_.out.1 hne1 hnr1
 have u2_1 := HV2.out.side HC_.out.2.1 hne1 hnr1
 have u2_2 := HV2.out.side HC_.out.2.2.1 hne1 hnr1
 have u2_3 := HV2.out.side HC_.out.2.2.2 hne1 hnr1
 go_wp2_with fail
 refine (CS2.out _ _ _ (by simp) HV2.out.st).mono ?_
 rintro e w3 ⟨rfl,tv3,hw⟩
 have HV3 := h_ (HV2.out.trans hw)
 have HF3 : Hid (Fr w0 w3) := h_ ((HWS.out.trans HV3.out).frame HS.out HFF.out)
 clear hw
 clear u2_0 u2_1 u2_2 u2_3
 have u3_0 := HV3.out.side HC_.out.1 hne1 hnr1
 have u3_1 := HV3.out.side HC_.out.2.1 hne1 hnr1
 have u3_2 := HV3.out.side HC_.out.2.2.1 hne1 hnr1
 have u3_3 := HV3.out.side HC_.out.2.2.2 hne1 hnr1
 have y0 := HF3.out.cell HNC1.out.op
 have y1 := HF3.out.cell HNC1.out.n
 have y2 := HF3.out.cell HNC1.out.s
 have y3 := HF3.out.cell HNC1.out.l
 have y4 := HF3.out.cell HNC1.out.a
 go_wp2_with fail
 refine (CS3.out _ _ HF3.out HV3.out.st).mono ?_
 rintro e w4 ⟨rfl,tv4,hw⟩
 have HV4 := h_ (HV3.out.trans hw)
 have HF4 : Hid (Fr w0 w4) := h_ ((HWS.out.trans HV4.out).frame HS.out HFF.out)
 clear hw
 clear u3_0 u3_1 u3_2 u3_3
 clear y0 y1 y2 y3 y4
 have u_0 := HV4.out.side HC_.out.1 hne1 hnr1
 have u_1 := HV4.out.side HC_.out.2.1 hne1 hnr1
 go_wp2_with fail
 first | go_end0 | refine bodyPost_ret (results_none rfl _ _ _) rfl ?_
 exact ⟨rfl,_,(HWS.out.trans HV4.out)⟩
theorem item_case (n c0 c1 : Nd) (A0 A1 : List ByteArray) (hop : n.op = 42) (hnl : n.l = [c0,c1]) (hd0 : Wx 167 ar0 c0 A0) (hd1 : Wx 85 ar0 c1 A1) : Wx 85 ar0 n ([⟨#[99,97,115,101]⟩] ++ A0 ++ [⟨#[58]⟩] ++ A1) := by
 intro t
 refine ⟨pt_size_le t _,?_⟩
 intro w0 g w tv lv hov hnv hl hf hs hz
 show Calls prog 85 #[.pointer (some ⟨g,0,none⟩),ndV n lv] w _
 try simp only [pt_append] at hz ⊢
 obtain ⟨la,lc,rfl,hlc,_,_⟩ := hl.form
 rw [ndV_eq]
 have HFA := h_ (fa_ n w la lc)
 have HN := h_ (nn_ n w la lc)
 have hz4 : (pt (pt (pt (pt t [⟨#[99,97,115,101]⟩]) A0) [⟨#[58]⟩]) A1).size ≤ 100000000 := hz
 have hz3 : (pt (pt (pt t [⟨#[99,97,115,101]⟩]) A0) [⟨#[58]⟩]).size ≤ 100000000 := Nat.le_trans (pt_size_le _ _) hz4
 have hz2 : (pt (pt t [⟨#[99,97,115,101]⟩]) A0).size ≤ 100000000 := Nat.le_trans (pt_size_le _ _) hz3
 have hz1 : (pt t [⟨#[99,97,115,101]⟩]).size ≤ 100000000 := Nat.le_trans (pt_size_le _ _) hz2
 have hz0 : t.size ≤ 100000000 := Nat.le_trans (pt_size_le _ _) hz1
 obtain ⟨b,off,lv0,rfl,hc0,hl0,_⟩ := hl.at_ (i := 0) (t := c0) (by rw [hnl]; rfl)
 obtain ⟨a0,k0,rfl,_,_,_⟩ := hl0.form
 obtain ⟨b1,off1,lv1,e1,hc1,hl1,_⟩ := hl.at_ (i := 1) (t := c1) (by rw [hnl]; rfl)
 obtain ⟨rfl,rfl⟩ : b = b1 ∧ off = off1 := by simpa using e1
 obtain ⟨a1,k1,rfl,_,_,_⟩ := hl1.form
 rw [show n.l.length = 2 from by rw [hnl]; rfl] at HN HFA hlc ⊢
 rw [hop] at HN HFA ⊢
 have CS0 := h_ (fun W c tv' (hc : c = W.heap.size) (h : Wt w0.heap.size g W tv' t) => put_1 w0.heap.size g W tv' t ⟨#[99,97,115,101]⟩ c hc h ⟨by decide,by decide⟩ hz0)
 have CS1 := h_ (fun W tv' (h : Fr w0 W) (h2 : Wt w0.heap.size g W tv' (pt t [⟨#[99,97,115,101]⟩])) => (hd0 (pt t [⟨#[99,97,115,101]⟩])).2 w0 g W tv' _ hov hnv hl0 h h2 hz2)
 rw [ndV_eq] at CS1
 unfold ar0 at CS1
 have CS2 := h_ (fun W c tv' (hc : c = W.heap.size) (h : Wt w0.heap.size g W tv' (pt (pt t [⟨#[99,97,115,101]⟩]) A0)) => put_1 w0.heap.size g W tv' (pt (pt t [⟨#[99,97,115,101]⟩]) A0) ⟨#[58]⟩ c hc h ⟨by decide,by decide⟩ hz2)
 have CS3 := h_ (fun W tv' (h : Fr w0 W) (h2 : Wt w0.heap.size g W tv' (pt (pt (pt t [⟨#[99,97,115,101]⟩]) A0) [⟨#[58]⟩])) => (hd1 (pt (pt (pt t [⟨#[99,97,115,101]⟩]) A0) [⟨#[58]⟩])).2 w0 g W tv' _ hov hnv hl1 h h2 hz4)
 rw [ndV_eq] at CS3
 unfold ar0 at CS3
 simp only [Nat.zero_mul,Nat.add_zero] at hc0
 have HNC0 := h_ hc0
 rw [Nat.one_mul] at hc1
 have HNC1 := h_ hc1
 have HFF := h_ hf
 have HS := h_ hs
 obtain ⟨hne1,hnr1⟩ := nr_ hs
 clear hov hnv hl hf hs hz hz0 hz1 hz2 hz3 hz4 hop hnl hd0 hd1 hl0 hc0 hl1 hc1 e1
 obtain ⟨c_0,c_1,c_2,c_3,c_4⟩ := HN.out.cells
 have HWS := h_ (HS.out.step HFA.out)
 have HF0 : Hid (Fr w0 (w.alloc (.cells #[.int .i64 42,.int .i64 n.n,.string n.s,.slice (some ⟨b,off,none⟩) 2 lc,.int .i64 n.a] 32))) := h_ (HFF.out.trans HFA.out)
 have HV0 := h_ ((HS.out.fr HFA.out).refl)
 go_enter func85,ntmps85
 have HC_ := h_ (And.intro c_0 (And.intro c_1 (And.intro c_2 c_3)))
 go_wp2_with fail
 refine (CS0.out _ _ _ (by simp) HV0.out.st).mono ?_
 rintro e w1 ⟨rfl,tv1,hw⟩
 have HV1 := h_ (HV0.out.trans hw)
 have HF1 : Hid (Fr w0 w1) := h_ ((HWS.out.trans HV1.out).frame HS.out HFF.out)
 clear hw
 clear c_0 c_1 c_2 c_3 c_4
 have u1_0 := HV1.out.side HC_.out.1 hne1 hnr1
 have u1_1 := HV1.out.side HC_.out.2.1 hne1 hnr1
 have u1_2 := HV1.out.side HC_.out.2.2.1 hne1 hnr1
 have u1_3 := HV1.out.side HC_.out.2.2.2 hne1 hnr1
 have y0 := HF1.out.cell HNC0.out.op
 have y1 := HF1.out.cell HNC0.out.n
 have y2 := HF1.out.cell HNC0.out.s
 have y3 := HF1.out.cell HNC0.out.l
 have y4 := HF1.out.cell HNC0.out.a
 go_wp2_with fail
 refine (CS1.out _ _ HF1.out HV1.out.st).mono ?_
 rintro e w2 ⟨rfl,tv2,hw⟩
 have HV2 := h_ (HV1.out.trans hw)
 have HF2 : Hid (Fr w0 w2) := h_ ((HWS.out.trans HV2.out).frame HS.out HFF.out)
 clear hw
 clear u1_0 u1_1 u1_2 u1_3
 clear y0 y1 y2 y3 y4
 have u2_0 := HV2.out.side HC_.out.1 hne1 hnr1
 have u2_1 := HV2.out.side HC_.out.2.1 hne1 hnr1
 have u2_2 := HV2.out.side HC_.out.2.2.1 hne1 hnr1
 have u2_3 := HV2.out.side HC_.out.2.2.2 hne1 hnr1
 go_wp2_with fail
 refine (CS2.out _ _ _ (by simp) HV2.out.st).mono ?_
 rintro e w3 ⟨rfl,tv3,hw⟩
 have HV3 := h_ (HV2.out.trans hw)
 have HF3 : Hid (Fr w0 w3) := h_ ((HWS.out.trans HV3.out).frame HS.out HFF.out)
 clear hw
 clear u2_0 u2_1 u2_2 u2_3
 have u3_0 := HV3.out.side HC_.out.1 hne1 hnr1
 have u3_1 := HV3.out.side HC_.out.2.1 hne1 hnr1
 have u3_2 := HV3.out.side HC_.out.2.2.1 hne1 hnr1
 have u3_3 := HV3.out.side HC_.out.2.2.2 hne1 hnr1
 have y0 := HF3.out.cell HNC1.out.op
 have y1 := HF3.out.cell HNC1.out.n
 have y2 := HF3.out.cell HNC1.out.s
 have y3 := HF3.out.cell HNC1.out.l
 have y4 := HF3.out.cell HNC1.out.a
 go_wp2_with fail
 refine (CS3.out _ _ HF3.out HV3.out.st).mono ?_
 rintro e w4 ⟨rfl,tv4,hw⟩
 have HV4 := h_ (HV3.out.trans hw)
 have HF4 : Hid (Fr w0 w4) := h_ ((HWS.out.trans HV4.out).frame HS.out HFF.out)
 clear hw
 clear u3_0 u3_1 u3_2 u3_3
 clear y0 y1 y2 y3 y4
 have u_0 := HV4.out.side HC_.out.1 hne1 hnr1
 have u_1 := HV4.out.side HC_.out.2.1 hne1 hnr1
 go_wp2_with fail
 first | go_end0 | refine bodyPost_ret (results_none rfl _ _ _) rfl ?_
 exact ⟨rfl,_,(HWS.out.trans HV4.out)⟩
theorem item_default (n c0 : Nd) (A0 : List ByteArray) (hop : n.op = 43) (hnl : n.l = [c0]) (hd0 : Wx 85 ar0 c0 A0) : Wx 85 ar0 n ([⟨#[100,101,102,97,117,108,116]⟩,⟨#[58]⟩] ++ A0) := by
 intro t
 refine ⟨pt_size_le t _,?_⟩
 intro w0 g w tv lv hov hnv hl hf hs hz
 show Calls prog 85 #[.pointer (some ⟨g,0,none⟩),ndV n lv] w _
 try simp only [pt_append] at hz ⊢
 obtain ⟨la,lc,rfl,hlc,_,_⟩ := hl.form
 rw [ndV_eq]
 have HFA := h_ (fa_ n w la lc)
 have HN := h_ (nn_ n w la lc)
 have hz2 : (pt (pt t [⟨#[100,101,102,97,117,108,116]⟩,⟨#[58]⟩]) A0).size ≤ 100000000 := hz
 have hz1 : (pt t [⟨#[100,101,102,97,117,108,116]⟩,⟨#[58]⟩]).size ≤ 100000000 := Nat.le_trans (pt_size_le _ _) hz2
 have hz0 : t.size ≤ 100000000 := Nat.le_trans (pt_size_le _ _) hz1
 obtain ⟨b,off,lv0,rfl,hc0,hl0,_⟩ := hl.at_ (i := 0) (t := c0) (by rw [hnl]; rfl)
 obtain ⟨a0,k0,rfl,_,_,_⟩ := hl0.form
 rw [show n.l.length = 1 from by rw [hnl]; rfl] at HN HFA hlc ⊢
 rw [hop] at HN HFA ⊢
 have CS0 := h_ (fun W c tv' (hc : c = W.heap.size) (h : Wt w0.heap.size g W tv' t) => put_2 w0.heap.size g W tv' t ⟨#[100,101,102,97,117,108,116]⟩ ⟨#[58]⟩ c hc h ⟨by decide,by decide⟩ ⟨by decide,by decide⟩ hz0)
 have CS1 := h_ (fun W tv' (h : Fr w0 W) (h2 : Wt w0.heap.size g W tv' (pt t [⟨#[100,101,102,97,117,108,116]⟩,⟨#[58]⟩])) => (hd0 (pt t [⟨#[100,101,102,97,117,108,116]⟩,⟨#[58]⟩])).2 w0 g W tv' _ hov hnv hl0 h h2 hz2)
 rw [ndV_eq] at CS1
 unfold ar0 at CS1
 simp only [Nat.zero_mul,Nat.add_zero] at hc0
 have HNC0 := h_ hc0
 have HFF := h_ hf
 have HS := h_ hs
 obtain ⟨hne1,hnr1⟩ := nr_ hs
 clear hov hnv hl hf hs hz hz0 hz1 hz2 hop hnl hd0 hl0 hc0
 obtain ⟨c_0,c_1,c_2,c_3,c_4⟩ := HN.out.cells
 have HWS := h_ (HS.out.step HFA.out)
 have HF0 : Hid (Fr w0 (w.alloc (.cells #[.int .i64 43,.int .i64 n.n,.string n.s,.slice (some ⟨b,off,none⟩) 1 lc,.int .i64 n.a] 32))) := h_ (HFF.out.trans HFA.out)
 have HV0 := h_ ((HS.out.fr HFA.out).refl)
 go_enter func85,ntmps85
 have HC_ := h_ (And.intro c_0 (And.intro c_1 (And.intro c_2 c_3)))
 go_wp2_with fail
 refine (CS0.out _ _ _ (by simp) HV0.out.st).mono ?_
 rintro e w1 ⟨rfl,tv1,hw⟩
 have HV1 := h_ (HV0.out.trans hw)
 have HF1 : Hid (Fr w0 w1) := h_ ((HWS.out.trans HV1.out).frame HS.out HFF.out)
 clear hw
 clear c_0 c_1 c_2 c_3 c_4
 have u1_0 := HV1.out.side HC_.out.1 hne1 hnr1
 have u1_1 := HV1.out.side HC_.out.2.1 hne1 hnr1
 have u1_2 := HV1.out.side HC_.out.2.2.1 hne1 hnr1
 have u1_3 := HV1.out.side HC_.out.2.2.2 hne1 hnr1
 have y0 := HF1.out.cell HNC0.out.op
 have y1 := HF1.out.cell HNC0.out.n
 have y2 := HF1.out.cell HNC0.out.s
 have y3 := HF1.out.cell HNC0.out.l
 have y4 := HF1.out.cell HNC0.out.a
 go_wp2_with fail
 refine (CS1.out _ _ HF1.out HV1.out.st).mono ?_
 rintro e w2 ⟨rfl,tv2,hw⟩
 have HV2 := h_ (HV1.out.trans hw)
 have HF2 : Hid (Fr w0 w2) := h_ ((HWS.out.trans HV2.out).frame HS.out HFF.out)
 clear hw
 clear u1_0 u1_1 u1_2 u1_3
 clear y0 y1 y2 y3 y4
 have u_0 := HV2.out.side HC_.out.1 hne1 hnr1
 have u_1 := HV2.out.side HC_.out.2.1 hne1 hnr1
 go_wp2_with fail
 first | go_end0 | refine bodyPost_ret (results_none rfl _ _ _) rfl ?_
 exact ⟨rfl,_,(HWS.out.trans HV2.out)⟩
theorem item_label (n c0 : Nd) (A0 : List ByteArray) (hop : n.op = 50) (hnl : n.l = [c0]) (hd0 : Wx 85 ar0 c0 A0) (hns : tkOk n.s) : Wx 85 ar0 n ([n.s,⟨#[58]⟩] ++ A0) := by
 intro t
 refine ⟨pt_size_le t _,?_⟩
 intro w0 g w tv lv hov hnv hl hf hs hz
 show Calls prog 85 #[.pointer (some ⟨g,0,none⟩),ndV n lv] w _
 try simp only [pt_append] at hz ⊢
 obtain ⟨la,lc,rfl,hlc,_,_⟩ := hl.form
 rw [ndV_eq]
 have HFA := h_ (fa_ n w la lc)
 have HN := h_ (nn_ n w la lc)
 have hz2 : (pt (pt t [n.s,⟨#[58]⟩]) A0).size ≤ 100000000 := hz
 have hz1 : (pt t [n.s,⟨#[58]⟩]).size ≤ 100000000 := Nat.le_trans (pt_size_le _ _) hz2
 have hz0 : t.size ≤ 100000000 := Nat.le_trans (pt_size_le _ _) hz1
 obtain ⟨b,off,lv0,rfl,hc0,hl0,_⟩ := hl.at_ (i := 0) (t := c0) (by rw [hnl]; rfl)
 obtain ⟨a0,k0,rfl,_,_,_⟩ := hl0.form
 rw [show n.l.length = 1 from by rw [hnl]; rfl] at HN HFA hlc ⊢
 rw [hop] at HN HFA ⊢
 have CS0 := h_ (fun W c tv' (hc : c = W.heap.size) (h : Wt w0.heap.size g W tv' t) => put_2 w0.heap.size g W tv' t n.s ⟨#[58]⟩ c hc h hns ⟨by decide,by decide⟩ hz0)
 have CS1 := h_ (fun W tv' (h : Fr w0 W) (h2 : Wt w0.heap.size g W tv' (pt t [n.s,⟨#[58]⟩])) => (hd0 (pt t [n.s,⟨#[58]⟩])).2 w0 g W tv' _ hov hnv hl0 h h2 hz2)
 rw [ndV_eq] at CS1
 unfold ar0 at CS1
 simp only [Nat.zero_mul,Nat.add_zero] at hc0
 have HNC0 := h_ hc0
 have HFF := h_ hf
 have HS := h_ hs
 obtain ⟨hne1,hnr1⟩ := nr_ hs
 clear hov hnv hl hf hs hz hz0 hz1 hz2 hop hnl hd0 hl0 hc0 hns
 obtain ⟨c_0,c_1,c_2,c_3,c_4⟩ := HN.out.cells
 have HWS := h_ (HS.out.step HFA.out)
 have HF0 : Hid (Fr w0 (w.alloc (.cells #[.int .i64 50,.int .i64 n.n,.string n.s,.slice (some ⟨b,off,none⟩) 1 lc,.int .i64 n.a] 32))) := h_ (HFF.out.trans HFA.out)
 have HV0 := h_ ((HS.out.fr HFA.out).refl)
 go_enter func85,ntmps85
 have HC_ := h_ (And.intro c_0 (And.intro c_1 (And.intro c_2 c_3)))
 go_wp2_with fail
 refine (CS0.out _ _ _ (by simp) HV0.out.st).mono ?_
 rintro e w1 ⟨rfl,tv1,hw⟩
 have HV1 := h_ (HV0.out.trans hw)
 have HF1 : Hid (Fr w0 w1) := h_ ((HWS.out.trans HV1.out).frame HS.out HFF.out)
 clear hw
 clear c_0 c_1 c_2 c_3 c_4
 have u1_0 := HV1.out.side HC_.out.1 hne1 hnr1
 have u1_1 := HV1.out.side HC_.out.2.1 hne1 hnr1
 have u1_2 := HV1.out.side HC_.out.2.2.1 hne1 hnr1
 have u1_3 := HV1.out.side HC_.out.2.2.2 hne1 hnr1
 have y0 := HF1.out.cell HNC0.out.op
 have y1 := HF1.out.cell HNC0.out.n
 have y2 := HF1.out.cell HNC0.out.s
 have y3 := HF1.out.cell HNC0.out.l
 have y4 := HF1.out.cell HNC0.out.a
 go_wp2_with fail
 refine (CS1.out _ _ HF1.out HV1.out.st).mono ?_
 rintro e w2 ⟨rfl,tv2,hw⟩
 have HV2 := h_ (HV1.out.trans hw)
 have HF2 : Hid (Fr w0 w2) := h_ ((HWS.out.trans HV2.out).frame HS.out HFF.out)
 clear hw
 clear u1_0 u1_1 u1_2 u1_3
 clear y0 y1 y2 y3 y4
 have u_0 := HV2.out.side HC_.out.1 hne1 hnr1
 have u_1 := HV2.out.side HC_.out.2.1 hne1 hnr1
 go_wp2_with fail
 first | go_end0 | refine bodyPost_ret (results_none rfl _ _ _) rfl ?_
 exact ⟨rfl,_,(HWS.out.trans HV2.out)⟩
theorem item_vec (n c0 : Nd) (A0 : List ByteArray) (hop : n.op = 55) (hnl : n.l = [c0]) (hd0 : Wx 167 ar0 c0 A0) (hns : tkOk n.s) : Wx 85 ar0 n ([⟨#[108,101,116]⟩,n.s,⟨#[61]⟩,⟨#[118,101,99]⟩] ++ A0) := by
 intro t
 refine ⟨pt_size_le t _,?_⟩
 intro w0 g w tv lv hov hnv hl hf hs hz
 show Calls prog 85 #[.pointer (some ⟨g,0,none⟩),ndV n lv] w _
 try simp only [pt_append] at hz ⊢
 obtain ⟨la,lc,rfl,hlc,_,_⟩ := hl.form
 rw [ndV_eq]
 have HFA := h_ (fa_ n w la lc)
 have HN := h_ (nn_ n w la lc)
 have hz2 : (pt (pt t [⟨#[108,101,116]⟩,n.s,⟨#[61]⟩,⟨#[118,101,99]⟩]) A0).size ≤ 100000000 := hz
 have hz1 : (pt t [⟨#[108,101,116]⟩,n.s,⟨#[61]⟩,⟨#[118,101,99]⟩]).size ≤ 100000000 := Nat.le_trans (pt_size_le _ _) hz2
 have hz0 : t.size ≤ 100000000 := Nat.le_trans (pt_size_le _ _) hz1
 obtain ⟨b,off,lv0,rfl,hc0,hl0,_⟩ := hl.at_ (i := 0) (t := c0) (by rw [hnl]; rfl)
 obtain ⟨a0,k0,rfl,_,_,_⟩ := hl0.form
 rw [show n.l.length = 1 from by rw [hnl]; rfl] at HN HFA hlc ⊢
 rw [hop] at HN HFA ⊢
 have CS0 := h_ (fun W c tv' (hc : c = W.heap.size) (h : Wt w0.heap.size g W tv' t) => put_4 w0.heap.size g W tv' t ⟨#[108,101,116]⟩ n.s ⟨#[61]⟩ ⟨#[118,101,99]⟩ c hc h ⟨by decide,by decide⟩ hns ⟨by decide,by decide⟩ ⟨by decide,by decide⟩ hz0)
 have CS1 := h_ (fun W tv' (h : Fr w0 W) (h2 : Wt w0.heap.size g W tv' (pt t [⟨#[108,101,116]⟩,n.s,⟨#[61]⟩,⟨#[118,101,99]⟩])) => (hd0 (pt t [⟨#[108,101,116]⟩,n.s,⟨#[61]⟩,⟨#[118,101,99]⟩])).2 w0 g W tv' _ hov hnv hl0 h h2 hz2)
 rw [ndV_eq] at CS1
 unfold ar0 at CS1
 simp only [Nat.zero_mul,Nat.add_zero] at hc0
 have HNC0 := h_ hc0
 have HFF := h_ hf
 have HS := h_ hs
 obtain ⟨hne1,hnr1⟩ := nr_ hs
 clear hov hnv hl hf hs hz hz0 hz1 hz2 hop hnl hd0 hl0 hc0 hns
 obtain ⟨c_0,c_1,c_2,c_3,c_4⟩ := HN.out.cells
 have HWS := h_ (HS.out.step HFA.out)
 have HF0 : Hid (Fr w0 (w.alloc (.cells #[.int .i64 55,.int .i64 n.n,.string n.s,.slice (some ⟨b,off,none⟩) 1 lc,.int .i64 n.a] 32))) := h_ (HFF.out.trans HFA.out)
 have HV0 := h_ ((HS.out.fr HFA.out).refl)
 go_enter func85,ntmps85
 have HC_ := h_ (And.intro c_0 (And.intro c_1 (And.intro c_2 c_3)))
 go_wp2_with fail
 refine (CS0.out _ _ _ (by simp) HV0.out.st).mono ?_
 rintro e w1 ⟨rfl,tv1,hw⟩
 have HV1 := h_ (HV0.out.trans hw)
 have HF1 : Hid (Fr w0 w1) := h_ ((HWS.out.trans HV1.out).frame HS.out HFF.out)
 clear hw
 clear c_0 c_1 c_2 c_3 c_4
 have u1_0 := HV1.out.side HC_.out.1 hne1 hnr1
 have u1_1 := HV1.out.side HC_.out.2.1 hne1 hnr1
 have u1_2 := HV1.out.side HC_.out.2.2.1 hne1 hnr1
 have u1_3 := HV1.out.side HC_.out.2.2.2 hne1 hnr1
 have y0 := HF1.out.cell HNC0.out.op
 have y1 := HF1.out.cell HNC0.out.n
 have y2 := HF1.out.cell HNC0.out.s
 have y3 := HF1.out.cell HNC0.out.l
 have y4 := HF1.out.cell HNC0.out.a
 go_wp2_with fail
 refine (CS1.out _ _ HF1.out HV1.out.st).mono ?_
 rintro e w2 ⟨rfl,tv2,hw⟩
 have HV2 := h_ (HV1.out.trans hw)
 have HF2 : Hid (Fr w0 w2) := h_ ((HWS.out.trans HV2.out).frame HS.out HFF.out)
 clear hw
 clear u1_0 u1_1 u1_2 u1_3
 clear y0 y1 y2 y3 y4
 have u_0 := HV2.out.side HC_.out.1 hne1 hnr1
 have u_1 := HV2.out.side HC_.out.2.1 hne1 hnr1
 go_wp2_with fail
 first | go_end0 | refine bodyPost_ret (results_none rfl _ _ _) rfl ?_
 exact ⟨rfl,_,(HWS.out.trans HV2.out)⟩
theorem rep_plain (n c0 : Nd) (A0 : List ByteArray) (hop : n.op = 37) (hnl : n.l = [c0]) (hd0 : Wx 85 ar0 c0 A0) : Wx 169 ar0 n (A0 ++ [⟨#[114,101,112,101,97,116]⟩]) := by
 intro t
 refine ⟨pt_size_le t _,?_⟩
 intro w0 g w tv lv hov hnv hl hf hs hz
 show Calls prog 169 #[.pointer (some ⟨g,0,none⟩),ndV n lv] w _
 try simp only [pt_append] at hz ⊢
 obtain ⟨la,lc,rfl,hlc,_,_⟩ := hl.form
 rw [ndV_eq]
 have HFA := h_ (fa_ n w la lc)
 have HN := h_ (nn_ n w la lc)
 have hz2 : (pt (pt t A0) [⟨#[114,101,112,101,97,116]⟩]).size ≤ 100000000 := hz
 have hz1 : (pt t A0).size ≤ 100000000 := Nat.le_trans (pt_size_le _ _) hz2
 have hz0 : t.size ≤ 100000000 := Nat.le_trans (pt_size_le _ _) hz1
 obtain ⟨b,off,lv0,rfl,hc0,hl0,_⟩ := hl.at_ (i := 0) (t := c0) (by rw [hnl]; rfl)
 obtain ⟨a0,k0,rfl,_,_,_⟩ := hl0.form
 rw [show n.l.length = 1 from by rw [hnl]; rfl] at HN HFA hlc ⊢
 rw [hop] at HN HFA ⊢
 have CS0 := h_ (fun W tv' (h : Fr w0 W) (h2 : Wt w0.heap.size g W tv' t) => (hd0 t).2 w0 g W tv' _ hov hnv hl0 h h2 hz1)
 rw [ndV_eq] at CS0
 unfold ar0 at CS0
 have CS1 := h_ (fun W c tv' (hc : c = W.heap.size) (h : Wt w0.heap.size g W tv' (pt t A0)) => put_1 w0.heap.size g W tv' (pt t A0) ⟨#[114,101,112,101,97,116]⟩ c hc h ⟨by decide,by decide⟩ hz1)
 simp only [Nat.zero_mul,Nat.add_zero] at hc0
 have HNC0 := h_ hc0
 have HFF := h_ hf
 have HS := h_ hs
 obtain ⟨hne1,hnr1⟩ := nr_ hs
 clear hov hnv hl hf hs hz hz0 hz1 hz2 hop hnl hd0 hl0 hc0
 obtain ⟨c_0,c_1,c_2,c_3,c_4⟩ := HN.out.cells
 have HWS := h_ (HS.out.step HFA.out)
 have HF0 : Hid (Fr w0 (w.alloc (.cells #[.int .i64 37,.int .i64 n.n,.string n.s,.slice (some ⟨b,off,none⟩) 1 lc,.int .i64 n.a] 32))) := h_ (HFF.out.trans HFA.out)
 have HV0 := h_ ((HS.out.fr HFA.out).refl)
 go_enter func169,ntmps169
 have HC_ := h_ (And.intro c_0 (And.intro c_1 (And.intro c_2 c_3)))
 have y0 := HF0.out.cell HNC0.out.op
 have y1 := HF0.out.cell HNC0.out.n
 have y2 := HF0.out.cell HNC0.out.s
 have y3 := HF0.out.cell HNC0.out.l
 have y4 := HF0.out.cell HNC0.out.a
 go_wp2_with fail
 refine (CS0.out _ _ HF0.out HV0.out.st).mono ?_
 rintro e w1 ⟨rfl,tv1,hw⟩
 have HV1 := h_ (HV0.out.trans hw)
 have HF1 : Hid (Fr w0 w1) := h_ ((HWS.out.trans HV1.out).frame HS.out HFF.out)
 clear hw
 clear c_0 c_1 c_2 c_3 c_4
 clear y0 y1 y2 y3 y4
 have u1_0 := HV1.out.side HC_.out.1 hne1 hnr1
 have u1_1 := HV1.out.side HC_.out.2.1 hne1 hnr1
 have u1_2 := HV1.out.side HC_.out.2.2.1 hne1 hnr1
 have u1_3 := HV1.out.side HC_.out.2.2.2 hne1 hnr1
 go_wp2_with fail
 refine (CS1.out _ _ _ (by simp) HV1.out.st).mono ?_
 rintro e w2 ⟨rfl,tv2,hw⟩
 have HV2 := h_ (HV1.out.trans hw)
 have HF2 : Hid (Fr w0 w2) := h_ ((HWS.out.trans HV2.out).frame HS.out HFF.out)
 clear hw
 clear u1_0 u1_1 u1_2 u1_3
 have u_0 := HV2.out.side HC_.out.1 hne1 hnr1
 have u_1 := HV2.out.side HC_.out.2.1 hne1 hnr1
 go_wp2_with fail
 first | go_end0 | refine bodyPost_ret (results_none rfl _ _ _) rfl ?_
 exact ⟨rfl,_,(HWS.out.trans HV2.out)⟩
theorem rep_wh (n c0 c1 : Nd) (A0 A1 : List ByteArray) (hop : n.op = 38) (hnl : n.l = [c0,c1]) (hd0 : Wx 85 ar0 c0 A0) (hd1 : Wx 167 ar0 c1 A1) : Wx 169 ar0 n (A0 ++ [⟨#[114,101,112,101,97,116,119,104,105,108,101]⟩] ++ A1) := by
 intro t
 refine ⟨pt_size_le t _,?_⟩
 intro w0 g w tv lv hov hnv hl hf hs hz
 show Calls prog 169 #[.pointer (some ⟨g,0,none⟩),ndV n lv] w _
 try simp only [pt_append] at hz ⊢
 obtain ⟨la,lc,rfl,hlc,_,_⟩ := hl.form
 rw [ndV_eq]
 have HFA := h_ (fa_ n w la lc)
 have HN := h_ (nn_ n w la lc)
 have hz3 : (pt (pt (pt t A0) [⟨#[114,101,112,101,97,116,119,104,105,108,101]⟩]) A1).size ≤ 100000000 := hz
 have hz2 : (pt (pt t A0) [⟨#[114,101,112,101,97,116,119,104,105,108,101]⟩]).size ≤ 100000000 := Nat.le_trans (pt_size_le _ _) hz3
 have hz1 : (pt t A0).size ≤ 100000000 := Nat.le_trans (pt_size_le _ _) hz2
 have hz0 : t.size ≤ 100000000 := Nat.le_trans (pt_size_le _ _) hz1
 obtain ⟨b,off,lv0,rfl,hc0,hl0,_⟩ := hl.at_ (i := 0) (t := c0) (by rw [hnl]; rfl)
 obtain ⟨a0,k0,rfl,_,_,_⟩ := hl0.form
 obtain ⟨b1,off1,lv1,e1,hc1,hl1,_⟩ := hl.at_ (i := 1) (t := c1) (by rw [hnl]; rfl)
 obtain ⟨rfl,rfl⟩ : b = b1 ∧ off = off1 := by simpa using e1
 obtain ⟨a1,k1,rfl,_,_,_⟩ := hl1.form
 rw [show n.l.length = 2 from by rw [hnl]; rfl] at HN HFA hlc ⊢
 rw [hop] at HN HFA ⊢
 have CS0 := h_ (fun W tv' (h : Fr w0 W) (h2 : Wt w0.heap.size g W tv' t) => (hd0 t).2 w0 g W tv' _ hov hnv hl0 h h2 hz1)
 rw [ndV_eq] at CS0
 unfold ar0 at CS0
 have CS1 := h_ (fun W c tv' (hc : c = W.heap.size) (h : Wt w0.heap.size g W tv' (pt t A0)) => put_1 w0.heap.size g W tv' (pt t A0) ⟨#[114,101,112,101,97,116,119,104,105,108,101]⟩ c hc h ⟨by decide,by decide⟩ hz1)
 have CS2 := h_ (fun W tv' (h : Fr w0 W) (h2 : Wt w0.heap.size g W tv' (pt (pt t A0) [⟨#[114,101,112,101,97,116,119,104,105,108,101]⟩])) => (hd1 (pt (pt t A0) [⟨#[114,101,112,101,97,116,119,104,105,108,101]⟩])).2 w0 g W tv' _ hov hnv hl1 h h2 hz3)
 rw [ndV_eq] at CS2
 unfold ar0 at CS2
 simp only [Nat.zero_mul,Nat.add_zero] at hc0
 have HNC0 := h_ hc0
 rw [Nat.one_mul] at hc1
 have HNC1 := h_ hc1
 have HFF := h_ hf
 have HS := h_ hs
 obtain ⟨hne1,hnr1⟩ := nr_ hs
 clear hov hnv hl hf hs hz hz0 hz1 hz2 hz3 hop hnl hd0 hd1 hl0 hc0 hl1 hc1 e1
 obtain ⟨c_0,c_1,c_2,c_3,c_4⟩ := HN.out.cells
 have HWS := h_ (HS.out.step HFA.out)
 have HF0 : Hid (Fr w0 (w.alloc (.cells #[.int .i64 38,.int .i64 n.n,.string n.s,.slice (some ⟨b,off,none⟩) 2 lc,.int .i64 n.a] 32))) := h_ (HFF.out.trans HFA.out)
 have HV0 := h_ ((HS.out.fr HFA.out).refl)
 go_enter func169,ntmps169
 have HC_ := h_ (And.intro c_0 (And.intro c_1 (And.intro c_2 c_3)))
 have y0 := HF0.out.cell HNC0.out.op
 have y1 := HF0.out.cell HNC0.out.n
 have y2 := HF0.out.cell HNC0.out.s
 have y3 := HF0.out.cell HNC0.out.l
 have y4 := HF0.out.cell HNC0.out.a
 go_wp2_with fail
 refine (CS0.out _ _ HF0.out HV0.out.st).mono ?_
 rintro e w1 ⟨rfl,tv1,hw⟩
 have HV1 := h_ (HV0.out.trans hw)
 have HF1 : Hid (Fr w0 w1) := h_ ((HWS.out.trans HV1.out).frame HS.out HFF.out)
 clear hw
 clear c_0 c_1 c_2 c_3 c_4
 clear y0 y1 y2 y3 y4
 have u1_0 := HV1.out.side HC_.out.1 hne1 hnr1
 have u1_1 := HV1.out.side HC_.out.2.1 hne1 hnr1
 have u1_2 := HV1.out.side HC_.out.2.2.1 hne1 hnr1
 have u1_3 := HV1.out.side HC_.out.2.2.2 hne1 hnr1
 go_wp2_with fail
 refine (CS1.out _ _ _ (by simp) HV1.out.st).mono ?_
 rintro e w2 ⟨rfl,tv2,hw⟩
 have HV2 := h_ (HV1.out.trans hw)
 have HF2 : Hid (Fr w0 w2) := h_ ((HWS.out.trans HV2.out).frame HS.out HFF.out)
 clear hw
 clear u1_0 u1_1 u1_2 u1_3
 have u2_0 := HV2.out.side HC_.out.1 hne1 hnr1
 have u2_1 := HV2.out.side HC_.out.2.1 hne1 hnr1
 have u2_2 := HV2.out.side HC_.out.2.2.1 hne1 hnr1
 have u2_3 := HV2.out.side HC_.out.2.2.2 hne1 hnr1
 have y0 := HF2.out.cell HNC1.out.op
 have y1 := HF2.out.cell HNC1.out.n
 have y2 := HF2.out.cell HNC1.out.s
 have y3 := HF2.out.cell HNC1.out.l
 have y4 := HF2.out.cell HNC1.out.a
 go_wp2_with fail
 refine (CS2.out _ _ HF2.out HV2.out.st).mono ?_
 rintro e w3 ⟨rfl,tv3,hw⟩
 have HV3 := h_ (HV2.out.trans hw)
 have HF3 : Hid (Fr w0 w3) := h_ ((HWS.out.trans HV3.out).frame HS.out HFF.out)
 clear hw
 clear u2_0 u2_1 u2_2 u2_3
 clear y0 y1 y2 y3 y4
 have u_0 := HV3.out.side HC_.out.1 hne1 hnr1
 have u_1 := HV3.out.side HC_.out.2.1 hne1 hnr1
 go_wp2_with fail
 first | go_end0 | refine bodyPost_ret (results_none rfl _ _ _) rfl ?_
 exact ⟨rfl,_,(HWS.out.trans HV3.out)⟩
theorem rep_un (n c0 c1 : Nd) (A0 A1 : List ByteArray) (hop : n.op = 39) (hnl : n.l = [c0,c1]) (hd0 : Wx 85 ar0 c0 A0) (hd1 : Wx 167 ar0 c1 A1) : Wx 169 ar0 n (A0 ++ [⟨#[114,101,112,101,97,116,117,110,116,105,108]⟩] ++ A1) := by
 intro t
 refine ⟨pt_size_le t _,?_⟩
 intro w0 g w tv lv hov hnv hl hf hs hz
 show Calls prog 169 #[.pointer (some ⟨g,0,none⟩),ndV n lv] w _
 try simp only [pt_append] at hz ⊢
 obtain ⟨la,lc,rfl,hlc,_,_⟩ := hl.form
 rw [ndV_eq]
 have HFA := h_ (fa_ n w la lc)
 have HN := h_ (nn_ n w la lc)
 have hz3 : (pt (pt (pt t A0) [⟨#[114,101,112,101,97,116,117,110,116,105,108]⟩]) A1).size ≤ 100000000 := hz
 have hz2 : (pt (pt t A0) [⟨#[114,101,112,101,97,116,117,110,116,105,108]⟩]).size ≤ 100000000 := Nat.le_trans (pt_size_le _ _) hz3
 have hz1 : (pt t A0).size ≤ 100000000 := Nat.le_trans (pt_size_le _ _) hz2
 have hz0 : t.size ≤ 100000000 := Nat.le_trans (pt_size_le _ _) hz1
 obtain ⟨b,off,lv0,rfl,hc0,hl0,_⟩ := hl.at_ (i := 0) (t := c0) (by rw [hnl]; rfl)
 obtain ⟨a0,k0,rfl,_,_,_⟩ := hl0.form
 obtain ⟨b1,off1,lv1,e1,hc1,hl1,_⟩ := hl.at_ (i := 1) (t := c1) (by rw [hnl]; rfl)
 obtain ⟨rfl,rfl⟩ : b = b1 ∧ off = off1 := by simpa using e1
 obtain ⟨a1,k1,rfl,_,_,_⟩ := hl1.form
 rw [show n.l.length = 2 from by rw [hnl]; rfl] at HN HFA hlc ⊢
 rw [hop] at HN HFA ⊢
 have CS0 := h_ (fun W tv' (h : Fr w0 W) (h2 : Wt w0.heap.size g W tv' t) => (hd0 t).2 w0 g W tv' _ hov hnv hl0 h h2 hz1)
 rw [ndV_eq] at CS0
 unfold ar0 at CS0
 have CS1 := h_ (fun W c tv' (hc : c = W.heap.size) (h : Wt w0.heap.size g W tv' (pt t A0)) => put_1 w0.heap.size g W tv' (pt t A0) ⟨#[114,101,112,101,97,116,117,110,116,105,108]⟩ c hc h ⟨by decide,by decide⟩ hz1)
 have CS2 := h_ (fun W tv' (h : Fr w0 W) (h2 : Wt w0.heap.size g W tv' (pt (pt t A0) [⟨#[114,101,112,101,97,116,117,110,116,105,108]⟩])) => (hd1 (pt (pt t A0) [⟨#[114,101,112,101,97,116,117,110,116,105,108]⟩])).2 w0 g W tv' _ hov hnv hl1 h h2 hz3)
 rw [ndV_eq] at CS2
 unfold ar0 at CS2
 simp only [Nat.zero_mul,Nat.add_zero] at hc0
 have HNC0 := h_ hc0
 rw [Nat.one_mul] at hc1
 have HNC1 := h_ hc1
 have HFF := h_ hf
 have HS := h_ hs
 obtain ⟨hne1,hnr1⟩ := nr_ hs
 clear hov hnv hl hf hs hz hz0 hz1 hz2 hz3 hop hnl hd0 hd1 hl0 hc0 hl1 hc1 e1
 obtain ⟨c_0,c_1,c_2,c_3,c_4⟩ := HN.out.cells
 have HWS := h_ (HS.out.step HFA.out)
 have HF0 : Hid (Fr w0 (w.alloc (.cells #[.int .i64 39,.int .i64 n.n,.string n.s,.slice (some ⟨b,off,none⟩) 2 lc,.int .i64 n.a] 32))) := h_ (HFF.out.trans HFA.out)
 have HV0 := h_ ((HS.out.fr HFA.out).refl)
 go_enter func169,ntmps169
 have HC_ := h_ (And.intro c_0 (And.intro c_1 (And.intro c_2 c_3)))
 have y0 := HF0.out.cell HNC0.out.op
 have y1 := HF0.out.cell HNC0.out.n
 have y2 := HF0.out.cell HNC0.out.s
 have y3 := HF0.out.cell HNC0.out.l
 have y4 := HF0.out.cell HNC0.out.a
 go_wp2_with fail
 refine (CS0.out _ _ HF0.out HV0.out.st).mono ?_
 rintro e w1 ⟨rfl,tv1,hw⟩
 have HV1 := h_ (HV0.out.trans hw)
 have HF1 : Hid (Fr w0 w1) := h_ ((HWS.out.trans HV1.out).frame HS.out HFF.out)
 clear hw
 clear c_0 c_1 c_2 c_3 c_4
 clear y0 y1 y2 y3 y4
 have u1_0 := HV1.out.side HC_.out.1 hne1 hnr1
 have u1_1 := HV1.out.side HC_.out.2.1 hne1 hnr1
 have u1_2 := HV1.out.side HC_.out.2.2.1 hne1 hnr1
 have u1_3 := HV1.out.side HC_.out.2.2.2 hne1 hnr1
 go_wp2_with fail
 refine (CS1.out _ _ _ (by simp) HV1.out.st).mono ?_
 rintro e w2 ⟨rfl,tv2,hw⟩
 have HV2 := h_ (HV1.out.trans hw)
 have HF2 : Hid (Fr w0 w2) := h_ ((HWS.out.trans HV2.out).frame HS.out HFF.out)
 clear hw
 clear u1_0 u1_1 u1_2 u1_3
 have u2_0 := HV2.out.side HC_.out.1 hne1 hnr1
 have u2_1 := HV2.out.side HC_.out.2.1 hne1 hnr1
 have u2_2 := HV2.out.side HC_.out.2.2.1 hne1 hnr1
 have u2_3 := HV2.out.side HC_.out.2.2.2 hne1 hnr1
 have y0 := HF2.out.cell HNC1.out.op
 have y1 := HF2.out.cell HNC1.out.n
 have y2 := HF2.out.cell HNC1.out.s
 have y3 := HF2.out.cell HNC1.out.l
 have y4 := HF2.out.cell HNC1.out.a
 go_wp2_with fail
 refine (CS2.out _ _ HF2.out HV2.out.st).mono ?_
 rintro e w3 ⟨rfl,tv3,hw⟩
 have HV3 := h_ (HV2.out.trans hw)
 have HF3 : Hid (Fr w0 w3) := h_ ((HWS.out.trans HV3.out).frame HS.out HFF.out)
 clear hw
 clear u2_0 u2_1 u2_2 u2_3
 clear y0 y1 y2 y3 y4
 have u_0 := HV3.out.side HC_.out.1 hne1 hnr1
 have u_1 := HV3.out.side HC_.out.2.1 hne1 hnr1
 go_wp2_with fail
 first | go_end0 | refine bodyPost_ret (results_none rfl _ _ _) rfl ?_
 exact ⟨rfl,_,(HWS.out.trans HV3.out)⟩
theorem count_0 (n c0 c1 c2 : Nd) (A0 A1 A2 : List ByteArray) (hnv1 : n.n = 0) (hnl : n.l = [c0,c1,c2]) (hd0 : Wx 167 ar0 c0 A0) (hd1 : Wx 167 ar0 c1 A1) (hd2 : Wx 85 ar0 c2 A2) (hns : tkOk n.s) : Wx 168 ar0 n ([⟨#[102,111,114]⟩,n.s,⟨#[61]⟩] ++ A0 ++ [⟨#[116,111]⟩] ++ A1 ++ [⟨#[100,111]⟩] ++ A2) := by
 intro t
 refine ⟨pt_size_le t _,?_⟩
 intro w0 g w tv lv hov hnv hl hf hs hz
 show Calls prog 168 #[.pointer (some ⟨g,0,none⟩),ndV n lv] w _
 try simp only [pt_append] at hz ⊢
 obtain ⟨la,lc,rfl,hlc,_,_⟩ := hl.form
 rw [ndV_eq]
 have HFA := h_ (fa_ n w la lc)
 have HN := h_ (nn_ n w la lc)
 have hz6 : (pt (pt (pt (pt (pt (pt t [⟨#[102,111,114]⟩,n.s,⟨#[61]⟩]) A0) [⟨#[116,111]⟩]) A1) [⟨#[100,111]⟩]) A2).size ≤ 100000000 := hz
 have hz5 : (pt (pt (pt (pt (pt t [⟨#[102,111,114]⟩,n.s,⟨#[61]⟩]) A0) [⟨#[116,111]⟩]) A1) [⟨#[100,111]⟩]).size ≤ 100000000 := Nat.le_trans (pt_size_le _ _) hz6
 have hz4 : (pt (pt (pt (pt t [⟨#[102,111,114]⟩,n.s,⟨#[61]⟩]) A0) [⟨#[116,111]⟩]) A1).size ≤ 100000000 := Nat.le_trans (pt_size_le _ _) hz5
 have hz3 : (pt (pt (pt t [⟨#[102,111,114]⟩,n.s,⟨#[61]⟩]) A0) [⟨#[116,111]⟩]).size ≤ 100000000 := Nat.le_trans (pt_size_le _ _) hz4
 have hz2 : (pt (pt t [⟨#[102,111,114]⟩,n.s,⟨#[61]⟩]) A0).size ≤ 100000000 := Nat.le_trans (pt_size_le _ _) hz3
 have hz1 : (pt t [⟨#[102,111,114]⟩,n.s,⟨#[61]⟩]).size ≤ 100000000 := Nat.le_trans (pt_size_le _ _) hz2
 have hz0 : t.size ≤ 100000000 := Nat.le_trans (pt_size_le _ _) hz1
 obtain ⟨b,off,lv0,rfl,hc0,hl0,_⟩ := hl.at_ (i := 0) (t := c0) (by rw [hnl]; rfl)
 obtain ⟨a0,k0,rfl,_,_,_⟩ := hl0.form
 obtain ⟨b1,off1,lv1,e1,hc1,hl1,_⟩ := hl.at_ (i := 1) (t := c1) (by rw [hnl]; rfl)
 obtain ⟨rfl,rfl⟩ : b = b1 ∧ off = off1 := by simpa using e1
 obtain ⟨a1,k1,rfl,_,_,_⟩ := hl1.form
 obtain ⟨b2,off2,lv2,e2,hc2,hl2,_⟩ := hl.at_ (i := 2) (t := c2) (by rw [hnl]; rfl)
 obtain ⟨rfl,rfl⟩ : b = b2 ∧ off = off2 := by simpa using e2
 obtain ⟨a2,k2,rfl,_,_,_⟩ := hl2.form
 rw [show n.l.length = 3 from by rw [hnl]; rfl] at HN HFA hlc ⊢
 rw [hnv1] at HN HFA ⊢
 have CS0 := h_ (fun W c tv' (hc : c = W.heap.size) (h : Wt w0.heap.size g W tv' t) => put_3 w0.heap.size g W tv' t ⟨#[102,111,114]⟩ n.s ⟨#[61]⟩ c hc h ⟨by decide,by decide⟩ hns ⟨by decide,by decide⟩ hz0)
 have CS1 := h_ (fun W tv' (h : Fr w0 W) (h2 : Wt w0.heap.size g W tv' (pt t [⟨#[102,111,114]⟩,n.s,⟨#[61]⟩])) => (hd0 (pt t [⟨#[102,111,114]⟩,n.s,⟨#[61]⟩])).2 w0 g W tv' _ hov hnv hl0 h h2 hz2)
 rw [ndV_eq] at CS1
 unfold ar0 at CS1
 have CS2 := h_ (fun W c tv' (hc : c = W.heap.size) (h : Wt w0.heap.size g W tv' (pt (pt t [⟨#[102,111,114]⟩,n.s,⟨#[61]⟩]) A0)) => put_1 w0.heap.size g W tv' (pt (pt t [⟨#[102,111,114]⟩,n.s,⟨#[61]⟩]) A0) ⟨#[116,111]⟩ c hc h ⟨by decide,by decide⟩ hz2)
 have CS3 := h_ (fun W tv' (h : Fr w0 W) (h2 : Wt w0.heap.size g W tv' (pt (pt (pt t [⟨#[102,111,114]⟩,n.s,⟨#[61]⟩]) A0) [⟨#[116,111]⟩])) => (hd1 (pt (pt (pt t [⟨#[102,111,114]⟩,n.s,⟨#[61]⟩]) A0) [⟨#[116,111]⟩])).2 w0 g W tv' _ hov hnv hl1 h h2 hz4)
 rw [ndV_eq] at CS3
 unfold ar0 at CS3
 have CS4 := h_ (fun W c tv' (hc : c = W.heap.size) (h : Wt w0.heap.size g W tv' (pt (pt (pt (pt t [⟨#[102,111,114]⟩,n.s,⟨#[61]⟩]) A0) [⟨#[116,111]⟩]) A1)) => put_1 w0.heap.size g W tv' (pt (pt (pt (pt t [⟨#[102,111,114]⟩,n.s,⟨#[61]⟩]) A0) [⟨#[116,111]⟩]) A1) ⟨#[100,111]⟩ c hc h ⟨by decide,by decide⟩ hz4)
 have CS5 := h_ (fun W tv' (h : Fr w0 W) (h2 : Wt w0.heap.size g W tv' (pt (pt (pt (pt (pt t [⟨#[102,111,114]⟩,n.s,⟨#[61]⟩]) A0) [⟨#[116,111]⟩]) A1) [⟨#[100,111]⟩])) => (hd2 (pt (pt (pt (pt (pt t [⟨#[102,111,114]⟩,n.s,⟨#[61]⟩]) A0) [⟨#[116,111]⟩]) A1) [⟨#[100,111]⟩])).2 w0 g W tv' _ hov hnv hl2 h h2 hz6)
 rw [ndV_eq] at CS5
 unfold ar0 at CS5
 simp only [Nat.zero_mul,Nat.add_zero] at hc0
 have HNC0 := h_ hc0
 rw [Nat.one_mul] at hc1
 have HNC1 := h_ hc1
 rw [show 2 * 5 = 10 from rfl] at hc2
 have HNC2 := h_ hc2
 have HFF := h_ hf
 have HS := h_ hs
 obtain ⟨hne1,hnr1⟩ := nr_ hs
 clear hov hnv hl hf hs hz hz0 hz1 hz2 hz3 hz4 hz5 hz6 hnv1 hnl hd0 hd1 hd2 hl0 hc0 hl1 hc1 e1 hl2 hc2 e2 hns
 obtain ⟨c_0,c_1,c_2,c_3,c_4⟩ := HN.out.cells
 have HWS := h_ (HS.out.step HFA.out)
 have HF0 : Hid (Fr w0 (w.alloc (.cells #[.int .i64 n.op,.int .i64 0,.string n.s,.slice (some ⟨b,off,none⟩) 3 lc,.int .i64 n.a] 32))) := h_ (HFF.out.trans HFA.out)
 have HV0 := h_ ((HS.out.fr HFA.out).refl)
 go_enter func168,ntmps168
 have HC_ := h_ (And.intro c_0 (And.intro c_1 (And.intro c_2 c_3)))
 go_wp2_with fail
 refine (CS0.out _ _ _ (by simp) HV0.out.st).mono ?_
 rintro e w1 ⟨rfl,tv1,hw⟩
 have HV1 := h_ (HV0.out.trans hw)
 have HF1 : Hid (Fr w0 w1) := h_ ((HWS.out.trans HV1.out).frame HS.out HFF.out)
 clear hw
 clear c_0 c_1 c_2 c_3 c_4
 have u1_0 := HV1.out.side HC_.out.1 hne1 hnr1
 have u1_1 := HV1.out.side HC_.out.2.1 hne1 hnr1
 have u1_2 := HV1.out.side HC_.out.2.2.1 hne1 hnr1
 have u1_3 := HV1.out.side HC_.out.2.2.2 hne1 hnr1
 have y0 := HF1.out.cell HNC0.out.op
 have y1 := HF1.out.cell HNC0.out.n
 have y2 := HF1.out.cell HNC0.out.s
 have y3 := HF1.out.cell HNC0.out.l
 have y4 := HF1.out.cell HNC0.out.a
 go_wp2_with fail
 refine (CS1.out _ _ HF1.out HV1.out.st).mono ?_
 rintro e w2 ⟨rfl,tv2,hw⟩
 have HV2 := h_ (HV1.out.trans hw)
 have HF2 : Hid (Fr w0 w2) := h_ ((HWS.out.trans HV2.out).frame HS.out HFF.out)
 clear hw
 clear u1_0 u1_1 u1_2 u1_3
 clear y0 y1 y2 y3 y4
 have u2_0 := HV2.out.side HC_.out.1 hne1 hnr1
 have u2_1 := HV2.out.side HC_.out.2.1 hne1 hnr1
 have u2_2 := HV2.out.side HC_.out.2.2.1 hne1 hnr1
 have u2_3 := HV2.out.side HC_.out.2.2.2 hne1 hnr1
 go_wp2_with fail
 refine (CS2.out _ _ _ (by simp) HV2.out.st).mono ?_
 rintro e w3 ⟨rfl,tv3,hw⟩
 have HV3 := h_ (HV2.out.trans hw)
 have HF3 : Hid (Fr w0 w3) := h_ ((HWS.out.trans HV3.out).frame HS.out HFF.out)
 clear hw
 clear u2_0 u2_1 u2_2 u2_3
 have u3_0 := HV3.out.side HC_.out.1 hne1 hnr1
 have u3_1 := HV3.out.side HC_.out.2.1 hne1 hnr1
 have u3_2 := HV3.out.side HC_.out.2.2.1 hne1 hnr1
 have u3_3 := HV3.out.side HC_.out.2.2.2 hne1 hnr1
 have y0 := HF3.out.cell HNC1.out.op
 have y1 := HF3.out.cell HNC1.out.n
 have y2 := HF3.out.cell HNC1.out.s
 have y3 := HF3.out.cell HNC1.out.l
 have y4 := HF3.out.cell HNC1.out.a
 go_wp2_with fail
 refine (CS3.out _ _ HF3.out HV3.out.st).mono ?_
 rintro e w4 ⟨rfl,tv4,hw⟩
 have HV4 := h_ (HV3.out.trans hw)
 have HF4 : Hid (Fr w0 w4) := h_ ((HWS.out.trans HV4.out).frame HS.out HFF.out)
 clear hw
 clear u3_0 u3_1 u3_2 u3_3
 clear y0 y1 y2 y3 y4
 have u4_0 := HV4.out.side HC_.out.1 hne1 hnr1
 have u4_1 := HV4.out.side HC_.out.2.1 hne1 hnr1
 have u4_2 := HV4.out.side HC_.out.2.2.1 hne1 hnr1
 have u4_3 := HV4.out.side HC_.out.2.2.2 hne1 hnr1
 go_wp2_with fail
 refine (CS4.out _ _ _ (by simp) HV4.out.st).mono ?_
 rintro e w5 ⟨rfl,tv5,hw⟩
 have HV5 := h_ (HV4.out.trans hw)
 have HF5 : Hid (Fr w0 w5) := h_ ((HWS.out.trans HV5.out).frame HS.out HFF.out)
 clear hw
 clear u4_0 u4_1 u4_2 u4_3
 have u5_0 := HV5.out.side HC_.out.1 hne1 hnr1
 have u5_1 := HV5.out.side HC_.out.2.1 hne1 hnr1
 have u5_2 := HV5.out.side HC_.out.2.2.1 hne1 hnr1
 have u5_3 := HV5.out.side HC_.out.2.2.2 hne1 hnr1
 have y0 := HF5.out.cell HNC2.out.op
 have y1 := HF5.out.cell HNC2.out.n
 have y2 := HF5.out.cell HNC2.out.s
 have y3 := HF5.out.cell HNC2.out.l
 have y4 := HF5.out.cell HNC2.out.a
 go_wp2_with fail
 refine (CS5.out _ _ HF5.out HV5.out.st).mono ?_
 rintro e w6 ⟨rfl,tv6,hw⟩
 have HV6 := h_ (HV5.out.trans hw)
 have HF6 : Hid (Fr w0 w6) := h_ ((HWS.out.trans HV6.out).frame HS.out HFF.out)
 clear hw
 clear u5_0 u5_1 u5_2 u5_3
 clear y0 y1 y2 y3 y4
 have u_0 := HV6.out.side HC_.out.1 hne1 hnr1
 have u_1 := HV6.out.side HC_.out.2.1 hne1 hnr1
 go_wp2_with fail
 first | go_end0 | refine bodyPost_ret (results_none rfl _ _ _) rfl ?_
 exact ⟨rfl,_,(HWS.out.trans HV6.out)⟩
theorem count_1 (n c0 c1 c2 c3 : Nd) (A0 A1 A2 A3 : List ByteArray) (hnv1 : n.n = 1) (hnl : n.l = [c0,c1,c2,c3]) (hd0 : Wx 167 ar0 c0 A0) (hd1 : Wx 167 ar0 c1 A1) (hd2 : Wx 167 ar0 c2 A2) (hd3 : Wx 85 ar0 c3 A3) (hns : tkOk n.s) : Wx 168 ar0 n ([⟨#[102,111,114]⟩,n.s,⟨#[61]⟩] ++ A0 ++ [⟨#[116,111]⟩] ++ A1 ++ [⟨#[98,121]⟩] ++ A2 ++ [⟨#[100,111]⟩] ++ A3) := by
 intro t
 refine ⟨pt_size_le t _,?_⟩
 intro w0 g w tv lv hov hnv hl hf hs hz
 show Calls prog 168 #[.pointer (some ⟨g,0,none⟩),ndV n lv] w _
 try simp only [pt_append] at hz ⊢
 obtain ⟨la,lc,rfl,hlc,_,_⟩ := hl.form
 rw [ndV_eq]
 have HFA := h_ (fa_ n w la lc)
 have HN := h_ (nn_ n w la lc)
 have hz8 : (pt (pt (pt (pt (pt (pt (pt (pt t [⟨#[102,111,114]⟩,n.s,⟨#[61]⟩]) A0) [⟨#[116,111]⟩]) A1) [⟨#[98,121]⟩]) A2) [⟨#[100,111]⟩]) A3).size ≤ 100000000 := hz
 have hz7 : (pt (pt (pt (pt (pt (pt (pt t [⟨#[102,111,114]⟩,n.s,⟨#[61]⟩]) A0) [⟨#[116,111]⟩]) A1) [⟨#[98,121]⟩]) A2) [⟨#[100,111]⟩]).size ≤ 100000000 := Nat.le_trans (pt_size_le _ _) hz8
 have hz6 : (pt (pt (pt (pt (pt (pt t [⟨#[102,111,114]⟩,n.s,⟨#[61]⟩]) A0) [⟨#[116,111]⟩]) A1) [⟨#[98,121]⟩]) A2).size ≤ 100000000 := Nat.le_trans (pt_size_le _ _) hz7
 have hz5 : (pt (pt (pt (pt (pt t [⟨#[102,111,114]⟩,n.s,⟨#[61]⟩]) A0) [⟨#[116,111]⟩]) A1) [⟨#[98,121]⟩]).size ≤ 100000000 := Nat.le_trans (pt_size_le _ _) hz6
 have hz4 : (pt (pt (pt (pt t [⟨#[102,111,114]⟩,n.s,⟨#[61]⟩]) A0) [⟨#[116,111]⟩]) A1).size ≤ 100000000 := Nat.le_trans (pt_size_le _ _) hz5
 have hz3 : (pt (pt (pt t [⟨#[102,111,114]⟩,n.s,⟨#[61]⟩]) A0) [⟨#[116,111]⟩]).size ≤ 100000000 := Nat.le_trans (pt_size_le _ _) hz4
 have hz2 : (pt (pt t [⟨#[102,111,114]⟩,n.s,⟨#[61]⟩]) A0).size ≤ 100000000 := Nat.le_trans (pt_size_le _ _) hz3
 have hz1 : (pt t [⟨#[102,111,114]⟩,n.s,⟨#[61]⟩]).size ≤ 100000000 := Nat.le_trans (pt_size_le _ _) hz2
 have hz0 : t.size ≤ 100000000 := Nat.le_trans (pt_size_le _ _) hz1
 obtain ⟨b,off,lv0,rfl,hc0,hl0,_⟩ := hl.at_ (i := 0) (t := c0) (by rw [hnl]; rfl)
 obtain ⟨a0,k0,rfl,_,_,_⟩ := hl0.form
 obtain ⟨b1,off1,lv1,e1,hc1,hl1,_⟩ := hl.at_ (i := 1) (t := c1) (by rw [hnl]; rfl)
 obtain ⟨rfl,rfl⟩ : b = b1 ∧ off = off1 := by simpa using e1
 obtain ⟨a1,k1,rfl,_,_,_⟩ := hl1.form
 obtain ⟨b2,off2,lv2,e2,hc2,hl2,_⟩ := hl.at_ (i := 2) (t := c2) (by rw [hnl]; rfl)
 obtain ⟨rfl,rfl⟩ : b = b2 ∧ off = off2 := by simpa using e2
 obtain ⟨a2,k2,rfl,_,_,_⟩ := hl2.form
 obtain ⟨b3,off3,lv3,e3,hc3,hl3,_⟩ := hl.at_ (i := 3) (t := c3) (by rw [hnl]; rfl)
 obtain ⟨rfl,rfl⟩ : b = b3 ∧ off = off3 := by simpa using e3
 obtain ⟨a3,k3,rfl,_,_,_⟩ := hl3.form
 rw [show n.l.length = 4 from by rw [hnl]; rfl] at HN HFA hlc ⊢
 rw [hnv1] at HN HFA ⊢
 have CS0 := h_ (fun W c tv' (hc : c = W.heap.size) (h : Wt w0.heap.size g W tv' t) => put_3 w0.heap.size g W tv' t ⟨#[102,111,114]⟩ n.s ⟨#[61]⟩ c hc h ⟨by decide,by decide⟩ hns ⟨by decide,by decide⟩ hz0)
 have CS1 := h_ (fun W tv' (h : Fr w0 W) (h2 : Wt w0.heap.size g W tv' (pt t [⟨#[102,111,114]⟩,n.s,⟨#[61]⟩])) => (hd0 (pt t [⟨#[102,111,114]⟩,n.s,⟨#[61]⟩])).2 w0 g W tv' _ hov hnv hl0 h h2 hz2)
 rw [ndV_eq] at CS1
 unfold ar0 at CS1
 have CS2 := h_ (fun W c tv' (hc : c = W.heap.size) (h : Wt w0.heap.size g W tv' (pt (pt t [⟨#[102,111,114]⟩,n.s,⟨#[61]⟩]) A0)) => put_1 w0.heap.size g W tv' (pt (pt t [⟨#[102,111,114]⟩,n.s,⟨#[61]⟩]) A0) ⟨#[116,111]⟩ c hc h ⟨by decide,by decide⟩ hz2)
 have CS3 := h_ (fun W tv' (h : Fr w0 W) (h2 : Wt w0.heap.size g W tv' (pt (pt (pt t [⟨#[102,111,114]⟩,n.s,⟨#[61]⟩]) A0) [⟨#[116,111]⟩])) => (hd1 (pt (pt (pt t [⟨#[102,111,114]⟩,n.s,⟨#[61]⟩]) A0) [⟨#[116,111]⟩])).2 w0 g W tv' _ hov hnv hl1 h h2 hz4)
 rw [ndV_eq] at CS3
 unfold ar0 at CS3
 have CS4 := h_ (fun W c tv' (hc : c = W.heap.size) (h : Wt w0.heap.size g W tv' (pt (pt (pt (pt t [⟨#[102,111,114]⟩,n.s,⟨#[61]⟩]) A0) [⟨#[116,111]⟩]) A1)) => put_1 w0.heap.size g W tv' (pt (pt (pt (pt t [⟨#[102,111,114]⟩,n.s,⟨#[61]⟩]) A0) [⟨#[116,111]⟩]) A1) ⟨#[98,121]⟩ c hc h ⟨by decide,by decide⟩ hz4)
 have CS5 := h_ (fun W tv' (h : Fr w0 W) (h2 : Wt w0.heap.size g W tv' (pt (pt (pt (pt (pt t [⟨#[102,111,114]⟩,n.s,⟨#[61]⟩]) A0) [⟨#[116,111]⟩]) A1) [⟨#[98,121]⟩])) => (hd2 (pt (pt (pt (pt (pt t [⟨#[102,111,114]⟩,n.s,⟨#[61]⟩]) A0) [⟨#[116,111]⟩]) A1) [⟨#[98,121]⟩])).2 w0 g W tv' _ hov hnv hl2 h h2 hz6)
 rw [ndV_eq] at CS5
 unfold ar0 at CS5
 have CS6 := h_ (fun W c tv' (hc : c = W.heap.size) (h : Wt w0.heap.size g W tv' (pt (pt (pt (pt (pt (pt t [⟨#[102,111,114]⟩,n.s,⟨#[61]⟩]) A0) [⟨#[116,111]⟩]) A1) [⟨#[98,121]⟩]) A2)) => put_1 w0.heap.size g W tv' (pt (pt (pt (pt (pt (pt t [⟨#[102,111,114]⟩,n.s,⟨#[61]⟩]) A0) [⟨#[116,111]⟩]) A1) [⟨#[98,121]⟩]) A2) ⟨#[100,111]⟩ c hc h ⟨by decide,by decide⟩ hz6)
 have CS7 := h_ (fun W tv' (h : Fr w0 W) (h2 : Wt w0.heap.size g W tv' (pt (pt (pt (pt (pt (pt (pt t [⟨#[102,111,114]⟩,n.s,⟨#[61]⟩]) A0) [⟨#[116,111]⟩]) A1) [⟨#[98,121]⟩]) A2) [⟨#[100,111]⟩])) => (hd3 (pt (pt (pt (pt (pt (pt (pt t [⟨#[102,111,114]⟩,n.s,⟨#[61]⟩]) A0) [⟨#[116,111]⟩]) A1) [⟨#[98,121]⟩]) A2) [⟨#[100,111]⟩])).2 w0 g W tv' _ hov hnv hl3 h h2 hz8)
 rw [ndV_eq] at CS7
 unfold ar0 at CS7
 simp only [Nat.zero_mul,Nat.add_zero] at hc0
 have HNC0 := h_ hc0
 rw [Nat.one_mul] at hc1
 have HNC1 := h_ hc1
 rw [show 2 * 5 = 10 from rfl] at hc2
 have HNC2 := h_ hc2
 rw [show 3 * 5 = 15 from rfl] at hc3
 have HNC3 := h_ hc3
 have HFF := h_ hf
 have HS := h_ hs
 obtain ⟨hne1,hnr1⟩ := nr_ hs
 clear hov hnv hl hf hs hz hz0 hz1 hz2 hz3 hz4 hz5 hz6 hz7 hz8 hnv1 hnl hd0 hd1 hd2 hd3 hl0 hc0 hl1 hc1 e1 hl2 hc2 e2 hl3 hc3 e3 hns
 obtain ⟨c_0,c_1,c_2,c_3,c_4⟩ := HN.out.cells
 have HWS := h_ (HS.out.step HFA.out)
 have HF0 : Hid (Fr w0 (w.alloc (.cells #[.int .i64 n.op,.int .i64 1,.string n.s,.slice (some ⟨b,off,none⟩) 4 lc,.int .i64 n.a] 32))) := h_ (HFF.out.trans HFA.out)
 have HV0 := h_ ((HS.out.fr HFA.out).refl)
 go_enter func168,ntmps168
 have HC_ := h_ (And.intro c_0 (And.intro c_1 (And.intro c_2 c_3)))
 go_wp2_with fail
 refine (CS0.out _ _ _ (by simp) HV0.out.st).mono ?_
 rintro e w1 ⟨rfl,tv1,hw⟩
 have HV1 := h_ (HV0.out.trans hw)
 have HF1 : Hid (Fr w0 w1) := h_ ((HWS.out.trans HV1.out).frame HS.out HFF.out)
 clear hw
 clear c_0 c_1 c_2 c_3 c_4
 have u1_0 := HV1.out.side HC_.out.1 hne1 hnr1
 have u1_1 := HV1.out.side HC_.out.2.1 hne1 hnr1
 have u1_2 := HV1.out.side HC_.out.2.2.1 hne1 hnr1
 have u1_3 := HV1.out.side HC_.out.2.2.2 hne1 hnr1
 have y0 := HF1.out.cell HNC0.out.op
 have y1 := HF1.out.cell HNC0.out.n
 have y2 := HF1.out.cell HNC0.out.s
 have y3 := HF1.out.cell HNC0.out.l
 have y4 := HF1.out.cell HNC0.out.a
 go_wp2_with fail
 refine (CS1.out _ _ HF1.out HV1.out.st).mono ?_
 rintro e w2 ⟨rfl,tv2,hw⟩
 have HV2 := h_ (HV1.out.trans hw)
 have HF2 : Hid (Fr w0 w2) := h_ ((HWS.out.trans HV2.out).frame HS.out HFF.out)
 clear hw
 clear u1_0 u1_1 u1_2 u1_3
 clear y0 y1 y2 y3 y4
 have u2_0 := HV2.out.side HC_.out.1 hne1 hnr1
 have u2_1 := HV2.out.side HC_.out.2.1 hne1 hnr1
 have u2_2 := HV2.out.side HC_.out.2.2.1 hne1 hnr1
 have u2_3 := HV2.out.side HC_.out.2.2.2 hne1 hnr1
 go_wp2_with fail
 refine (CS2.out _ _ _ (by simp) HV2.out.st).mono ?_
 rintro e w3 ⟨rfl,tv3,hw⟩
 have HV3 := h_ (HV2.out.trans hw)
 have HF3 : Hid (Fr w0 w3) := h_ ((HWS.out.trans HV3.out).frame HS.out HFF.out)
 clear hw
 clear u2_0 u2_1 u2_2 u2_3
 have u3_0 := HV3.out.side HC_.out.1 hne1 hnr1
 have u3_1 := HV3.out.side HC_.out.2.1 hne1 hnr1
 have u3_2 := HV3.out.side HC_.out.2.2.1 hne1 hnr1
 have u3_3 := HV3.out.side HC_.out.2.2.2 hne1 hnr1
 have y0 := HF3.out.cell HNC1.out.op
 have y1 := HF3.out.cell HNC1.out.n
 have y2 := HF3.out.cell HNC1.out.s
 have y3 := HF3.out.cell HNC1.out.l
 have y4 := HF3.out.cell HNC1.out.a
 go_wp2_with fail
 refine (CS3.out _ _ HF3.out HV3.out.st).mono ?_
 rintro e w4 ⟨rfl,tv4,hw⟩
 have HV4 := h_ (HV3.out.trans hw)
 have HF4 : Hid (Fr w0 w4) := h_ ((HWS.out.trans HV4.out).frame HS.out HFF.out)
 clear hw
 clear u3_0 u3_1 u3_2 u3_3
 clear y0 y1 y2 y3 y4
 have u4_0 := HV4.out.side HC_.out.1 hne1 hnr1
 have u4_1 := HV4.out.side HC_.out.2.1 hne1 hnr1
 have u4_2 := HV4.out.side HC_.out.2.2.1 hne1 hnr1
 have u4_3 := HV4.out.side HC_.out.2.2.2 hne1 hnr1
 go_wp2_with fail
 refine (CS4.out _ _ _ (by simp) HV4.out.st).mono ?_
 rintro e w5 ⟨rfl,tv5,hw⟩
 have HV5 := h_ (HV4.out.trans hw)
 have HF5 : Hid (Fr w0 w5) := h_ ((HWS.out.trans HV5.out).frame HS.out HFF.out)
 clear hw
 clear u4_0 u4_1 u4_2 u4_3
 have u5_0 := HV5.out.side HC_.out.1 hne1 hnr1
 have u5_1 := HV5.out.side HC_.out.2.1 hne1 hnr1
 have u5_2 := HV5.out.side HC_.out.2.2.1 hne1 hnr1
 have u5_3 := HV5.out.side HC_.out.2.2.2 hne1 hnr1
 have y0 := HF5.out.cell HNC2.out.op
 have y1 := HF5.out.cell HNC2.out.n
 have y2 := HF5.out.cell HNC2.out.s
 have y3 := HF5.out.cell HNC2.out.l
 have y4 := HF5.out.cell HNC2.out.a
 go_wp2_with fail
 refine (CS5.out _ _ HF5.out HV5.out.st).mono ?_
 rintro e w6 ⟨rfl,tv6,hw⟩
 have HV6 := h_ (HV5.out.trans hw)
 have HF6 : Hid (Fr w0 w6) := h_ ((HWS.out.trans HV6.out).frame HS.out HFF.out)
 clear hw
 clear u5_0 u5_1 u5_2 u5_3
 clear y0 y1 y2 y3 y4
 have u6_0 := HV6.out.side HC_.out.1 hne1 hnr1
 have u6_1 := HV6.out.side HC_.out.2.1 hne1 hnr1
 have u6_2 := HV6.out.side HC_.out.2.2.1 hne1 hnr1
 have u6_3 := HV6.out.side HC_.out.2.2.2 hne1 hnr1
 go_wp2_with fail
 refine (CS6.out _ _ _ (by simp) HV6.out.st).mono ?_
 rintro e w7 ⟨rfl,tv7,hw⟩
 have HV7 := h_ (HV6.out.trans hw)
 have HF7 : Hid (Fr w0 w7) := h_ ((HWS.out.trans HV7.out).frame HS.out HFF.out)
 clear hw
 clear u6_0 u6_1 u6_2 u6_3
 have u7_0 := HV7.out.side HC_.out.1 hne1 hnr1
 have u7_1 := HV7.out.side HC_.out.2.1 hne1 hnr1
 have u7_2 := HV7.out.side HC_.out.2.2.1 hne1 hnr1
 have u7_3 := HV7.out.side HC_.out.2.2.2 hne1 hnr1
 have y0 := HF7.out.cell HNC3.out.op
 have y1 := HF7.out.cell HNC3.out.n
 have y2 := HF7.out.cell HNC3.out.s
 have y3 := HF7.out.cell HNC3.out.l
 have y4 := HF7.out.cell HNC3.out.a
 go_wp2_with fail
 refine (CS7.out _ _ HF7.out HV7.out.st).mono ?_
 rintro e w8 ⟨rfl,tv8,hw⟩
 have HV8 := h_ (HV7.out.trans hw)
 have HF8 : Hid (Fr w0 w8) := h_ ((HWS.out.trans HV8.out).frame HS.out HFF.out)
 clear hw
 clear u7_0 u7_1 u7_2 u7_3
 clear y0 y1 y2 y3 y4
 have u_0 := HV8.out.side HC_.out.1 hne1 hnr1
 have u_1 := HV8.out.side HC_.out.2.1 hne1 hnr1
 go_wp2_with fail
 first | go_end0 | refine bodyPost_ret (results_none rfl _ _ _) rfl ?_
 exact ⟨rfl,_,(HWS.out.trans HV8.out)⟩
theorem basic_break (n : Nd)  (hop : n.op = 44) : Wx 171 ar0 n ([⟨#[98,114,101,97,107]⟩]) := by
 intro t
 refine ⟨pt_size_le t _,?_⟩
 intro w0 g w tv lv hov hnv hl hf hs hz
 show Calls prog 171 #[.pointer (some ⟨g,0,none⟩),ndV n lv] w _
 try simp only [pt_append] at hz ⊢
 obtain ⟨la,lc,rfl,hlc,_,_⟩ := hl.form
 rw [ndV_eq]
 have HFA := h_ (fa_ n w la lc)
 have HN := h_ (nn_ n w la lc)
 have hz1 : (pt t [⟨#[98,114,101,97,107]⟩]).size ≤ 100000000 := hz
 have hz0 : t.size ≤ 100000000 := Nat.le_trans (pt_size_le _ _) hz1
 rw [hop] at HN HFA ⊢
 have CS0 := h_ (fun W c tv' (hc : c = W.heap.size) (h : Wt w0.heap.size g W tv' t) => put_1 w0.heap.size g W tv' t ⟨#[98,114,101,97,107]⟩ c hc h ⟨by decide,by decide⟩ hz0)
 have HFF := h_ hf
 have HS := h_ hs
 obtain ⟨hne1,hnr1⟩ := nr_ hs
 clear hov hnv hl hf hs hz hz0 hz1 hop
 obtain ⟨c_0,c_1,c_2,c_3,c_4⟩ := HN.out.cells
 have HWS := h_ (HS.out.step HFA.out)
 have HF0 : Hid (Fr w0 (w.alloc (.cells #[.int .i64 44,.int .i64 n.n,.string n.s,.slice la n.l.length lc,.int .i64 n.a] 32))) := h_ (HFF.out.trans HFA.out)
 have HV0 := h_ ((HS.out.fr HFA.out).refl)
 go_enter func171,ntmps171
 have HC_ := h_ (And.intro c_0 (And.intro c_1 (And.intro c_2 c_3)))
 go_wp2_with fail
 refine (CS0.out _ _ _ (by simp) HV0.out.st).mono ?_
 rintro e w1 ⟨rfl,tv1,hw⟩
 have HV1 := h_ (HV0.out.trans hw)
 have HF1 : Hid (Fr w0 w1) := h_ ((HWS.out.trans HV1.out).frame HS.out HFF.out)
 clear hw
 clear c_0 c_1 c_2 c_3 c_4
 have u_0 := HV1.out.side HC_.out.1 hne1 hnr1
 have u_1 := HV1.out.side HC_.out.2.1 hne1 hnr1
 go_wp2_with fail
 first | go_end0 | refine bodyPost_ret (results_none rfl _ _ _) rfl ?_
 exact ⟨rfl,_,(HWS.out.trans HV1.out)⟩
theorem basic_loop (n : Nd)  (hop : n.op = 45) : Wx 171 ar0 n ([⟨#[108,111,111,112]⟩]) := by
 intro t
 refine ⟨pt_size_le t _,?_⟩
 intro w0 g w tv lv hov hnv hl hf hs hz
 show Calls prog 171 #[.pointer (some ⟨g,0,none⟩),ndV n lv] w _
 try simp only [pt_append] at hz ⊢
 obtain ⟨la,lc,rfl,hlc,_,_⟩ := hl.form
 rw [ndV_eq]
 have HFA := h_ (fa_ n w la lc)
 have HN := h_ (nn_ n w la lc)
 have hz1 : (pt t [⟨#[108,111,111,112]⟩]).size ≤ 100000000 := hz
 have hz0 : t.size ≤ 100000000 := Nat.le_trans (pt_size_le _ _) hz1
 rw [hop] at HN HFA ⊢
 have CS0 := h_ (fun W c tv' (hc : c = W.heap.size) (h : Wt w0.heap.size g W tv' t) => put_1 w0.heap.size g W tv' t ⟨#[108,111,111,112]⟩ c hc h ⟨by decide,by decide⟩ hz0)
 have HFF := h_ hf
 have HS := h_ hs
 obtain ⟨hne1,hnr1⟩ := nr_ hs
 clear hov hnv hl hf hs hz hz0 hz1 hop
 obtain ⟨c_0,c_1,c_2,c_3,c_4⟩ := HN.out.cells
 have HWS := h_ (HS.out.step HFA.out)
 have HF0 : Hid (Fr w0 (w.alloc (.cells #[.int .i64 45,.int .i64 n.n,.string n.s,.slice la n.l.length lc,.int .i64 n.a] 32))) := h_ (HFF.out.trans HFA.out)
 have HV0 := h_ ((HS.out.fr HFA.out).refl)
 go_enter func171,ntmps171
 have HC_ := h_ (And.intro c_0 (And.intro c_1 (And.intro c_2 c_3)))
 go_wp2_with fail
 refine (CS0.out _ _ _ (by simp) HV0.out.st).mono ?_
 rintro e w1 ⟨rfl,tv1,hw⟩
 have HV1 := h_ (HV0.out.trans hw)
 have HF1 : Hid (Fr w0 w1) := h_ ((HWS.out.trans HV1.out).frame HS.out HFF.out)
 clear hw
 clear c_0 c_1 c_2 c_3 c_4
 have u_0 := HV1.out.side HC_.out.1 hne1 hnr1
 have u_1 := HV1.out.side HC_.out.2.1 hne1 hnr1
 go_wp2_with fail
 first | go_end0 | refine bodyPost_ret (results_none rfl _ _ _) rfl ?_
 exact ⟨rfl,_,(HWS.out.trans HV1.out)⟩
theorem basic_endcase (n : Nd)  (hop : n.op = 46) : Wx 171 ar0 n ([⟨#[101,110,100,99,97,115,101]⟩]) := by
 intro t
 refine ⟨pt_size_le t _,?_⟩
 intro w0 g w tv lv hov hnv hl hf hs hz
 show Calls prog 171 #[.pointer (some ⟨g,0,none⟩),ndV n lv] w _
 try simp only [pt_append] at hz ⊢
 obtain ⟨la,lc,rfl,hlc,_,_⟩ := hl.form
 rw [ndV_eq]
 have HFA := h_ (fa_ n w la lc)
 have HN := h_ (nn_ n w la lc)
 have hz1 : (pt t [⟨#[101,110,100,99,97,115,101]⟩]).size ≤ 100000000 := hz
 have hz0 : t.size ≤ 100000000 := Nat.le_trans (pt_size_le _ _) hz1
 rw [hop] at HN HFA ⊢
 have CS0 := h_ (fun W c tv' (hc : c = W.heap.size) (h : Wt w0.heap.size g W tv' t) => put_1 w0.heap.size g W tv' t ⟨#[101,110,100,99,97,115,101]⟩ c hc h ⟨by decide,by decide⟩ hz0)
 have HFF := h_ hf
 have HS := h_ hs
 obtain ⟨hne1,hnr1⟩ := nr_ hs
 clear hov hnv hl hf hs hz hz0 hz1 hop
 obtain ⟨c_0,c_1,c_2,c_3,c_4⟩ := HN.out.cells
 have HWS := h_ (HS.out.step HFA.out)
 have HF0 : Hid (Fr w0 (w.alloc (.cells #[.int .i64 46,.int .i64 n.n,.string n.s,.slice la n.l.length lc,.int .i64 n.a] 32))) := h_ (HFF.out.trans HFA.out)
 have HV0 := h_ ((HS.out.fr HFA.out).refl)
 go_enter func171,ntmps171
 have HC_ := h_ (And.intro c_0 (And.intro c_1 (And.intro c_2 c_3)))
 go_wp2_with fail
 refine (CS0.out _ _ _ (by simp) HV0.out.st).mono ?_
 rintro e w1 ⟨rfl,tv1,hw⟩
 have HV1 := h_ (HV0.out.trans hw)
 have HF1 : Hid (Fr w0 w1) := h_ ((HWS.out.trans HV1.out).frame HS.out HFF.out)
 clear hw
 clear c_0 c_1 c_2 c_3 c_4
 have u_0 := HV1.out.side HC_.out.1 hne1 hnr1
 have u_1 := HV1.out.side HC_.out.2.1 hne1 hnr1
 go_wp2_with fail
 first | go_end0 | refine bodyPost_ret (results_none rfl _ _ _) rfl ?_
 exact ⟨rfl,_,(HWS.out.trans HV1.out)⟩
theorem basic_return (n : Nd)  (hop : n.op = 47) : Wx 171 ar0 n ([⟨#[114,101,116,117,114,110]⟩]) := by
 intro t
 refine ⟨pt_size_le t _,?_⟩
 intro w0 g w tv lv hov hnv hl hf hs hz
 show Calls prog 171 #[.pointer (some ⟨g,0,none⟩),ndV n lv] w _
 try simp only [pt_append] at hz ⊢
 obtain ⟨la,lc,rfl,hlc,_,_⟩ := hl.form
 rw [ndV_eq]
 have HFA := h_ (fa_ n w la lc)
 have HN := h_ (nn_ n w la lc)
 have hz1 : (pt t [⟨#[114,101,116,117,114,110]⟩]).size ≤ 100000000 := hz
 have hz0 : t.size ≤ 100000000 := Nat.le_trans (pt_size_le _ _) hz1
 rw [hop] at HN HFA ⊢
 have CS0 := h_ (fun W c tv' (hc : c = W.heap.size) (h : Wt w0.heap.size g W tv' t) => put_1 w0.heap.size g W tv' t ⟨#[114,101,116,117,114,110]⟩ c hc h ⟨by decide,by decide⟩ hz0)
 have HFF := h_ hf
 have HS := h_ hs
 obtain ⟨hne1,hnr1⟩ := nr_ hs
 clear hov hnv hl hf hs hz hz0 hz1 hop
 obtain ⟨c_0,c_1,c_2,c_3,c_4⟩ := HN.out.cells
 have HWS := h_ (HS.out.step HFA.out)
 have HF0 : Hid (Fr w0 (w.alloc (.cells #[.int .i64 47,.int .i64 n.n,.string n.s,.slice la n.l.length lc,.int .i64 n.a] 32))) := h_ (HFF.out.trans HFA.out)
 have HV0 := h_ ((HS.out.fr HFA.out).refl)
 go_enter func171,ntmps171
 have HC_ := h_ (And.intro c_0 (And.intro c_1 (And.intro c_2 c_3)))
 go_wp2_with fail
 refine (CS0.out _ _ _ (by simp) HV0.out.st).mono ?_
 rintro e w1 ⟨rfl,tv1,hw⟩
 have HV1 := h_ (HV0.out.trans hw)
 have HF1 : Hid (Fr w0 w1) := h_ ((HWS.out.trans HV1.out).frame HS.out HFF.out)
 clear hw
 clear c_0 c_1 c_2 c_3 c_4
 have u_0 := HV1.out.side HC_.out.1 hne1 hnr1
 have u_1 := HV1.out.side HC_.out.2.1 hne1 hnr1
 go_wp2_with fail
 first | go_end0 | refine bodyPost_ret (results_none rfl _ _ _) rfl ?_
 exact ⟨rfl,_,(HWS.out.trans HV1.out)⟩
theorem basic_finish (n : Nd)  (hop : n.op = 51) : Wx 171 ar0 n ([⟨#[102,105,110,105,115,104]⟩]) := by
 intro t
 refine ⟨pt_size_le t _,?_⟩
 intro w0 g w tv lv hov hnv hl hf hs hz
 show Calls prog 171 #[.pointer (some ⟨g,0,none⟩),ndV n lv] w _
 try simp only [pt_append] at hz ⊢
 obtain ⟨la,lc,rfl,hlc,_,_⟩ := hl.form
 rw [ndV_eq]
 have HFA := h_ (fa_ n w la lc)
 have HN := h_ (nn_ n w la lc)
 have hz1 : (pt t [⟨#[102,105,110,105,115,104]⟩]).size ≤ 100000000 := hz
 have hz0 : t.size ≤ 100000000 := Nat.le_trans (pt_size_le _ _) hz1
 rw [hop] at HN HFA ⊢
 have CS0 := h_ (fun W c tv' (hc : c = W.heap.size) (h : Wt w0.heap.size g W tv' t) => put_1 w0.heap.size g W tv' t ⟨#[102,105,110,105,115,104]⟩ c hc h ⟨by decide,by decide⟩ hz0)
 have HFF := h_ hf
 have HS := h_ hs
 obtain ⟨hne1,hnr1⟩ := nr_ hs
 clear hov hnv hl hf hs hz hz0 hz1 hop
 obtain ⟨c_0,c_1,c_2,c_3,c_4⟩ := HN.out.cells
 have HWS := h_ (HS.out.step HFA.out)
 have HF0 : Hid (Fr w0 (w.alloc (.cells #[.int .i64 51,.int .i64 n.n,.string n.s,.slice la n.l.length lc,.int .i64 n.a] 32))) := h_ (HFF.out.trans HFA.out)
 have HV0 := h_ ((HS.out.fr HFA.out).refl)
 go_enter func171,ntmps171
 have HC_ := h_ (And.intro c_0 (And.intro c_1 (And.intro c_2 c_3)))
 go_wp2_with fail
 refine (CS0.out _ _ _ (by simp) HV0.out.st).mono ?_
 rintro e w1 ⟨rfl,tv1,hw⟩
 have HV1 := h_ (HV0.out.trans hw)
 have HF1 : Hid (Fr w0 w1) := h_ ((HWS.out.trans HV1.out).frame HS.out HFF.out)
 clear hw
 clear c_0 c_1 c_2 c_3 c_4
 have u_0 := HV1.out.side HC_.out.1 hne1 hnr1
 have u_1 := HV1.out.side HC_.out.2.1 hne1 hnr1
 go_wp2_with fail
 first | go_end0 | refine bodyPost_ret (results_none rfl _ _ _) rfl ?_
 exact ⟨rfl,_,(HWS.out.trans HV1.out)⟩
theorem basic_result (n c0 : Nd) (A0 : List ByteArray) (hop : n.op = 48) (hnl : n.l = [c0]) (hd0 : Wx 167 ar0 c0 A0) : Wx 171 ar0 n ([⟨#[114,101,115,117,108,116,105,115]⟩] ++ A0) := by
 intro t
 refine ⟨pt_size_le t _,?_⟩
 intro w0 g w tv lv hov hnv hl hf hs hz
 show Calls prog 171 #[.pointer (some ⟨g,0,none⟩),ndV n lv] w _
 try simp only [pt_append] at hz ⊢
 obtain ⟨la,lc,rfl,hlc,_,_⟩ := hl.form
 rw [ndV_eq]
 have HFA := h_ (fa_ n w la lc)
 have HN := h_ (nn_ n w la lc)
 have hz2 : (pt (pt t [⟨#[114,101,115,117,108,116,105,115]⟩]) A0).size ≤ 100000000 := hz
 have hz1 : (pt t [⟨#[114,101,115,117,108,116,105,115]⟩]).size ≤ 100000000 := Nat.le_trans (pt_size_le _ _) hz2
 have hz0 : t.size ≤ 100000000 := Nat.le_trans (pt_size_le _ _) hz1
 obtain ⟨b,off,lv0,rfl,hc0,hl0,_⟩ := hl.at_ (i := 0) (t := c0) (by rw [hnl]; rfl)
 obtain ⟨a0,k0,rfl,_,_,_⟩ := hl0.form
 rw [show n.l.length = 1 from by rw [hnl]; rfl] at HN HFA hlc ⊢
 rw [hop] at HN HFA ⊢
 have CS0 := h_ (fun W c tv' (hc : c = W.heap.size) (h : Wt w0.heap.size g W tv' t) => put_1 w0.heap.size g W tv' t ⟨#[114,101,115,117,108,116,105,115]⟩ c hc h ⟨by decide,by decide⟩ hz0)
 have CS1 := h_ (fun W tv' (h : Fr w0 W) (h2 : Wt w0.heap.size g W tv' (pt t [⟨#[114,101,115,117,108,116,105,115]⟩])) => (hd0 (pt t [⟨#[114,101,115,117,108,116,105,115]⟩])).2 w0 g W tv' _ hov hnv hl0 h h2 hz2)
 rw [ndV_eq] at CS1
 unfold ar0 at CS1
 simp only [Nat.zero_mul,Nat.add_zero] at hc0
 have HNC0 := h_ hc0
 have HFF := h_ hf
 have HS := h_ hs
 obtain ⟨hne1,hnr1⟩ := nr_ hs
 clear hov hnv hl hf hs hz hz0 hz1 hz2 hop hnl hd0 hl0 hc0
 obtain ⟨c_0,c_1,c_2,c_3,c_4⟩ := HN.out.cells
 have HWS := h_ (HS.out.step HFA.out)
 have HF0 : Hid (Fr w0 (w.alloc (.cells #[.int .i64 48,.int .i64 n.n,.string n.s,.slice (some ⟨b,off,none⟩) 1 lc,.int .i64 n.a] 32))) := h_ (HFF.out.trans HFA.out)
 have HV0 := h_ ((HS.out.fr HFA.out).refl)
 go_enter func171,ntmps171
 have HC_ := h_ (And.intro c_0 (And.intro c_1 (And.intro c_2 c_3)))
 go_wp2_with fail
 refine (CS0.out _ _ _ (by simp) HV0.out.st).mono ?_
 rintro e w1 ⟨rfl,tv1,hw⟩
 have HV1 := h_ (HV0.out.trans hw)
 have HF1 : Hid (Fr w0 w1) := h_ ((HWS.out.trans HV1.out).frame HS.out HFF.out)
 clear hw
 clear c_0 c_1 c_2 c_3 c_4
 have u1_0 := HV1.out.side HC_.out.1 hne1 hnr1
 have u1_1 := HV1.out.side HC_.out.2.1 hne1 hnr1
 have u1_2 := HV1.out.side HC_.out.2.2.1 hne1 hnr1
 have u1_3 := HV1.out.side HC_.out.2.2.2 hne1 hnr1
 have y0 := HF1.out.cell HNC0.out.op
 have y1 := HF1.out.cell HNC0.out.n
 have y2 := HF1.out.cell HNC0.out.s
 have y3 := HF1.out.cell HNC0.out.l
 have y4 := HF1.out.cell HNC0.out.a
 go_wp2_with fail
 refine (CS1.out _ _ HF1.out HV1.out.st).mono ?_
 rintro e w2 ⟨rfl,tv2,hw⟩
 have HV2 := h_ (HV1.out.trans hw)
 have HF2 : Hid (Fr w0 w2) := h_ ((HWS.out.trans HV2.out).frame HS.out HFF.out)
 clear hw
 clear u1_0 u1_1 u1_2 u1_3
 clear y0 y1 y2 y3 y4
 have u_0 := HV2.out.side HC_.out.1 hne1 hnr1
 have u_1 := HV2.out.side HC_.out.2.1 hne1 hnr1
 go_wp2_with fail
 first | go_end0 | refine bodyPost_ret (results_none rfl _ _ _) rfl ?_
 exact ⟨rfl,_,(HWS.out.trans HV2.out)⟩
theorem basic_goto (n : Nd)  (hop : n.op = 49) (hns : tkOk n.s) : Wx 171 ar0 n ([⟨#[103,111,116,111]⟩,n.s]) := by
 intro t
 refine ⟨pt_size_le t _,?_⟩
 intro w0 g w tv lv hov hnv hl hf hs hz
 show Calls prog 171 #[.pointer (some ⟨g,0,none⟩),ndV n lv] w _
 try simp only [pt_append] at hz ⊢
 obtain ⟨la,lc,rfl,hlc,_,_⟩ := hl.form
 rw [ndV_eq]
 have HFA := h_ (fa_ n w la lc)
 have HN := h_ (nn_ n w la lc)
 have hz1 : (pt t [⟨#[103,111,116,111]⟩,n.s]).size ≤ 100000000 := hz
 have hz0 : t.size ≤ 100000000 := Nat.le_trans (pt_size_le _ _) hz1
 rw [hop] at HN HFA ⊢
 have CS0 := h_ (fun W c tv' (hc : c = W.heap.size) (h : Wt w0.heap.size g W tv' t) => put_2 w0.heap.size g W tv' t ⟨#[103,111,116,111]⟩ n.s c hc h ⟨by decide,by decide⟩ hns hz0)
 have HFF := h_ hf
 have HS := h_ hs
 obtain ⟨hne1,hnr1⟩ := nr_ hs
 clear hov hnv hl hf hs hz hz0 hz1 hop hns
 obtain ⟨c_0,c_1,c_2,c_3,c_4⟩ := HN.out.cells
 have HWS := h_ (HS.out.step HFA.out)
 have HF0 : Hid (Fr w0 (w.alloc (.cells #[.int .i64 49,.int .i64 n.n,.string n.s,.slice la n.l.length lc,.int .i64 n.a] 32))) := h_ (HFF.out.trans HFA.out)
 have HV0 := h_ ((HS.out.fr HFA.out).refl)
 go_enter func171,ntmps171
 have HC_ := h_ (And.intro c_0 (And.intro c_1 (And.intro c_2 c_3)))
 go_wp2_with fail
 refine (CS0.out _ _ _ (by simp) HV0.out.st).mono ?_
 rintro e w1 ⟨rfl,tv1,hw⟩
 have HV1 := h_ (HV0.out.trans hw)
 have HF1 : Hid (Fr w0 w1) := h_ ((HWS.out.trans HV1.out).frame HS.out HFF.out)
 clear hw
 clear c_0 c_1 c_2 c_3 c_4
 have u_0 := HV1.out.side HC_.out.1 hne1 hnr1
 have u_1 := HV1.out.side HC_.out.2.1 hne1 hnr1
 go_wp2_with fail
 first | go_end0 | refine bodyPost_ret (results_none rfl _ _ _) rfl ?_
 exact ⟨rfl,_,(HWS.out.trans HV1.out)⟩
end Go.Proofs.YtbaelbafhdjlnaaGreatDoor
