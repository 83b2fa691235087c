/- A part of the proof that the law ParsePrints holds for every input. -/
import Derived.Test.YtbaelbafhdjlnaaGreatDoorM7
import Derived.Test.YtbaelbafhdjlnaaGreatDoorM1
import Derived.Lib.AppendStr
import Derived.Test.YtbaelbafhdjlnaaGreatDoorM3
import Derived.Test.YtbaelbafhdjlnaaGreatDoorM5
import Derived.Deep.RegionHeld3
namespace Go.Proofs.YtbaelbafhdjlnaaGreatDoor
open Go.RowKit _root_.Go.Proofs.Tryz
set_option linter.unusedVariables false
set_option linter.unusedSimpArgs false
set_option maxRecDepth 100000
set_option maxHeartbeats 8000000
section
variable {P : Program} {w : World}
theorem run_append_text_where (base : Nat) (t u ty e : TypeId) (i : TypeInfo) (ht : P.underlying t = some (.slice e)) (hu : P.underlying u = some .string) (hi : P.info? e = some i) (hz : i.zero = some (.int .u8 0))
 (hsize : i.size = 1) (hby : i.bytes = 1) (v : Value) (n : Nat) (xs : List Value) (hown : w.ownsRow base e 1 v n xs) (s : ByteArray) (h0 : 0 < s.size) (h63 : n + s.size ≤ maxLen) (hbytes : n + s.size ≤ 140737488355328) (hbase : base ≤ w.heap.size) :
 ∃ v' w',(Builtin.append_ #[t,u] ty #[v,.string s]).run P w = .ok v' w' ∧ w'.ownsRow base e 1 v' (n + s.size) (xs ++ Lib.strCells s) ∧ w.grownBy w' v.ownBlock ∧
  (v'.ownBlock = v.ownBlock ∨ v'.ownBlock = some w.heap.size) := by
 obtain ⟨v',w',hr,h2,h3,_⟩ := Lib.run_append_own_string (P := P) w base t u ty e i ht hu hi hz hsize hby v n xs hown s h63 hbytes hbase
 refine ⟨v',w',hr,h2,h3,?_⟩
 have hsmall : n + s.size ≤ 9223372036854775807 := by simp only [maxLen] at h63; omega
 have hxl : xs.length = n := by simpa using hown.1
 rcases hown.2 with ⟨rfl,rfl⟩ | ⟨g,cap,cur,rfl,hbg,hg,hnc,hcm,hcs,htake⟩
 ·have hq := run_append_nil_string (P := P) w t u ty e i (.int .u8 0) ht hu hi hz s h0 (by omega) (by rw [hby]; omega)
  rw [hq] at hr
  obtain ⟨rfl,_⟩ : _ = v' ∧ _ := by simpa using hr
  exact .inr rfl
 ·by_cases hroom : n + s.size ≤ cap
  ·have hq := Lib.run_append_room_string (P := P) w t u ty e i ht hu hi hsize g n cap cur hg s hroom (by rw [hcs]; omega)
   rw [hq] at hr
   obtain ⟨rfl,_⟩ : _ = v' ∧ _ := by simpa using hr
   exact .inl rfl
  ·have hq := Lib.run_append_grow_string (P := P) w t u ty e i (.int .u8 0) ht hu hi hz ⟨g,0,none⟩ n cap xs (by rw [hsize]; simpa using hxl) (hown.cells (g := g) rfl) s (by omega) (by omega) (by rw [hby]; exact growslice_fits (by omega) (by omega))
   rw [hq] at hr
   obtain ⟨rfl,_⟩ : _ = v' ∧ _ := by simpa using hr
   exact .inr rfl
theorem wp_append_text_where {o : Oper} {a : Act} {K : Act → World → Prop} {Q : Exit → Act → World → Prop} (sl x : Operand) (t u : TypeId)
 (ho : o.op = .call { callee := .builtin .append,args := #[sl,x],argTypes := #[t,u] })
 (base : Nat) (e : TypeId) (i : TypeInfo) (ht : P.underlying t = some (.slice e)) (hu : P.underlying u = some .string) (hi : P.info? e = some i) (hz : i.zero = some (.int .u8 0))
 (hsize : i.size = 1) (hby : i.bytes = 1) (v : Value) (n : Nat) (xs : List Value) (hs : a.eval sl = v) (hown : w.ownsRow base e 1 v n xs) (s : ByteArray) (hx : a.eval x = .string s) (h0 : 0 < s.size) (h63 : n + s.size ≤ maxLen) (hbytes : n + s.size ≤ 140737488355328) (hbase : base ≤ w.heap.size)
 (h : ∀ v' w',w'.ownsRow base e 1 v' (n + s.size) (xs ++ Lib.strCells s) → w.grownBy w' v.ownBlock → (v'.ownBlock = v.ownBlock ∨ v'.ownBlock = some w.heap.size) → K (a.put o.dst v') w') : o.wp P a w K Q := by
 obtain ⟨v',w',hr,h2,h3,h4⟩ := run_append_text_where (P := P) base t u o.type e i ht hu hi hz hsize hby v n xs hown s h0 h63 hbytes hbase
 unfold Oper.wp execOp
 simp only [ho,resolve,invoke,builtin,Sem.run_bind,Sem.run_pure,Result.andThen_ok,List.map_toArray,List.map_cons,List.map_nil,hs,hx,hr]
 exact h v' w' h2 h3 h4
end
structure Tw (g : Nat) (r : Option Nat) (w w' : World) : Prop where
 os : w'.os = w.os
 tape : w'.tape = w.tape
 output : w'.output = w.output
 size : w.heap.size ≤ w'.heap.size
 block : ∀ k,k < w.heap.size → k ≠ g → some k ≠ r → w'.heap[k]? = w.heap[k]?
theorem Tw.refl (g : Nat) (r : Option Nat) (w : World) : Tw g r w w := ⟨rfl,rfl,rfl,Nat.le_refl _,fun _ _ _ _ => rfl⟩
theorem Tw.trans {g : Nat} {r r1 : Option Nat} {w w1 w2 : World} (h : Tw g r w w1) (h1 : Tw g r1 w1 w2) (hr : ∀ k,r1 = some k → r = some k ∨ w.heap.size ≤ k) : Tw g r w w2 :=
 ⟨h1.os.trans h.os,h1.tape.trans h.tape,h1.output.trans h.output,Nat.le_trans h.size h1.size,fun k hk hg hk2 => (h1.block k (Nat.lt_of_lt_of_le hk h.size) hg (by
  intro e
  rcases hr k e.symm with h3 | h3
  ·exact hk2 h3.symm
  ·omega)).trans (h.block k hk hg hk2)⟩
theorem Fr.tw {w w' : World} (h : Fr w w') (g : Nat) (r : Option Nat) : Tw g r w w' := ⟨h.os,h.tape,h.output,h.size,fun k hk _ _ => h.block k hk⟩
theorem grown_tw {w w' : World} {r : Option Nat} (h : w.grownBy w' r) (g : Nat) : Tw g r w w' := ⟨h.os,h.tape,h.output,h.size,fun k hk _ hr => h.block k hk hr⟩
theorem Tw.set {g : Nat} {r : Option Nat} {w w' : World} (h : Tw g r w w') (i : Nat) (v : Value) : Tw g r w (w'.setCell ⟨g,i,none⟩ v) :=
 ⟨h.os,h.tape,h.output,by rw [show (w'.setCell ⟨g,i,none⟩ v).heap.size = w'.heap.size from by simp [World.setCell]]; exact h.size,fun k hk hne hr => by
  rw [show (w'.setCell ⟨g,i,none⟩ v).heap[k]? = w'.heap[k]? from by
   simp only [World.setCell,Array.getElem?_modify]
   rw [if_neg (fun e => hne e.symm)]]
  exact h.block k hk hne hr⟩
theorem Tw.cell {g : Nat} {r : Option Nat} {w w' : World} (h : Tw g r w w') {k o : Nat} {v : Value} (hc : w.cell? ⟨k,o,none⟩ = some v) (hne : k ≠ g) (hr : some k ≠ r) : w'.cell? ⟨k,o,none⟩ = some v :=
 cell_block (h.block k (World.block_lt_of_cell? w _ hc) hne hr) hc
theorem Tw.fr {g : Nat} {r : Option Nat} {w0 w w' : World} (h : Tw g r w w') (hf : Fr w0 w) (hg : w0.heap.size ≤ g) (hr : ∀ k,r = some k → w0.heap.size ≤ k) : Fr w0 w' :=
 ⟨h.os.trans hf.os,h.tape.trans hf.tape,h.output.trans hf.output,Nat.le_trans hf.size h.size,fun k hk => (h.block k (Nat.lt_of_lt_of_le hk hf.size) (by omega) (by
  intro e
  have := hr k e.symm
  omega)).trans (hf.block k hk)⟩
structure Wt (B g : Nat) (w : World) (tv : Value) (t : ByteArray) : Prop where
 cell : Cb w g tv 84
 own : w.ownsRow B 5 1 tv t.size (Lib.strCells t)
 base : B ≤ w.heap.size
 ne : tv.ownBlock ≠ some g
 gb : B ≤ g
theorem Wt.fr {B g : Nat} {w w' : World} {tv : Value} {t : ByteArray} (h : Wt B g w tv t) (k : Fr w w') : Wt B g w' tv t :=
 ⟨h.cell.fr k,h.own.kept (Fr.grow k) (by cases tv.ownBlock <;> simp),Nat.le_trans h.base k.size,h.ne,h.gb⟩
theorem nr_ {B g : Nat} {w : World} {tv : Value} {t : ByteArray} (hs : Wt B g w tv t) : w.heap.size ≠ g ∧ some w.heap.size ≠ tv.ownBlock := ⟨by have := hs.cell.lt; omega, fun e => by have := (hs.own.lt _ e.symm).2; omega⟩
theorem strCells_append (s t : ByteArray) : Lib.strCells (s ++ t) = Lib.strCells s ++ Lib.strCells t := by
 unfold Lib.strCells
 rw [show (s ++ t).data = s.data ++ t.data from ByteArray.data_append]
 simp
structure Wn (B g : Nat) (w : World) (tv : Value) (w' : World) (tv' : Value) (t' : ByteArray) : Prop where
 st : Wt B g w' tv' t'
 fr : Tw g tv.ownBlock w w'
 nw : ∀ k,tv'.ownBlock = some k → tv.ownBlock = some k ∨ w.heap.size ≤ k
theorem Wn.trans {B g : Nat} {w w1 w2 : World} {tv tv1 tv2 : Value} {t1 t2 : ByteArray} (h : Wn B g w tv w1 tv1 t1) (k : Wn B g w1 tv1 w2 tv2 t2) : Wn B g w tv w2 tv2 t2 :=
 ⟨k.st,h.fr.trans k.fr h.nw,fun j hj => by
  rcases k.nw j hj with h3 | h3
  ·exact h.nw j h3
  ·exact .inr (Nat.le_trans h.fr.size h3)⟩
theorem Wt.refl {B g : Nat} {w : World} {tv : Value} {t : ByteArray} (h : Wt B g w tv t) : Wn B g w tv w tv t := ⟨h,Tw.refl _ _ _,fun _ hk => .inl hk⟩
theorem Wt.step {B g : Nat} {w w' : World} {tv : Value} {t : ByteArray} (h : Wt B g w tv t) (k : Fr w w') : Wn B g w tv w' tv t := ⟨h.fr k,k.tw _ _,fun _ hk => .inl hk⟩
theorem Wt.form {B g : Nat} {w : World} {tv : Value} {t : ByteArray} (h : Wt B g w tv t) : ∃ a c,tv = .slice a t.size c ∧ t.size ≤ c := by
 rcases h.own.2 with ⟨rfl,h0⟩ | ⟨g,cap,cur,rfl,_,_,hn,_⟩
 ·exact ⟨none,0,by rw [h0],by omega⟩
 ·exact ⟨_,cap,rfl,hn⟩
theorem Wt.put {B g : Nat} {w w2 : World} {tv tv' : Value} {t s : ByteArray} (h : Wt B g w tv t) (ho : w2.ownsRow B 5 1 tv' (t.size + s.size) (Lib.strCells t ++ Lib.strCells s)) (hg : w.grownBy w2 tv.ownBlock) (hw : tv'.ownBlock = tv.ownBlock ∨ tv'.ownBlock = some w.heap.size) :
 Wn B g w tv (w2.setCell ⟨g,0,none⟩ tv') tv' (t ++ s) := by
 have hc2 : Cb w2 g tv 84 := (hg.block g h.cell.lt (fun e => h.ne e.symm)).trans h.cell
 have hne : tv'.ownBlock ≠ some g := by
  rcases hw with e | e
  ·rw [e]; exact h.ne
  ·rw [e]; intro e2; injection e2 with e2; have := h.cell.lt; omega
 refine ⟨⟨hc2.put _,?_,?_,hne,h.gb⟩,(grown_tw hg g).set 0 _,fun k hk => ?_⟩
 ·rw [ByteArray.size_append,strCells_append]
  refine ho.kept (w' := w2.setCell ⟨g,0,none⟩ tv') (row := some g) ⟨rfl,rfl,rfl,by simp [World.setCell],fun k hk hn => ?_⟩ (.inr hne)
  simp only [World.setCell,Array.getElem?_modify]
  rw [if_neg (fun e => hn (by rw [← e]))]
 ·rw [show (w2.setCell ⟨g,0,none⟩ tv').heap.size = w2.heap.size from by simp [World.setCell]]
  exact Nat.le_trans h.base hg.size
 ·rcases hw with e | e
  ·exact .inl (e ▸ hk)
  ·rw [e] at hk; injection hk with hk; exact .inr (by omega)
theorem Wn.cell {B g : Nat} {w w' : World} {tv tv' : Value} {t t' : ByteArray} (h : Wn B g w tv w' tv' t') (hs : Wt B g w tv t) {k o : Nat} {v : Value} (hk : k < B) (hc : w.cell? ⟨k,o,none⟩ = some v) : w'.cell? ⟨k,o,none⟩ = some v :=
 h.fr.cell hc (by have := hs.gb; omega) (fun e => by have := (hs.own.lt k e.symm).1; omega)
theorem Wn.ln {B g : Nat} {w w' : World} {tv tv' : Value} {t t' : ByteArray} (h : Wn B g w tv w' tv' t') (hs : Wt B g w tv t) {lv : Value} {l : List Nd} (hl : LNP (fun b => b < B) w lv l) : LNP (fun b => b < B) w' lv l :=
 hl.keep fun b off u hb hc => ⟨hb,h.cell hs hb hc⟩
theorem Wn.side {B g : Nat} {w w' : World} {tv tv' : Value} {t' : ByteArray} (h : Wn B g w tv w' tv' t') {k o : Nat} {v : Value} (hc : w.cell? ⟨k,o,none⟩ = some v) (hg : k ≠ g) (hr : some k ≠ tv.ownBlock) : w'.cell? ⟨k,o,none⟩ = some v := h.fr.cell hc hg hr
theorem byte_at (w : World) (c : Int) : ∀ j u,([Value.int .u8 c] : List Value)[j]? = some u → (w.alloc (.cells #[.int .u8 c] 5)).cell? ((⟨w.heap.size,0,none⟩ : Addr).add j) = some u := by
 intro j u hj
 match j,hj with
 | 0,hj => simp at hj; subst hj; simp [Addr.add]
 | (j + 1),hj => simp at hj
theorem own_form5' {w : World} {B : Nat} {T : TypeId} {z m : Nat} {v : Value} {xs : List Value} (h : w.ownsRow B T z v m xs) : ∃ a n c,v = .slice a n c := by
 obtain ⟨a,c,e⟩ := own_form h
 exact ⟨a,m,c,e⟩
theorem line_any (B g : Nat) (w : World) (tv : Value) (t : ByteArray) (h : Wt B g w tv t) (hs : t.size ≤ 100000000) :
 Calls prog 74 #[.pointer (some ⟨g,0,none⟩)] w fun e w' => e = .returned (.tuple #[]) ∧ ∃ tv',Wn B g w tv w' tv' (t ++ ⟨#[10]⟩) := by
 obtain ⟨i0,hi0,hz0,hz1,hz2⟩ := info_parts Tryz.infoU8
 have HI := h_ (And.intro hi0 (And.intro hz0 (And.intro hz1 hz2)))
 have HH := h_ h
 have H1 := h_ (h.fr ((Fr.refl w).alloc (.cells #[.int .u8 10] 5)))
 have HS := h_ hs
 obtain ⟨ta,tc,rfl,_⟩ := h.form
 have c0 := h.cell.cell
 clear hi0 hz0 hz1 hz2 h hs
 go_enter func74,ntmps74
 go_wp2_with (with_reducible refine stop_append_n ?_)
 unfold StopN
 refine wpList_plain rfl fun K hK => ?_
 refine wp_append_where (.tmp 6) (.tmp 7) 54 rfl B 5 i0 (.int .u8 0) 1 1 underlying54 HI.out.1 HI.out.2.1 HI.out.2.2.1 HI.out.2.2.2 rfl (by omega) (.slice ta t.size tc) t.size (Lib.strCells t) (by rfl) H1.out.own ⟨w.heap.size,0,none⟩ 1 1 [.int .u8 10] (by rfl) (by rfl) (byte_at w 10) (by intro u hu; simp at hu; subst hu; rfl) (by omega) (by unfold maxLen; have := HS.out; omega) (by have := HS.out; omega) H1.out.base fun v2 w2 hown hg hwh => hK _ _ ?_
 have HP : Hid (Wn B g w (.slice ta t.size tc) (w2.setCell ⟨g,0,none⟩ v2) v2 (t ++ ⟨#[10]⟩)) := h_ ((HH.out.step ((Fr.refl w).alloc (.cells #[.int .u8 10] 5))).trans (H1.out.put (s := ⟨#[10]⟩) hown hg hwh))
 have hc2 : Cb w2 g (.slice ta t.size tc) 84 := (hg.block g H1.out.cell.lt (fun e => HH.out.ne e.symm)).trans H1.out.cell
 have c2 := hc2.cell
 have f2 := hc2.free
 have hv2 : ∃ a n c,v2 = .slice a n c := own_form5' hown
 obtain ⟨va,vn,vc,rfl⟩ := hv2
 clear hown hg hwh hK hc2
 go_wp2_with fail
 go_end0
 exact ⟨rfl,_,HP.out⟩
theorem strCells_u8s (t : ByteArray) : Lib.strCells t = u8s (t.data.toList.map UInt8.toNat) := by
 unfold Lib.strCells u8s
 simp
theorem ofL_data (t : ByteArray) : ofL (t.data.toList.map UInt8.toNat) = t := by
 unfold ofL strOfNums
 simp only [List.map_map]
 rw [show ((fun n : Int => UInt8.ofNat n.toNat) ∘ ((fun (c : Nat) => (c : Int)) ∘ UInt8.toNat)) = id from by funext x; simp]
 simp
theorem conv_text {w : World} {B : Nat} {v : Value} {t : ByteArray} (h : w.ownsRow B 5 1 v t.size (Lib.strCells t)) : (convert 54 9 v).run prog w = .ok (.string t) w := by
 have h1 := conv_list (P := prog) (l := t.data.toList.map UInt8.toNat) underlying54 underlying5 (w := w) (B := B) (v := v) (by rw [← strCells_u8s]; simpa using h) 9 underlying9
 rw [ofL_data] at h1
 exact h1
theorem whole_any (B g : Nat) (w : World) (tv : Value) (t : ByteArray) (h : Wt B g w tv t) (hs : t.size ≤ 100000000) :
 Calls prog 76 #[.pointer (some ⟨g,0,none⟩)] w fun e w' => e = .returned (if 40000 < t.size then .tuple #[.string ⟨#[]⟩,.int .i64 2] else .tuple #[.string t,.int .i64 0]) ∧ Fr w w' := by
 have hcv := conv_text h.own
 have c0 := h.cell.cell
 obtain ⟨ta,tc,rfl,_⟩ := h.form
 obtain ⟨n,hn⟩ : ∃ n,n = t.size := ⟨_,rfl⟩
 rw [← hn] at c0 hcv
 by_cases h4 : 40000 < n
 ·have hd : decide ((40000 : Int) < (n : Int)) = true := decide_eq_true (by omega)
  rw [← hn,if_pos h4]
  clear h hs hn h4
  go_enter func76,ntmps76
  go_wp2_with fail
  go_ret2
  exact ⟨rfl,Fr.refl w⟩
 ·have hd : decide ((40000 : Int) < (n : Int)) = false := decide_eq_false (by omega)
  rw [← hn,if_neg h4]
  clear h hs hn h4
  go_enter func76,ntmps76
  go_wp2_with fail
  go_ret2
  exact ⟨rfl,Fr.refl w⟩
def sepB (t : ByteArray) : ByteArray := if 0 < t.size ∧ bt t (t.size - 1) ≠ 10 then t ++ ⟨#[32]⟩ else t
def pt (t : ByteArray) (L : List ByteArray) : ByteArray := L.foldl (fun t s => sepB t ++ s) t
theorem sepB_size (t : ByteArray) : (sepB t).size ≤ t.size + 1 := by
 unfold sepB
 split
 ·rw [ByteArray.size_append]; exact Nat.le_refl _
 ·omega
theorem pt_take (t : ByteArray) (L : List ByteArray) (k : Nat) (s : ByteArray) (h : L[k]? = some s) : pt t (L.take (k + 1)) = sepB (pt t (L.take k)) ++ s := by
 unfold pt
 rw [List.take_add_one,h]
 simp
theorem pt_size (t : ByteArray) (L : List ByteArray) (N : Nat) (h : ∀ s ∈ L,s.size ≤ N) : (pt t L).size ≤ t.size + L.length * (N + 1) := by
 induction L generalizing t with
 | nil => simp [pt]
 | cons x L ih =>
  have h1 := ih (sepB t ++ x) (fun s hs => h s (List.mem_cons_of_mem _ hs))
  have h2 := sepB_size t
  have h3 := h x (List.mem_cons_self ..)
  unfold pt at h1 ⊢
  rw [ByteArray.size_append] at h1
  rw [List.foldl_cons,List.length_cons,Nat.succ_mul]
  omega
theorem Wt.last {B g : Nat} {w : World} {tv : Value} {t : ByteArray} (h : Wt B g w tv t) (h0 : 0 < t.size) : ∃ b c,tv = .slice (some ⟨b,0,none⟩) t.size c ∧ w.cell? ⟨b,t.size - 1,none⟩ = some (.int .u8 (bt t (t.size - 1))) := by
 rcases h.own.2 with ⟨_,h1⟩ | ⟨b,cap,cur,rfl,_,hg,hn,_,hsz,ht⟩
 ·omega
 ·refine ⟨b,cap,rfl,?_⟩
  have h2 : (Lib.strCells t)[t.size - 1]? = some (.int .u8 (bt t (t.size - 1))) := by
   unfold Lib.strCells bt
   have h3 : t.size - 1 < t.data.size := by show t.size - 1 < t.size; omega
   simp only [List.getElem?_map,Array.getElem?_toList,Option.map_eq_some_iff]
   refine ⟨_,Array.getElem?_eq_getElem h3,?_⟩
   rw [Array.getD_eq_getD_getElem?,Array.getElem?_eq_getElem h3]
   rfl
  rw [← ht,Nat.mul_one,List.getElem?_take_of_lt (by omega)] at h2
  simp only [World.cell?,hg]
  simpa using h2
theorem put_any (B g : Nat) (w : World) (tv : Value) (t : ByteArray) (L : List ByteArray) (b c : Nat) (h : Wt B g w tv t) (hb : ∀ i s,L[i]? = some s → w.cell? ⟨b,i,none⟩ = some (.string s)) (hbg : b ≠ g) (hbt : some b ≠ tv.ownBlock)
 (hne : ∀ s ∈ L,0 < s.size) (hsz : ∀ s ∈ L,s.size ≤ 1000000) (hn : L.length ≤ 1000) (hs : t.size ≤ 100000000) :
 Calls prog 72 #[.pointer (some ⟨g,0,none⟩),.slice (some ⟨b,0,none⟩) L.length c] w fun e w' => e = .returned (.tuple #[]) ∧ ∃ tv',Wn B g w tv w' tv' (pt t L) := by
 obtain ⟨i0,hi0,hz0,hz1,hz2⟩ := info_parts Tryz.infoU8
 have HI := h_ (And.intro hi0 (And.intro hz0 (And.intro hz1 hz2)))
 have HB := h_ hb
 have HNE := h_ hne
 have HSZ : Hid (∀ k,k ≤ L.length → (pt t (L.take k)).size ≤ 1200000000) := h_ (fun k hk => by
  have h1 := pt_size t (L.take k) 1000000 (fun s hs => hsz s (List.mem_of_mem_take hs))
  rw [List.length_take] at h1
  have h2 : min k L.length ≤ 1000 := by omega
  have h3 := Nat.mul_le_mul_right (1000000 + 1) h2
  omega)
 have HS1 := h_ hsz
 have HH := h_ h
 have HN : Hid (b ≠ g ∧ some b ≠ tv.ownBlock) := h_ ⟨hbg,hbt⟩
 obtain ⟨n,hln⟩ : ∃ n,n = L.length := ⟨_,rfl⟩
 have HL := h_ hln
 have hn' : n ≤ 1000 := by omega
 rw [← hln]
 clear hi0 hz0 hz1 hz2 h hb hbg hbt hne hsz hs hn hln
 go_enter func72,ntmps72
 go_wp2_with fail
 go_loopw [8] (fun i wr => ∃ k : Nat,k ≤ n ∧ i = .int .i64 k ∧ ∃ tv',Wn B g w tv wr tv' (pt t (L.take k))) (fun i _ => n - (intOf i).toNat)
 case atStart => exact ⟨0,Nat.zero_le _,rfl,_,HH.out.refl⟩
 case round =>
  obtain ⟨k,hk,rfl,tv1,hw1⟩ := hrel
  have HW1 := h_ hw1
  by_cases hlt : k < n
  ·obtain ⟨s,hs⟩ : ∃ s,L[k]? = some s := ⟨_,List.getElem?_eq_getElem (by rw [← HL.out]; exact hlt)⟩
   have cs := hw1.fr.cell (HB.out k s hs) HN.out.1 HN.out.2
   obtain ⟨t1,ht1⟩ : ∃ t1,t1 = pt t (L.take k) := ⟨_,rfl⟩
   have HT1 := h_ ht1
   rw [← ht1] at hw1
   have c0 := hw1.st.cell.cell
   have HKS := h_ hs
   clear hs ht1
   have hb1 : t1.size ≤ 1200000000 := by rw [HT1.out]; exact HSZ.out k (by rw [← HL.out]; exact hk)
   have HB1 := h_ hb1
   have HW1' : Hid (Wn B g w tv wr tv1 t1) := h_ hw1
   by_cases h0 : 0 < t1.size
   ·obtain ⟨tb,tc,rfl,hlast⟩ := hw1.st.last h0
    have hix : IntKind.i64.wrap ((t1.size : Int) - 1) = ((t1.size - 1 : Nat) : Int) := by rw [show ((t1.size - 1 : Nat) : Int) = (t1.size : Int) - 1 by omega]; exact IntWalk.i64_in _ (by omega)
    have hd : decide ((0 : Int) < (t1.size : Int)) = true := decide_eq_true (by omega)
    have hin : 0 ≤ ((t1.size - 1 : Nat) : Int) ∧ ((t1.size - 1 : Nat) : Int) < (t1.size : Int) := by omega
    obtain ⟨lb,hlb⟩ : ∃ lb,lb = bt t1 (t1.size - 1) := ⟨_,rfl⟩
    have HLB := h_ (And.intro h0 hlb)
    rw [← hlb] at hlast
    clear hlb hw1
    by_cases h10 : lb = 10
    ·have HSP : Hid (sepB t1 = t1) := h_ (by unfold sepB; rw [← HLB.out.2,if_neg (fun h => h.2 h10)])
     have e10 : (((lb : Nat) : Int) != 10) = false := by rw [h10]; rfl
     go_wp2_with fail
     go_quiet (fail)
     go_wp2_with (with_reducible refine stop_append_n ?_)
     unfold StopN
     refine wpList_plain rfl fun K hK => ?_
     rename_i nq
     have HX : Hid (Wn B g w tv (wr.drewN nq) (.slice (some ⟨tb,0,none⟩) t1.size tc) t1) := h_ (HW1'.out.trans (HW1'.out.st.step ((Fr.refl wr).drewN nq)))
     refine wp_append_text_where (.tmp 46) (.tmp 47) 54 9 rfl B 5 i0 underlying54 underlying9 HI.out.1 HI.out.2.1 HI.out.2.2.1 HI.out.2.2.2 (.slice (some ⟨tb,0,none⟩) t1.size tc) t1.size (Lib.strCells t1) (by rfl) HX.out.st.own s (by rfl) (HNE.out s (List.mem_of_getElem? HKS.out)) (by have := HS1.out s (List.mem_of_getElem? HKS.out); unfold maxLen; omega) (by have := HS1.out s (List.mem_of_getElem? HKS.out); omega) HX.out.st.base fun v3 w3 hown hg hwh => hK _ _ ?_
     have HQ : Hid (Wn B g w tv (w3.setCell ⟨g,0,none⟩ v3) v3 (pt t (L.take (k + 1)))) := h_ (by
      rw [pt_take t L k s HKS.out,← HT1.out,HSP.out]
      exact HX.out.trans (HX.out.st.put hown hg hwh))
     have hc3 : Cb w3 g (.slice (some ⟨tb,0,none⟩) t1.size tc) 84 := (hg.block g HX.out.st.cell.lt (fun e => HX.out.st.ne e.symm)).trans HX.out.st.cell
     obtain ⟨wa,wn,wc,rfl⟩ := own_form5' hown
     have c3 := hc3.cell
     have f3 := hc3.free
     clear hown hg hwh hK hc3
     go_wp2_with fail
     go_roundw
     case rel => exact ⟨k + 1,by omega,by go_num,_,HQ.out⟩
     case measure => simp [intOf]; omega
    ·have HSP : Hid (sepB t1 = t1 ++ ⟨#[32]⟩) := h_ (by unfold sepB; rw [← HLB.out.2,if_pos ⟨HLB.out.1,h10⟩])
     have e10 : (((lb : Nat) : Int) != 10) = true := by rw [bne_iff_ne]; omega
     go_wp2_with fail
     go_quiet (fail)
     go_wp2_with (with_reducible refine stop_append_n ?_)
     unfold StopN
     refine wpList_plain rfl fun K hK => ?_
     rename_i nq
     have HX1 : Hid (Wn B g w tv (wr.drewN nq) (.slice (some ⟨tb,0,none⟩) t1.size tc) t1) := h_ (HW1'.out.trans (HW1'.out.st.step ((Fr.refl wr).drewN nq)))
     have HX : Hid (Wn B g w tv ((wr.drewN nq).alloc (.cells #[.int .u8 32] 5)) (.slice (some ⟨tb,0,none⟩) t1.size tc) t1) := h_ (HX1.out.trans (HX1.out.st.step ((Fr.refl _).alloc _)))
     refine wp_append_where (.tmp 37) (.tmp 38) 54 rfl B 5 i0 (.int .u8 0) 1 1 underlying54 HI.out.1 HI.out.2.1 HI.out.2.2.1 HI.out.2.2.2 rfl (by omega) (.slice (some ⟨tb,0,none⟩) t1.size tc) t1.size (Lib.strCells t1) (by rfl) HX.out.st.own ⟨(wr.drewN nq).heap.size,0,none⟩ 1 1 [.int .u8 32] (by rfl) (by rfl) (byte_at (wr.drewN nq) 32) (by intro u hu; simp at hu; subst hu; rfl) (by omega) (by unfold maxLen; omega) (by omega) HX.out.st.base fun v2 w2 hown hg hwh => hK _ _ ?_
     obtain ⟨t2,ht2⟩ : ∃ t2,t2 = t1 ++ (⟨#[32]⟩ : BA) := ⟨_,rfl⟩
     have HP : Hid (Wn B g w tv (w2.setCell ⟨g,0,none⟩ v2) v2 t2) := h_ (by rw [ht2]; exact HX.out.trans (HX.out.st.put (s := ⟨#[32]⟩) hown hg hwh))
     have hc2 : Cb w2 g (.slice (some ⟨tb,0,none⟩) t1.size tc) 84 := (hg.block g HX.out.st.cell.lt (fun e => HX.out.st.ne e.symm)).trans HX.out.st.cell
     have hb2 : t2.size ≤ 1200000001 := by rw [ht2,ByteArray.size_append]; have : (⟨#[32]⟩ : BA).size = 1 := rfl; omega
     obtain ⟨va,vc,rfl,_⟩ := HP.out.st.form
     have c2 := hc2.cell
     have f2 := hc2.free
     rw [← ht2] at HSP
     clear hown hg hwh hK hc2 ht2
     go_wp2_with (with_reducible refine stop_append_n ?_)
     unfold StopN
     refine wpList_plain rfl fun K hK => ?_
     have HX := HP
     refine wp_append_text_where (.tmp 46) (.tmp 47) 54 9 rfl B 5 i0 underlying54 underlying9 HI.out.1 HI.out.2.1 HI.out.2.2.1 HI.out.2.2.2 (.slice va t2.size vc) t2.size (Lib.strCells t2) (by rfl) HX.out.st.own s (by rfl) (HNE.out s (List.mem_of_getElem? HKS.out)) (by have := HS1.out s (List.mem_of_getElem? HKS.out); unfold maxLen; omega) (by have := HS1.out s (List.mem_of_getElem? HKS.out); omega) HX.out.st.base fun v3 w3 hown hg hwh => hK _ _ ?_
     have HQ : Hid (Wn B g w tv (w3.setCell ⟨g,0,none⟩ v3) v3 (pt t (L.take (k + 1)))) := h_ (by
      rw [pt_take t L k s HKS.out,← HT1.out,HSP.out]
      exact HX.out.trans (HX.out.st.put hown hg hwh))
     have hc3 : Cb w3 g (.slice va t2.size vc) 84 := (hg.block g HX.out.st.cell.lt (fun e => HX.out.st.ne e.symm)).trans HX.out.st.cell
     obtain ⟨wa,wn,wc,rfl⟩ := own_form5' hown
     have c3 := hc3.cell
     have f3 := hc3.free
     clear hown hg hwh hK hc3
     go_wp2_with fail
     go_roundw
     case rel => exact ⟨k + 1,by omega,by go_num,_,HQ.out⟩
     case measure => simp [intOf]; omega
   ·obtain ⟨ta,tc,rfl,_⟩ := hw1.st.form
    have HSP : Hid (sepB t1 = t1) := h_ (by unfold sepB; rw [if_neg (fun h => h0 h.1)])
    have hd : decide ((0 : Int) < (t1.size : Int)) = false := decide_eq_false (by omega)
    clear hw1
    go_wp2_with fail
    go_quiet (fail)
    go_wp2_with (with_reducible refine stop_append_n ?_)
    unfold StopN
    refine wpList_plain rfl fun K hK => ?_
    rename_i nq
    have HX : Hid (Wn B g w tv (wr.drewN nq) (.slice ta t1.size tc) t1) := h_ (HW1'.out.trans (HW1'.out.st.step ((Fr.refl wr).drewN nq)))
    refine wp_append_text_where (.tmp 46) (.tmp 47) 54 9 rfl B 5 i0 underlying54 underlying9 HI.out.1 HI.out.2.1 HI.out.2.2.1 HI.out.2.2.2 (.slice ta t1.size tc) t1.size (Lib.strCells t1) (by rfl) HX.out.st.own s (by rfl) (HNE.out s (List.mem_of_getElem? HKS.out)) (by have := HS1.out s (List.mem_of_getElem? HKS.out); unfold maxLen; omega) (by have := HS1.out s (List.mem_of_getElem? HKS.out); omega) HX.out.st.base fun v3 w3 hown hg hwh => hK _ _ ?_
    have HQ : Hid (Wn B g w tv (w3.setCell ⟨g,0,none⟩ v3) v3 (pt t (L.take (k + 1)))) := h_ (by
     rw [pt_take t L k s HKS.out,← HT1.out,HSP.out]
     exact HX.out.trans (HX.out.st.put hown hg hwh))
    have hc3 : Cb w3 g (.slice ta t1.size tc) 84 := (hg.block g HX.out.st.cell.lt (fun e => HX.out.st.ne e.symm)).trans HX.out.st.cell
    obtain ⟨wa,wn,wc,rfl⟩ := own_form5' hown
    have c3 := hc3.cell
    have f3 := hc3.free
    clear hown hg hwh hK hc3
    go_wp2_with fail
    go_roundw
    case rel => exact ⟨k + 1,by omega,by go_num,_,HQ.out⟩
    case measure => simp [intOf]; omega
  ·obtain rfl : k = n := by omega
   have HFN : Hid (∃ tv',Wn B g w tv wr tv' (pt t L)) := h_ ⟨tv1,by have h := HW1.out; rw [HL.out,List.take_length] at h; exact h⟩
   clear hw1
   go_wp2_with fail
   go_end0
   exact ⟨rfl,HFN.out⟩
def opfN (op n : Int) : Option Opr := opTab.find? fun x => decide (x.op = op) && decide (x.n = n)
theorem opfN_drop {op n : Int} {j : Nat} {x : Opr} (hx : opTab[j]? = some x) : (opTab.drop j).find? (fun x => decide (x.op = op) && decide (x.n = n)) = if (decide (x.op = op) && decide (x.n = n)) = true then some x else (opTab.drop (j + 1)).find? (fun x => decide (x.op = op) && decide (x.n = n)) := by
 rw [List.drop_eq_getElem_cons (List.getElem?_eq_some_iff.1 hx).1,List.find?_cons,(List.getElem?_eq_some_iff.1 hx).2]
 cases h : (decide (x.op = op) && decide (x.n = n)) <;> simp
theorem operatorOf_any (q0 q1 : Int) (q2 : ByteArray) (lv : Value) (q4 : Int) (hlv : ∃ a n c,lv = .slice a n c) (w : World) (ho : Ov w) :
 Calls prog 214 #[.agg #[.int .i64 q0,.int .i64 q1,.string q2,lv,.int .i64 q4]] w fun e w' => e = .returned (.tuple #[oprV ((opfN q0 q1).getD opZ),.bool (opfN q0 q1).isSome]) ∧ Fr w w' := by
 obtain ⟨la,ln,lc,rfl⟩ := hlv
 obtain ⟨R,hR⟩ : ∃ r,r = opfN q0 q1 := ⟨_,rfl⟩
 have HR := h_ hR
 rw [← hR]
 obtain ⟨b,off,cap,h0,hcap,htab⟩ := ho
 have HT := h_ htab
 obtain ⟨w0,hw0⟩ : ∃ w0,w0 = (w.alloc (.cells #[.int .i64 q0,.int .i64 q1,.string q2,.slice la ln lc,.int .i64 q4] 32)).alloc (.cells #[.string ⟨#[]⟩,.int .i64 0,.int .i64 0,.int .i64 0] 154) := ⟨_,rfl⟩
 have HF0 : Hid (Fr w w0) := h_ (by rw [hw0]; exact ((Fr.refl w).alloc _).alloc _)
 have HB0 : Hid (Nb w0 w.heap.size (.int .i64 q0) (.int .i64 q1) (.string q2) (.slice la ln lc) (.int .i64 q4)) := h_ (by rw [hw0]; exact (Nb.new w _ _ _ _ _).fr ((Fr.refl _).alloc _))
 have HB1 : Hid (Ob w0 (w.heap.size + 1) (.string ⟨#[]⟩) (.int .i64 0) (.int .i64 0) (.int .i64 0)) := h_ (by rw [hw0]; exact Ob.new1 w _ _ _ _ _)
 have HW0 := h_ hw0
 have g0 : w0.cell? ⟨0,0,none⟩ = some (.slice (some ⟨b,off,none⟩) 20 cap) := HF0.out.cell h0
 rw [hw0] at g0
 clear hR htab hw0 h0
 go_enter func214,ntmps214
 go_wp2_with fail
 try rw [← HW0.out]
 go_loopw [8] (fun i wr => ∃ j : Nat,j ≤ 20 ∧ i = .int .i64 j ∧ Hid (R = (opTab.drop j).find? (fun x => decide (x.op = q0) && decide (x.n = q1))) ∧ Fr w0 wr) (fun i _ => 20 - (intOf i).toNat)
 case atStart => exact ⟨0,Nat.zero_le _,rfl,h_ (by rw [HR.out]; rfl),Fr.refl _⟩
 case round =>
  obtain ⟨j,hj,rfl,HJ,hfr⟩ := hrel
  by_cases hlt : j < 20
  ·obtain ⟨x,hx⟩ : ∃ x,opTab[j]? = some x := ⟨_,List.getElem?_eq_getElem (by rw [opTab_len]; exact hlt)⟩
   have hstep := opfN_drop (op := q0) (n := q1) hx
   obtain ⟨x0,x1,x2,x3⟩ := HT.out j x hx
   have y0 := (HF0.out.trans hfr).cell x0
   have y1 := (HF0.out.trans hfr).cell x1
   have y2 := (HF0.out.trans hfr).cell x2
   have y3 := (HF0.out.trans hfr).cell x3
   have HX := h_ hx
   obtain ⟨xt,hxt⟩ : ∃ y,y = x.t := ⟨_,rfl⟩
   obtain ⟨xo,hxo⟩ : ∃ y,y = x.op := ⟨_,rfl⟩
   obtain ⟨xn,hxn⟩ : ∃ y,y = x.n := ⟨_,rfl⟩
   obtain ⟨xl,hxl⟩ : ∃ y,y = x.l := ⟨_,rfl⟩
   rw [← hxt] at y0
   rw [← hxo] at y1 hstep
   rw [← hxn] at y2 hstep
   rw [← hxl] at y3
   have HXV : Hid (oprV x = .agg #[.string xt,.int .i64 xo,.int .i64 xn,.int .i64 xl]) := h_ (by rw [hxt,hxo,hxn,hxl]; rfl)
   have HBT := h_ ((HB0.out.fr hfr).fr ((Fr.refl wr).alloc (.cells #[.string xt,.int .i64 xo,.int .i64 xn,.int .i64 xl] 154)))
   have HBO := h_ ((HB1.out.fr hfr).fr ((Fr.refl wr).alloc (.cells #[.string xt,.int .i64 xo,.int .i64 xn,.int .i64 xl] 154)))
   have HBX := h_ (Ob.new wr (.string xt) (.int .i64 xo) (.int .i64 xn) (.int .i64 xl))
   obtain ⟨t0,t1,t2,t3,t4⟩ := HBT.out.cells
   obtain ⟨d0,d1,d2,d3⟩ := HBX.out.cells
   have hji : (j : Int).toNat = j := Int.toNat_natCast j
   clear x0 x1 x2 x3 hx hxt hxo hxn hxl
   by_cases hl : xo = q0
   ·subst hl
    have z1 : (xo == xo) = true := by simp
    by_cases hn : xn = q1
    ·subst hn
     have z2 : (xn == xn) = true := by simp
     have HRX : Hid (R = some x) := h_ (by rw [HJ.out,hstep,if_pos (by simp)])
     clear hstep
     have HG1 : Hid (Fr w (wr.alloc (.cells #[.string xt,.int .i64 xo,.int .i64 xn,.int .i64 xl] 154))) := h_ ((HF0.out.trans hfr).alloc _)
     obtain ⟨c0,c1,c2,c3⟩ := HBO.out.cells
     have f0 := HBO.out.free 0
     have f1 := HBO.out.free 1
     have f2 := HBO.out.free 2
     have f3 := HBO.out.free 3
     go_wp2_with fail
     refine bodyPost_ret (v := .tuple #[.agg #[.string xt,.int .i64 xo,.int .i64 xn,.int .i64 xl],.bool true]) (by simp [results,results214,go_sem,c0,c1,c2,c3]) rfl ?_
     rw [HRX.out]
     have e1 : w.heap.size ≤ w.heap.size + 1 := by omega
     refine ⟨?_,(((HG1.out.setCell e1 _).setCell e1 _).setCell e1 _).setCell e1 _⟩
     show _ = Ending.returned (.tuple #[oprV x,.bool true])
     rw [HXV.out]
    ·have z2 : (xn == q1) = false := by rw [beq_eq_false_iff_ne]; exact hn
     have HJ2 : Hid (R = (opTab.drop (j + 1)).find? (fun x => decide (x.op = xo) && decide (x.n = q1))) := h_ (by rw [HJ.out,hstep]; simp [hn])
     clear hstep hn
     go_wp2_with fail
     go_roundw
     case rel => exact ⟨j + 1,by omega,by go_num,HJ2,hfr.trans ((Fr.refl wr).alloc _)⟩
     case measure => simp [intOf]; omega
   ·have z1 : (xo == q0) = false := by rw [beq_eq_false_iff_ne]; exact hl
    have HJ2 : Hid (R = (opTab.drop (j + 1)).find? (fun x => decide (x.op = q0) && decide (x.n = q1))) := h_ (by rw [HJ.out,hstep]; simp [hl])
    clear hstep hl
    go_wp2_with fail
    go_roundw
    case rel => exact ⟨j + 1,by omega,by go_num,HJ2,hfr.trans ((Fr.refl wr).alloc _)⟩
    case measure => simp [intOf]; omega
  ·obtain rfl : j = 20 := by omega
   have HRN : Hid (R = none) := h_ (by rw [HJ.out,List.drop_eq_nil_of_le (by rw [opTab_len]; exact Nat.le_refl _)]; rfl)
   have HBO := h_ (HB1.out.fr hfr)
   obtain ⟨c0,c1,c2,c3⟩ := HBO.out.cells
   have f0 := HBO.out.free 0
   have f1 := HBO.out.free 1
   have f2 := HBO.out.free 2
   have f3 := HBO.out.free 3
   go_wp2_with fail
   refine bodyPost_ret (v := .tuple #[.agg #[.string ⟨#[]⟩,.int .i64 0,.int .i64 0,.int .i64 0],.bool false]) (by simp [results,results214,go_sem,c0,c1,c2,c3]) rfl ?_
   rw [HRN.out]
   have e1 : w.heap.size ≤ w.heap.size + 1 := by omega
   exact ⟨rfl,((((HF0.out.trans hfr).setCell e1 _).setCell e1 _).setCell e1 _).setCell e1 _⟩
theorem leftLevel_any (x : Opr) (hx : -1000 ≤ x.l ∧ x.l ≤ 1000) (w : World) : Calls prog 215 #[oprV x] w fun e w' => e = .returned (.int .i64 (if x.l = 5 then 6 else x.l)) ∧ Fr w w' := by
 unfold oprV
 obtain ⟨l,hl⟩ : ∃ y,y = x.l := ⟨_,rfl⟩
 rw [← hl] at hx ⊢
 have A0 : Hid (∀ y : Obj,Fr w (w.alloc y)) := h_ (fun y => (Fr.refl w).alloc y)
 clear hl
 by_cases h5 : l = 5
 ·subst h5
  have i1 : IntKind.i64.wrap ((5 : Int) + 1) = 6 := rfl
  clear hx
  go_enter func215,ntmps215
  go_wp2_with fail
  go_ret
  exact ⟨rfl,A0.out _⟩
 ·have z1 : (l == 5) = false := by rw [beq_eq_false_iff_ne]; exact h5
  rw [if_neg h5]
  clear hx h5
  go_enter func215,ntmps215
  go_wp2_with fail
  go_ret
  exact ⟨rfl,A0.out _⟩
theorem opTab_wf2 : ∀ x ∈ opTab,1 ≤ x.l ∧ x.l ≤ 9 := by
 intro x hx
 simp [opTab] at hx
 rcases hx with rfl | rfl | rfl | rfl | rfl | rfl | rfl | rfl | rfl | rfl | rfl | rfl | rfl | rfl | rfl | rfl | rfl | rfl | rfl | rfl <;> decide
theorem opfN_in {op n : Int} {x : Opr} (h : opfN op n = some x) : x ∈ opTab ∧ x.op = op ∧ x.n = n := by
 unfold opfN at h
 have h1 := List.mem_of_find?_eq_some h
 have h2 := List.find?_some h
 simp only [Bool.and_eq_true,decide_eq_true_eq] at h2
 exact ⟨h1,h2.1,h2.2⟩
def lvE (op n : Int) : Int := match opfN op n with
 | some x => x.l
 | none => if op = 14 then 0 else if op = 13 then (if n = 19 then 4 else 7) else if op = 10 ∨ op = 11 then 10 else if op = 7 then 11 else 12
theorem levelOf_any (q0 q1 : Int) (q2 : ByteArray) (lv : Value) (q4 : Int) (hlv : ∃ a n c,lv = .slice a n c) (w : World) (ho : Ov w) :
 Calls prog 155 #[.agg #[.int .i64 q0,.int .i64 q1,.string q2,lv,.int .i64 q4]] w fun e w' => e = .returned (.int .i64 (lvE q0 q1)) ∧ Fr w w' := by
 have C1 : Hid (∀ W,Fr w W → Calls prog 214 #[.agg #[.int .i64 q0,.int .i64 q1,.string q2,lv,.int .i64 q4]] W fun e w' => e = .returned (.tuple #[oprV ((opfN q0 q1).getD opZ),.bool (opfN q0 q1).isSome]) ∧ Fr W w') := h_ (fun W h => operatorOf_any q0 q1 q2 lv q4 hlv W (ho.fr h))
 obtain ⟨la,ln,lc,rfl⟩ := hlv
 unfold lvE
 have HB := h_ (Nb.new w (.int .i64 q0) (.int .i64 q1) (.string q2) (.slice la ln lc) (.int .i64 q4))
 have HF0 : Hid (Fr w (w.alloc (.cells #[.int .i64 q0,.int .i64 q1,.string q2,.slice la ln lc,.int .i64 q4] 32))) := h_ ((Fr.refl w).alloc _)
 clear ho
 cases hR : opfN q0 q1 with
 | some x =>
  rw [hR] at C1
  obtain ⟨xt,hxt⟩ : ∃ y,y = x.t := ⟨_,rfl⟩
  obtain ⟨xo,hxo⟩ : ∃ y,y = x.op := ⟨_,rfl⟩
  obtain ⟨xn,hxn⟩ : ∃ y,y = x.n := ⟨_,rfl⟩
  obtain ⟨xl,hxl⟩ : ∃ y,y = x.l := ⟨_,rfl⟩
  have hxv : oprV x = .agg #[.string xt,.int .i64 xo,.int .i64 xn,.int .i64 xl] := by rw [hxt,hxo,hxn,hxl]; rfl
  rw [show (some x).getD opZ = x from rfl,show (some x).isSome = true from rfl,hxv] at C1
  show Calls _ _ _ _ fun e w' => e = .returned (.int .i64 x.l) ∧ Fr w w'
  rw [← hxl]
  clear hxt hxo hxn hxl hxv hR
  go_enter func155,ntmps155
  go_wp2_with fail
  refine (C1.out _ HF0.out).mono ?_
  rintro e w1 ⟨rfl,hf1⟩
  have HO := h_ (Ob.new w1 (.string xt) (.int .i64 xo) (.int .i64 xn) (.int .i64 xl))
  have HF1 : Hid (Fr w (w1.alloc (.cells #[.string xt,.int .i64 xo,.int .i64 xn,.int .i64 xl] 154))) := h_ ((HF0.out.trans hf1).alloc _)
  obtain ⟨c0,c1,c2,c3⟩ := HO.out.cells
  clear hf1
  go_wp2_with fail
  go_ret
  exact ⟨rfl,HF1.out⟩
 | none =>
  rw [hR,show (none : Option Opr).isSome = false from rfl,show (none : Option Opr).getD opZ = opZ from rfl] at C1
  have hxv : oprV opZ = .agg #[.string ⟨#[]⟩,.int .i64 0,.int .i64 0,.int .i64 0] := rfl
  rw [hxv] at C1
  show Calls _ _ _ _ fun e w' => e = .returned (.int .i64 (if q0 = 14 then 0 else if q0 = 13 then (if q1 = 19 then 4 else 7) else if q0 = 10 ∨ q0 = 11 then 10 else if q0 = 7 then 11 else 12)) ∧ Fr w w'
  clear hxv hR
  by_cases hq014 : q0 = 14
  ·subst hq014
   rw [if_pos rfl]
   go_enter func155,ntmps155
   go_wp2_with fail
   refine (C1.out _ HF0.out).mono ?_
   rintro e w1 ⟨rfl,hf1⟩
   have HB1 := h_ ((HB.out.fr hf1).fr ((Fr.refl w1).alloc (.cells #[.string ⟨#[]⟩,.int .i64 0,.int .i64 0,.int .i64 0] 154)))
   have HF1 : Hid (Fr w (w1.alloc (.cells #[.string ⟨#[]⟩,.int .i64 0,.int .i64 0,.int .i64 0] 154))) := h_ ((HF0.out.trans hf1).alloc _)
   obtain ⟨t0,t1,t2,t3,t4⟩ := HB1.out.cells
   clear hf1
   go_wp2_with fail
   go_ret
   exact ⟨rfl,HF1.out⟩
  ·have zhq014 : (q0 == 14) = false := by rw [beq_eq_false_iff_ne]; exact hq014
   by_cases hq013 : q0 = 13
   ·subst hq013
    by_cases hq119 : q1 = 19
    ·subst hq119
     rw [if_neg (by decide),if_pos rfl,if_pos rfl]
     go_enter func155,ntmps155
     go_wp2_with fail
     refine (C1.out _ HF0.out).mono ?_
     rintro e w1 ⟨rfl,hf1⟩
     have HB1 := h_ ((HB.out.fr hf1).fr ((Fr.refl w1).alloc (.cells #[.string ⟨#[]⟩,.int .i64 0,.int .i64 0,.int .i64 0] 154)))
     have HF1 : Hid (Fr w (w1.alloc (.cells #[.string ⟨#[]⟩,.int .i64 0,.int .i64 0,.int .i64 0] 154))) := h_ ((HF0.out.trans hf1).alloc _)
     obtain ⟨t0,t1,t2,t3,t4⟩ := HB1.out.cells
     clear hf1
     go_wp2_with fail
     go_ret
     exact ⟨rfl,HF1.out⟩
    ·have zhq119 : (q1 == 19) = false := by rw [beq_eq_false_iff_ne]; exact hq119
     rw [if_neg (by decide),if_pos rfl,if_neg hq119]
     clear hq119
     go_enter func155,ntmps155
     go_wp2_with fail
     refine (C1.out _ HF0.out).mono ?_
     rintro e w1 ⟨rfl,hf1⟩
     have HB1 := h_ ((HB.out.fr hf1).fr ((Fr.refl w1).alloc (.cells #[.string ⟨#[]⟩,.int .i64 0,.int .i64 0,.int .i64 0] 154)))
     have HF1 : Hid (Fr w (w1.alloc (.cells #[.string ⟨#[]⟩,.int .i64 0,.int .i64 0,.int .i64 0] 154))) := h_ ((HF0.out.trans hf1).alloc _)
     obtain ⟨t0,t1,t2,t3,t4⟩ := HB1.out.cells
     clear hf1
     go_wp2_with fail
     go_ret
     exact ⟨rfl,HF1.out⟩
   ·have zhq013 : (q0 == 13) = false := by rw [beq_eq_false_iff_ne]; exact hq013
    by_cases hq010 : q0 = 10
    ·subst hq010
     rw [if_neg (by decide),if_neg (by decide),if_pos (.inl rfl)]
     go_enter func155,ntmps155
     go_wp2_with fail
     refine (C1.out _ HF0.out).mono ?_
     rintro e w1 ⟨rfl,hf1⟩
     have HB1 := h_ ((HB.out.fr hf1).fr ((Fr.refl w1).alloc (.cells #[.string ⟨#[]⟩,.int .i64 0,.int .i64 0,.int .i64 0] 154)))
     have HF1 : Hid (Fr w (w1.alloc (.cells #[.string ⟨#[]⟩,.int .i64 0,.int .i64 0,.int .i64 0] 154))) := h_ ((HF0.out.trans hf1).alloc _)
     obtain ⟨t0,t1,t2,t3,t4⟩ := HB1.out.cells
     clear hf1
     go_wp2_with fail
     go_ret
     exact ⟨rfl,HF1.out⟩
    ·have zhq010 : (q0 == 10) = false := by rw [beq_eq_false_iff_ne]; exact hq010
     by_cases hq011 : q0 = 11
     ·subst hq011
      rw [if_neg (by decide),if_neg (by decide),if_pos (.inr rfl)]
      go_enter func155,ntmps155
      go_wp2_with fail
      refine (C1.out _ HF0.out).mono ?_
      rintro e w1 ⟨rfl,hf1⟩
      have HB1 := h_ ((HB.out.fr hf1).fr ((Fr.refl w1).alloc (.cells #[.string ⟨#[]⟩,.int .i64 0,.int .i64 0,.int .i64 0] 154)))
      have HF1 : Hid (Fr w (w1.alloc (.cells #[.string ⟨#[]⟩,.int .i64 0,.int .i64 0,.int .i64 0] 154))) := h_ ((HF0.out.trans hf1).alloc _)
      obtain ⟨t0,t1,t2,t3,t4⟩ := HB1.out.cells
      clear hf1
      go_wp2_with fail
      go_ret
      exact ⟨rfl,HF1.out⟩
     ·have zhq011 : (q0 == 11) = false := by rw [beq_eq_false_iff_ne]; exact hq011
      by_cases hq07 : q0 = 7
      ·subst hq07
       rw [if_neg (by decide),if_neg (by decide),if_neg (by decide),if_pos rfl]
       go_enter func155,ntmps155
       go_wp2_with fail
       refine (C1.out _ HF0.out).mono ?_
       rintro e w1 ⟨rfl,hf1⟩
       have HB1 := h_ ((HB.out.fr hf1).fr ((Fr.refl w1).alloc (.cells #[.string ⟨#[]⟩,.int .i64 0,.int .i64 0,.int .i64 0] 154)))
       have HF1 : Hid (Fr w (w1.alloc (.cells #[.string ⟨#[]⟩,.int .i64 0,.int .i64 0,.int .i64 0] 154))) := h_ ((HF0.out.trans hf1).alloc _)
       obtain ⟨t0,t1,t2,t3,t4⟩ := HB1.out.cells
       clear hf1
       go_wp2_with fail
       go_ret
       exact ⟨rfl,HF1.out⟩
      ·have zhq07 : (q0 == 7) = false := by rw [beq_eq_false_iff_ne]; exact hq07
       rw [if_neg hq014,if_neg hq013,if_neg (by omega),if_neg hq07]
       clear hq014 hq013 hq010 hq011 hq07
       go_enter func155,ntmps155
       go_wp2_with fail
       refine (C1.out _ HF0.out).mono ?_
       rintro e w1 ⟨rfl,hf1⟩
       have HB1 := h_ ((HB.out.fr hf1).fr ((Fr.refl w1).alloc (.cells #[.string ⟨#[]⟩,.int .i64 0,.int .i64 0,.int .i64 0] 154)))
       have HF1 : Hid (Fr w (w1.alloc (.cells #[.string ⟨#[]⟩,.int .i64 0,.int .i64 0,.int .i64 0] 154))) := h_ ((HF0.out.trans hf1).alloc _)
       obtain ⟨t0,t1,t2,t3,t4⟩ := HB1.out.cells
       clear hf1
       go_wp2_with fail
       go_ret
       exact ⟨rfl,HF1.out⟩
theorem str_at (w : World) (s : ByteArray) : ∀ i x,([s] : List ByteArray)[i]? = some x → (w.alloc (.cells #[.string s] 9)).cell? ⟨w.heap.size,i,none⟩ = some (.string x) := by
 intro i x hx
 match i,hx with
 | 0,hx => simp at hx; subst hx; simp
 | (i + 1),hx => simp at hx
theorem str_at2 (w : World) (s t : ByteArray) : ∀ i x,([s,t] : List ByteArray)[i]? = some x → (w.alloc (.cells #[.string s,.string t] 9)).cell? ⟨w.heap.size,i,none⟩ = some (.string x) := by
 intro i x hx
 match i,hx with
 | 0,hx => simp at hx; subst hx; simp
 | 1,hx => simp at hx; subst hx; simp
 | (i + 2),hx => simp at hx
theorem str_at3 (w : World) (s t u : ByteArray) : ∀ i x,([s,t,u] : List ByteArray)[i]? = some x → (w.alloc (.cells #[.string s,.string t,.string u] 9)).cell? ⟨w.heap.size,i,none⟩ = some (.string x) := by
 intro i x hx
 match i,hx with
 | 0,hx => simp at hx; subst hx; simp
 | 1,hx => simp at hx; subst hx; simp
 | 2,hx => simp at hx; subst hx; simp
 | (i + 3),hx => simp at hx
theorem put_new (B g : Nat) (w : World) (tv : Value) (t : ByteArray) (L : List ByteArray) (c : Nat) (xs : Array Value) (h : Wt B g w tv t) (hc : ∀ i x,L[i]? = some x → (w.alloc (.cells xs 9)).cell? ⟨w.heap.size,i,none⟩ = some (.string x)) (hne : ∀ s ∈ L,0 < s.size) (hsz : ∀ s ∈ L,s.size ≤ 1000000) (hn : L.length ≤ 1000) (hs : t.size ≤ 100000000) :
 Calls prog 72 #[.pointer (some ⟨g,0,none⟩),.slice (some ⟨w.heap.size,0,none⟩) L.length c] (w.alloc (.cells xs 9)) fun e w' => e = .returned (.tuple #[]) ∧ ∃ tv',Wn B g w tv w' tv' (pt t L) := by
 have hf := (Fr.refl w).alloc (.cells xs 9)
 refine (put_any B g _ tv t L w.heap.size c (h.fr hf) hc (by have := h.cell.lt; omega) (fun e => by have := (h.own.lt _ e.symm).2; omega) hne hsz hn hs).mono ?_
 rintro e w' ⟨rfl,tv',hw⟩
 exact ⟨rfl,tv',(h.step hf).trans hw⟩
theorem Wn.frame {g : Nat} {w0 w w' : World} {tv tv' : Value} {t t' : ByteArray} (h : Wn w0.heap.size g w tv w' tv' t') (hs : Wt w0.heap.size g w tv t) (hf : Fr w0 w) : Fr w0 w' :=
 h.fr.fr hf hs.gb (fun k hk => (hs.own.lt k hk).1)
def Wd (fn : Nat) (ar : Value → Value → Array Value) (n : Nd) (t t' : ByteArray) : Prop := t.size ≤ t'.size ∧
 ∀ (w0 : World) (g : Nat) (w : World) (tv lv : Value),Ov w0 → Nv w0 → LN w0 lv n.l → Fr w0 w → Wt w0.heap.size g w tv t → t'.size ≤ 100000000 →
  Calls prog fn (ar (.pointer (some ⟨g,0,none⟩)) (ndV n lv)) w fun e w' => e = .returned (.tuple #[]) ∧ ∃ tv',Wn w0.heap.size g w tv w' tv' t'
def ar0 (p v : Value) : Array Value := #[p,v]
def arL (L : Int) (p v : Value) : Array Value := #[p,v,.int .i64 L]
theorem pt_one_size (t s : ByteArray) : t.size ≤ (pt t [s]).size := by
 show t.size ≤ (sepB t ++ s).size
 rw [ByteArray.size_append]
 unfold sepB
 split
 ·rw [ByteArray.size_append]; omega
 ·omega
theorem ndV_eq (n : Nd) (lv : Value) : ndV n lv = .agg #[.int .i64 n.op,.int .i64 n.n,.string n.s,lv,.int .i64 n.a] := rfl
theorem part_of (n : Nd) (t t' : ByteArray) (hd : Wd 82 (arL 0) n t t') : Wd 167 ar0 n t t' := by
 refine ⟨hd.1,?_⟩
 intro w0 g w tv lv hov hnv hl hf hs hz
 show Calls prog 167 #[.pointer (some ⟨g,0,none⟩),ndV n lv] w _
 obtain ⟨la,lc,rfl,_,_,_⟩ := hl.form
 rw [ndV_eq]
 have HFA := h_ (fa_ n w la lc)
 have HST := h_ (hs.step HFA.out)
 have C1 := h_ (hd.2 w0 g _ tv _ hov hnv hl (hf.trans HFA.out) (hs.fr HFA.out) hz)
 rw [ndV_eq] at C1
 unfold arL at C1
 have HN := h_ (nn_ n w la lc)
 clear hov hnv hl hf hs hz hd
 go_enter func167,ntmps167
 go_wp2_with fail
 refine C1.out.mono ?_
 rintro e w1 ⟨rfl,tv1,hw1⟩
 have HW := h_ (HST.out.trans hw1)
 clear hw1
 go_wp2_with fail
 go_end0
 exact ⟨rfl,_,HW.out⟩
theorem expression_bare (L : Int) (n : Nd) (t t' : ByteArray) (hL : L ≤ lvE n.op n.n) (hd : Wd 156 ar0 n t t') : Wd 82 (arL L) n t t' := by
 refine ⟨hd.1,?_⟩
 intro w0 g w tv lv hov hnv hl hf hs hz
 show Calls prog 82 #[.pointer (some ⟨g,0,none⟩),ndV n lv,.int .i64 L] w _
 obtain ⟨la,lc,rfl,_,_,_⟩ := hl.form
 rw [ndV_eq]
 have HFA := h_ (fa_ n w la lc)
 have CL : Hid (∀ W,Fr w W → Calls prog 155 #[.agg #[.int .i64 n.op,.int .i64 n.n,.string n.s,.slice la n.l.length lc,.int .i64 n.a]] W fun e w' => e = .returned (.int .i64 (lvE n.op n.n)) ∧ Fr W w') := h_ (fun W h => levelOf_any _ _ _ _ _ ⟨_,_,_,rfl⟩ W (hov.fr (hf.trans h)))
 have C1 := h_ (fun W (h : Fr w W) => hd.2 w0 g W tv _ hov hnv hl (hf.trans h) (hs.fr h) hz)
 rw [ndV_eq] at C1
 unfold ar0 at C1
 have HN := h_ (nn_ n w la lc)
 have HS := h_ hs
 obtain ⟨lvl,hlv⟩ : ∃ x,x = lvE n.op n.n := ⟨_,rfl⟩
 rw [← hlv] at CL hL
 have z1 : decide (L ≤ lvl) = true := decide_eq_true hL
 clear hov hnv hl hf hs hz hd hlv hL
 go_enter func82,ntmps82
 go_wp2_with fail
 refine (CL.out _ HFA.out).mono ?_
 rintro e w1 ⟨rfl,hf1⟩
 have HN1 := h_ (HN.out.fr hf1)
 have HF1 := h_ (HFA.out.trans hf1)
 obtain ⟨c0,c1,c2,c3,c4⟩ := HN1.out.cells
 clear hf1
 go_wp2_with fail
 refine (C1.out _ HF1.out).mono ?_
 rintro e w2 ⟨rfl,tv2,hw2⟩
 have HW := h_ ((HS.out.step HF1.out).trans hw2)
 clear hw2
 go_wp2_with fail
 first | go_end0 | refine bodyPost_ret (results_none rfl _ _ _) rfl ?_
 exact ⟨rfl,_,HW.out⟩
theorem expression_paren (L : Int) (n : Nd) (t t1 : ByteArray) (hL : ¬ L ≤ lvE n.op n.n) (hd : Wd 156 ar0 n (pt t [⟨#[40]⟩]) t1) : Wd 82 (arL L) n t (pt t1 [⟨#[41]⟩]) := by
 refine ⟨Nat.le_trans (pt_one_size t ⟨#[40]⟩) (Nat.le_trans hd.1 (pt_one_size t1 ⟨#[41]⟩)),?_⟩
 intro w0 g w tv lv hov hnv hl hf hs hz
 show Calls prog 82 #[.pointer (some ⟨g,0,none⟩),ndV n lv,.int .i64 L] w _
 obtain ⟨la,lc,rfl,_,_,_⟩ := hl.form
 rw [ndV_eq]
 have HFA := h_ (fa_ n w la lc)
 have HN := h_ (nn_ n w la lc)
 have HS := h_ hs
 have hz1 : t1.size ≤ 100000000 := Nat.le_trans (pt_one_size t1 ⟨#[41]⟩) hz
 have hz0 : t.size ≤ 100000000 := Nat.le_trans (Nat.le_trans (pt_one_size t ⟨#[40]⟩) hd.1) hz1
 have CL : Hid (∀ W,Fr w W → Calls prog 155 #[.agg #[.int .i64 n.op,.int .i64 n.n,.string n.s,.slice la n.l.length lc,.int .i64 n.a]] W fun e w' => e = .returned (.int .i64 (lvE n.op n.n)) ∧ Fr W w') := h_ (fun W h => levelOf_any _ _ _ _ _ ⟨_,_,_,rfl⟩ W (hov.fr (hf.trans h)))
 have CP : Hid (∀ W tv t s,Wt w0.heap.size g W tv t → t.size ≤ 100000000 → (s = ⟨#[40]⟩ ∨ s = ⟨#[41]⟩) → Calls prog 72 #[.pointer (some ⟨g,0,none⟩),.slice (some ⟨W.heap.size,0,none⟩) 1 1] (W.alloc (.cells #[.string s] 9)) fun e w' => e = .returned (.tuple #[]) ∧ ∃ tv',Wn w0.heap.size g W tv w' tv' (pt t [s])) := h_ (fun W tv t s h hz hs => put_new w0.heap.size g W tv t [s] 1 #[.string s] h (str_at W s) (by intro x hx; simp at hx; subst hx; rcases hs with rfl | rfl <;> decide) (by intro x hx; simp at hx; subst hx; rcases hs with rfl | rfl <;> decide) (by simp) hz)
 have C1 := h_ (fun W tv' (h : Fr w0 W) (h2 : Wt w0.heap.size g W tv' (pt t [⟨#[40]⟩])) => hd.2 w0 g W tv' _ hov hnv hl h h2 hz1)
 rw [ndV_eq] at C1
 unfold ar0 at C1
 have HFF := h_ hf
 have HZ := h_ (And.intro hz0 hz1)
 obtain ⟨lvl,hlv⟩ : ∃ x,x = lvE n.op n.n := ⟨_,rfl⟩
 rw [← hlv] at CL hL
 have z1 : decide (L ≤ lvl) = false := decide_eq_false hL
 clear hov hnv hl hf hs hz hd hlv hL hz1 hz0
 go_enter func82,ntmps82
 go_wp2_with fail
 refine (CL.out _ HFA.out).mono ?_
 rintro e w1 ⟨rfl,hf1⟩
 have HN1 := h_ (HN.out.fr hf1)
 have HF1 := h_ (HFA.out.trans hf1)
 have HS1 := h_ (HS.out.step HF1.out)
 obtain ⟨c0,c1,c2,c3,c4⟩ := HN1.out.cells
 have hne1 : w.heap.size ≠ g := by have := HS.out.cell.lt; omega
 have hnr1 : some w.heap.size ≠ tv.ownBlock := fun e => by have := (HS.out.own.lt _ e.symm).2; omega
 clear hf1
 go_wp2_with fail
 refine (CP.out _ _ _ _ HS1.out.st HZ.out.1 (.inl rfl)).mono ?_
 rintro e w2 ⟨rfl,tv2,hw2⟩
 have HW2 := h_ (HS1.out.trans hw2)
 have HF2 : Hid (Fr w0 w2) := h_ (HW2.out.frame HS.out HFF.out)
 have d0 := hw2.side c0 hne1 hnr1
 have d1 := hw2.side c1 hne1 hnr1
 have d2 := hw2.side c2 hne1 hnr1
 have d3 := hw2.side c3 hne1 hnr1
 have d4 := hw2.side c4 hne1 hnr1
 clear hw2
 go_wp2_with fail
 refine (C1.out _ _ HF2.out HW2.out.st).mono ?_
 rintro e w3 ⟨rfl,tv3,hw3⟩
 have HW3 := h_ (HW2.out.trans hw3)
 clear hw3
 go_wp2_with fail
 refine (CP.out _ _ _ _ HW3.out.st HZ.out.2 (.inr rfl)).mono ?_
 rintro e w4 ⟨rfl,tv4,hw4⟩
 have HW4 := h_ (HW3.out.trans hw4)
 clear hw4
 go_wp2_with fail
 first | go_end0 | refine bodyPost_ret (results_none rfl _ _ _) rfl ?_
 exact ⟨rfl,_,HW4.out⟩
theorem number_of (n : Int) (h0 : -9223372036854775808 ≤ n) (h1 : n ≤ 9223372036854775807) (hp : 0 < (num n).t.size) (hq : (num n).t.size ≤ 1000000) (B g : Nat) (w : World) (tv : Value) (t : ByteArray) (hnv : Nv w) (h : Wt B g w tv t) (hz : t.size ≤ 100000000) :
 Calls prog 256 #[.pointer (some ⟨g,0,none⟩),.int .i64 n] w fun e w' => e = .returned (.tuple #[]) ∧ ∃ tv',Wn B g w tv w' tv' (pt t [(num n).t]) := by
 have C1 := h_ (Number_any n h0 h1 w hnv)
 have C2 := h_ (fun W (h : Wt B g W tv t) => put_new B g W tv t [(num n).t] 1 #[.string (num n).t] h (str_at W _) (by intro x hx; simp at hx; subst hx; exact hp) (by intro x hx; simp at hx; subst hx; exact hq) (by simp) hz)
 have HH := h_ h
 obtain ⟨nt,hnt⟩ : ∃ x,x = (num n).t := ⟨_,rfl⟩
 rw [← hnt] at C1 C2 ⊢
 clear h0 h1 hp hq hnv h hz hnt
 go_enter func256,ntmps256
 go_wp2_with fail
 refine C1.out.mono ?_
 rintro e w1 ⟨rfl,hf1⟩
 have HF1 := h_ hf1
 clear hf1
 go_wp2_with fail
 refine (C2.out _ (HH.out.fr HF1.out)).mono ?_
 rintro e w2 ⟨rfl,tv2,hw2⟩
 have HW2 := h_ ((HH.out.step HF1.out).trans hw2)
 clear hw2
 go_wp2_with fail
 go_end0
 exact ⟨rfl,_,HW2.out⟩
theorem put_one (B g : Nat) (w : World) (tv : Value) (t s : ByteArray) (b : Nat) (hb : b = w.heap.size) (h : Wt B g w tv t) (hp : 0 < s.size) (hq : s.size ≤ 1000000) (hz : t.size ≤ 100000000) :
 Calls prog 72 #[.pointer (some ⟨g,0,none⟩),.slice (some ⟨b,0,none⟩) 1 1] (w.alloc (.cells #[.string s] 9)) fun e w' => e = .returned (.tuple #[]) ∧ ∃ tv',Wn B g w tv w' tv' (pt t [s]) := by
 subst hb
 exact put_new B g w tv t [s] 1 #[.string s] h (str_at w s) (by intro x hx; simp at hx; subst hx; exact hp) (by intro x hx; simp at hx; subst hx; exact hq) (by simp) hz
theorem simple_num_w (n : Nd) (t : ByteArray) (h1 : n.op = 1) (hw : wf64 n.n) (hp : 0 < (num n.n).t.size) (hq : (num n.n).t.size ≤ 1000000) : Wd 218 ar0 n t (pt t [(num n.n).t]) := by
 refine ⟨pt_one_size t _,?_⟩
 intro w0 g w tv lv hov hnv hl hf hs hz
 show Calls prog 218 #[.pointer (some ⟨g,0,none⟩),ndV n lv] w _
 obtain ⟨la,lc,rfl,_,_,_⟩ := hl.form
 rw [ndV_eq]
 have HFA := h_ (fa_ n w la lc)
 have HN := h_ (nn_ n w la lc)
 have HS := h_ hs
 have hz0 : t.size ≤ 100000000 := Nat.le_trans (pt_one_size t _) hz
 have CN := h_ (fun W (h : Fr w W) => number_of n.n hw.1 hw.2 hp hq w0.heap.size g W tv t (hnv.fr (hf.trans h)) (hs.fr h) hz0)
 rw [h1] at HN HFA ⊢
 obtain ⟨c0,c1,c2,c3,c4⟩ := HN.out.cells
 clear hov hnv hl hf hs hz hz0 h1 hw hp hq
 go_enter func218,ntmps218
 go_wp2_with fail
 refine (CN.out _ HFA.out).mono ?_
 rintro e w1 ⟨rfl,tv1,hw1⟩
 have HW := h_ ((HS.out.step HFA.out).trans hw1)
 clear hw1
 go_wp2_with fail
 first | go_end0 | refine bodyPost_ret (results_none rfl _ _ _) rfl ?_
 exact ⟨rfl,_,HW.out⟩
theorem simple_name_w (n : Nd) (t : ByteArray) (h1 : n.op = 6) (hp : 0 < n.s.size) (hq : n.s.size ≤ 1000000) : Wd 218 ar0 n t (pt t [n.s]) := by
 refine ⟨pt_one_size t _,?_⟩
 intro w0 g w tv lv hov hnv hl hf hs hz
 show Calls prog 218 #[.pointer (some ⟨g,0,none⟩),ndV n lv] w _
 obtain ⟨la,lc,rfl,_,_,_⟩ := hl.form
 rw [ndV_eq]
 have HFA := h_ (fa_ n w la lc)
 have HN := h_ (nn_ n w la lc)
 have HS := h_ hs
 have hz0 : t.size ≤ 100000000 := Nat.le_trans (pt_one_size t _) hz
 have CN := h_ (fun W b (h : Fr w W) (hb : b = W.heap.size) => put_one w0.heap.size g W tv t n.s b hb (hs.fr h) hp hq hz0)
 rw [h1] at HN HFA ⊢
 obtain ⟨c0,c1,c2,c3,c4⟩ := HN.out.cells
 clear hov hnv hl hf hs hz hz0 h1 hp hq
 go_enter func218,ntmps218
 go_wp2_with fail
 refine (CN.out _ _ HFA.out (by simp)).mono ?_
 rintro e w1 ⟨rfl,tv1,hw1⟩
 have HW := h_ ((HS.out.step HFA.out).trans hw1)
 clear hw1
 go_wp2_with fail
 first | go_end0 | refine bodyPost_ret (results_none rfl _ _ _) rfl ?_
 exact ⟨rfl,_,HW.out⟩
theorem simple_key3 (n : Nd) (t : ByteArray) (h1 : n.op = 3) : Wd 218 ar0 n t (pt t [⟨#[116,114,117,101]⟩]) := by
 refine ⟨pt_one_size t _,?_⟩
 intro w0 g w tv lv hov hnv hl hf hs hz
 show Calls prog 218 #[.pointer (some ⟨g,0,none⟩),ndV n lv] w _
 obtain ⟨la,lc,rfl,_,_,_⟩ := hl.form
 rw [ndV_eq]
 have HFA := h_ (fa_ n w la lc)
 have HN := h_ (nn_ n w la lc)
 have HS := h_ hs
 have hz0 : t.size ≤ 100000000 := Nat.le_trans (pt_one_size t _) hz
 have CN := h_ (fun W b (h : Fr w W) (hb : b = W.heap.size) => put_one w0.heap.size g W tv t ⟨#[116,114,117,101]⟩ b hb (hs.fr h) (by decide) (by decide) hz0)
 rw [h1] at HN HFA ⊢
 obtain ⟨c0,c1,c2,c3,c4⟩ := HN.out.cells
 clear hov hnv hl hf hs hz hz0 h1
 go_enter func218,ntmps218
 go_wp2_with fail
 refine (CN.out _ _ HFA.out (by simp)).mono ?_
 rintro e w1 ⟨rfl,tv1,hw1⟩
 have HW := h_ ((HS.out.step HFA.out).trans hw1)
 clear hw1
 go_wp2_with fail
 first | go_end0 | refine bodyPost_ret (results_none rfl _ _ _) rfl ?_
 exact ⟨rfl,_,HW.out⟩
theorem simple_key4 (n : Nd) (t : ByteArray) (h1 : n.op = 4) : Wd 218 ar0 n t (pt t [⟨#[102,97,108,115,101]⟩]) := by
 refine ⟨pt_one_size t _,?_⟩
 intro w0 g w tv lv hov hnv hl hf hs hz
 show Calls prog 218 #[.pointer (some ⟨g,0,none⟩),ndV n lv] w _
 obtain ⟨la,lc,rfl,_,_,_⟩ := hl.form
 rw [ndV_eq]
 have HFA := h_ (fa_ n w la lc)
 have HN := h_ (nn_ n w la lc)
 have HS := h_ hs
 have hz0 : t.size ≤ 100000000 := Nat.le_trans (pt_one_size t _) hz
 have CN := h_ (fun W b (h : Fr w W) (hb : b = W.heap.size) => put_one w0.heap.size g W tv t ⟨#[102,97,108,115,101]⟩ b hb (hs.fr h) (by decide) (by decide) hz0)
 rw [h1] at HN HFA ⊢
 obtain ⟨c0,c1,c2,c3,c4⟩ := HN.out.cells
 clear hov hnv hl hf hs hz hz0 h1
 go_enter func218,ntmps218
 go_wp2_with fail
 refine (CN.out _ _ HFA.out (by simp)).mono ?_
 rintro e w1 ⟨rfl,tv1,hw1⟩
 have HW := h_ ((HS.out.step HFA.out).trans hw1)
 clear hw1
 go_wp2_with fail
 first | go_end0 | refine bodyPost_ret (results_none rfl _ _ _) rfl ?_
 exact ⟨rfl,_,HW.out⟩
theorem simple_key5 (n : Nd) (t : ByteArray) (h1 : n.op = 5) : Wd 218 ar0 n t (pt t [⟨#[63]⟩]) := by
 refine ⟨pt_one_size t _,?_⟩
 intro w0 g w tv lv hov hnv hl hf hs hz
 show Calls prog 218 #[.pointer (some ⟨g,0,none⟩),ndV n lv] w _
 obtain ⟨la,lc,rfl,_,_,_⟩ := hl.form
 rw [ndV_eq]
 have HFA := h_ (fa_ n w la lc)
 have HN := h_ (nn_ n w la lc)
 have HS := h_ hs
 have hz0 : t.size ≤ 100000000 := Nat.le_trans (pt_one_size t _) hz
 have CN := h_ (fun W b (h : Fr w W) (hb : b = W.heap.size) => put_one w0.heap.size g W tv t ⟨#[63]⟩ b hb (hs.fr h) (by decide) (by decide) hz0)
 rw [h1] at HN HFA ⊢
 obtain ⟨c0,c1,c2,c3,c4⟩ := HN.out.cells
 clear hov hnv hl hf hs hz hz0 h1
 go_enter func218,ntmps218
 go_wp2_with fail
 refine (CN.out _ _ HFA.out (by simp)).mono ?_
 rintro e w1 ⟨rfl,tv1,hw1⟩
 have HW := h_ ((HS.out.step HFA.out).trans hw1)
 clear hw1
 go_wp2_with fail
 first | go_end0 | refine bodyPost_ret (results_none rfl _ _ _) rfl ?_
 exact ⟨rfl,_,HW.out⟩
def RowN (w : World) (a : Option Addr) (l : List Nd) : Prop := ∃ b off,(0 < l.length → a = some ⟨b,off,none⟩) ∧ ∀ (i : Nat) (n : Nd),l[i]? = some n → ∃ lv,NdC w b (off + i * 5) n lv ∧ LN w lv n.l
theorem grows {fn : Nat} {ar : Value → Value → Array Value} {l : List Nd} {T : Nat → ByteArray} {s : ByteArray} (hd : ∀ i n,l[i]? = some n → Wd fn ar n (if i = 0 then T i else pt (T i) [s]) (T (i + 1))) : ∀ j i,i + j = l.length → (T i).size ≤ (T l.length).size := by
 intro j
 induction j with
 | zero => intro i e; rw [show i = l.length by omega]; exact Nat.le_refl _
 | succ j ih =>
  intro i e
  refine Nat.le_trans ?_ (ih (i + 1) (by omega))
  have h := (hd i l[i] (by simp)).1
  by_cases h0 : i = 0
  ·rw [if_pos h0] at h; exact h
  ·rw [if_neg h0] at h; exact Nat.le_trans (pt_one_size _ _) h
theorem list_part (l : List Nd) (T : Nat → ByteArray) (s : ByteArray) (hs0 : 0 < s.size) (hs1 : s.size ≤ 1000000) (w0 : World) (g : Nat) (w : World) (tv : Value) (a : Option Addr) (c : Nat) (hlen : l.length ≤ 1000000) (hov : Ov w0) (hnv : Nv w0) (hl : RowN w0 a l) (hf : Fr w0 w) (hs : Wt w0.heap.size g w tv (T 0))
 (hd : ∀ i n,l[i]? = some n → Wd 167 ar0 n (if i = 0 then T i else pt (T i) [s]) (T (i + 1))) (hz : (T l.length).size ≤ 100000000) :
 Calls prog 212 #[.pointer (some ⟨g,0,none⟩),.slice a l.length c,.string s,.func (.func 167) #[.pointer (some ⟨g,0,none⟩)] #[]] w fun e w' => e = .returned (.tuple #[]) ∧ ∃ tv',Wn w0.heap.size g w tv w' tv' (T l.length) := by
 have HG : Hid (∀ i,i ≤ l.length → (T i).size ≤ 100000000) := h_ (fun i hi => Nat.le_trans (grows hd (l.length - i) i (by omega)) hz)
 have HD := h_ hd
 have HOV := h_ (And.intro hov hnv)
 have HF := h_ hf
 have HS := h_ hs
 have CP := h_ (fun W b tv t (hb : b = W.heap.size) (h : Wt w0.heap.size g W tv t) (hz : t.size ≤ 100000000) => put_one w0.heap.size g W tv t s b hb h hs0 hs1 hz)
 obtain ⟨b,off,hab,hrow⟩ := hl
 have HR := h_ hrow
 have HA := h_ hab
 obtain ⟨ln,hln⟩ : ∃ x,x = l.length := ⟨_,rfl⟩
 have HL := h_ hln
 have hl6 : ln ≤ 1000000 := by omega
 rw [← hln]
 clear hd hov hnv hf hs hrow hab hz hs0 hs1 hlen hln
 go_enter func212,ntmps212
 go_wp2_with fail
 go_loopw [12] (fun i wr => ∃ k : Nat,k ≤ ln ∧ i = .int .i64 k ∧ ∃ tv',Wn w0.heap.size g w tv wr tv' (T k)) (fun i _ => ln - (intOf i).toNat)
 case atStart => exact ⟨0,Nat.zero_le _,rfl,_,HS.out.refl⟩
 case round =>
  obtain ⟨k,hk,rfl,tv1,hw1⟩ := hrel
  have HW1 := h_ hw1
  have HFR : Hid (Fr w0 wr) := h_ (hw1.frame HS.out HF.out)
  by_cases hlt : k < ln
  ·obtain ⟨n,hn⟩ : ∃ n,l[k]? = some n := ⟨_,List.getElem?_eq_getElem (by rw [← HL.out]; exact hlt)⟩
   obtain ⟨lv,hnc,hln⟩ := HR.out k n hn
   obtain rfl := HA.out (by rw [← HL.out]; omega)
   obtain ⟨la,lc,rfl,_,_,_⟩ := hln.form
   have x0 := HFR.out.cell hnc.op
   have x1 := HFR.out.cell hnc.n
   have x2 := HFR.out.cell hnc.s
   have x3 := HFR.out.cell hnc.l
   have x4 := HFR.out.cell hnc.a
   have HDK := h_ (HD.out k n hn)
   have HNL := h_ hln
   have HGK : Hid ((T k).size ≤ 100000000 ∧ (T (k + 1)).size ≤ 100000000) := h_ ⟨HG.out k (by rw [← HL.out]; omega),HG.out (k + 1) (by rw [← HL.out]; omega)⟩
   have HNB := h_ (Nb.new wr (.int .i64 n.op) (.int .i64 n.n) (.string n.s) (.slice la n.l.length lc) (.int .i64 n.a))
   have HF1 : Hid (Fr wr (wr.alloc (.cells #[.int .i64 n.op,.int .i64 n.n,.string n.s,.slice la n.l.length lc,.int .i64 n.a] 32))) := h_ ((Fr.refl wr).alloc _)
   have HW2 := h_ (HW1.out.trans (HW1.out.st.step HF1.out))
   have hji : (k : Int).toNat = k := Int.toNat_natCast k
   clear hw1 hnc hln hn
   by_cases h0 : k = 0
   ·subst h0
    simp only [Nat.zero_mul,Nat.add_zero] at x0 x1 x2 x3 x4
    have CW := h_ (fun W tv' (h : Fr w0 W) (h2 : Wt w0.heap.size g W tv' (T 0)) => HDK.out.2 w0 g W tv' _ HOV.out.1 HOV.out.2 HNL.out h h2 HGK.out.2)
    rw [ndV_eq] at CW
    unfold ar0 at CW
    obtain ⟨c0,c1,c2,c3,c4⟩ := HNB.out.cells
    go_wp2_with fail
    refine (CW.out _ _ (HFR.out.trans HF1.out) HW2.out.st).mono ?_
    rintro e w3 ⟨rfl,tv3,hw3⟩
    have HW3 := h_ (HW2.out.trans hw3)
    clear hw3
    go_wp2_with fail
    go_roundw
    case rel => exact ⟨1,by omega,by go_num,_,HW3.out⟩
    case measure => simp [intOf]; omega
   ·have z1 : decide ((0 : Int) < (k : Int)) = true := decide_eq_true (by omega)
    have CW : Hid (∀ W tv',Fr w0 W → Wt w0.heap.size g W tv' (pt (T k) [s]) → Calls prog 167 (ar0 (.pointer (some ⟨g,0,none⟩)) (ndV n (.slice la n.l.length lc))) W fun e w' => e = .returned (.tuple #[]) ∧ ∃ tv'',Wn w0.heap.size g W tv' w' tv'' (T (k + 1))) := h_ (fun W tv' h h2 => HDK.out.2 w0 g W tv' _ HOV.out.1 HOV.out.2 HNL.out h (by rw [if_neg h0]; exact h2) HGK.out.2)
    rw [ndV_eq] at CW
    unfold ar0 at CW
    obtain ⟨c0,c1,c2,c3,c4⟩ := HNB.out.cells
    have hne1 : wr.heap.size ≠ g := by have := HW1.out.st.cell.lt; omega
    have hnr1 : some wr.heap.size ≠ tv1.ownBlock := fun e => by have := (HW1.out.st.own.lt _ e.symm).2; omega
    go_wp2_with fail
    refine (CP.out _ _ _ _ (by simp) HW2.out.st HGK.out.1).mono ?_
    rintro e w3 ⟨rfl,tv3,hw3⟩
    have d0 := hw3.side c0 hne1 hnr1
    have d1 := hw3.side c1 hne1 hnr1
    have d2 := hw3.side c2 hne1 hnr1
    have d3 := hw3.side c3 hne1 hnr1
    have d4 := hw3.side c4 hne1 hnr1
    have HW3 := h_ (HW2.out.trans hw3)
    have HF3 : Hid (Fr w0 w3) := h_ (HW3.out.frame HS.out HF.out)
    clear hw3
    go_wp2_with fail
    refine (CW.out _ _ HF3.out HW3.out.st).mono ?_
    rintro e w4 ⟨rfl,tv4,hw4⟩
    have HW4 := h_ (HW3.out.trans hw4)
    clear hw4
    go_wp2_with fail
    go_roundw
    case rel => exact ⟨k + 1,by omega,by go_num,_,HW4.out⟩
    case measure => simp [intOf]; omega
  ·obtain rfl : k = ln := by omega
   clear hw1
   go_wp2_with fail
   go_end0
   exact ⟨rfl,_,HW1.out⟩
theorem list_item (l : List Nd) (T : Nat → ByteArray) (s : ByteArray) (hs0 : 0 < s.size) (hs1 : s.size ≤ 1000000) (w0 : World) (g : Nat) (w : World) (tv : Value) (a : Option Addr) (c : Nat) (hlen : l.length ≤ 1000000) (hov : Ov w0) (hnv : Nv w0) (hl : RowN w0 a l) (hf : Fr w0 w) (hs : Wt w0.heap.size g w tv (T 0))
 (hd : ∀ i n,l[i]? = some n → Wd 85 ar0 n (if i = 0 then T i else pt (T i) [s]) (T (i + 1))) (hz : (T l.length).size ≤ 100000000) :
 Calls prog 212 #[.pointer (some ⟨g,0,none⟩),.slice a l.length c,.string s,.func (.func 85) #[.pointer (some ⟨g,0,none⟩)] #[]] w fun e w' => e = .returned (.tuple #[]) ∧ ∃ tv',Wn w0.heap.size g w tv w' tv' (T l.length) := by
 have HG : Hid (∀ i,i ≤ l.length → (T i).size ≤ 100000000) := h_ (fun i hi => Nat.le_trans (grows hd (l.length - i) i (by omega)) hz)
 have HD := h_ hd
 have HOV := h_ (And.intro hov hnv)
 have HF := h_ hf
 have HS := h_ hs
 have CP := h_ (fun W b tv t (hb : b = W.heap.size) (h : Wt w0.heap.size g W tv t) (hz : t.size ≤ 100000000) => put_one w0.heap.size g W tv t s b hb h hs0 hs1 hz)
 obtain ⟨b,off,hab,hrow⟩ := hl
 have HR := h_ hrow
 have HA := h_ hab
 obtain ⟨ln,hln⟩ : ∃ x,x = l.length := ⟨_,rfl⟩
 have HL := h_ hln
 have hl6 : ln ≤ 1000000 := by omega
 rw [← hln]
 clear hd hov hnv hf hs hrow hab hz hs0 hs1 hlen hln
 go_enter func212,ntmps212
 go_wp2_with fail
 go_loopw [12] (fun i wr => ∃ k : Nat,k ≤ ln ∧ i = .int .i64 k ∧ ∃ tv',Wn w0.heap.size g w tv wr tv' (T k)) (fun i _ => ln - (intOf i).toNat)
 case atStart => exact ⟨0,Nat.zero_le _,rfl,_,HS.out.refl⟩
 case round =>
  obtain ⟨k,hk,rfl,tv1,hw1⟩ := hrel
  have HW1 := h_ hw1
  have HFR : Hid (Fr w0 wr) := h_ (hw1.frame HS.out HF.out)
  by_cases hlt : k < ln
  ·obtain ⟨n,hn⟩ : ∃ n,l[k]? = some n := ⟨_,List.getElem?_eq_getElem (by rw [← HL.out]; exact hlt)⟩
   obtain ⟨lv,hnc,hln⟩ := HR.out k n hn
   obtain rfl := HA.out (by rw [← HL.out]; omega)
   obtain ⟨la,lc,rfl,_,_,_⟩ := hln.form
   have x0 := HFR.out.cell hnc.op
   have x1 := HFR.out.cell hnc.n
   have x2 := HFR.out.cell hnc.s
   have x3 := HFR.out.cell hnc.l
   have x4 := HFR.out.cell hnc.a
   have HDK := h_ (HD.out k n hn)
   have HNL := h_ hln
   have HGK : Hid ((T k).size ≤ 100000000 ∧ (T (k + 1)).size ≤ 100000000) := h_ ⟨HG.out k (by rw [← HL.out]; omega),HG.out (k + 1) (by rw [← HL.out]; omega)⟩
   have HNB := h_ (Nb.new wr (.int .i64 n.op) (.int .i64 n.n) (.string n.s) (.slice la n.l.length lc) (.int .i64 n.a))
   have HF1 : Hid (Fr wr (wr.alloc (.cells #[.int .i64 n.op,.int .i64 n.n,.string n.s,.slice la n.l.length lc,.int .i64 n.a] 32))) := h_ ((Fr.refl wr).alloc _)
   have HW2 := h_ (HW1.out.trans (HW1.out.st.step HF1.out))
   have hji : (k : Int).toNat = k := Int.toNat_natCast k
   clear hw1 hnc hln hn
   by_cases h0 : k = 0
   ·subst h0
    simp only [Nat.zero_mul,Nat.add_zero] at x0 x1 x2 x3 x4
    have CW := h_ (fun W tv' (h : Fr w0 W) (h2 : Wt w0.heap.size g W tv' (T 0)) => HDK.out.2 w0 g W tv' _ HOV.out.1 HOV.out.2 HNL.out h h2 HGK.out.2)
    rw [ndV_eq] at CW
    unfold ar0 at CW
    obtain ⟨c0,c1,c2,c3,c4⟩ := HNB.out.cells
    go_wp2_with fail
    refine (CW.out _ _ (HFR.out.trans HF1.out) HW2.out.st).mono ?_
    rintro e w3 ⟨rfl,tv3,hw3⟩
    have HW3 := h_ (HW2.out.trans hw3)
    clear hw3
    go_wp2_with fail
    go_roundw
    case rel => exact ⟨1,by omega,by go_num,_,HW3.out⟩
    case measure => simp [intOf]; omega
   ·have z1 : decide ((0 : Int) < (k : Int)) = true := decide_eq_true (by omega)
    have CW : Hid (∀ W tv',Fr w0 W → Wt w0.heap.size g W tv' (pt (T k) [s]) → Calls prog 85 (ar0 (.pointer (some ⟨g,0,none⟩)) (ndV n (.slice la n.l.length lc))) W fun e w' => e = .returned (.tuple #[]) ∧ ∃ tv'',Wn w0.heap.size g W tv' w' tv'' (T (k + 1))) := h_ (fun W tv' h h2 => HDK.out.2 w0 g W tv' _ HOV.out.1 HOV.out.2 HNL.out h (by rw [if_neg h0]; exact h2) HGK.out.2)
    rw [ndV_eq] at CW
    unfold ar0 at CW
    obtain ⟨c0,c1,c2,c3,c4⟩ := HNB.out.cells
    have hne1 : wr.heap.size ≠ g := by have := HW1.out.st.cell.lt; omega
    have hnr1 : some wr.heap.size ≠ tv1.ownBlock := fun e => by have := (HW1.out.st.own.lt _ e.symm).2; omega
    go_wp2_with fail
    refine (CP.out _ _ _ _ (by simp) HW2.out.st HGK.out.1).mono ?_
    rintro e w3 ⟨rfl,tv3,hw3⟩
    have d0 := hw3.side c0 hne1 hnr1
    have d1 := hw3.side c1 hne1 hnr1
    have d2 := hw3.side c2 hne1 hnr1
    have d3 := hw3.side c3 hne1 hnr1
    have d4 := hw3.side c4 hne1 hnr1
    have HW3 := h_ (HW2.out.trans hw3)
    have HF3 : Hid (Fr w0 w3) := h_ (HW3.out.frame HS.out HF.out)
    clear hw3
    go_wp2_with fail
    refine (CW.out _ _ HF3.out HW3.out.st).mono ?_
    rintro e w4 ⟨rfl,tv4,hw4⟩
    have HW4 := h_ (HW3.out.trans hw4)
    clear hw4
    go_wp2_with fail
    go_roundw
    case rel => exact ⟨k + 1,by omega,by go_num,_,HW4.out⟩
    case measure => simp [intOf]; omega
  ·obtain rfl : k = ln := by omega
   clear hw1
   go_wp2_with fail
   go_end0
   exact ⟨rfl,_,HW1.out⟩
theorem listed_of (l : List Nd) (T : Nat → ByteArray) (t : ByteArray) (w0 : World) (g : Nat) (w : World) (tv : Value) (a : Option Addr) (c : Nat) (hlen : l.length ≤ 1000000) (hov : Ov w0) (hnv : Nv w0) (hl : RowN w0 a l) (hf : Fr w0 w) (hs : Wt w0.heap.size g w tv t) (hT : T 0 = pt t [⟨#[40]⟩])
 (hd : ∀ i n,l[i]? = some n → Wd 167 ar0 n (if i = 0 then T i else pt (T i) [⟨#[44]⟩]) (T (i + 1))) (hz : (T l.length).size ≤ 100000000) :
 Calls prog 217 #[.pointer (some ⟨g,0,none⟩),.slice a l.length c] w fun e w' => e = .returned (.tuple #[]) ∧ ∃ tv',Wn w0.heap.size g w tv w' tv' (pt (T l.length) [⟨#[41]⟩]) := by
 have hmf : ∀ (fn : Fn) (first cap : Array Value) (w : World),(Instr.makeFunc fn first cap).run prog w = .ok (.func fn first cap) w := fun _ _ _ _ => rfl
 have hz0 : t.size ≤ 100000000 := Nat.le_trans (by rw [hT]; exact pt_one_size t _) (Nat.le_trans (grows hd l.length 0 (by omega)) hz)
 have CP := h_ (fun W b tv t s (hb : b = W.heap.size) (h : Wt w0.heap.size g W tv t) (hz : t.size ≤ 100000000) (hs : s = ⟨#[40]⟩ ∨ s = ⟨#[41]⟩) => put_one w0.heap.size g W tv t s b hb h (by rcases hs with rfl | rfl <;> decide) (by rcases hs with rfl | rfl <;> decide) hz)
 have CL := h_ (fun W tv (h : Fr w0 W) (h2 : Wt w0.heap.size g W tv (T 0)) => list_part l T ⟨#[44]⟩ (by decide) (by decide) w0 g W tv a c hlen hov hnv hl h h2 hd hz)
 have HS := h_ hs
 have HF := h_ hf
 have HT := h_ hT
 have HZ := h_ (And.intro hz0 hz)
 obtain ⟨ln,hln⟩ : ∃ x,x = l.length := ⟨_,rfl⟩
 rw [← hln] at CL HZ ⊢
 clear hz0 hlen hov hnv hl hf hs hT hd hz hln
 go_enter func217,ntmps217
 go_wp2_with fail
 refine (CP.out _ _ _ _ _ rfl HS.out HZ.out.1 (.inl rfl)).mono ?_
 rintro e w1 ⟨rfl,tv1,hw1⟩
 have HW1 := h_ hw1
 have HF1 : Hid (Fr w0 w1) := h_ (hw1.frame HS.out HF.out)
 clear hw1
 go_wp2_with fail
 refine (CL.out _ _ HF1.out (by rw [HT.out]; exact HW1.out.st)).mono ?_
 rintro e w2 ⟨rfl,tv2,hw2⟩
 have HW2 := h_ (HW1.out.trans hw2)
 clear hw2
 go_wp2_with fail
 refine (CP.out _ _ _ _ _ rfl HW2.out.st HZ.out.2 (.inr rfl)).mono ?_
 rintro e w3 ⟨rfl,tv3,hw3⟩
 have HW3 := h_ (HW2.out.trans hw3)
 clear hw3
 go_wp2_with fail
 go_end0
 exact ⟨rfl,_,HW3.out⟩
theorem bare_simple (n : Nd) (t t' : ByteArray) (hn : opfN n.op n.n = none) (h14 : ¬ n.op = 14) (h13 : ¬ n.op = 13) (h10 : ¬ n.op = 10) (h11 : ¬ n.op = 11) (h7 : ¬ n.op = 7) (hd : Wd 218 ar0 n t t') : Wd 156 ar0 n t t' := by
 refine ⟨hd.1,?_⟩
 intro w0 g w tv lv hov hnv hl hf hs hz
 show Calls prog 156 #[.pointer (some ⟨g,0,none⟩),ndV n lv] w _
 obtain ⟨la,lc,rfl,_,_,_⟩ := hl.form
 rw [ndV_eq]
 have HFA := h_ (fa_ n w la lc)
 have HN := h_ (nn_ n w la lc)
 have HS := h_ hs
 have CO : Hid (∀ W,Fr w W → Calls prog 214 #[.agg #[.int .i64 n.op,.int .i64 n.n,.string n.s,.slice la n.l.length lc,.int .i64 n.a]] W fun e w' => e = .returned (.tuple #[.agg #[.string ⟨#[]⟩,.int .i64 0,.int .i64 0,.int .i64 0],.bool false]) ∧ Fr W w') := h_ (fun W h => by
  have h1 := operatorOf_any n.op n.n n.s (.slice la n.l.length lc) n.a ⟨_,_,_,rfl⟩ W (hov.fr (hf.trans h))
  rw [hn] at h1
  exact h1)
 have CW := h_ (fun W (h : Fr w W) => hd.2 w0 g W tv _ hov hnv hl (hf.trans h) (hs.fr h) hz)
 rw [ndV_eq] at CW
 unfold ar0 at CW
 have z14 : (n.op == 14) = false := by rw [beq_eq_false_iff_ne]; exact h14
 have z13 : (n.op == 13) = false := by rw [beq_eq_false_iff_ne]; exact h13
 have z10 : (n.op == 10) = false := by rw [beq_eq_false_iff_ne]; exact h10
 have z11 : (n.op == 11) = false := by rw [beq_eq_false_iff_ne]; exact h11
 have z7 : (n.op == 7) = false := by rw [beq_eq_false_iff_ne]; exact h7
 clear hov hnv hl hf hs hz hd hn h14 h13 h10 h11 h7
 go_enter func156,ntmps156
 go_wp2_with fail
 refine (CO.out _ HFA.out).mono ?_
 rintro e w1 ⟨rfl,hf1⟩
 have HF1 : Hid (Fr w (w1.alloc (.cells #[.string ⟨#[]⟩,.int .i64 0,.int .i64 0,.int .i64 0] 154))) := h_ ((HFA.out.trans hf1).alloc _)
 have HN1 := h_ ((HN.out.fr hf1).fr ((Fr.refl w1).alloc (.cells #[.string ⟨#[]⟩,.int .i64 0,.int .i64 0,.int .i64 0] 154)))
 obtain ⟨c0,c1,c2,c3,c4⟩ := HN1.out.cells
 clear hf1
 go_wp2_with fail
 refine (CW.out _ HF1.out).mono ?_
 rintro e w2 ⟨rfl,tv2,hw2⟩
 have HW := h_ ((HS.out.step HF1.out).trans hw2)
 clear hw2
 go_wp2_with fail
 first | go_end0 | refine bodyPost_ret (results_none rfl _ _ _) rfl ?_
 exact ⟨rfl,_,HW.out⟩
theorem LN.rowN {w : World} {a : Option Addr} {n cap : Nat} {l : List Nd} (h : LN w (.slice a n cap) l) : RowN w a l := by
 cases h with
 | mk a cap l lv hc hm hz hr hw hs =>
  by_cases h0 : 0 < l.length
  ·obtain ⟨b,off,e,hg⟩ := hr h0
   exact ⟨b,off,fun _ => e,fun i n hi => ⟨lv i,hg i n hi,hs i n hi⟩⟩
  ·exact ⟨0,0,fun h => absurd h h0,fun i n hi => by have := (List.getElem?_eq_some_iff.1 hi).1; omega⟩
theorem bare_call (n x : Nd) (r : List Nd) (T : Nat → ByteArray) (t t1 : ByteArray) (h7 : n.op = 7) (hnl : n.l = x :: r) (hlen : r.length ≤ 1000000) (hT : T 0 = pt t1 [⟨#[40]⟩]) (hd0 : Wd 82 (arL 11) x t t1)
 (hd : ∀ i y,r[i]? = some y → Wd 167 ar0 y (if i = 0 then T i else pt (T i) [⟨#[44]⟩]) (T (i + 1))) : Wd 156 ar0 n t (pt (T r.length) [⟨#[41]⟩]) := by
 have hm1 : t1.size ≤ (T r.length).size := Nat.le_trans (by rw [hT]; exact pt_one_size t1 _) (grows hd r.length 0 (by omega))
 refine ⟨Nat.le_trans hd0.1 (Nat.le_trans hm1 (pt_one_size _ _)),?_⟩
 intro w0 g w tv lv hov hnv hl hf hs hz
 show Calls prog 156 #[.pointer (some ⟨g,0,none⟩),ndV n lv] w _
 obtain ⟨la,lc,rfl,_,_,_⟩ := hl.form
 rw [ndV_eq]
 have HFA := h_ (fa_ n w la lc)
 have HN := h_ (nn_ n w la lc)
 have HS := h_ hs
 have hz1 : (T r.length).size ≤ 100000000 := Nat.le_trans (pt_one_size _ _) hz
 have hz0 : t1.size ≤ 100000000 := Nat.le_trans hm1 hz1
 have hno : opfN 7 n.n = none := by
  unfold opfN
  rw [List.find?_eq_none]
  intro y hy
  have : y.op = 12 ∨ y.op = 8 ∨ y.op = 9 ∨ y.op = 17 := by
   simp [opTab] at hy
   rcases hy with rfl | rfl | rfl | rfl | rfl | rfl | rfl | rfl | rfl | rfl | rfl | rfl | rfl | rfl | rfl | rfl | rfl | rfl | rfl | rfl <;> decide
  simp
  omega
 have CO : Hid (∀ W,Fr w W → Calls prog 214 #[.agg #[.int .i64 7,.int .i64 n.n,.string n.s,.slice la n.l.length lc,.int .i64 n.a]] W fun e w' => e = .returned (.tuple #[.agg #[.string ⟨#[]⟩,.int .i64 0,.int .i64 0,.int .i64 0],.bool false]) ∧ Fr W w') := h_ (fun W h => by
  have h1 := operatorOf_any 7 n.n n.s (.slice la n.l.length lc) n.a ⟨_,_,_,rfl⟩ W (hov.fr (hf.trans h))
  rw [hno] at h1
  exact h1)
 obtain ⟨b,off,lvx,rfl,hnc,hlx,_⟩ := hl.at_ (i := 0) (t := x) (by rw [hnl]; rfl)
 obtain ⟨xa,xc,rfl,_,_,_⟩ := hlx.form
 have hlr := (hl.drop_ 1 (by rw [hnl]; simp)).rowN
 rw [show n.l.drop 1 = r from by rw [hnl]; rfl,Nat.one_mul] at hlr
 have hll : n.l.length = r.length + 1 := by rw [hnl]; rfl
 rw [h7] at HN HFA ⊢
 rw [hll] at HN HFA CO ⊢
 have CX := h_ (fun W (h : Fr w W) => hd0.2 w0 g W tv _ hov hnv hlx (hf.trans h) (hs.fr h) hz0)
 rw [ndV_eq] at CX
 unfold arL at CX
 have HR5 := h_ hlr
 have HR0 : Hid (r.length = 0 → ∀ a,RowN w0 a r) := h_ (fun h a => ⟨0,0,fun h2 => by omega,fun i n hi => by have := (List.getElem?_eq_some_iff.1 hi).1; omega⟩)
 have CD := h_ (fun W tv' a c (hrw : RowN w0 a r) (h : Fr w0 W) (h2 : Wt w0.heap.size g W tv' t1) => listed_of r T t1 w0 g W tv' a c hlen hov hnv hrw h h2 hT hd hz1)
 have hcap : (r.length + 1 : Nat) ≤ lc := by omega
 obtain ⟨rl,hrl⟩ : ∃ y,y = r.length := ⟨_,rfl⟩
 have HRL := h_ hrl
 rw [← hrl] at HN HFA CO CD HR0 hcap ⊢
 have q1 : IntKind.i64.wrap ((rl : Int) + 1) = (rl : Int) + 1 := by exact IntWalk.i64_in _ (by omega)
 have HFF := h_ hf
 simp only [Nat.zero_mul,Nat.add_zero] at hnc
 have HNC := h_ hnc
 obtain ⟨hne1,hnr1⟩ := nr_ hs
 clear hov hnv hl hf hs hz hd hno h7 hnl hlen hT hd0 hm1 hz1 hz0 hlx hlr hll hrl hnc
 go_enter func156,ntmps156
 go_wp2_with fail
 refine (CO.out _ HFA.out).mono ?_
 rintro e w1 ⟨rfl,hf1⟩
 have HF1 : Hid (Fr w (w1.alloc (.cells #[.string ⟨#[]⟩,.int .i64 0,.int .i64 0,.int .i64 0] 154))) := h_ ((HFA.out.trans hf1).alloc _)
 have HN1 := h_ ((HN.out.fr hf1).fr ((Fr.refl w1).alloc (.cells #[.string ⟨#[]⟩,.int .i64 0,.int .i64 0,.int .i64 0] 154)))
 obtain ⟨c0,c1,c2,c3,c4⟩ := HN1.out.cells
 have y0 := (HFF.out.trans HF1.out).cell HNC.out.op
 have y1 := (HFF.out.trans HF1.out).cell HNC.out.n
 have y2 := (HFF.out.trans HF1.out).cell HNC.out.s
 have y3 := (HFF.out.trans HF1.out).cell HNC.out.l
 have y4 := (HFF.out.trans HF1.out).cell HNC.out.a
 clear hf1
 go_wp2_with fail
 refine (CX.out _ HF1.out).mono ?_
 rintro e w2 ⟨rfl,tv2,hw2⟩
 have HW := h_ ((HS.out.step HF1.out).trans hw2)
 have HF2 : Hid (Fr w0 w2) := h_ (HW.out.frame HS.out HFF.out)
 have d3 := hw2.side c3 hne1 hnr1
 clear hw2
 go_wp2_with fail
 all_goals
  refine (CD.out _ _ _ _ (by first | exact HR5.out | exact HR0.out (by omega) _) HF2.out HW.out.st).mono ?_
  rintro e w3 ⟨rfl,tv3,hw3⟩
  have HW3 := h_ (HW.out.trans hw3)
  clear hw3
  go_wp2_with fail
  first | go_end0 | refine bodyPost_ret (results_none rfl _ _ _) rfl ?_
  exact ⟨rfl,_,HW3.out⟩
theorem opTab_txt : ∀ x ∈ opTab,0 < x.t.size ∧ x.t.size ≤ 1000000 := by
 intro x hx
 simp [opTab] at hx
 rcases hx with rfl | rfl | rfl | rfl | rfl | rfl | rfl | rfl | rfl | rfl | rfl | rfl | rfl | rfl | rfl | rfl | rfl | rfl | rfl | rfl <;> decide
theorem bare_op (n a b : Nd) (x : Opr) (t t1 t3 : ByteArray) (hn : opfN n.op n.n = some x) (hnl : n.l = [a,b]) (hda : Wd 82 (arL (if x.l = 5 then 6 else x.l)) a t t1) (hdb : Wd 82 (arL (x.l + 1)) b (pt t1 [x.t]) t3) : Wd 156 ar0 n t t3 := by
 refine ⟨Nat.le_trans hda.1 (Nat.le_trans (pt_one_size t1 _) hdb.1),?_⟩
 intro w0 g w tv lv hov hnv hl hf hs hz
 show Calls prog 156 #[.pointer (some ⟨g,0,none⟩),ndV n lv] w _
 obtain ⟨la,lc,rfl,_,_,_⟩ := hl.form
 rw [ndV_eq]
 have HFA := h_ (fa_ n w la lc)
 have HN := h_ (nn_ n w la lc)
 have HS := h_ hs
 have hx := (opfN_in hn).1
 have hxl := opTab_wf2 x hx
 have hxt := opTab_txt x hx
 have hz1 : t1.size ≤ 100000000 := Nat.le_trans (Nat.le_trans (pt_one_size t1 _) hdb.1) hz
 have CO : Hid (∀ W,Fr w W → Calls prog 214 #[.agg #[.int .i64 n.op,.int .i64 n.n,.string n.s,.slice la n.l.length lc,.int .i64 n.a]] W fun e w' => e = .returned (.tuple #[oprV x,.bool true]) ∧ Fr W w') := h_ (fun W h => by
  have h1 := operatorOf_any n.op n.n n.s (.slice la n.l.length lc) n.a ⟨_,_,_,rfl⟩ W (hov.fr (hf.trans h))
  rw [hn] at h1
  exact h1)
 have CLL := h_ (fun W => leftLevel_any x (by omega) W)
 have CRL := h_ (fun W => rightLevel_any x (by omega) W)
 obtain ⟨b0,off,lva,rfl,hna,hla,_⟩ := hl.at_ (i := 0) (t := a) (by rw [hnl]; rfl)
 obtain ⟨b0',off',lvb,e0,hnb,hlb,_⟩ := hl.at_ (i := 1) (t := b) (by rw [hnl]; rfl)
 obtain ⟨rfl,rfl⟩ : b0 = b0' ∧ off = off' := by simpa using e0
 obtain ⟨aa,ac,rfl,_,_,_⟩ := hla.form
 obtain ⟨ba,bc,rfl,_,_,_⟩ := hlb.form
 rw [show n.l.length = 2 from by rw [hnl]; rfl] at HN HFA CO ⊢
 have CA := h_ (fun W (h : Fr w W) => hda.2 w0 g W tv _ hov hnv hla (hf.trans h) (hs.fr h) hz1)
 have CB := h_ (fun W tv' (h : Fr w0 W) (h2 : Wt w0.heap.size g W tv' (pt t1 [x.t])) => hdb.2 w0 g W tv' _ hov hnv hlb h h2 hz)
 have CP := h_ (fun W c tv' (hb : c = W.heap.size) (h : Wt w0.heap.size g W tv' t1) => put_one w0.heap.size g W tv' t1 x.t c hb h hxt.1 hxt.2 hz1)
 rw [ndV_eq] at CA CB
 unfold arL at CA CB
 obtain ⟨lft,hlft⟩ : ∃ y : Int,y = (if x.l = 5 then 6 else x.l) := ⟨_,rfl⟩
 obtain ⟨rgt,hrgt⟩ : ∃ y : Int,y = x.l + 1 := ⟨_,rfl⟩
 rw [← hlft] at CA CLL
 rw [← hrgt] at CB CRL
 unfold oprV at CO CLL CRL
 obtain ⟨xt,hxt'⟩ : ∃ y,y = x.t := ⟨_,rfl⟩
 obtain ⟨xo,hxo⟩ : ∃ y,y = x.op := ⟨_,rfl⟩
 obtain ⟨xn,hxn⟩ : ∃ y,y = x.n := ⟨_,rfl⟩
 obtain ⟨xl,hxl'⟩ : ∃ y,y = x.l := ⟨_,rfl⟩
 rw [← hxt',← hxo,← hxn,← hxl'] at CO CLL CRL
 rw [← hxt'] at CP CB
 have HFF := h_ hf
 simp only [Nat.zero_mul,Nat.add_zero] at hna
 rw [Nat.one_mul] at hnb
 have HNA := h_ hna
 have HNB := h_ hnb
 have hbl : b0 < w0.heap.size := by have := World.block_lt_of_cell? w0 _ hna.op; simpa using this
 obtain ⟨hne1,hnr1⟩ := nr_ hs
 clear hov hnv hl hf hs hz hn hnl hda hdb hx hxl hxt hz1 hla hlb hlft hrgt hxt' hxo hxn hxl' hna hnb e0
 go_enter func156,ntmps156
 go_wp2_with fail
 refine (CO.out _ HFA.out).mono ?_
 rintro e w1 ⟨rfl,hf1⟩
 have HF1 : Hid (Fr w (w1.alloc (.cells #[.string xt,.int .i64 xo,.int .i64 xn,.int .i64 xl] 154))) := h_ ((HFA.out.trans hf1).alloc _)
 have HN1 := h_ ((HN.out.fr hf1).fr ((Fr.refl w1).alloc (.cells #[.string xt,.int .i64 xo,.int .i64 xn,.int .i64 xl] 154)))
 have HO1 := h_ (Ob.new w1 (.string xt) (.int .i64 xo) (.int .i64 xn) (.int .i64 xl))
 have HZ1 : Hid (w.heap.size < w1.heap.size) := h_ (by have h1 := hf1.size; rw [size_alloc'] at h1; omega)
 have HC1 : Hid (∃ hd : (w1.alloc (.cells #[.string xt,.int .i64 xo,.int .i64 xn,.int .i64 xl] 154)).cell? ⟨w.heap.size,3,none⟩ = some (.slice (some ⟨b0,off,none⟩) 2 lc) ∧ (w1.alloc (.cells #[.string xt,.int .i64 xo,.int .i64 xn,.int .i64 xl] 154)).cell? ⟨b0,off,none⟩ = some (.int .i64 a.op) ∧ (w1.alloc (.cells #[.string xt,.int .i64 xo,.int .i64 xn,.int .i64 xl] 154)).cell? ⟨b0,off + 1,none⟩ = some (.int .i64 a.n) ∧ (w1.alloc (.cells #[.string xt,.int .i64 xo,.int .i64 xn,.int .i64 xl] 154)).cell? ⟨b0,off + 2,none⟩ = some (.string a.s) ∧ (w1.alloc (.cells #[.string xt,.int .i64 xo,.int .i64 xn,.int .i64 xl] 154)).cell? ⟨b0,off + 3,none⟩ = some (.slice aa a.l.length ac) ∧ (w1.alloc (.cells #[.string xt,.int .i64 xo,.int .i64 xn,.int .i64 xl] 154)).cell? ⟨b0,off + 4,none⟩ = some (.int .i64 a.a) ∧ (w1.alloc (.cells #[.string xt,.int .i64 xo,.int .i64 xn,.int .i64 xl] 154)).cell? ⟨w1.heap.size,0,none⟩ = some (.string xt) ∧ (w1.alloc (.cells #[.string xt,.int .i64 xo,.int .i64 xn,.int .i64 xl] 154)).cell? ⟨w1.heap.size,1,none⟩ = some (.int .i64 xo) ∧ (w1.alloc (.cells #[.string xt,.int .i64 xo,.int .i64 xn,.int .i64 xl] 154)).cell? ⟨w1.heap.size,2,none⟩ = some (.int .i64 xn) ∧ (w1.alloc (.cells #[.string xt,.int .i64 xo,.int .i64 xn,.int .i64 xl] 154)).cell? ⟨w1.heap.size,3,none⟩ = some (.int .i64 xl),(w1.alloc (.cells #[.string xt,.int .i64 xo,.int .i64 xn,.int .i64 xl] 154)).cell? ⟨w.heap.size,3,none⟩ = some (.slice (some ⟨b0,off,none⟩) 2 lc) ∧ (w1.alloc (.cells #[.string xt,.int .i64 xo,.int .i64 xn,.int .i64 xl] 154)).cell? ⟨b0,off + 5,none⟩ = some (.int .i64 b.op) ∧ (w1.alloc (.cells #[.string xt,.int .i64 xo,.int .i64 xn,.int .i64 xl] 154)).cell? ⟨b0,off + 6,none⟩ = some (.int .i64 b.n) ∧ (w1.alloc (.cells #[.string xt,.int .i64 xo,.int .i64 xn,.int .i64 xl] 154)).cell? ⟨b0,off + 7,none⟩ = some (.string b.s) ∧ (w1.alloc (.cells #[.string xt,.int .i64 xo,.int .i64 xn,.int .i64 xl] 154)).cell? ⟨b0,off + 8,none⟩ = some (.slice ba b.l.length bc) ∧ (w1.alloc (.cells #[.string xt,.int .i64 xo,.int .i64 xn,.int .i64 xl] 154)).cell? ⟨b0,off + 9,none⟩ = some (.int .i64 b.a) ∧ (w1.alloc (.cells #[.string xt,.int .i64 xo,.int .i64 xn,.int .i64 xl] 154)).cell? ⟨w1.heap.size,0,none⟩ = some (.string xt) ∧ (w1.alloc (.cells #[.string xt,.int .i64 xo,.int .i64 xn,.int .i64 xl] 154)).cell? ⟨w1.heap.size,1,none⟩ = some (.int .i64 xo) ∧ (w1.alloc (.cells #[.string xt,.int .i64 xo,.int .i64 xn,.int .i64 xl] 154)).cell? ⟨w1.heap.size,2,none⟩ = some (.int .i64 xn) ∧ (w1.alloc (.cells #[.string xt,.int .i64 xo,.int .i64 xn,.int .i64 xl] 154)).cell? ⟨w1.heap.size,3,none⟩ = some (.int .i64 xl)) := h_ (by
  obtain ⟨c0,c1,c2,c3,c4⟩ := HN1.out.cells
  obtain ⟨d0,d1,d2,d3⟩ := HO1.out.cells
  have hk := HFF.out.trans HF1.out
  exact ⟨⟨c3,hk.cell HNA.out.op,hk.cell HNA.out.n,hk.cell HNA.out.s,hk.cell HNA.out.l,hk.cell HNA.out.a,d0,d1,d2,d3⟩,⟨c3,hk.cell HNB.out.op,hk.cell HNB.out.n,hk.cell HNB.out.s,hk.cell HNB.out.l,hk.cell HNB.out.a,d0,d1,d2,d3⟩⟩)
 have HLT : Hid (g < w.heap.size ∧ w0.heap.size ≤ g ∧ ∀ k,tv.ownBlock = some k → w0.heap.size ≤ k ∧ k < w.heap.size) := h_ ⟨HS.out.cell.lt,HS.out.gb,fun k hk => HS.out.own.lt k hk⟩
 have HKN : Hid (∀ W W2 tv2 t',Fr (w1.alloc (.cells #[.string xt,.int .i64 xo,.int .i64 xn,.int .i64 xl] 154)) W → Wn w0.heap.size g W tv W2 tv2 t' → ∀ k o v,(k = w.heap.size ∨ k = b0 ∨ k = w1.heap.size) → (w1.alloc (.cells #[.string xt,.int .i64 xo,.int .i64 xn,.int .i64 xl] 154)).cell? ⟨k,o,none⟩ = some v → W2.cell? ⟨k,o,none⟩ = some v) := h_ (fun W W2 tv2 t' h hw k o v hk hc => by
  have h1 := HLT.out
  have h2 := HZ1.out
  exact hw.side (h.cell hc) (by rcases hk with rfl | rfl | rfl <;> omega) (fun e => by have := h1.2.2 k e.symm; rcases hk with rfl | rfl | rfl <;> omega))
 have HKA : Hid (∀ W',Fr (w1.alloc (.cells #[.string xt,.int .i64 xo,.int .i64 xn,.int .i64 xl] 154)) W' → W'.cell? ⟨w.heap.size,3,none⟩ = some (.slice (some ⟨b0,off,none⟩) 2 lc) ∧ cQ W' b0 off (off + 1) (off + 2) (off + 3) (off + 4) a aa ac (W'.cell? ⟨w1.heap.size,0,none⟩ = some (.string xt) ∧ W'.cell? ⟨w1.heap.size,1,none⟩ = some (.int .i64 xo) ∧ W'.cell? ⟨w1.heap.size,2,none⟩ = some (.int .i64 xn) ∧ W'.cell? ⟨w1.heap.size,3,none⟩ = some (.int .i64 xl))) := h_ (fun W' h => by
  obtain ⟨⟨e1,e2,e3,e4,e5,e6,e7,e8,e9,e10⟩,_⟩ := HC1.out
  exact ⟨h.cell e1,h.cell e2,h.cell e3,h.cell e4,h.cell e5,h.cell e6,h.cell e7,h.cell e8,h.cell e9,h.cell e10⟩)
 have HNA2 : Hid (∀ W W' tv2 t',Fr (w1.alloc (.cells #[.string xt,.int .i64 xo,.int .i64 xn,.int .i64 xl] 154)) W → Wn w0.heap.size g W tv W' tv2 t' → W'.cell? ⟨w.heap.size,3,none⟩ = some (.slice (some ⟨b0,off,none⟩) 2 lc) ∧ cQ W' b0 off (off + 1) (off + 2) (off + 3) (off + 4) a aa ac (W'.cell? ⟨w1.heap.size,0,none⟩ = some (.string xt) ∧ W'.cell? ⟨w1.heap.size,1,none⟩ = some (.int .i64 xo) ∧ W'.cell? ⟨w1.heap.size,2,none⟩ = some (.int .i64 xn) ∧ W'.cell? ⟨w1.heap.size,3,none⟩ = some (.int .i64 xl))) := h_ (fun W W' tv2 t' h hw => by
  obtain ⟨⟨e1,e2,e3,e4,e5,e6,e7,e8,e9,e10⟩,_⟩ := HC1.out
  have f := HKN.out W W' tv2 t' h hw
  exact ⟨f _ _ _ (.inl rfl) e1,f _ _ _ (.inr (.inl rfl)) e2,f _ _ _ (.inr (.inl rfl)) e3,f _ _ _ (.inr (.inl rfl)) e4,f _ _ _ (.inr (.inl rfl)) e5,f _ _ _ (.inr (.inl rfl)) e6,f _ _ _ (.inr (.inr rfl)) e7,f _ _ _ (.inr (.inr rfl)) e8,f _ _ _ (.inr (.inr rfl)) e9,f _ _ _ (.inr (.inr rfl)) e10⟩)
 have HNB2 : Hid (∀ W W' tv2 t',Fr (w1.alloc (.cells #[.string xt,.int .i64 xo,.int .i64 xn,.int .i64 xl] 154)) W → Wn w0.heap.size g W tv W' tv2 t' → W'.cell? ⟨w.heap.size,3,none⟩ = some (.slice (some ⟨b0,off,none⟩) 2 lc) ∧ cQ W' b0 (off + 5) (off + 6) (off + 7) (off + 8) (off + 9) b ba bc (W'.cell? ⟨w1.heap.size,0,none⟩ = some (.string xt) ∧ W'.cell? ⟨w1.heap.size,1,none⟩ = some (.int .i64 xo) ∧ W'.cell? ⟨w1.heap.size,2,none⟩ = some (.int .i64 xn) ∧ W'.cell? ⟨w1.heap.size,3,none⟩ = some (.int .i64 xl))) := h_ (fun W W' tv2 t' h hw => by
  obtain ⟨_,e1,e2,e3,e4,e5,e6,e7,e8,e9,e10⟩ := HC1.out
  have f := HKN.out W W' tv2 t' h hw
  exact ⟨f _ _ _ (.inl rfl) e1,f _ _ _ (.inr (.inl rfl)) e2,f _ _ _ (.inr (.inl rfl)) e3,f _ _ _ (.inr (.inl rfl)) e4,f _ _ _ (.inr (.inl rfl)) e5,f _ _ _ (.inr (.inl rfl)) e6,f _ _ _ (.inr (.inr rfl)) e7,f _ _ _ (.inr (.inr rfl)) e8,f _ _ _ (.inr (.inr rfl)) e9,f _ _ _ (.inr (.inr rfl)) e10⟩)
 have hq0 : Fr (w1.alloc (.cells #[.string xt,.int .i64 xo,.int .i64 xn,.int .i64 xl] 154)) (w1.alloc (.cells #[.string xt,.int .i64 xo,.int .i64 xn,.int .i64 xl] 154)).drew := (Fr.refl _).drew
 clear hf1
 go_wp2_with fail
 go_region_held3 (fun W' => W'.cell? ⟨w.heap.size,3,none⟩ = some (.slice (some ⟨b0,off,none⟩) 2 lc) ∧ cQ W' b0 off (off + 1) (off + 2) (off + 3) (off + 4) a aa ac (W'.cell? ⟨w1.heap.size,0,none⟩ = some (.string xt) ∧ W'.cell? ⟨w1.heap.size,1,none⟩ = some (.int .i64 xo) ∧ W'.cell? ⟨w1.heap.size,2,none⟩ = some (.int .i64 xn) ∧ W'.cell? ⟨w1.heap.size,3,none⟩ = some (.int .i64 xl)))
  (first | exact HKA.out _ (by assumption) | assumption)
  ((first
   | (go_at_call 215; refine (CLL.out _).mono ?_; rintro e wA ⟨rfl,hfA⟩; have hqA := Fr.trans hq0 hfA)
   | (go_at_call 82; refine (CA.out _ (HF1.out.trans hqA)).mono ?_; rintro e w2 ⟨rfl,tv2,hw2⟩; have hS2 := HNA2.out _ _ _ _ hqA hw2)))
 have HQA := h_ hqA
 have HW2 := h_ hw2
 obtain ⟨d0,d1,d2,d3⟩ : w2.cell? ⟨w1.heap.size,0,none⟩ = some (.string xt) ∧ w2.cell? ⟨w1.heap.size,1,none⟩ = some (.int .i64 xo) ∧ w2.cell? ⟨w1.heap.size,2,none⟩ = some (.int .i64 xn) ∧ w2.cell? ⟨w1.heap.size,3,none⟩ = some (.int .i64 xl) := by
  obtain ⟨_,_,_,_,_,_,e7,e8,e9,e10⟩ := hS2
  exact ⟨e7,e8,e9,e10⟩
 clear hw2 hqA
 go_wp2_with fail
 refine (CP.out _ _ _ (by simp) HW2.out.st).mono ?_
 rintro e w3 ⟨rfl,tv3,hw3⟩
 have HW3 := h_ (HW2.out.trans hw3)
 have hS3 := HNB2.out _ _ _ _ HQA.out HW3.out
 have HK3 : Hid (∀ W',Fr w3 W' → W'.cell? ⟨w.heap.size,3,none⟩ = some (.slice (some ⟨b0,off,none⟩) 2 lc) ∧ cQ W' b0 (off + 5) (off + 6) (off + 7) (off + 8) (off + 9) b ba bc (W'.cell? ⟨w1.heap.size,0,none⟩ = some (.string xt) ∧ W'.cell? ⟨w1.heap.size,1,none⟩ = some (.int .i64 xo) ∧ W'.cell? ⟨w1.heap.size,2,none⟩ = some (.int .i64 xn) ∧ W'.cell? ⟨w1.heap.size,3,none⟩ = some (.int .i64 xl))) := h_ (fun W' h => by
  obtain ⟨e1,e2,e3,e4,e5,e6,e7,e8,e9,e10⟩ := hS3
  exact ⟨h.cell e1,h.cell e2,h.cell e3,h.cell e4,h.cell e5,h.cell e6,h.cell e7,h.cell e8,h.cell e9,h.cell e10⟩)
 have HT3 : Hid (Wn w0.heap.size g w tv w3 tv3 (pt t1 [xt])) := h_ ((HS.out.step (HF1.out.trans HQA.out)).trans HW3.out)
 have HF3 : Hid (Fr w0 w3) := h_ (HT3.out.frame HS.out HFF.out)
 have hq3 : Fr w3 w3.drew := (Fr.refl _).drew
 clear hw3 hS3 hS2 d0 d1 d2 d3 hq0
 go_wp2_with fail
 go_region_held3 (fun W' => W'.cell? ⟨w.heap.size,3,none⟩ = some (.slice (some ⟨b0,off,none⟩) 2 lc) ∧ cQ W' b0 (off + 5) (off + 6) (off + 7) (off + 8) (off + 9) b ba bc (W'.cell? ⟨w1.heap.size,0,none⟩ = some (.string xt) ∧ W'.cell? ⟨w1.heap.size,1,none⟩ = some (.int .i64 xo) ∧ W'.cell? ⟨w1.heap.size,2,none⟩ = some (.int .i64 xn) ∧ W'.cell? ⟨w1.heap.size,3,none⟩ = some (.int .i64 xl)))
  (first | exact HK3.out _ (by assumption) | assumption)
  ((first
   | (go_at_call 197; refine (CRL.out _).mono ?_; rintro e wB ⟨rfl,hfB⟩; have hqB := Fr.trans hq3 hfB)
   | (go_at_call 82; refine (CB.out _ _ (HF3.out.trans hqB) (HW3.out.st.fr hqB)).mono ?_; rintro e w4 ⟨rfl,tv4,hw4⟩; have hS4 := HNB2.out _ _ _ _ HQA.out ((HW3.out.trans (HW3.out.st.step hqB)).trans hw4))))
 have HW4 := h_ ((HT3.out.trans (HW3.out.st.step hqB)).trans hw4)
 clear hw4 hqB hS4
 go_wp2_with fail
 first | go_end0 | refine bodyPost_ret (results_none rfl _ _ _) rfl ?_
 exact ⟨rfl,_,HW4.out⟩
theorem basic_call (n x : Nd) (r : List Nd) (t t' : ByteArray) (hop : n.op = 31) (hnl : n.l = x :: r) (hd : Wd 167 ar0 x t t') : Wd 171 ar0 n t t' := by
 refine ⟨hd.1,?_⟩
 intro w0 g w tv lv hov hnv hl hf hs hz
 show Calls prog 171 #[.pointer (some ⟨g,0,none⟩),ndV n lv] w _
 obtain ⟨la,lc,rfl,_,_,_⟩ := hl.form
 rw [ndV_eq]
 have HFA := h_ (fa_ n w la lc)
 have HN := h_ (nn_ n w la lc)
 have HS := h_ hs
 obtain ⟨b,off,lvx,rfl,hnc,hlx,_⟩ := hl.at_ (i := 0) (t := x) (by rw [hnl]; rfl)
 obtain ⟨xa,xc,rfl,_,_,_⟩ := hlx.form
 have hll : n.l.length = r.length + 1 := by rw [hnl]; rfl
 rw [hop] at HN HFA ⊢
 rw [hll] at HN HFA ⊢
 have CX := h_ (fun W (h : Fr w W) => hd.2 w0 g W tv _ hov hnv hlx (hf.trans h) (hs.fr h) hz)
 rw [ndV_eq] at CX
 unfold ar0 at CX
 obtain ⟨rl,hrl⟩ : ∃ y,y = r.length := ⟨_,rfl⟩
 rw [← hrl] at HN HFA ⊢
 simp only [Nat.zero_mul,Nat.add_zero] at hnc
 obtain ⟨c0,c1,c2,c3,c4⟩ := HN.out.cells
 have y0 := (hf.trans HFA.out).cell hnc.op
 have y1 := (hf.trans HFA.out).cell hnc.n
 have y2 := (hf.trans HFA.out).cell hnc.s
 have y3 := (hf.trans HFA.out).cell hnc.l
 have y4 := (hf.trans HFA.out).cell hnc.a
 clear hov hnv hl hf hs hz hd hop hnl hlx hll hrl hnc
 go_enter func171,ntmps171
 go_wp2_with fail
 refine (CX.out _ HFA.out).mono ?_
 rintro e w2 ⟨rfl,tv2,hw2⟩
 have HW := h_ ((HS.out.step HFA.out).trans hw2)
 clear hw2
 go_wp2_with fail
 first | go_end0 | refine bodyPost_ret (results_none rfl _ _ _) rfl ?_
 exact ⟨rfl,_,HW.out⟩
theorem item_call (n : Nd) (t t' : ByteArray) (hop : n.op = 31) (hd : Wd 171 ar0 n t t') : Wd 85 ar0 n t t' := by
 refine ⟨hd.1,?_⟩
 intro w0 g w tv lv hov hnv hl hf hs hz
 show Calls prog 85 #[.pointer (some ⟨g,0,none⟩),ndV n lv] w _
 obtain ⟨la,lc,rfl,_,_,_⟩ := hl.form
 rw [ndV_eq]
 have HFA := h_ (fa_ n w la lc)
 have HN := h_ (nn_ n w la lc)
 have HS := h_ hs
 rw [hop] at HN HFA ⊢
 have CX := h_ (fun W (h : Fr w W) => hd.2 w0 g W tv _ hov hnv hl (hf.trans h) (hs.fr h) hz)
 rw [ndV_eq,hop] at CX
 unfold ar0 at CX
 obtain ⟨c0,c1,c2,c3,c4⟩ := HN.out.cells
 clear hov hnv hl hf hs hz hd hop
 go_enter func85,ntmps85
 go_wp2_with fail
 refine (CX.out _ HFA.out).mono ?_
 rintro e w2 ⟨rfl,tv2,hw2⟩
 have HW := h_ ((HS.out.step HFA.out).trans hw2)
 clear hw2
 go_wp2_with fail
 first | go_end0 | refine bodyPost_ret (results_none rfl _ _ _) rfl ?_
 exact ⟨rfl,_,HW.out⟩
theorem declaration_proc (n : Nd) (t t' : ByteArray) (hop : n.op = 64) (hd : Wd 151 ar0 n t t') : Wd 75 ar0 n t t' := by
 refine ⟨hd.1,?_⟩
 intro w0 g w tv lv hov hnv hl hf hs hz
 show Calls prog 75 #[.pointer (some ⟨g,0,none⟩),ndV n lv] w _
 obtain ⟨la,lc,rfl,_,_,_⟩ := hl.form
 rw [ndV_eq]
 have HFA := h_ (fa_ n w la lc)
 have HN := h_ (nn_ n w la lc)
 have HS := h_ hs
 rw [hop] at HN HFA ⊢
 have CX := h_ (fun W (h : Fr w W) => hd.2 w0 g W tv _ hov hnv hl (hf.trans h) (hs.fr h) hz)
 rw [ndV_eq,hop] at CX
 unfold ar0 at CX
 obtain ⟨c0,c1,c2,c3,c4⟩ := HN.out.cells
 clear hov hnv hl hf hs hz hd hop
 go_enter func75,ntmps75
 go_wp2_with fail
 refine (CX.out _ HFA.out).mono ?_
 rintro e w2 ⟨rfl,tv2,hw2⟩
 have HW := h_ ((HS.out.step HFA.out).trans hw2)
 clear hw2
 go_wp2_with fail
 first | go_end0 | refine bodyPost_ret (results_none rfl _ _ _) rfl ?_
 exact ⟨rfl,_,HW.out⟩
theorem put_three (B g : Nat) (w : World) (tv : Value) (t s s2 s3 : ByteArray) (b : Nat) (hb : b = w.heap.size) (h : Wt B g w tv t) (hp : 0 < s.size ∧ 0 < s2.size ∧ 0 < s3.size) (hq : s.size ≤ 1000000 ∧ s2.size ≤ 1000000 ∧ s3.size ≤ 1000000) (hz : t.size ≤ 100000000) :
 Calls prog 72 #[.pointer (some ⟨g,0,none⟩),.slice (some ⟨b,0,none⟩) 3 3] (w.alloc (.cells #[.string s,.string s2,.string s3] 9)) fun e w' => e = .returned (.tuple #[]) ∧ ∃ tv',Wn B g w tv w' tv' (pt t [s,s2,s3]) := by
 subst hb
 exact put_new B g w tv t [s,s2,s3] 3 _ h (str_at3 w s s2 s3) (by intro x hx; simp at hx; rcases hx with rfl | rfl | rfl <;> first | exact hp.1 | exact hp.2.1 | exact hp.2.2) (by intro x hx; simp at hx; rcases hx with rfl | rfl | rfl <;> first | exact hq.1 | exact hq.2.1 | exact hq.2.2) (by simp) hz
theorem pt_size_le (t : ByteArray) (L : List ByteArray) : t.size ≤ (pt t L).size := by
 induction L generalizing t with
 | nil => exact Nat.le_refl _
 | cons x L ih => exact Nat.le_trans (pt_one_size t x) (ih (sepB t ++ x))
theorem procedure_cmd (n bd : Nd) (ps : List Nd) (T : Nat → ByteArray) (t t' : ByteArray) (hn1 : n.n = 1) (hnl : n.l = ps ++ [bd]) (hlen : ps.length ≤ 1000000) (hp : 0 < n.s.size) (hq : n.s.size ≤ 1000000) (hT : T 0 = pt t [⟨#[108,101,116]⟩,n.s,⟨#[40]⟩])
 (hps : ∀ i y,ps[i]? = some y → Wd 167 ar0 y (if i = 0 then T i else pt (T i) [⟨#[44]⟩]) (T (i + 1))) (hd : Wd 85 ar0 bd (pt (pt (T ps.length) [⟨#[41]⟩]) [⟨#[98,101]⟩]) t') : Wd 151 ar0 n t t' := by
 have hm0 : (T ps.length).size ≤ t'.size := Nat.le_trans (pt_one_size _ _) (Nat.le_trans (pt_one_size _ _) hd.1)
 have hm1 : t.size ≤ (T ps.length).size := Nat.le_trans (by rw [hT]; exact pt_size_le t _) (grows hps ps.length 0 (by omega))
 refine ⟨Nat.le_trans hm1 hm0,?_⟩
 intro w0 g w tv lv hov hnv hl hf hs hz
 show Calls prog 151 #[.pointer (some ⟨g,0,none⟩),ndV n lv] w _
 obtain ⟨la,lc,rfl,_,_,_⟩ := hl.form
 rw [ndV_eq]
 have HFA := h_ (fa_ n w la lc)
 have HN := h_ (nn_ n w la lc)
 have HS := h_ hs
 have hmf : ∀ (fn : Fn) (first cap : Array Value) (w : World),(Instr.makeFunc fn first cap).run prog w = .ok (.func fn first cap) w := fun _ _ _ _ => rfl
 have hz2 : (pt (T ps.length) [⟨#[41]⟩]).size ≤ 100000000 := Nat.le_trans (Nat.le_trans (pt_one_size _ _) hd.1) hz
 have hz1 : (T ps.length).size ≤ 100000000 := Nat.le_trans hm0 hz
 have hz0 : t.size ≤ 100000000 := Nat.le_trans hm1 hz1
 have hll : n.l.length = ps.length + 1 := by rw [hnl]; simp
 obtain ⟨b,off,lvx,rfl,hnc,hlx,_⟩ := hl.at_ (i := ps.length) (t := bd) (by rw [hnl]; simp)
 obtain ⟨xa,xc,rfl,_,_,_⟩ := hlx.form
 have hlr := (hl.take_ ps.length (by omega)).rowN
 rw [show n.l.take ps.length = ps from by rw [hnl]; simp] at hlr
 rw [hn1,hll] at HN HFA ⊢
 have CX := h_ (fun W tv' (h : Fr w0 W) (h2 : Wt w0.heap.size g W tv' (pt (pt (T ps.length) [⟨#[41]⟩]) [⟨#[98,101]⟩])) => hd.2 w0 g W tv' _ hov hnv hlx h h2 hz)
 rw [ndV_eq] at CX
 unfold ar0 at CX
 have C3 := h_ (fun W c (hc : c = W.heap.size) (h : Fr w W) => put_three w0.heap.size g W tv t ⟨#[108,101,116]⟩ n.s ⟨#[40]⟩ c hc (hs.fr h) ⟨by decide,hp,by decide⟩ ⟨by decide,hq,by decide⟩ hz0)
 have CL := h_ (fun W tv' c (h : Fr w0 W) (h2 : Wt w0.heap.size g W tv' (T 0)) => list_part ps T ⟨#[44]⟩ (by decide) (by decide) w0 g W tv' _ c hlen hov hnv hlr h h2 hps hz1)
 have CP := h_ (fun W c tv t s (hb : c = W.heap.size) (h : Wt w0.heap.size g W tv t) (hz : t.size ≤ 100000000) (hs : s = ⟨#[41]⟩ ∨ s = ⟨#[98,101]⟩) => put_one w0.heap.size g W tv t s c hb h (by rcases hs with rfl | rfl <;> decide) (by rcases hs with rfl | rfl <;> decide) hz)
 rw [hT] at CL
 have HZ := h_ (And.intro hz1 hz2)
 obtain ⟨rl,hrl⟩ : ∃ y,y = ps.length := ⟨_,rfl⟩
 rw [← hrl] at HN HFA CX CL HZ hnc ⊢
 have q1 : wrap64 (rl : Int) = (rl : Int) := IntWalk.wrap64_in _ (by omega)
 have q2 : (rl : Int).toNat = rl := Int.toNat_natCast rl
 have hcap : rl + 1 ≤ lc := by rw [hrl,← hll]; assumption
 have HFF := h_ hf
 have HNC := h_ hnc
 have hbl : b < w0.heap.size := by have := World.block_lt_of_cell? w0 _ hnc.op; simpa using this
 have hgb := hs.gb
 obtain ⟨hne1,hnr1⟩ := nr_ hs
 obtain ⟨c0,c1,c2,c3,c4⟩ := HN.out.cells
 clear hov hnv hl hf hs hz hd hn1 hnl hlen hp hq hT hps hm0 hm1 hz0 hz1 hz2 hll hlx hlr hrl hnc
 go_enter func151,ntmps151
 go_wp2_with fail
 refine (C3.out _ _ (by simp) HFA.out).mono ?_
 rintro e w1 ⟨rfl,tv1,hw1⟩
 have HWS := h_ (HS.out.step HFA.out)
 have HC0 := h_ (And.intro c1 c3)
 have HW1 := h_ hw1
 have HF1 : Hid (Fr w0 w1) := h_ ((HWS.out.trans hw1).frame HS.out HFF.out)
 have d1 := hw1.side c1 hne1 hnr1
 have d3 := hw1.side c3 hne1 hnr1
 clear hw1
 go_wp2_with fail
 refine (CL.out _ _ _ HF1.out HW1.out.st).mono ?_
 rintro e w2 ⟨rfl,tv2,hw2⟩
 have HW2 := h_ (HW1.out.trans hw2)
 clear hw2
 go_wp2_with fail
 refine (CP.out _ _ _ _ _ rfl HW2.out.st HZ.out.1 (.inl rfl)).mono ?_
 rintro e w3 ⟨rfl,tv3,hw3⟩
 have HW3 := h_ (HW2.out.trans hw3)
 clear hw3
 have e1 := HW3.out.side HC0.out.1 hne1 hnr1
 have e3 := HW3.out.side HC0.out.2 hne1 hnr1
 have z1 : ((1 : Int) == 0) = false := rfl
 go_wp2_with fail
 refine (CP.out _ _ _ _ _ rfl HW3.out.st HZ.out.2 (.inr rfl)).mono ?_
 rintro e w4 ⟨rfl,tv4,hw4⟩
 have HW4 := h_ (HW3.out.trans hw4)
 clear hw4
 have HF4 : Hid (Fr w0 w4) := h_ ((HWS.out.trans HW4.out).frame HS.out HFF.out)
 have g3 := HW4.out.side HC0.out.2 hne1 hnr1
 have y0 := HF4.out.cell HNC.out.op
 have y1 := HF4.out.cell HNC.out.n
 have y2 := HF4.out.cell HNC.out.s
 have y3 := HF4.out.cell HNC.out.l
 have y4 := HF4.out.cell HNC.out.a
 go_wp2_with fail
 refine (CX.out _ _ HF4.out HW4.out.st).mono ?_
 rintro e w5 ⟨rfl,tv5,hw5⟩
 have HW5 := h_ (HWS.out.trans (HW4.out.trans hw5))
 clear hw5
 go_wp2_with fail
 first | go_end0 | refine bodyPost_ret (results_none rfl _ _ _) rfl ?_
 exact ⟨rfl,_,HW5.out⟩
theorem growsL {fn : Nat} {ar : Value → Value → Array Value} {l : List Nd} {T : Nat → ByteArray} (hd : ∀ i n,l[i]? = some n → Wd fn ar n (if i = 0 then T i else T i ++ ⟨#[10]⟩) (T (i + 1))) : ∀ j i,i + j = l.length → (T i).size ≤ (T l.length).size := by
 intro j
 induction j with
 | zero => intro i e; rw [show i = l.length by omega]; exact Nat.le_refl _
 | succ j ih =>
  intro i e
  refine Nat.le_trans ?_ (ih (i + 1) (by omega))
  have h := (hd i l[i] (by simp)).1
  by_cases h0 : i = 0
  ·rw [if_pos h0] at h; exact h
  ·rw [if_neg h0,ByteArray.size_append] at h; omega
theorem Print_ok (l : List Nd) (T : Nat → ByteArray) (w : World) (a : Option Addr) (c : Nat) (hlen : l.length ≤ 1000000) (hov : Ov w) (hnv : Nv w) (hl : RowN w a l) (hT : T 0 = ⟨#[]⟩)
 (hck : ∀ W,Fr w W → Calls prog 22 #[.agg #[.string ⟨#[]⟩,.slice a l.length c]] W fun e w' => e = .returned (.int .i64 0) ∧ Fr W w')
 (hd : ∀ i n,l[i]? = some n → Wd 75 ar0 n (if i = 0 then T i else T i ++ ⟨#[10]⟩) (T (i + 1))) (hz : (T l.length).size ≤ 39999) :
 Calls prog 26 #[.agg #[.string ⟨#[]⟩,.slice a l.length c]] w fun e w' => e = .returned (.tuple #[.string (T l.length ++ ⟨#[10]⟩),.int .i64 0]) ∧ Fr w w' := by
 have HG : Hid (∀ i,i ≤ l.length → (T i).size ≤ 39999) := h_ (fun i hi => Nat.le_trans (growsL hd (l.length - i) i (by omega)) hz)
 have HD := h_ hd
 have HCK := h_ hck
 have HOV := h_ (And.intro hov hnv)
 have HT := h_ hT
 obtain ⟨b,off,hab,hrow⟩ := hl
 have HR := h_ hrow
 have HA := h_ hab
 obtain ⟨ln,hln⟩ : ∃ x,x = l.length := ⟨_,rfl⟩
 have HL := h_ hln
 have hl6 : ln ≤ 1000000 := by omega
 rw [← hln] at HCK ⊢
 have HB := h_ (SecB.new w (.string ⟨#[]⟩) (.slice a ln c))
 have HF0 : Hid (Fr w (w.alloc (.cells #[.string ⟨#[]⟩,.slice a ln c] 24))) := h_ ((Fr.refl w).alloc _)
 clear hd hck hov hnv hT hrow hab hz hlen hln
 go_enter func26,ntmps26
 go_wp2_with fail
 refine (HCK.out _ HF0.out).mono ?_
 rintro e w0 ⟨rfl,hf1⟩
 have HF1 : Hid (Fr w w0) := h_ (HF0.out.trans hf1)
 have HB1 := h_ ((HB.out.fr hf1).fr ((Fr.refl w0).alloc (.cells #[.slice none 0 0] 84)))
 have HW0 : Hid (Wt w0.heap.size w0.heap.size (w0.alloc (.cells #[.slice none 0 0] 84)) (.slice none 0 0) (T 0)) := h_ (by
  rw [HT.out]
  exact ⟨Cb.new w0 _ _,World.ownsRow_nil _ _ _ _,by rw [size_alloc']; omega,by simp [Value.ownBlock],Nat.le_refl _⟩)
 have HF2 : Hid (Fr w0 (w0.alloc (.cells #[.slice none 0 0] 84))) := h_ ((Fr.refl w0).alloc _)
 obtain ⟨s0,s1⟩ := HB1.out.cells
 clear hf1
 go_wp2_with fail
 have HFA : Hid (Fr w0 w0) := h_ (Fr.refl w0)
 have HOV2 : Hid (Ov w0 ∧ Nv w0) := h_ ⟨HOV.out.1.fr HF1.out,HOV.out.2.fr HF1.out⟩
 go_loopw [28] (fun i wr => ∃ k : Nat,k ≤ ln ∧ i = .int .i64 k ∧ ∃ tv',Wn w0.heap.size w0.heap.size (w0.alloc (.cells #[.slice none 0 0] 84)) (.slice none 0 0) wr tv' (T k)) (fun i _ => ln - (intOf i).toNat)
 case atStart => exact ⟨0,Nat.zero_le _,rfl,_,HW0.out.refl⟩
 case round =>
  obtain ⟨k,hk,rfl,tv1,hw1⟩ := hrel
  have HW1 := h_ hw1
  have HFR : Hid (Fr w0 wr) := h_ (hw1.frame HW0.out HF2.out)
  by_cases hlt : k < ln
  ·obtain ⟨n,hn⟩ : ∃ n,l[k]? = some n := ⟨_,List.getElem?_eq_getElem (by rw [← HL.out]; exact hlt)⟩
   obtain ⟨lv,hnc,hln⟩ := HR.out k n hn
   obtain rfl := HA.out (by rw [← HL.out]; omega)
   obtain ⟨la,lc,rfl,_,_,_⟩ := hln.form
   have x0 := (HF1.out.trans HFR.out).cell hnc.op
   have x1 := (HF1.out.trans HFR.out).cell hnc.n
   have x2 := (HF1.out.trans HFR.out).cell hnc.s
   have x3 := (HF1.out.trans HFR.out).cell hnc.l
   have x4 := (HF1.out.trans HFR.out).cell hnc.a
   have HDK := h_ (HD.out k n hn)
   have HNL := h_ (hln.fr HF1.out)
   have HGK : Hid ((T k).size ≤ 39999 ∧ (T (k + 1)).size ≤ 39999) := h_ ⟨HG.out k (by rw [← HL.out]; omega),HG.out (k + 1) (by rw [← HL.out]; omega)⟩
   have HNB := h_ (Nb.new wr (.int .i64 n.op) (.int .i64 n.n) (.string n.s) (.slice la n.l.length lc) (.int .i64 n.a))
   have HF1' : Hid (Fr wr (wr.alloc (.cells #[.int .i64 n.op,.int .i64 n.n,.string n.s,.slice la n.l.length lc,.int .i64 n.a] 32))) := h_ ((Fr.refl wr).alloc _)
   have HW2 := h_ (HW1.out.trans (HW1.out.st.step HF1'.out))
   have hji : (k : Int).toNat = k := Int.toNat_natCast k
   clear hw1 hnc hln hn
   by_cases h0 : k = 0
   ·subst h0
    simp only [Nat.zero_mul,Nat.add_zero] at x0 x1 x2 x3 x4
    have CW := h_ (fun W tv' (h : Fr w0 W) (h2 : Wt w0.heap.size w0.heap.size W tv' (T 0)) => HDK.out.2 w0 _ W tv' _ HOV2.out.1 HOV2.out.2 HNL.out h h2 (Nat.le_trans HGK.out.2 (by omega)))
    rw [ndV_eq] at CW
    unfold ar0 at CW
    obtain ⟨c0,c1,c2,c3,c4⟩ := HNB.out.cells
    go_wp2_with fail
    refine (CW.out _ _ (HFR.out.trans HF1'.out) HW2.out.st).mono ?_
    rintro e w3 ⟨rfl,tv3,hw3⟩
    have HW3 := h_ (HW2.out.trans hw3)
    clear hw3
    go_wp2_with fail
    go_roundw
    case rel => exact ⟨1,by omega,by go_num,_,HW3.out⟩
    case measure => simp [intOf]; omega
   ·have z1 : decide ((0 : Int) < (k : Int)) = true := decide_eq_true (by omega)
    have CW : Hid (∀ W tv',Fr w0 W → Wt w0.heap.size w0.heap.size W tv' (T k ++ ⟨#[10]⟩) → Calls prog 75 (ar0 (.pointer (some ⟨w0.heap.size,0,none⟩)) (ndV n (.slice la n.l.length lc))) W fun e w' => e = .returned (.tuple #[]) ∧ ∃ tv'',Wn w0.heap.size w0.heap.size W tv' w' tv'' (T (k + 1))) := h_ (fun W tv' h h2 => HDK.out.2 w0 _ W tv' _ HOV2.out.1 HOV2.out.2 HNL.out h (by rw [if_neg h0]; exact h2) (Nat.le_trans HGK.out.2 (by omega)))
    rw [ndV_eq] at CW
    unfold ar0 at CW
    obtain ⟨c0,c1,c2,c3,c4⟩ := HNB.out.cells
    have hne1 : wr.heap.size ≠ w0.heap.size := by have := HW1.out.st.cell.lt; omega
    have hnr1 : some wr.heap.size ≠ tv1.ownBlock := fun e => by have := (HW1.out.st.own.lt _ e.symm).2; omega
    go_wp2_with fail
    refine (line_any w0.heap.size w0.heap.size _ tv1 (T k) HW2.out.st (Nat.le_trans HGK.out.1 (by omega))).mono ?_
    rintro e w3 ⟨rfl,tv3,hw3⟩
    have d0 := hw3.side c0 hne1 hnr1
    have d1 := hw3.side c1 hne1 hnr1
    have d2 := hw3.side c2 hne1 hnr1
    have d3 := hw3.side c3 hne1 hnr1
    have d4 := hw3.side c4 hne1 hnr1
    have HW3 := h_ (HW2.out.trans hw3)
    have HF3 : Hid (Fr w0 w3) := h_ (HW3.out.frame HW0.out HF2.out)
    clear hw3
    go_wp2_with fail
    refine (CW.out _ _ HF3.out HW3.out.st).mono ?_
    rintro e w4 ⟨rfl,tv4,hw4⟩
    have HW4 := h_ (HW3.out.trans hw4)
    clear hw4
    go_wp2_with fail
    go_roundw
    case rel => exact ⟨k + 1,by omega,by go_num,_,HW4.out⟩
    case measure => simp [intOf]; omega
  ·obtain rfl : k = ln := by omega
   have HGN : Hid ((T k).size ≤ 39999) := h_ (HG.out k (by rw [← HL.out]; omega))
   clear hw1
   go_wp2_with fail
   refine (line_any w0.heap.size w0.heap.size _ tv1 (T k) HW1.out.st (Nat.le_trans HGN.out (by omega))).mono ?_
   rintro e w3 ⟨rfl,tv3,hw3⟩
   have HW3 := h_ (HW1.out.trans hw3)
   have HF3 : Hid (Fr w0 w3) := h_ (HW3.out.frame HW0.out HF2.out)
   have HZ3 : Hid (¬ 40000 < (T k ++ (⟨#[10]⟩ : BA)).size) := h_ (by rw [ByteArray.size_append]; have := HGN.out; show ¬ 40000 < (T k).size + 1; omega)
   clear hw3
   go_wp2_with fail
   have hwh := whole_any w0.heap.size w0.heap.size w3 tv3 _ HW3.out.st (by have := HZ3.out; omega)
   rw [if_neg HZ3.out] at hwh
   have HWH := h_ hwh
   clear hwh
   refine HWH.out.mono ?_
   rintro e w4 ⟨rfl,hf4⟩
   have HF4 : Hid (Fr w w4) := h_ ((HF1.out.trans HF3.out).trans hf4)
   clear hf4
   have HLN : Hid (T l.length = T k) := h_ (by rw [HL.out])
   go_wp2_with fail
   go_ret2
   exact ⟨rfl,HF4.out⟩
theorem opfN_leaf {op n : Int} (h : op = 1 ∨ op = 6 ∨ op = 7) : opfN op n = none := by
 unfold opfN
 rw [List.find?_eq_none]
 intro y hy
 have : y.op = 12 ∨ y.op = 8 ∨ y.op = 9 ∨ y.op = 17 := by
  simp [opTab] at hy
  rcases hy with rfl | rfl | rfl | rfl | rfl | rfl | rfl | rfl | rfl | rfl | rfl | rfl | rfl | rfl | rfl | rfl | rfl | rfl | rfl | rfl <;> decide
 simp
 omega
theorem opfN_plus : opfN 12 4 = some plO := by simp [opfN,opTab,plO]
theorem num65 : (num 65).t = ⟨#[54,53]⟩ := by
 unfold num
 rw [if_neg (by decide),if_pos (by decide)]
 show dec 65 = _
 simp [dec,Lib.decDigits]
theorem num1 : (num 1).t = ⟨#[49]⟩ := by
 unfold num
 rw [if_neg (by decide),if_pos (by decide)]
 show dec 1 = _
 simp [dec,Lib.decDigits]
theorem lvE_leaf {op n : Int} (h : op = 1 ∨ op = 6) : lvE op n = 12 := by
 unfold lvE
 rw [opfN_leaf (by omega)]
 rcases h with rfl | rfl <;> rfl
theorem lvE_call (n : Int) : lvE 7 n = 11 := by
 unfold lvE
 rw [opfN_leaf (by omega)]
 rfl
theorem lvE_plus : lvE 12 4 = 7 := by
 unfold lvE
 rw [opfN_plus]
 rfl
theorem w65 (L : Int) (hL : L ≤ 12) (t : ByteArray) : Wd 82 (arL L) n65 t (pt t [⟨#[54,53]⟩]) := by
 refine expression_bare L n65 t _ (by show L ≤ lvE 1 65; rw [lvE_leaf (.inl rfl)]; exact hL) (bare_simple n65 t _ (opfN_leaf (.inl rfl)) (by decide) (by decide) (by decide) (by decide) (by decide) ?_)
 have h := simple_num_w n65 t rfl (by unfold wf64; decide) (by show 0 < (num 65).t.size; rw [num65]; decide) (by show (num 65).t.size ≤ _; rw [num65]; decide)
 rw [show (num n65.n).t = ⟨#[54,53]⟩ from num65] at h
 exact h
theorem w1 (L : Int) (hL : L ≤ 12) (t : ByteArray) : Wd 82 (arL L) n1 t (pt t [⟨#[49]⟩]) := by
 refine expression_bare L n1 t _ (by show L ≤ lvE 1 1; rw [lvE_leaf (.inl rfl)]; exact hL) (bare_simple n1 t _ (opfN_leaf (.inl rfl)) (by decide) (by decide) (by decide) (by decide) (by decide) ?_)
 have h := simple_num_w n1 t rfl (by unfold wf64; decide) (by show 0 < (num 1).t.size; rw [num1]; decide) (by show (num 1).t.size ≤ _; rw [num1]; decide)
 rw [show (num n1.n).t = ⟨#[49]⟩ from num1] at h
 exact h
theorem wnm (L : Int) (hL : L ≤ 12) (t : ByteArray) : Wd 82 (arL L) nmN t (pt t [⟨#[119,114,99,104]⟩]) :=
 expression_bare L nmN t _ (by show L ≤ lvE 6 0; rw [lvE_leaf (.inr rfl)]; exact hL) (bare_simple nmN t _ (opfN_leaf (.inr (.inl rfl))) (by decide) (by decide) (by decide) (by decide) (by decide) (simple_name_w nmN t rfl (by decide) (by decide)))
theorem wpl (t : ByteArray) : Wd 167 ar0 (opN plO n65 n1) t (pt (pt (pt t [⟨#[54,53]⟩]) [⟨#[43]⟩]) [⟨#[49]⟩]) :=
 part_of _ t _ (expression_bare 0 _ t _ (by show 0 ≤ lvE 12 4; rw [lvE_plus]; decide) (bare_op _ n65 n1 plO t (pt t [⟨#[54,53]⟩]) _ opfN_plus rfl (w65 7 (by decide) t) (w1 8 (by decide) _)))
theorem wcl (t : ByteArray) : Wd 167 ar0 (callN nmN [nmN,opN plO n65 n1]) t (pt (pt (pt (pt (pt (pt t [⟨#[119,114,99,104]⟩]) [⟨#[40]⟩]) [⟨#[54,53]⟩]) [⟨#[43]⟩]) [⟨#[49]⟩]) [⟨#[41]⟩]) :=
 part_of _ t _ (expression_bare 0 _ t _ (by show 0 ≤ lvE 7 0; rw [lvE_call]; decide)
  (bare_call _ nmN [opN plO n65 n1] (fun i => if i = 0 then pt (pt t [⟨#[119,114,99,104]⟩]) [⟨#[40]⟩] else pt (pt (pt (pt (pt t [⟨#[119,114,99,104]⟩]) [⟨#[40]⟩]) [⟨#[54,53]⟩]) [⟨#[43]⟩]) [⟨#[49]⟩]) t (pt t [⟨#[119,114,99,104]⟩]) rfl rfl (by decide) rfl (wnm 11 (by decide) t) (fun i y hy => by
   match i,hy with
   | 0,hy =>
    obtain rfl : _ = y := Option.some.inj hy
    exact wpl _
   | (i + 1),hy => simp at hy)))
def owT0 : ByteArray := pt ⟨#[]⟩ [⟨#[108,101,116]⟩,⟨#[115,116,97,114,116]⟩,⟨#[40]⟩]
def owT1 : ByteArray := pt (pt (pt (pt (pt (pt (pt (pt owT0 [⟨#[41]⟩]) [⟨#[98,101]⟩]) [⟨#[119,114,99,104]⟩]) [⟨#[40]⟩]) [⟨#[54,53]⟩]) [⟨#[43]⟩]) [⟨#[49]⟩]) [⟨#[41]⟩]
theorem wpr : Wd 75 ar0 owN ⟨#[]⟩ owT1 :=
 declaration_proc owN _ _ rfl (procedure_cmd owN (cmdN (callN nmN [nmN,opN plO n65 n1])) [] (fun _ => owT0) _ _ rfl rfl (by decide) (by decide) (by decide) rfl (fun i y hy => by simp at hy)
  (item_call _ _ _ rfl (basic_call _ (callN nmN [nmN,opN plO n65 n1]) [] _ _ rfl rfl (wcl _))))
theorem owT1_txt : owT1 ++ (⟨#[10]⟩ : BA) = ⟨#[108,101,116,32,115,116,97,114,116,32,40,32,41,32,98,101,32,119,114,99,104,32,40,32,54,53,32,43,32,49,32,41,10]⟩ := by
 rfl
theorem awake3 (hchk : chkE ⟨#[]⟩ [owN] = 0) (w : World) (hev : Ev w) (hov : Ov w) (hnv : Nv w) : Calls prog 14 #[] w fun e w' => e = .returned (.bool true) ∧ Fr w w' := by
 have CPa := h_ (ow_parse w hev hov)
 unfold ow at CPa
 have HV := h_ (And.intro hov hnv)
 have HCK := h_ hchk
 clear hev hov hnv hchk
 go_enter func14,ntmps14
 go_wp2_with fail
 refine CPa.out.mono ?_
 rintro e w1 ⟨ra,rc,rfl,hl1,hf1⟩
 have HB := h_ (SecB.new w1 (.string ⟨#[]⟩) (.slice ra 1 rc))
 have HF1 : Hid (Fr w (w1.alloc (.cells #[.string ⟨#[]⟩,.slice ra 1 rc] 24))) := h_ (hf1.alloc _)
 have HL1 : Hid (LN (w1.alloc (.cells #[.string ⟨#[]⟩,.slice ra 1 rc] 24)) (.slice ra 1 rc) [owN]) := h_ (hl1.ln.fr ((Fr.refl w1).alloc _))
 have HPR : Hid (∀ W,Fr (w1.alloc (.cells #[.string ⟨#[]⟩,.slice ra 1 rc] 24)) W → Calls prog 26 #[.agg #[.string ⟨#[]⟩,.slice ra 1 rc]] W fun e w' => e = .returned (.tuple #[.string ⟨#[108,101,116,32,115,116,97,114,116,32,40,32,41,32,98,101,32,119,114,99,104,32,40,32,54,53,32,43,32,49,32,41,10]⟩,.int .i64 0]) ∧ Fr W w') := h_ (fun W h => (Print_ok [owN] (fun i => if i = 0 then ⟨#[]⟩ else owT1) W ra rc (by decide) (HV.out.1.fr (HF1.out.trans h)) (HV.out.2.fr (HF1.out.trans h)) (HL1.out.fr h).rowN rfl
  (fun W' h' => by
   have h2 := Check_any ⟨#[]⟩ [owN] (.slice ra 1 rc) W' (by decide) (HL1.out.fr (h.trans h')) (by decide)
   rw [HCK.out] at h2
   exact h2)
  (fun i y hy => by
   match i,hy with
   | 0,hy =>
    obtain rfl : _ = y := Option.some.inj hy
    exact wpr
   | (i + 1),hy => simp at hy) (by decide)).mono (by rintro e w' ⟨rfl,h⟩; exact ⟨by rw [← owT1_txt]; rfl,h⟩))
 clear hl1 hf1
 obtain ⟨s0,s1⟩ := HB.out.cells
 go_wp2_with fail
 refine (HPR.out _ (Fr.refl _)).mono ?_
 rintro e w2 ⟨rfl,hf2⟩
 obtain ⟨y0,y1⟩ := (HB.out.fr hf2).cells
 obtain ⟨b,off,lv,e1,hnc,_⟩ := (HL1.out.fr hf2).at_ (i := 0) (t := owN) rfl
 subst e1
 have x0 : w2.cell? ⟨b,off,none⟩ = some (.int .i64 64) := by
  have h := hnc.op
  rw [Nat.zero_mul,Nat.add_zero] at h
  exact h
 have HF2 := h_ (HF1.out.trans hf2)
 clear hf2 hnc
 go_wp2_with fail
 first | go_ret | skip
 exact ⟨rfl,HF2.out⟩
theorem nm_start : isNm ⟨#[115,116,97,114,116]⟩ = true := by
 unfold isNm
 exact decide_eq_true ⟨by decide,by decide,by decide,by decide,has_not (neAll_of (by decide))⟩
theorem nm_wrch : isNm ⟨#[119,114,99,104]⟩ = true := by
 unfold isNm
 exact decide_eq_true ⟨by decide,by decide,by decide,by decide,has_not (neAll_of (by decide))⟩
theorem qtb_nil : qtb ⟨#[]⟩ = true := by
 unfold qtb quo
 rw [if_neg (by rw [run_end (by decide)]; decide),if_neg (by decide)]
 rfl
theorem empS_nil : empS ⟨#[]⟩ = true := rfl
theorem ok65 : okP n65 .expr = true := by
 rw [okP_eq]; rfl
theorem ok1 : okP n1 .expr = true := by
 rw [okP_eq]; rfl
theorem okNm : okP nmN .expr = true := by
 rw [okP_eq]
 show exprR 6 0 ⟨#[119,114,99,104]⟩ (okL []) = true
 unfold exprR
 rw [if_neg (by decide),if_neg (by decide),if_pos rfl]
 unfold nameR named
 rw [nm_wrch]
 simp [okL,hasK]
theorem okPl : okP (opN plO n65 n1) .expr = true := by
 rw [okP_eq]
 show exprR 12 4 ⟨#[]⟩ (okL [n65,n1]) = true
 unfold exprR
 rw [if_neg (by decide),if_neg (by decide),if_neg (by decide),if_pos rfl]
 simp [okL,hasK,ok65,ok1,empS_nil]
theorem okCl : okP (callN nmN [nmN,opN plO n65 n1]) .call = true := by
 rw [okP_eq]
 show callR 7 0 ⟨#[]⟩ (okL [nmN,opN plO n65 n1]) = true
 unfold callR exprR
 rw [if_neg (by decide),if_neg (by decide),if_neg (by decide),if_neg (by decide),if_neg (by decide)]
 simp [okL,someK,allK,bare,empS_nil,plainR,okNm,okPl]
theorem okCm : okP (cmdN (callN nmN [nmN,opN plO n65 n1])) .cmd = true := by
 rw [okP_eq]
 show cmdR 31 0 ⟨#[]⟩ (okL [callN nmN [nmN,opN plO n65 n1]]) = true
 unfold cmdR repR
 simp [okL,hasK,bare,empS_nil,okCl]
theorem okD : okP owN .decl = true := by
 rw [okP_eq]
 show declR 64 1 ⟨#[115,116,97,114,116]⟩ (okL [cmdN (callN nmN [nmN,opN plO n65 n1])]) = true
 unfold declR procK
 rw [nm_start]
 simp [okL,lastK,allK,okCm]
theorem few_leaf (t : Nd) (h : t.op = 1 ∨ t.op = 6) (hl : t.l = []) : okP t .few = true := by
 rw [okP_eq,hl]
 show fewR t.op t.n (okL []) = true
 unfold fewR
 rcases h with h | h <;> simp [h,okL,allK]
theorem few_ow : okP owN .few = true := by
 have h65 := few_leaf n65 (.inl rfl) rfl
 have h1 := few_leaf n1 (.inl rfl) rfl
 have hn := few_leaf nmN (.inr rfl) rfl
 have hp : okP (opN plO n65 n1) .few = true := by
  rw [okP_eq]
  show fewR 12 4 (okL [n65,n1]) = true
  simp [fewR,okL,allK,h65,h1]
 have hc : okP (callN nmN [nmN,opN plO n65 n1]) .few = true := by
  rw [okP_eq]
  show fewR 7 0 (okL [nmN,opN plO n65 n1]) = true
  simp [fewR,okL,allK,hn,hp]
 have hm : okP (cmdN (callN nmN [nmN,opN plO n65 n1])) .few = true := by
  rw [okP_eq]
  show fewR 31 0 (okL [callN nmN [nmN,opN plO n65 n1]]) = true
  simp [fewR,okL,allK,hc]
 rw [okP_eq]
 show fewR 64 1 (okL [cmdN (callN nmN [nmN,opN plO n65 n1])]) = true
 simp [fewR,okL,allK,hm]
theorem chk_ow : chkE ⟨#[]⟩ [owN] = 0 := by
 unfold chkE limE
 rw [qtb_nil,show allK (okL [owN]) .decl = true by simp [okL,allK,okD],show allK (okL [owN]) .few = true by simp [okL,allK,few_ow]]
 rw [if_neg (by decide),if_neg (by decide),if_neg (by decide),if_neg (by decide),if_neg (by decide)]
theorem awake3_any (w : World) (hev : Ev w) (hov : Ov w) (hnv : Nv w) : Calls prog 14 #[] w fun e w' => e = .returned (.bool true) ∧ Fr w w' := awake3 chk_ow w hev hov hnv
end Go.Proofs.YtbaelbafhdjlnaaGreatDoor
