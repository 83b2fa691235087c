/- A part of the proof that the law ParsePrints holds for every input. -/
import Derived.Test.YtbaelbafhdjlnaaGreatDoorM4
import Derived.Deep.RegionWith
import Derived.Test.YtbaelbafhdjlnaaGreatDoorM2
namespace Go.Proofs.YtbaelbafhdjlnaaGreatDoor
open Go.RowKit _root_.Go.Proofs.Tryz
set_option linter.unusedVariables false
set_option linter.unusedSimpArgs false
set_option maxRecDepth 100000
set_option maxHeartbeats 8000000
theorem ndc_one {w : World} {l : List Nd} {lv : Nat → Value} (hs : ∀ (i : Nat) (t : Nd),l[i]? = some t → LN w (lv i) t.l) : ∀ j,j ≤ l.length → ∀ u ∈ nrow l lv j,u.oneCell' = true := by
 intro j
 induction j with
 | zero => intro _ u hu; simp [nrow] at hu
 | succ j ih =>
  intro hj u hu
  rw [nrow_succ,List.mem_append] at hu
  rcases hu with hu | hu
  ·exact ih (by omega) u hu
  ·obtain ⟨t,ht⟩ : ∃ t,l[j]? = some t := ⟨_,List.getElem?_eq_getElem (by omega)⟩
   rw [getD_some ht] at hu
   obtain ⟨a,c,e,_⟩ := (hs j t ht).form
   rw [e] at hu
   exact ncells_one _ _ _ _ u hu
theorem LN.row {w : World} {a : Addr} {n cap : Nat} {l : List Nd} (h : LN w (.slice (some a) n cap) l) : ∃ lv : Nat → Value,(∀ w',Fr w w' → ∀ j u,(nrow l lv l.length)[j]? = some u → w'.cell? (a.add j) = some u) ∧ (∀ u ∈ nrow l lv l.length,u.oneCell' = true) ∧ ∀ (i : Nat) (t : Nd),l[i]? = some t → LN w (lv i) t.l := by
 cases h with
 | mk a' cap l lv hc hm hz hr hw hs =>
  refine ⟨lv,fun w' hf j u hu => ?_,ndc_one hs _ (Nat.le_refl _),hs⟩
  have hj : j < l.length * 5 := by have := (List.getElem?_eq_some_iff.1 hu).1; rwa [nrow_len] at this
  obtain ⟨b,off,e,hg⟩ := hr (by omega)
  obtain rfl : a = ⟨b,off,none⟩ := Option.some.inj e
  rw [ap_add]
  refine hf.cell ?_
  obtain ⟨i,r,hir,hr5⟩ : ∃ i r,j = i * 5 + r ∧ r < 5 := ⟨j / 5,j % 5,by omega,by omega⟩
  subst hir
  have hi : i < l.length := by omega
  obtain ⟨t,ht⟩ : ∃ t,l[i]? = some t := ⟨_,List.getElem?_eq_getElem hi⟩
  rw [nrow_at l lv _ i r hi hr5,getD_some ht] at hu
  obtain ⟨g0,g1,g2,g3,g4⟩ := hg i t ht
  match r,hr5,hu with
  | 0,_,hu => obtain rfl : _ = u := Option.some.inj hu; exact g0
  | 1,_,hu => obtain rfl : _ = u := Option.some.inj hu; rw [← Nat.add_assoc]; exact g1
  | 2,_,hu => obtain rfl : _ = u := Option.some.inj hu; rw [← Nat.add_assoc]; exact g2
  | 3,_,hu => obtain rfl : _ = u := Option.some.inj hu; rw [← Nat.add_assoc]; exact g3
  | 4,_,hu => obtain rfl : _ = u := Option.some.inj hu; rw [← Nat.add_assoc]; exact g4
theorem Nb.set3 {w : World} {b : Nat} {x0 x1 x2 x3 x4 : Value} (h : Nb w b x0 x1 x2 x3 x4) (u : Value) : Nb (w.setCell ⟨b,3,none⟩ u) b x0 x1 x2 u x4 := by
 unfold Nb at h ⊢
 rw [heap_setCell_same w b 3 _ _ u h]
 simp
theorem LNP.far {P : Nat → Prop} {w : World} {v : Value} {l : List Nd} (h : LNP P w v l) {g : Nat} (hg : ¬ P g) (o : Nat) (u : Value) : LNP P (w.setCell ⟨g,o,none⟩ u) v l :=
 h.keep fun b off x hb hx => ⟨hb,by rw [World.cell?_setCell_far _ _ _ _ (by show g ≠ b; rintro rfl; exact hg hb)]; exact hx⟩
def SL (w : World) (v : Value) (xs : List ByteArray) : Prop := ∃ a cap,v = .slice a xs.length cap ∧ xs.length ≤ cap ∧ cap ≤ maxLen ∧ (0 < xs.length → ∃ b off,a = some ⟨b,off,none⟩ ∧ ∀ (i : Nat) (s : ByteArray),xs[i]? = some s → w.cell? ⟨b,off + i,none⟩ = some (.string s))
theorem SL.fr {w w' : World} {v : Value} {xs : List ByteArray} (h : SL w v xs) (k : Fr w w') : SL w' v xs := by
 obtain ⟨a,cap,e,h1,h2,h3⟩ := h
 refine ⟨a,cap,e,h1,h2,fun hp => ?_⟩
 obtain ⟨b,off,e2,h4⟩ := h3 hp
 exact ⟨b,off,e2,fun i s hs => k.cell (h4 i s hs)⟩
abbrev strs (xs : List ByteArray) : List Value := xs.map .string
abbrev OS (w : World) (B : Nat) (v : Value) (xs : List ByteArray) : Prop := w.ownsRow B 9 1 v xs.length (strs xs)
theorem OS.sl {w : World} {B : Nat} {v : Value} {xs : List ByteArray} (h : OS w B v xs) : SL w v xs := by
 rcases h.2 with ⟨rfl,h0⟩ | ⟨g,cap,cur,rfl,hb,hg,hm,hmx,hsz,ht⟩
 ·obtain rfl : xs = [] := List.eq_nil_of_length_eq_zero h0
  exact ⟨none,0,rfl,Nat.le_refl _,Nat.zero_le _,fun h => absurd h (by decide)⟩
 ·refine ⟨_,cap,rfl,hm,hmx,fun _ => ⟨g,0,rfl,fun i s hs => ?_⟩⟩
  have hi := (List.getElem?_eq_some_iff.1 hs).1
  rw [Nat.zero_add,h.cellAt i (by omega),List.getElem?_map,hs]
  rfl
def hasS (xs : List ByteArray) (s : ByteArray) : Bool := xs.any fun x => decide (x = s)
theorem Tryz.infoStrN : (prog.info? 9).map (fun i => (i.zero,i.size,i.bytes)) = some (some (.string ⟨#[]⟩),1,16) := by kernel_rfl
theorem own_formS {w : World} {B : Nat} {v : Value} {xs : List ByteArray} (h : OS w B v xs) : ∃ a c,v = .slice a xs.length c := by
 rcases h.2 with ⟨rfl,h0⟩ | ⟨g,cap,cur,rfl,_⟩
 ·exact ⟨none,0,by rw [h0]⟩
 ·exact ⟨_,cap,rfl⟩
def NmIs (D : DataW Unit) (xs : List ByteArray) : Prop := Maps.IsMap D ∧ ∀ s : ByteArray,D.atKey (.string s.data.toList) (.lit (.bool false)) = .lit (.bool (hasS xs s))
abbrev clos (H : Nat) : Value := .func (.func 90) #[] #[.pointer (some ⟨H + 3,0,none⟩),.pointer (some ⟨H + 1,0,none⟩),.pointer (some ⟨H + 4,0,none⟩)]
structure NS (H : Nat) (w W : World) (xs : List ByteArray) (v : Value) (D : DataW Unit) : Prop where
 fr : Fr w W
 own : OS W (H + 5) v xs
 l : W.heap[H + 1]? = some (.cells #[v] 50 (0,0))
 m : W.heap[H + 3]? = some (.cells #[.map (some (H + 2))] 94 (0,0))
 f : W.heap[H + 4]? = some (.cells #[clos H] 87 (0,0))
 mp : W.ownsMap prog 9 (plainElem prog 4) (H + 2) xs.length D
 kw : NmIs D xs
 sz : H + 5 ≤ W.heap.size
structure Kp (H : Nat) (W w' : World) (r : Option Nat) : Prop where
 size : W.heap.size ≤ w'.heap.size
 block : ∀ k,k < W.heap.size → k ≠ H + 1 → k ≠ H + 2 → some k ≠ r → w'.heap[k]? = W.heap[k]?
theorem Kp.refl (H : Nat) (W : World) (r : Option Nat) : Kp H W W r := ⟨Nat.le_refl _,fun _ _ _ _ _ => rfl⟩
theorem Kp.trans {H : Nat} {a b c : World} {r q : Option Nat} (h : Kp H a b r) (k : Kp H b c q) (hq : q = r ∨ ∃ n,q = some n ∧ a.heap.size ≤ n) : Kp H a c r :=
 ⟨Nat.le_trans h.size k.size,fun i hi h1 h2 hr => by
  rw [k.block i (Nat.lt_of_lt_of_le hi h.size) h1 h2 (by rcases hq with rfl | ⟨n,rfl,hn⟩; exact hr; intro e; have := Option.some.inj e; omega),h.block i hi h1 h2 hr]⟩
theorem NS.al {H : Nat} {w W W' : World} {xs : List ByteArray} {v : Value} {D : DataW Unit} (h : NS H w W xs v D) (k : Fr W W') : NS H w W' xs v D :=
 ⟨h.fr.trans k,h.own.kept (nfr_grow k none) (by cases Value.ownBlock _ <;> simp),(k.block _ (by have := h.sz; omega)).trans h.l,(k.block _ (by have := h.sz; omega)).trans h.m,(k.block _ (by have := h.sz; omega)).trans h.f,h.mp.kept (nfr_grow k none) (by simp),h.kw,Nat.le_trans h.sz k.size⟩
theorem NS.cells {H : Nat} {w W : World} {xs : List ByteArray} {v : Value} {D : DataW Unit} (h : NS H w W xs v D) : W.cell? ⟨H + 1,0,none⟩ = some v ∧ W.cell? ⟨H + 3,0,none⟩ = some (.map (some (H + 2))) ∧ W.cell? ⟨H + 4,0,none⟩ = some (clos H) ∧ W.frozen? ⟨H + 1,0,none⟩ = false := by
 have h1 := h.l
 have h2 := h.m
 have h3 := h.f
 simp [World.cell?,World.frozen?,h1,h2,h3]
end Go.Proofs.YtbaelbafhdjlnaaGreatDoor
