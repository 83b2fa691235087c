/- A part of the proof that the law ParsePrints holds for every input. -/
import Derived.Test.YtbaelbafhdjlnaaGreatDoorRows
import Derived.Test.YtbaelbafhdjlnaaGreatDoorM1
import Derived.ChangeMaps5
import Derived.OpenShut
import Derived.Lib.SmallJoins
import Derived.Deep.Slices
import Derived.ChangeArms
import Derived.WalkKit
import Derived.LoopTactic
import Derived.Deep.QuietTactic
import Derived.BigQuiet
import Derived.Outline
import Derived.IntWalk
import Derived.Deep.RegionHeld3
import Derived.Laws.AppendOwn
import Derived.Deep.RegionHeld
namespace Go.Proofs.YtbaelbafhdjlnaaGreatDoor
open Go.ChangeShapes Go.WideShapes Go.ChangeAt Go.RowKit _root_.Go.Proofs.Tryz
set_option linter.unusedVariables false
set_option linter.unusedSimpArgs false
set_option maxRecDepth 100000
set_option maxHeartbeats 4000000
inductive Nd where
 | mk (op n : Int) (s : ByteArray) (l : List Nd) (a : Int)
instance : Inhabited Nd := ⟨⟨0, 0, ⟨#[]⟩, [], 0⟩⟩
def Nd.op : Nd → Int | ⟨x,_,_,_,_⟩ => x
def Nd.n : Nd → Int | ⟨_,x,_,_,_⟩ => x
def Nd.s : Nd → ByteArray | ⟨_,_,x,_,_⟩ => x
def Nd.l : Nd → List Nd | ⟨_,_,_,x,_⟩ => x
def Nd.a : Nd → Int | ⟨_,_,_,_,x⟩ => x
mutual
def Nd.bulk : Nd → Nat
 | ⟨_,_,s,l,_⟩ => s.size + 1 + bulks l
def bulks : List Nd → Nat
 | [] => 0
 | t :: r => t.bulk + bulks r
end
theorem Nd.bulk_eq (t : Nd) : t.bulk = t.s.size + 1 + bulks t.l := by
 obtain ⟨o,n,s,l,a⟩ := t
 rw [Nd.bulk]; rfl
theorem bulks_mem {t : Nd} : ∀ {l : List Nd},t ∈ l → t.bulk ≤ bulks l
 | x :: r,h => by
  rw [bulks]
  rcases List.mem_cons.1 h with rfl | h
  ·omega
  ·have := bulks_mem h; omega
theorem bulks_len : ∀ l : List Nd,l.length ≤ bulks l
 | [] => by simp [bulks]
 | t :: r => by
  have := bulks_len r
  rw [bulks,List.length_cons,Nd.bulk_eq]
  omega
def wf64 (x : Int) : Prop := -9223372036854775808 ≤ x ∧ x ≤ 9223372036854775807
structure NdC (w : World) (b off : Nat) (t : Nd) (lv : Value) : Prop where
 op : w.cell? ⟨b,off,none⟩ = some (.int .i64 t.op)
 n : w.cell? ⟨b,off + 1,none⟩ = some (.int .i64 t.n)
 s : w.cell? ⟨b,off + 2,none⟩ = some (.string t.s)
 l : w.cell? ⟨b,off + 3,none⟩ = some lv
 a : w.cell? ⟨b,off + 4,none⟩ = some (.int .i64 t.a)
theorem qs_ (t : Nd) : ∃ q0, q0 = t.op ∧ ∃ q1, q1 = t.n ∧ ∃ q2, q2 = t.s ∧ ∃ q4, q4 = t.a := ⟨_, rfl, _, rfl, _, rfl, _, rfl⟩
structure wfN (t : Nd) : Prop where
 op : wf64 t.op
 n : wf64 t.n
 a : wf64 t.a
 s : t.s.size ≤ 140737488351232
inductive LN (w : World) : Value → List Nd → Prop where
 | mk (a : Option Addr) (cap : Nat) (l : List Nd) (lv : Nat → Value) (hc : l.length ≤ cap) (hm : cap ≤ maxLen) (hz : a = none → cap = 0)
  (hr : 0 < l.length → ∃ b off,a = some ⟨b,off,none⟩ ∧ ∀ (i : Nat) (t : Nd),l[i]? = some t → NdC w b (off + i * 5) t (lv i))
  (hw : ∀ t ∈ l,wfN t) (hs : ∀ (i : Nat) (t : Nd),l[i]? = some t → LN w (lv i) t.l) : LN w (.slice a l.length cap) l
theorem NdC.fr {w w' : World} {b off : Nat} {t : Nd} {lv : Value} (h : NdC w b off t lv) (k : Fr w w') : NdC w' b off t lv :=
 ⟨k.cell h.op,k.cell h.n,k.cell h.s,k.cell h.l,k.cell h.a⟩
theorem LN.fr {w w' : World} {v : Value} {l : List Nd} (h : LN w v l) (k : Fr w w') : LN w' v l := by
 induction h with
 | mk a cap l lv hc hm hz hr hw hs ih =>
  exact .mk a cap l lv hc hm hz (fun hp => by obtain ⟨b,off,e,hg⟩ := hr hp; exact ⟨b,off,e,fun i t ht => (hg i t ht).fr k⟩) hw ih
theorem LN.nil (w : World) : LN w (.slice none 0 0) [] :=
 .mk none 0 [] (fun _ => .slice none 0 0) (Nat.le_refl _) (Nat.zero_le _) (fun _ => rfl) (fun h => absurd h (by decide)) (fun t h => by cases h) (fun i t h => by simp at h)
theorem LN.form {w : World} {v : Value} {l : List Nd} (h : LN w v l) : ∃ a cap,v = .slice a l.length cap ∧ l.length ≤ cap ∧ cap ≤ maxLen ∧ (a = none → cap = 0) := by
 cases h with
 | mk a cap l lv hc hm hz hr hw hs => exact ⟨a,cap,rfl,hc,hm,hz⟩
theorem LN.at_ {w : World} {a : Option Addr} {n cap : Nat} {l : List Nd} (h : LN w (.slice a n cap) l) {i : Nat} {t : Nd} (ht : l[i]? = some t) :
 ∃ b off lv,a = some ⟨b,off,none⟩ ∧ NdC w b (off + i * 5) t lv ∧ LN w lv t.l ∧ wfN t := by
 cases h with
 | mk a cap l lv hc hm hz hr hw hs =>
  have hi := (List.getElem?_eq_some_iff.1 ht).1
  obtain ⟨b,off,e,hg⟩ := hr (by omega)
  exact ⟨b,off,lv i,e,hg i t ht,hs i t ht,hw t (List.mem_of_getElem? ht)⟩
theorem cellsNode : prog.cellsOf 32 = 5 := by kernel_rfl
theorem cellsSl : prog.cellsOf 22 = 1 := by kernel_rfl
theorem ncellsInt : prog.cellsOf 3 = 1 := by kernel_rfl
theorem ncellsStr : prog.cellsOf 9 = 1 := by kernel_rfl
theorem wf64_of {x : Int} (h : (Lit.int .i64 x).wf = true) : wf64 x := by
 have h' : -9223372036854775808 ≤ x ∧ x ≤ 9223372036854775807 := by simpa [Lit.wf,IntKind.min,IntKind.max,IntKind.signed,IntKind.bits] using h
 exact h'
section
variable {H : Type} {enc : TypeId × Value → H} {W : World} {base : Nat} {sp : Nat → Bool} {hd : Bool}
end
def intOf : Value → Int
 | .int _ n => n
 | _ => 0
def deepL (k : Nat) (l : List Nd) : Bool := match k with
 | 0 => l.any fun _ => true
 | k + 1 => l.any fun t => deepL k t.l
theorem any_drop {α : Type} (p : α → Bool) {l : List α} {j : Nat} {t : α} (ht : l[j]? = some t) : (l.drop j).any p = (p t || (l.drop (j + 1)).any p) := by
 obtain ⟨hj,rfl⟩ := List.getElem?_eq_some_iff.1 ht
 rw [List.drop_eq_getElem_cons hj,List.any_cons]
theorem Deep_any : ∀ (k : Nat),k ≤ 1000000 → ∀ (l : List Nd) (v : Value) (w : World),LN w v l →
 Calls prog 44 #[v,.int .i64 k] w fun e w' => e = .returned (.bool (deepL k l)) ∧ Fr w w' := by
 intro k
 induction k with
 | zero =>
  intro _ l v w hv
  obtain ⟨a,cap,rfl,hc,_,_⟩ := hv.form
  show Calls _ _ #[_,.int .i64 0] w _
  cases l with
  | nil =>
   rw [show deepL 0 [] = false from rfl]
   go_enter func44,ntmps44
   go_wp2_with fail
   go_loopw [5] (fun i wr => i = .int .i64 0 ∧ w = wr) (fun _ _ => 0)
   case atStart => exact ⟨rfl,rfl⟩
   case round =>
    obtain ⟨rfl,rfl⟩ := hrel
    go_wp2_with fail
    go_ret
    exact ⟨rfl,Fr.refl _⟩
  | cons t r =>
   rw [show deepL 0 (t :: r) = true by simp [deepL]]
   have h1 : 0 < (t :: r).length := by simp
   obtain ⟨n,hn⟩ : ∃ n,n = (t :: r).length := ⟨_,rfl⟩
   rw [← hn] at hc h1 ⊢
   clear hn hv
   go_enter func44,ntmps44
   go_wp2_with fail
   go_loopw [5] (fun i wr => i = .int .i64 0 ∧ w = wr) (fun _ _ => 0)
   case atStart => exact ⟨rfl,rfl⟩
   case round =>
    obtain ⟨rfl,rfl⟩ := hrel
    go_wp2_with fail
    go_ret
    exact ⟨rfl,Fr.refl _⟩
 | succ k ih =>
  intro hk l v w hv
  have IH := h_ (ih (by omega))
  have HV := h_ hv
  obtain ⟨a,cap,rfl,hc,hm,_⟩ := hv.form
  obtain ⟨n,hn⟩ : ∃ n,n = l.length := ⟨_,rfl⟩
  have HN := h_ hn
  rw [← hn] at hc HV ⊢
  have hm' : n ≤ maxLen := by omega
  unfold maxLen at hm'
  have z1 : (((k + 1 : Nat) : Int) == 0) = false := by rw [beq_eq_false_iff_ne]; omega
  have z2 : IntKind.i64.wrap (((k + 1 : Nat) : Int) - 1) = (k : Int) := by rw [show ((k + 1 : Nat) : Int) - 1 = (k : Int) by omega]; exact IntWalk.i64_in _ (by omega)
  obtain ⟨kk,hkk⟩ : ∃ x : Int,x = ((k + 1 : Nat) : Int) := ⟨_,rfl⟩
  rw [← hkk] at z1 z2 ⊢
  obtain ⟨D,hD⟩ : ∃ d,d = deepL (k + 1) l := ⟨_,rfl⟩
  have HD := h_ hD
  rw [← hD]
  clear hn hv ih hm hkk hD
  go_enter func44,ntmps44
  go_wp2_with fail
  go_loopw [5] (fun i wr => ∃ j : Nat,j ≤ n ∧ i = .int .i64 j ∧ Hid (D = (l.drop j).any fun t => deepL k t.l) ∧ Fr w wr) (fun i _ => n - (intOf i).toNat)
  case atStart => exact ⟨0,Nat.zero_le _,rfl,h_ (by rw [HD.out]; rfl),Fr.refl _⟩
  case round =>
   obtain ⟨j,hj,rfl,HJ,hfr⟩ := hrel
   by_cases hlt : j < n
   ·obtain ⟨t,ht⟩ : ∃ t,l[j]? = some t := ⟨_,List.getElem?_eq_getElem (by rw [← HN.out]; exact hlt)⟩
    obtain ⟨b,off,lv,rfl,hc5,hln,_⟩ := (HV.out.fr hfr).at_ ht
    have p3 := hc5.l
    have HL := h_ hln
    have hstep := any_drop (fun t => deepL k t.l) ht
    obtain ⟨D1,hD1⟩ : ∃ d,d = deepL k t.l := ⟨_,rfl⟩
    have HC : Hid (∀ W,Fr wr W → Calls prog 44 #[lv,.int .i64 (k : Int)] W fun e w' => e = .returned (.bool D1) ∧ Fr W w') := h_ (fun W hW => by rw [hD1]; exact IH.out t.l lv W (HL.out.fr hW))
    rw [← hD1] at hstep
    have HST := h_ hstep
    clear hc5 hln ht hstep hD1
    cases D1 with
    | true =>
     have hDt : D = true := by rw [HJ.out,HST.out]; rfl
     subst hDt
     go_wp2_with fail
     refine (HC.out _ (Fr.refl _)).mono ?_
     rintro e w1 ⟨rfl,hf1⟩
     have hfin := hfr.trans hf1
     go_wp2_with fail
     go_ret
     exact ⟨rfl,hfin⟩
    | false =>
     have HJ2 : Hid (D = (l.drop (j + 1)).any fun t => deepL k t.l) := h_ (by rw [HJ.out,HST.out]; rfl)
     go_wp2_with fail
     refine (HC.out _ (Fr.refl _)).mono ?_
     rintro e w1 ⟨rfl,hf1⟩
     have hfin := hfr.trans hf1
     go_wp2_with fail
     go_roundw
     case rel => exact ⟨j + 1,by omega,by go_num,HJ2,hfin⟩
     case measure => simp [intOf]; omega
   ·obtain rfl : j = n := by omega
    have hDf : D = false := by rw [HJ.out,List.drop_eq_nil_of_le (by rw [← HN.out]; exact Nat.le_refl _)]; rfl
    subst hDf
    go_wp2_with fail
    go_ret
    exact ⟨rfl,hfr⟩
mutual
def cntN : Nd → Nat → Nat
 | ⟨_,_,_,l,_⟩,k => cntL l 0 k
def cntL : List Nd → Nat → Nat → Nat
 | [],n,_ => n
 | t :: r,n,k => if n ≤ k then cntL r (n + 1 + cntN t (k - n)) k else n
end
theorem cntN_eq (t : Nd) (k : Nat) : cntN t k = cntL t.l 0 k := by
 obtain ⟨o,n,s,l,a⟩ := t
 rw [cntN]; rfl
theorem cntL_lo : ∀ (l : List Nd) (n k : Nat),n ≤ cntL l n k
 | [],n,k => by rw [cntL]; omega
 | t :: r,n,k => by
  rw [cntL]
  split
  ·have := cntL_lo r (n + 1 + cntN t (k - n)) k; omega
  ·omega
mutual
theorem cntN_hi : ∀ (t : Nd) (k : Nat),cntN t k + 1 ≤ t.bulk
 | ⟨o,n,s,l,a⟩,k => by
  rw [cntN,Nd.bulk]
  have := cntL_hi l 0 k
  omega
theorem cntL_hi : ∀ (l : List Nd) (n k : Nat),cntL l n k ≤ n + bulks l
 | [],n,k => by rw [cntL,bulks]; omega
 | t :: r,n,k => by
  rw [cntL,bulks]
  have h1 := cntN_hi t (k - n)
  split
  ·have := cntL_hi r (n + 1 + cntN t (k - n)) k; omega
  ·omega
end
def txC (n k : Nat) : Nat := if k < n then k + 1 else n
mutual
def txN : Nd → Nat → Nat
 | ⟨_,_,_,l,_⟩,k => txC (txL l 0 k) k
def txL : List Nd → Nat → Nat → Nat
 | [],n,_ => n
 | t :: r,n,k => if n ≤ k then txL r (if n + t.s.size ≤ k then n + t.s.size + txN t (k - (n + t.s.size)) else n + t.s.size) k else n
end
theorem txN_eq (t : Nd) (k : Nat) : txN t k = txC (txL t.l 0 k) k := by
 obtain ⟨o,n,s,l,a⟩ := t
 rw [txN]; rfl
theorem txL_lo : ∀ (l : List Nd) (n k : Nat),n ≤ txL l n k
 | [],n,k => by rw [txL]; omega
 | t :: r,n,k => by
  rw [txL]
  split
  ·obtain ⟨x,hx⟩ : ∃ x,x = (if n + t.s.size ≤ k then n + t.s.size + txN t (k - (n + t.s.size)) else n + t.s.size) := ⟨_,rfl⟩
   rw [← hx]
   have h1 : n ≤ x := by rw [hx]; split <;> omega
   have := txL_lo r x k
   omega
  ·omega
theorem drop1 {α : Type} {L : List α} {j : Nat} {t : α} (h : L[j]? = some t) : L.drop j = t :: L.drop (j + 1) := by
 obtain ⟨hj,rfl⟩ := List.getElem?_eq_some_iff.1 h
 exact List.drop_eq_getElem_cons hj
theorem Nodes_gen (Q : Nat → List Nd → Prop) (hQ : ∀ m l,Q m l → ∀ t ∈ l,∃ m',m' < m ∧ Q m' t.l) (hQD : ∀ m l k,Q m l → k ≤ 1000000 → cntL l 0 k ≤ 140737488351232) : ∀ (m : Nat) (l : List Nd),Q m l → ∀ (v : Value) (k : Nat) (w : World),k ≤ 1000000 → LN w v l →
 Calls prog 62 #[v,.int .i64 k] w fun e w' => e = .returned (.int .i64 (cntL l 0 k : Nat)) ∧ Fr w w' := by
 intro m
 induction m using Nat.strongRecOn with
 | _ m ih =>
  intro l hl v k w hk hv
  have IH := h_ ih
  have HV := h_ hv
  have HB := h_ hl
  obtain ⟨a,cap,rfl,hc,hm,_⟩ := hv.form
  obtain ⟨n,hn⟩ : ∃ n,n = l.length := ⟨_,rfl⟩
  have HN := h_ hn
  rw [← hn] at hc HV ⊢
  obtain ⟨D,hD⟩ : ∃ d,d = cntL l 0 k := ⟨_,rfl⟩
  have HD := h_ hD
  have hDb : D ≤ 140737488351232 := by rw [hD]; exact hQD m l k hl hk
  rw [← hD]
  have hn2 : n ≤ maxLen := by omega
  unfold maxLen at hn2
  have HQ := h_ hQ
  clear hn hv ih hm hD hl hQ hQD
  go_enter func62,ntmps62
  go_wp2_with fail
  go_loopw [5,6] (fun s i wr => ∃ c j : Nat,j ≤ n ∧ s = .int .i64 c ∧ i = .int .i64 j ∧ Hid (D = cntL (l.drop j) c k) ∧ Fr w wr) (fun _ i _ => n - (intOf i).toNat)
  case atStart => exact ⟨0,0,Nat.zero_le _,rfl,rfl,h_ (by rw [HD.out]; rfl),Fr.refl _⟩
  case round =>
   obtain ⟨c,j,hj,rfl,rfl,HJ,hfr⟩ := hrel
   have hcD : c ≤ D := by rw [HJ.out]; exact cntL_lo _ _ _
   by_cases hlt : j < n
   ·obtain ⟨t,ht⟩ : ∃ t,l[j]? = some t := ⟨_,List.getElem?_eq_getElem (by rw [← HN.out]; exact hlt)⟩
    by_cases hck : c ≤ k
    ·obtain ⟨b,off,lv,rfl,hc5,hln,_⟩ := (HV.out.fr hfr).at_ ht
     have p3 := hc5.l
     have HL := h_ hln
     have hmem := List.mem_of_getElem? ht
     obtain ⟨m',hm',hq'⟩ := HQ.out m l HB.out t hmem
     have hstep : D = cntL (l.drop (j + 1)) (c + 1 + cntL t.l 0 (k - c)) k := by rw [HJ.out,drop1 ht,cntL,if_pos hck,cntN_eq]
     obtain ⟨d,hd⟩ : ∃ d,d = cntL t.l 0 (k - c) := ⟨_,rfl⟩
     have HC : Hid (∀ W,Fr wr W → Calls prog 62 #[lv,.int .i64 ((k - c : Nat) : Int)] W fun e w' => e = .returned (.int .i64 (d : Int)) ∧ Fr W w') := h_ (fun W hW => by
      rw [hd]; exact IH.out m' hm' t.l hq' lv (k - c) W (by omega) (HL.out.fr hW))
     rw [← hd] at hstep
     have hsd : c + 1 + d ≤ D := by rw [hstep]; exact cntL_lo _ _ _
     have HST := h_ hstep
     have y1 : IntKind.i64.wrap ((k : Int) - (c : Int)) = ((k - c : Nat) : Int) := by rw [show (k : Int) - (c : Int) = ((k - c : Nat) : Int) by omega]; exact IntWalk.i64_in _ (by omega)
     have y2 : IntKind.i64.wrap ((c : Int) + 1) = ((c + 1 : Nat) : Int) := IntWalk.i64_in _ (by omega)
     have y3 : IntKind.i64.wrap (((c + 1 : Nat) : Int) + (d : Int)) = ((c + 1 + d : Nat) : Int) := IntWalk.i64_in _ (by omega)
     obtain ⟨kc,hkc⟩ : ∃ x : Nat,x = k - c := ⟨_,rfl⟩
     obtain ⟨c1,hc1⟩ : ∃ x : Nat,x = c + 1 := ⟨_,rfl⟩
     obtain ⟨c2,hc2⟩ : ∃ x : Nat,x = c + 1 + d := ⟨_,rfl⟩
     rw [← hkc] at y1 HC
     rw [← hc2] at y3 HST
     rw [← hc1] at y2 y3
     clear hc5 hln ht hstep hd hmem hm' hq' hkc hc1 hc2 hsd hcD hDb
     go_wp2_with fail
     refine (HC.out _ (Fr.refl _)).mono ?_
     rintro e w1 ⟨rfl,hf1⟩
     have hfin := hfr.trans hf1
     go_wp2_with fail
     go_roundw
     case rel => exact ⟨c2,j + 1,by omega,rfl,by go_num,HST,hfin⟩
     case measure => simp [intOf]; omega
    ·have hDc : D = c := by rw [HJ.out,drop1 ht,cntL,if_neg hck]
     have HDC := h_ hDc
     clear ht hDc hcD
     go_wp2_with fail
     go_ret
     rw [HDC.out]
     exact ⟨rfl,hfr⟩
   ·obtain rfl : j = n := by omega
    have hDc : D = c := by rw [HJ.out,List.drop_eq_nil_of_le (by rw [← HN.out]; exact Nat.le_refl _),cntL]
    have HDC := h_ hDc
    clear hDc hcD
    go_wp2_with fail
    go_ret
    rw [HDC.out]
    exact ⟨rfl,hfr⟩
theorem cntL_cap : ∀ (d : Nat) (l : List Nd) (n k : Nat),deepL d l = false → n ≤ k + d + 1 → cntL l n k ≤ k + d + 1
 | d,[],n,k,_,hn => by rw [cntL]; exact hn
 | 0,t :: r,n,k,h,_ => by simp [deepL] at h
 | d + 1,t :: r,n,k,h,hn => by
  rw [cntL]
  split
  ·have h' : deepL d t.l = false ∧ deepL (d + 1) r = false := by simpa [deepL] using h
   have h1 := cntL_cap d t.l 0 (k - n) h'.1 (by omega)
   rw [cntN_eq]
   exact cntL_cap (d + 1) r _ k h'.2 (by omega)
  ·exact hn
termination_by d l => (d,l.length)
theorem txL_cap (M : Nat) : ∀ (l : List Nd) (n k : Nat),(∀ t ∈ l,t.s.size ≤ M) → n ≤ k + M + 1 → txL l n k ≤ k + M + 1
 | [],n,k,_,hn => by rw [txL]; exact hn
 | t :: r,n,k,h,hn => by
  rw [txL]
  split
  ·obtain ⟨x,hx⟩ : ∃ x,x = (if n + t.s.size ≤ k then n + t.s.size + txN t (k - (n + t.s.size)) else n + t.s.size) := ⟨_,rfl⟩
   rw [← hx]
   have h1 := h t (by simp)
   have h3 : txN t (k - (n + t.s.size)) ≤ k - (n + t.s.size) + 1 := by rw [txN_eq]; unfold txC; split <;> omega
   have h2 : x ≤ k + M + 1 := by rw [hx]; split <;> omega
   exact txL_cap M r x k (fun u hu => h u (by simp [hu])) h2
  ·exact hn
theorem deep_mem {d : Nat} {l : List Nd} (h : deepL (d + 1) l = false) {t : Nd} (ht : t ∈ l) : deepL d t.l = false := by
 simp only [deepL,List.any_eq_false] at h
 simpa using h t ht
def Qd (m : Nat) (l : List Nd) : Prop := deepL m l = false ∧ m ≤ 1000000
theorem Qd_sub (m : Nat) (l : List Nd) (h : Qd m l) : ∀ t ∈ l,∃ m',m' < m ∧ Qd m' t.l := by
 intro t ht
 obtain ⟨h1,h2⟩ := h
 match m,h1,h2 with
 | 0,h1,_ => simp [deepL] at h1; exact absurd ht (by simp [h1])
 | m + 1,h1,h2 => exact ⟨m,by omega,deep_mem h1 ht,by omega⟩
theorem Nodes_any (m : Nat) (hm : m ≤ 140737488351232) (l : List Nd) (hl : bulks l ≤ m) (v : Value) (k : Nat) (w : World) (hk : k ≤ 1000000) (hv : LN w v l) :
 Calls prog 62 #[v,.int .i64 k] w fun e w' => e = .returned (.int .i64 (cntL l 0 k : Nat)) ∧ Fr w w' :=
 Nodes_gen (fun m l => bulks l ≤ m ∧ m ≤ 140737488351232) (fun m l h t ht => ⟨bulks t.l,by have := bulks_mem ht; have := t.bulk_eq; omega,Nat.le_refl _,by have := bulks_mem ht; have := t.bulk_eq; omega⟩)
  (fun m l k h hk => by have := cntL_hi l 0 k; omega) m l ⟨hl,hm⟩ v k w hk hv
theorem Nodes_deep (d : Nat) (hd : d ≤ 1000000) (l : List Nd) (hl : deepL d l = false) (v : Value) (k : Nat) (w : World) (hk : k ≤ 1000000) (hv : LN w v l) :
 Calls prog 62 #[v,.int .i64 k] w fun e w' => e = .returned (.int .i64 (cntL l 0 k : Nat)) ∧ Fr w w' :=
 Nodes_gen Qd Qd_sub (fun m l k h hk => by have := cntL_cap m l 0 k h.1 (by omega); have := h.2; omega) d l ⟨hl,hd⟩ v k w hk hv
theorem Texts_any : ∀ (m : Nat) (l : List Nd),Qd m l → ∀ (v : Value) (k : Nat) (w : World),k ≤ 1000000 → LN w v l →
 Calls prog 63 #[v,.int .i64 k] w fun e w' => e = .returned (.int .i64 (txC (txL l 0 k) k : Nat)) ∧ Fr w w' := by
 intro m
 induction m using Nat.strongRecOn with
 | _ m ih =>
  intro l hl v k w hk hv
  have IH := h_ ih
  have HV := h_ hv
  have HB := h_ hl
  obtain ⟨a,cap,rfl,hc,hm,_⟩ := hv.form
  obtain ⟨n,hn⟩ : ∃ n,n = l.length := ⟨_,rfl⟩
  have HN := h_ hn
  rw [← hn] at hc HV ⊢
  obtain ⟨D,hD⟩ : ∃ d,d = txL l 0 k := ⟨_,rfl⟩
  have HD := h_ hD
  have hDb : D ≤ 140737489351233 := by
   have := txL_cap 140737488351232 l 0 k (fun t ht => by obtain ⟨i,hi⟩ := List.getElem?_of_mem ht; obtain ⟨_,_,_,_,_,_,hwf⟩ := HV.out.at_ hi; exact hwf.s) (by omega)
   omega
  rw [← hD]
  have hn2 : n ≤ maxLen := by omega
  unfold maxLen at hn2
  have yk : IntKind.i64.wrap ((k : Int) + 1) = ((k + 1 : Nat) : Int) := IntWalk.i64_in _ (by omega)
  clear hn hv ih hm hD hl
  go_enter func63,ntmps63
  go_wp2_with fail
  go_loopw [5,6] (fun s i wr => ∃ c j : Nat,j ≤ n ∧ s = .int .i64 c ∧ i = .int .i64 j ∧ Hid (D = txL (l.drop j) c k) ∧ Fr w wr) (fun _ i _ => n - (intOf i).toNat)
  case atStart => exact ⟨0,0,Nat.zero_le _,rfl,rfl,h_ (by rw [HD.out]; rfl),Fr.refl _⟩
  case round =>
   obtain ⟨c,j,hj,rfl,rfl,HJ,hfr⟩ := hrel
   have hcD : c ≤ D := by rw [HJ.out]; exact txL_lo _ _ _
   by_cases hgo : j < n ∧ c ≤ k
   ·obtain ⟨hlt,hck⟩ := hgo
    obtain ⟨t,ht⟩ : ∃ t,l[j]? = some t := ⟨_,List.getElem?_eq_getElem (by rw [← HN.out]; exact hlt)⟩
    obtain ⟨b,off,lv,rfl,hc5,hln,hwf⟩ := (HV.out.fr hfr).at_ ht
    have p2 := hc5.s
    have p3 := hc5.l
    have HL := h_ hln
    obtain ⟨m',hm',hq'⟩ := Qd_sub m l HB.out t (List.mem_of_getElem? ht)
    have hss := hwf.s
    have hstep : D = txL (l.drop (j + 1)) (if c + t.s.size ≤ k then c + t.s.size + txC (txL t.l 0 (k - (c + t.s.size))) (k - (c + t.s.size)) else c + t.s.size) k := by rw [HJ.out,drop1 ht,txL,if_pos hck,txN_eq]
    obtain ⟨S,hS⟩ : ∃ S,S = t.s := ⟨_,rfl⟩
    rw [← hS] at hstep hss p2
    have y2 : IntKind.i64.wrap ((c : Int) + (S.size : Int)) = ((c + S.size : Nat) : Int) := IntWalk.i64_in _ (by omega)
    obtain ⟨c1,hc1⟩ : ∃ x : Nat,x = c + S.size := ⟨_,rfl⟩
    rw [← hc1] at y2 hstep
    by_cases hck1 : c1 ≤ k
    ·rw [if_pos hck1] at hstep
     obtain ⟨d,hd⟩ : ∃ d,d = txC (txL t.l 0 (k - c1)) (k - c1) := ⟨_,rfl⟩
     have HC : Hid (∀ W,Fr wr W → Calls prog 63 #[lv,.int .i64 ((k - c1 : Nat) : Int)] W fun e w' => e = .returned (.int .i64 (d : Int)) ∧ Fr W w') := h_ (fun W hW => by
      rw [hd]; exact IH.out m' hm' t.l hq' lv (k - c1) W (by omega) (HL.out.fr hW))
     rw [← hd] at hstep
     have hsd : c1 + d ≤ D := by rw [hstep]; exact txL_lo _ _ _
     have HST := h_ hstep
     have y1 : IntKind.i64.wrap ((k : Int) - (c1 : Int)) = ((k - c1 : Nat) : Int) := by rw [show (k : Int) - (c1 : Int) = ((k - c1 : Nat) : Int) by omega]; exact IntWalk.i64_in _ (by omega)
     have y3 : IntKind.i64.wrap ((c1 : Int) + (d : Int)) = ((c1 + d : Nat) : Int) := IntWalk.i64_in _ (by omega)
     obtain ⟨kc,hkc⟩ : ∃ x : Nat,x = k - c1 := ⟨_,rfl⟩
     obtain ⟨c2,hc2⟩ : ∃ x : Nat,x = c1 + d := ⟨_,rfl⟩
     rw [← hkc] at y1 HC
     rw [← hc2] at y3 HST
     clear hc5 hln ht hstep hd hm' hq' hkc hc1 hc2 hsd hcD hDb hS hss hwf
     go_wp2_with fail
     refine (HC.out _ (Fr.refl _)).mono ?_
     rintro e w1 ⟨rfl,hf1⟩
     have hfin := hfr.trans hf1
     go_wp2_with fail
     go_roundw
     case rel => exact ⟨c2,j + 1,by omega,rfl,by go_num,HST,hfin⟩
     case measure => simp [intOf]; omega
    ·rw [if_neg hck1] at hstep
     have HST := h_ hstep
     clear hc5 hln ht hstep hm' hq' hc1 hcD hDb hS hss hwf
     go_wp2_with fail
     go_roundw
     case rel => exact ⟨c1,j + 1,by omega,rfl,by go_num,HST,hfr⟩
     case measure => simp [intOf]; omega
   ·have hDc : D = c := by
     by_cases hlt : j < n
     ·obtain ⟨t,ht⟩ : ∃ t,l[j]? = some t := ⟨_,List.getElem?_eq_getElem (by rw [← HN.out]; exact hlt)⟩
      rw [HJ.out,drop1 ht,txL,if_neg (by omega)]
     ·rw [HJ.out,List.drop_eq_nil_of_le (by rw [← HN.out]; omega),txL]
    have HDC : Hid (txC D k = if k < c then k + 1 else c) := h_ (by rw [hDc]; rfl)
    clear hDc hcD
    by_cases hkc : k < c
    ·have HX : Hid (txC D k = k + 1) := h_ (by rw [HDC.out,if_pos hkc])
     by_cases hlt : j < n
     ·have hck : ¬ c ≤ k := by omega
      clear hgo
      go_wp2_with fail
      go_ret
      rw [HX.out]
      exact ⟨rfl,hfr⟩
     ·clear hgo
      go_wp2_with fail
      go_ret
      rw [HX.out]
      exact ⟨rfl,hfr⟩
    ·have HX : Hid (txC D k = c) := h_ (by rw [HDC.out,if_neg hkc])
     have hlt : ¬ j < n := by omega
     clear hgo
     go_wp2_with fail
     go_ret
     rw [HX.out]
     exact ⟨rfl,hfr⟩
def hvL (l : List Nd) (k : Nat) : Bool := deepL 400 l || decide (k < cntL l 0 k) || decide (20000 < txC (txL l 0 20000) 20000)
theorem Heavy_any (l : List Nd) (v : Value) (k : Nat) (w : World) (hk : k ≤ 1000000) (hv : LN w v l) :
 Calls prog 21 #[v,.int .i64 k] w fun e w' => e = .returned (.bool (hvL l k)) ∧ Fr w w' := by
 have HV := h_ hv
 have H1 := h_ (fun W (h : Fr w W) => Deep_any 400 (by omega) l v W (hv.fr h))
 have H2 : Hid (deepL 400 l = false → ∀ W,Fr w W → _) := h_ (fun h0 W (h : Fr w W) => Nodes_deep 400 (by omega) l h0 v k W hk (hv.fr h))
 have H3 : Hid (deepL 400 l = false → ∀ W,Fr w W → _) := h_ (fun h0 W (h : Fr w W) => Texts_any 400 l ⟨h0,by omega⟩ v 20000 W (by omega) (hv.fr h))
 obtain ⟨R,hR⟩ : ∃ r,r = hvL l k := ⟨_,rfl⟩
 rw [← hR]
 unfold hvL at hR
 obtain ⟨d1,hd1⟩ : ∃ d,d = deepL 400 l := ⟨_,rfl⟩
 obtain ⟨d2,hd2⟩ : ∃ d,d = cntL l 0 k := ⟨_,rfl⟩
 obtain ⟨d3,hd3⟩ : ∃ d,d = txC (txL l 0 20000) 20000 := ⟨_,rfl⟩
 rw [← hd1] at H1 H2 H3 hR
 rw [← hd2] at H2 hR
 rw [← hd3] at H3 hR
 have H1' : Hid (∀ W,Fr w W → Calls prog 44 #[v,.int .i64 400] W fun e w' => e = .returned (.bool d1) ∧ Fr W w') := H1
 have H3' : Hid (d1 = false → ∀ W,Fr w W → Calls prog 63 #[v,.int .i64 20000] W fun e w' => e = .returned (.int .i64 (d3 : Int)) ∧ Fr W w') := H3
 clear hd1 hd2 hd3 hv H1 H3
 cases d1 with
 | true =>
  have HR : Hid (R = true) := h_ (by rw [hR]; rfl)
  clear hR
  go_enter func21,ntmps21
  go_wp2_with fail
  refine (H1'.out _ (Fr.refl _)).mono ?_
  rintro e w1 ⟨rfl,hf1⟩
  go_wp2_with fail
  go_ret
  rw [HR.out]
  exact ⟨rfl,hf1⟩
 | false =>
  by_cases h2 : k < d2
  ·have HR : Hid (R = true) := h_ (by rw [hR,decide_eq_true h2]; rfl)
   clear hR
   go_enter func21,ntmps21
   go_wp2_with fail
   refine (H1'.out _ (Fr.refl _)).mono ?_
   rintro e w1 ⟨rfl,hf1⟩
   have HF1 := h_ hf1
   clear hf1
   go_wp2_with fail
   refine (H2.out (by first | rfl | trivial) _ HF1.out).mono ?_
   rintro e w2 ⟨rfl,hf2⟩
   have hfin := HF1.out.trans hf2
   go_wp2_with fail
   go_ret
   rw [HR.out]
   exact ⟨rfl,hfin⟩
  ·have HR : Hid (R = decide ((20000 : Int) < (d3 : Int))) := h_ (by rw [hR,decide_eq_false h2]; simp; omega)
   clear hR
   go_enter func21,ntmps21
   go_wp2_with fail
   refine (H1'.out _ (Fr.refl _)).mono ?_
   rintro e w1 ⟨rfl,hf1⟩
   have HF1 := h_ hf1
   clear hf1
   go_wp2_with fail
   refine (H2.out (by first | rfl | trivial) _ HF1.out).mono ?_
   rintro e w2 ⟨rfl,hf2⟩
   have HF2 := h_ (HF1.out.trans hf2)
   clear hf2
   go_wp2_with fail
   refine (H3'.out (by first | rfl | trivial) _ HF2.out).mono ?_
   rintro e w3 ⟨rfl,hf3⟩
   have hfin := HF2.out.trans hf3
   go_wp2_with fail
   go_ret
   rw [HR.out]
   exact ⟨rfl,hfin⟩
def ndV (t : Nd) (lv : Value) : Value := .agg #[.int .i64 t.op,.int .i64 t.n,.string t.s,lv,.int .i64 t.a]
theorem s_yes {a b : ByteArray} (h : a = b) : (a.toList == b.toList) = true := by subst h; simp
theorem s_no {a b : ByteArray} (h : a ≠ b) : (a.toList == b.toList) = false := by
 rw [beq_eq_false_iff_ne]
 intro e
 rw [ByteArray.toList_eq,ByteArray.toList_eq] at e
 exact h (ByteArray.ext (Array.ext' e))
mutual
def ndsN : Nd → Nat
 | ⟨_,_,_,l,_⟩ => 1 + ndsL l
def ndsL : List Nd → Nat
 | [] => 0
 | t :: r => ndsN t + ndsL r
end
theorem ndsN_eq (t : Nd) : ndsN t = 1 + ndsL t.l := by
 obtain ⟨o,n,s,l,a⟩ := t
 rw [ndsN]; rfl
mutual
theorem ndsN_hi : ∀ t : Nd,ndsN t ≤ t.bulk
 | ⟨o,n,s,l,a⟩ => by
  rw [ndsN,Nd.bulk]
  have := ndsL_hi l
  omega
theorem ndsL_hi : ∀ l : List Nd,ndsL l ≤ bulks l
 | [] => by rw [ndsL,bulks]; omega
 | t :: r => by
  rw [ndsL,bulks]
  have h1 := ndsN_hi t
  have h2 := ndsL_hi r
  omega
end
theorem ndsL_drop {l : List Nd} {j : Nat} {t : Nd} (ht : l[j]? = some t) : ndsL (l.drop j) = 1 + ndsL t.l + ndsL (l.drop (j + 1)) := by
 rw [drop1 ht,ndsL,ndsN_eq]
mutual
def lvlN : Nd → Nat
 | ⟨_,_,_,l,_⟩ => 1 + lvlL l
def lvlL : List Nd → Nat
 | [] => 0
 | t :: r => max (lvlN t) (lvlL r)
end
theorem Size_any : ∀ (m : Nat),m ≤ 140737488351232 → ∀ (l : List Nd),bulks l ≤ m → ∀ (v : Value) (w : World),LN w v l →
 Calls prog 32 #[v] w fun e w' => e = .returned (.int .i64 (ndsL l : Nat)) ∧ Fr w w' := by
 intro m
 induction m using Nat.strongRecOn with
 | _ m ih =>
  intro hm47 l hl v w hv
  have IH := h_ ih
  have HV := h_ hv
  have HB := h_ hl
  have HS := h_ (ndsL_hi l)
  obtain ⟨a,cap,rfl,hc,hm,_⟩ := hv.form
  have hn2 : l.length ≤ 140737488351232 := by have := bulks_len l; omega
  obtain ⟨n,hn⟩ : ∃ n,n = l.length := ⟨_,rfl⟩
  have HN := h_ hn
  rw [← hn] at hc HV hn2 ⊢
  clear hn hv ih hm hl
  go_enter func32,ntmps32
  go_wp2_with fail
  go_loopw [3,10] (fun s i wr => ∃ c j : Nat,j ≤ n ∧ s = .int .i64 c ∧ i = .int .i64 j ∧ Hid (ndsL l + n = c + j + ndsL (l.drop j)) ∧ Fr w wr) (fun _ i _ => n - (intOf i).toNat)
  case atStart => exact ⟨n,0,Nat.zero_le _,rfl,rfl,h_ (by simp; omega),Fr.refl _⟩
  case round =>
   obtain ⟨c,j,hj,rfl,rfl,HJ,hfr⟩ := hrel
   by_cases hlt : j < n
   ·obtain ⟨t,ht⟩ : ∃ t,l[j]? = some t := ⟨_,List.getElem?_eq_getElem (by rw [← HN.out]; exact hlt)⟩
    obtain ⟨b,off,lv,rfl,hc5,hln,_⟩ := (HV.out.fr hfr).at_ ht
    obtain ⟨x0,x1,x2,x3,x4⟩ := hc5
    obtain ⟨la,lc,rfl,_,_,_⟩ := hln.form
    obtain ⟨ll,hll⟩ : ∃ x : Nat,x = t.l.length := ⟨_,rfl⟩
    rw [← hll] at x3 hln
    have HL := h_ hln
    have htb := bulks_mem (List.mem_of_getElem? ht)
    have hbl := HB.out
    have hbe := t.bulk_eq
    have hst := ndsL_drop ht
    have hsum := HJ.out
    have hsb := HS.out
    obtain ⟨d,hd⟩ : ∃ d,d = ndsL t.l := ⟨_,rfl⟩
    have HC : Hid (∀ W,Fr wr W → Calls prog 32 #[.slice la ll lc] W fun e w' => e = .returned (.int .i64 (d : Int)) ∧ Fr W w') := h_ (fun W hW => by
     rw [hd]; exact IH.out (bulks t.l) (by omega) (by omega) t.l (Nat.le_refl _) _ W (HL.out.fr hW))
    rw [← hd] at hst
    have y3 : IntKind.i64.wrap ((c : Int) + (d : Int)) = ((c + d : Nat) : Int) := IntWalk.i64_in _ (by omega)
    have HJ2 : Hid (ndsL l + n = c + d + (j + 1) + ndsL (l.drop (j + 1))) := h_ (by omega)
    obtain ⟨c2,hc2⟩ : ∃ x : Nat,x = c + d := ⟨_,rfl⟩
    rw [← hc2] at y3 HJ2
    have HA : Hid (∀ x : Obj,Fr wr (wr.alloc x)) := h_ (fun x => (Fr.refl wr).alloc x)
    clear hln ht htb hbl hbe hst hsum hsb hd hc2 hll
    go_wp2_with fail
    refine (HC.out _ (HA.out _)).mono ?_
    rintro e w1 ⟨rfl,hf1⟩
    have hfin := (hfr.trans (HA.out _)).trans hf1
    go_wp2_with fail
    go_roundw
    case rel => exact ⟨c2,j + 1,by omega,rfl,by go_num,HJ2,hfin⟩
    case measure => simp [intOf]; omega
   ·obtain rfl : j = n := by omega
    have HR : Hid (ndsL l = c) := h_ (by
     have h := HJ.out
     rw [List.drop_eq_nil_of_le (by rw [← HN.out]; exact Nat.le_refl _),ndsL] at h
     omega)
    go_wp2_with fail
    go_ret
    rw [HR.out]
    exact ⟨rfl,hfr⟩
theorem lvlN_eq (t : Nd) : lvlN t = 1 + lvlL t.l := by
 obtain ⟨o,n,s,l,a⟩ := t
 rw [lvlN]; rfl
mutual
theorem lvlN_hi : ∀ t : Nd,lvlN t ≤ t.bulk
 | ⟨o,n,s,l,a⟩ => by
  rw [lvlN,Nd.bulk]
  have := lvlL_hi l
  omega
theorem lvlL_hi : ∀ l : List Nd,lvlL l ≤ bulks l
 | [] => by rw [lvlL,bulks]; omega
 | t :: r => by
  rw [lvlL,bulks]
  have h1 := lvlN_hi t
  have h2 := lvlL_hi r
  omega
end
theorem lvlL_drop {l : List Nd} {j : Nat} {t : Nd} (ht : l[j]? = some t) : lvlL (l.drop j) = max (1 + lvlL t.l) (lvlL (l.drop (j + 1))) := by
 rw [drop1 ht,lvlL,lvlN_eq]
theorem Levels_any : ∀ (m : Nat),m ≤ 140737488351232 → ∀ (o n : Int) (s : ByteArray) (l : List Nd) (a : Int),bulks l ≤ m → ∀ (v : Value) (w : World),LN w v l →
 Calls prog 37 #[.agg #[.int .i64 o,.int .i64 n,.string s,v,.int .i64 a]] w fun e w' => e = .returned (.int .i64 ((1 + lvlL l : Nat) : Int)) ∧ Fr w w' := by
 intro m
 induction m using Nat.strongRecOn with
 | _ m ih =>
  intro hm47 o nn s l at_ hl v w hv
  have IH := h_ ih
  have HV := h_ hv
  have HB := h_ hl
  have HS := h_ (lvlL_hi l)
  obtain ⟨a,cap,rfl,hc,hm,_⟩ := hv.form
  have hn2 : l.length ≤ 140737488351232 := by have := bulks_len l; omega
  obtain ⟨n,hn⟩ : ∃ n,n = l.length := ⟨_,rfl⟩
  have HN := h_ hn
  rw [← hn] at hc HV hn2 ⊢
  obtain ⟨B,hB⟩ : ∃ b,b = w.heap.size := ⟨_,rfl⟩
  obtain ⟨w0,hw0⟩ : ∃ w0,w0 = w.alloc (.cells #[.int .i64 o,.int .i64 nn,.string s,.slice a n cap,.int .i64 at_] 32) := ⟨_,rfl⟩
  have hf0 : Fr w w0 := by rw [hw0]; exact (Fr.refl w).alloc _
  have HB3 : Hid (w0.cell? ⟨w.heap.size,3,none⟩ = some (.slice a n cap)) := h_ (by rw [hw0]; simp)
  have HF0 := h_ hf0
  have HW0 := h_ hw0
  clear hn hv ih hm hl hf0
  have p3 := HB3.out
  rw [hw0] at p3
  go_enter func37,ntmps37
  go_wp2_with fail
  rw [← hw0] at p3
  try rw [← hw0]
  go_loopw [3,9] (fun s i wr => ∃ c j : Nat,j ≤ n ∧ s = .int .i64 c ∧ i = .int .i64 j ∧ Hid (lvlL l = max c (lvlL (l.drop j))) ∧ Fr w0 wr) (fun _ i _ => n - (intOf i).toNat)
  case atStart => exact ⟨0,0,Nat.zero_le _,rfl,rfl,h_ (by simp),Fr.refl _⟩
  case round =>
   obtain ⟨c,j,hj,rfl,rfl,HJ,hfr⟩ := hrel
   have p3' := hfr.cell HB3.out
   have HLB : Hid (lvlL l ≤ 140737488351232) := h_ (by have h1 := HS.out; have h2 := HB.out; omega)
   by_cases hlt : j < n
   ·obtain ⟨t,ht⟩ : ∃ t,l[j]? = some t := ⟨_,List.getElem?_eq_getElem (by rw [← HN.out]; exact hlt)⟩
    obtain ⟨b,off,lv,rfl,hc5,hln,_⟩ := (HV.out.fr (HF0.out.trans hfr)).at_ ht
    obtain ⟨x0,x1,x2,x3,x4⟩ := hc5
    obtain ⟨la,lc,rfl,_,_,_⟩ := hln.form
    obtain ⟨ll,hll⟩ : ∃ x : Nat,x = t.l.length := ⟨_,rfl⟩
    rw [← hll] at x3 hln
    have HL := h_ hln
    have htb := bulks_mem (List.mem_of_getElem? ht)
    have hbl := HB.out
    have hbe := t.bulk_eq
    have hst := lvlL_drop ht
    have hsum := HJ.out
    have hsb := HLB.out
    obtain ⟨d,hd⟩ : ∃ d,d = 1 + lvlL t.l := ⟨_,rfl⟩
    have HC : Hid (∀ W,Fr wr W → Calls prog 37 #[.agg #[.int .i64 t.op,.int .i64 t.n,.string t.s,.slice la ll lc,.int .i64 t.a]] W fun e w' => e = .returned (.int .i64 (d : Int)) ∧ Fr W w') := h_ (fun W hW => by
     rw [hd]; exact IH.out (bulks t.l) (by omega) (by omega) t.op t.n t.s t.l t.a (Nat.le_refl _) _ W (HL.out.fr hW))
    rw [← hd] at hst
    obtain ⟨q0,hq0,q1,hq1,q2,hq2,q4,hq4⟩ := qs_ t
    rw [← hq0,← hq1,← hq2,← hq4] at HC
    rw [← hq0] at x0
    rw [← hq1] at x1
    rw [← hq2] at x2
    rw [← hq4] at x4
    have HA : Hid (∀ x : Obj,Fr wr (wr.alloc x)) := h_ (fun x => (Fr.refl wr).alloc x)
    have HJ2 : Hid (lvlL l = max (max c d) (lvlL (l.drop (j + 1)))) := h_ (by omega)
    clear hln ht htb hbl hbe hst hsum hsb hd hll hq0 hq1 hq2 hq4
    by_cases hcd : c < d
    ·have HX : Hid (max c d = d) := h_ (by omega)
     rw [HX.out] at HJ2
     have e1 : max (c : Int) (d : Int) = (d : Int) := by omega
     have e2 : decide ((c : Int) < (d : Int)) = true := decide_eq_true (by omega)
     go_wp2_with fail
     refine (HC.out _ (by first | exact HA.out _ | exact Fr.refl _)).mono ?_
     rintro e w1 ⟨rfl,hf1⟩
     have hfin := hfr.trans (Fr.trans (by first | exact HA.out _ | exact Fr.refl _) hf1)
     go_wp2_with fail
     go_roundw
     case rel => exact ⟨d,j + 1,by omega,by first | rfl | (congr 1; omega) | simp [e1],by go_num,HJ2,hfin⟩
     case measure => simp [intOf]; omega
    ·have HX : Hid (max c d = c) := h_ (by omega)
     rw [HX.out] at HJ2
     have e1 : max (c : Int) (d : Int) = (c : Int) := by omega
     have e2 : decide ((c : Int) < (d : Int)) = false := decide_eq_false (by omega)
     go_wp2_with fail
     refine (HC.out _ (by first | exact HA.out _ | exact Fr.refl _)).mono ?_
     rintro e w1 ⟨rfl,hf1⟩
     have hfin := hfr.trans (Fr.trans (by first | exact HA.out _ | exact Fr.refl _) hf1)
     go_wp2_with fail
     go_roundw
     case rel => exact ⟨c,j + 1,by omega,by first | rfl | (congr 1; omega) | simp [e1],by go_num,HJ2,hfin⟩
     case measure => simp [intOf]; omega
   ·obtain rfl : j = n := by omega
    have HR : Hid (lvlL l = c) := h_ (by
     have h := HJ.out
     rw [List.drop_eq_nil_of_le (by rw [← HN.out]; exact Nat.le_refl _),lvlL] at h
     omega)
    have hcb : c ≤ 140737488351232 := by have := HLB.out; rw [HR.out] at this; exact this
    have y1 : IntKind.i64.wrap ((c : Int) + 1) = ((1 + c : Nat) : Int) := by rw [show (c : Int) + 1 = ((1 + c : Nat) : Int) by omega]; exact IntWalk.i64_in _ (by omega)
    have y2 : IntKind.i64.wrap (1 + (c : Int)) = ((1 + c : Nat) : Int) := by rw [show 1 + (c : Int) = ((1 + c : Nat) : Int) by omega]; exact IntWalk.i64_in _ (by omega)
    obtain ⟨c1,hc1⟩ : ∃ x : Nat,x = 1 + c := ⟨_,rfl⟩
    rw [← hc1] at y1 y2
    have HC1 := h_ hc1
    clear hc1 hcb
    go_wp2_with fail
    go_ret
    rw [HR.out,← HC1.out]
    exact ⟨rfl,HF0.out.trans hfr⟩
theorem heavy_any (s : ByteArray) (l : List Nd) (v : Value) (w : World) (hs : s.size ≤ 140737488351232) (hv : LN w v l) :
 Calls prog 20 #[.agg #[.string s,v]] w fun e w' => e = .returned (.bool (hvL l 400 || decide (200 < s.size))) ∧ Fr w w' := by
 have HFR : Hid (∀ x : Obj,Fr w (w.alloc x)) := h_ (fun x => (Fr.refl w).alloc x)
 have HP := h_ (fun W (k : Fr w W) => Heavy_any l v 400 W (by omega) (hv.fr k))
 obtain ⟨d,hd⟩ : ∃ d,d = hvL l 400 := ⟨_,rfl⟩
 rw [← hd] at HP ⊢
 have HP' : Hid (∀ W,Fr w W → Calls prog 21 #[v,.int .i64 400] W fun e w' => e = .returned (.bool d) ∧ Fr W w') := HP
 clear hd hv HP
 cases d with
 | true =>
  rw [Bool.true_or]
  go_enter func20,ntmps20
  go_wp2_with fail
  refine (HP'.out _ (HFR.out _)).mono ?_
  rintro e w1 ⟨rfl,hf1⟩
  have hfin := Fr.trans (HFR.out _) hf1
  have hk : w1.cell? ⟨w.heap.size,0,none⟩ = some (.string s) := hf1.cell (by simp)
  go_wp2_with fail
  go_ret
  exact ⟨rfl,hfin⟩
 | false =>
  rw [Bool.false_or]
  have e1 : decide (200 < s.size) = decide ((200 : Int) < (s.size : Int)) := by simp; omega
  rw [e1]
  go_enter func20,ntmps20
  go_wp2_with fail
  refine (HP'.out _ (HFR.out _)).mono ?_
  rintro e w1 ⟨rfl,hf1⟩
  have hfin := Fr.trans (HFR.out _) hf1
  have hk : w1.cell? ⟨w.heap.size,0,none⟩ = some (.string s) := hf1.cell (by simp)
  go_wp2_with fail
  go_ret
  exact ⟨rfl,hfin⟩
inductive LNP (P : Nat → Prop) (w : World) : Value → List Nd → Prop where
 | mk (a : Option Addr) (cap : Nat) (l : List Nd) (lv : Nat → Value) (hc : l.length ≤ cap) (hm : cap ≤ maxLen) (hz : a = none → cap = 0)
  (hr : 0 < l.length → ∃ b off,a = some ⟨b,off,none⟩ ∧ P b ∧ ∀ (i : Nat) (t : Nd),l[i]? = some t → NdC w b (off + i * 5) t (lv i))
  (hw : ∀ t ∈ l,wfN t) (hs : ∀ (i : Nat) (t : Nd),l[i]? = some t → LNP P w (lv i) t.l) : LNP P w (.slice a l.length cap) l
theorem LNP.ln {P : Nat → Prop} {w : World} {v : Value} {l : List Nd} (h : LNP P w v l) : LN w v l := by
 induction h with
 | mk a cap l lv hc hm hz hr hw hs ih => exact .mk a cap l lv hc hm hz (fun hp => by obtain ⟨b,off,e,_,hg⟩ := hr hp; exact ⟨b,off,e,hg⟩) hw ih
theorem LNP.keep {P Q : Nat → Prop} {w w' : World} {v : Value} {l : List Nd} (h : LNP P w v l) (k : ∀ b off u,P b → w.cell? ⟨b,off,none⟩ = some u → Q b ∧ w'.cell? ⟨b,off,none⟩ = some u) : LNP Q w' v l := by
 induction h with
 | mk a cap l lv hc hm hz hr hw hs ih =>
  refine .mk a cap l lv hc hm hz (fun hp => ?_) hw ih
  obtain ⟨b,off,e,hb,hg⟩ := hr hp
  obtain ⟨t,ht⟩ : ∃ t,l[0]? = some t := ⟨_,List.getElem?_eq_getElem hp⟩
  refine ⟨b,off,e,(k b _ _ hb (hg 0 t ht).op).1,fun i u hu => ?_⟩
  obtain ⟨g0,g1,g2,g3,g4⟩ := hg i u hu
  exact ⟨(k b _ _ hb g0).2,(k b _ _ hb g1).2,(k b _ _ hb g2).2,(k b _ _ hb g3).2,(k b _ _ hb g4).2⟩
theorem cell_block {w w' : World} {b off : Nat} {u : Value} (hb : w'.heap[b]? = w.heap[b]?) (h : w.cell? ⟨b,off,none⟩ = some u) : w'.cell? ⟨b,off,none⟩ = some u := by
 simp only [World.cell?] at h ⊢
 rw [hb]
 exact h
section
variable {P : Program} {w : World}
theorem run_append_own_where (base : Nat) (t ty e : TypeId) (i : TypeInfo) (z : Value) (size bytes : Nat) (ht : P.underlying t = some (.slice e)) (hi : P.info? e = some i) (hz : i.zero = some z)
 (hsize : i.size = size) (hby : i.bytes = bytes) (hzs : z.cells.size = size) (hsz : 0 < size)
 (v : Value) (n : Nat) (xs : List Value) (hown : w.ownsRow base e size v n xs)
 (a : Addr) (m c : Nat) (news : List Value) (hl : news.length = m * size) (hnews : ∀ j u,news[j]? = some u → w.cell? (a.add j) = some u) (h1 : ∀ u ∈ news,u.oneCell' = true)
 (hm : 0 < m) (h63 : n + m ≤ maxLen) (hbytes : (n + m) * bytes ≤ 140737488355328) (hbase : base ≤ w.heap.size) :
 ∃ v' w',(Builtin.append_ #[t,t] ty #[v,.slice (some a) m c]).run P w = .ok v' w' ∧ w'.ownsRow base e size v' (n + m) (xs ++ news) ∧ w.grownBy w' v.ownBlock ∧
  (v'.ownBlock = v.ownBlock ∨ v'.ownBlock = some w.heap.size) := by
 obtain ⟨v',w',hr,h2,h3,_⟩ := run_append_own (P := P) (w := w) base t ty e i z size bytes ht hi hz hsize hby hzs hsz v n xs hown a m c news hl hnews h1 h63 hbytes hbase
 refine ⟨v',w',hr,h2,h3,?_⟩
 subst hsize
 subst hby
 have hsmall : n + m ≤ 9223372036854775807 := by simp only [maxLen] at h63; omega
 rcases hown.2 with ⟨rfl,rfl⟩ | ⟨g,cap,cur,rfl,hbg,hg,hnc,hcm,hcs,htake⟩
 ·have hq := run_append_nil (P := P) w t ty e i z ht hi hz a m c news hl hnews hm (by omega) (by have hb := hbytes; simp only [Nat.zero_add] at hb; omega)
  rw [hq] at hr
  obtain ⟨rfl,_⟩ : _ = v' ∧ _ := by simpa using hr
  exact .inr rfl
 ·by_cases hroom : n + m ≤ cap
  ·have hq := run_append_room (P := P) (w := w) t ty e i ht hi g n cap cur hg a m c news hl hnews h1 hroom (by rw [hl,hcs,← Nat.add_mul]; exact Nat.mul_le_mul_right _ hroom)
   rw [hq] at hr
   obtain ⟨rfl,_⟩ : _ = v' ∧ _ := by simpa using hr
   exact .inl rfl
  ·have hq := run_append_grow (P := P) w t ty e i z ht hi hz ⟨g,0,none⟩ n cap xs hown.1 (hown.cells (g := g) rfl) a m c news hl hnews (by omega) (by omega) (growslice_fits (by omega) hbytes)
   rw [hq] at hr
   obtain ⟨rfl,_⟩ : _ = v' ∧ _ := by simpa using hr
   exact .inr rfl
end
def ncells (t : Nd) (lv : Value) : List Value := [.int .i64 t.op,.int .i64 t.n,.string t.s,lv,.int .i64 t.a]
def nrow (l : List Nd) (lvs : Nat → Value) (j : Nat) : List Value := (List.range j).flatMap fun i => ncells (l.getD i default) (lvs i)
theorem nrow_len (l : List Nd) (lvs : Nat → Value) : ∀ j,(nrow l lvs j).length = j * 5
 | 0 => rfl
 | j + 1 => by
  have := nrow_len l lvs j
  unfold nrow at this ⊢
  rw [List.range_succ,List.flatMap_append,List.length_append,this]
  simp [ncells]
  omega
theorem nrow_succ (l : List Nd) (lvs : Nat → Value) (j : Nat) : nrow l lvs (j + 1) = nrow l lvs j ++ ncells (l.getD j default) (lvs j) := by
 unfold nrow
 rw [List.range_succ,List.flatMap_append]
 simp
theorem nrow_at (l : List Nd) (lvs : Nat → Value) : ∀ (j i r : Nat),i < j → r < 5 → (nrow l lvs j)[i * 5 + r]? = (ncells (l.getD i default) (lvs i))[r]?
 | 0,i,r,h,_ => by omega
 | j + 1,i,r,h,hr => by
  rw [nrow_succ]
  have hlen := nrow_len l lvs j
  by_cases hij : i < j
  ·rw [List.getElem?_append_left (by omega)]
   exact nrow_at l lvs j i r hij hr
  ·obtain rfl : i = j := by omega
   rw [List.getElem?_append_right (by omega),hlen,Nat.add_sub_cancel_left]
theorem Tryz.infoNode : (prog.info? 32).map (fun i => (i.zero,i.size,i.bytes)) = some (some (.agg #[.int .i64 0,.int .i64 0,.string ⟨#[]⟩,.slice none 0 0,.int .i64 0]),5,64) := by kernel_rfl
theorem info_of {P : Program} {e : TypeId} {z : Value} {s b : Nat} (h : (P.info? e).map (fun i => (i.zero,i.size,i.bytes)) = some (some z,s,b)) : ∃ i,P.info? e = some i ∧ i.zero = some z ∧ i.size = s ∧ i.bytes = b := by
 obtain ⟨i,hi,he⟩ := Option.map_eq_some_iff.1 h
 simp only [Prod.mk.injEq] at he
 exact ⟨i,hi,he.1,he.2.1,he.2.2⟩
def StopN (p : Prop) : Prop := p
theorem stop_append_n {P : Program} {ops : Array Oper} {rest : List Oper} {x y dst ty pos aft g} {a : Act} {w : World} {Q : Exit → Act → World → Prop}
 (h : StopN (wpList P ops Q (⟨dst,.call { callee := .builtin .append,args := x,argTypes := y },ty,pos,aft,g⟩ :: rest) a w)) : wpList P ops Q (⟨dst,.call { callee := .builtin .append,args := x,argTypes := y },ty,pos,aft,g⟩ :: rest) a w := h
section
variable {P : Program} {w : World}
theorem wp_append_where {o : Oper} {a : Act} {K : Act → World → Prop} {Q : Exit → Act → World → Prop} (s x : Operand) (t : TypeId)
 (ho : o.op = .call { callee := .builtin .append,args := #[s,x],argTypes := #[t,t] })
 (base : Nat) (e : TypeId) (i : TypeInfo) (z : Value) (size bytes : Nat) (ht : P.underlying t = some (.slice e)) (hi : P.info? e = some i) (hz : i.zero = some z)
 (hsize : i.size = size) (hby : i.bytes = bytes) (hzs : z.cells.size = size) (hsz : 0 < size)
 (v : Value) (n : Nat) (xs : List Value) (hs : a.eval s = v) (hown : w.ownsRow base e size v n xs)
 (ad : Addr) (m c : Nat) (news : List Value) (hx : a.eval x = .slice (some ad) m c) (hl : news.length = m * size) (hnews : ∀ j u,news[j]? = some u → w.cell? (ad.add j) = some u) (h1 : ∀ u ∈ news,u.oneCell' = true)
 (hm : 0 < m) (h63 : n + m ≤ maxLen) (hbytes : (n + m) * bytes ≤ 140737488355328) (hbase : base ≤ w.heap.size)
 (h : ∀ v' w',w'.ownsRow base e size v' (n + m) (xs ++ news) → w.grownBy w' v.ownBlock → (v'.ownBlock = v.ownBlock ∨ v'.ownBlock = some w.heap.size) → K (a.put o.dst v') w') : o.wp P a w K Q := by
 obtain ⟨v',w',hr,h2,h3,h4⟩ := run_append_own_where (P := P) base t o.type e i z size bytes ht hi hz hsize hby hzs hsz v n xs hown ad m c news hl hnews h1 hm h63 hbytes hbase
 unfold Oper.wp
 simp [execOp,ho,resolve,invoke,builtin,hs,hx,hr,Result.andThen]
 exact h v' w' h2 h3 h4
end
theorem own_form5 {w : World} {B : Nat} {T : TypeId} {z m : Nat} {v : Value} {xs : List Value} (h : w.ownsRow B T z v m xs) : ∃ a c,v = .slice a m c := by
 rcases h.2 with ⟨rfl,rfl⟩ | ⟨g,cap,cur,rfl,_⟩
 ·exact ⟨none,0,rfl⟩
 ·exact ⟨_,cap,rfl⟩
theorem nfr_grow {a b : World} (h : Fr a b) (r : Option Nat) : a.grownBy b r := ⟨h.os,h.tape,h.output,h.size,fun k hk _ => h.block k hk⟩
theorem LNP.row {w : World} {B : Nat} {v : Value} {l : List Nd} {lvs : Nat → Value} (h : w.ownsRow B 32 5 v l.length (nrow l lvs l.length))
 (hw : ∀ t ∈ l,wfN t) (hs : ∀ (i : Nat) (t : Nd),l[i]? = some t → LNP (fun b => B ≤ b) w (lvs i) t.l) : LNP (fun b => B ≤ b) w v l := by
 rcases h.2 with ⟨rfl,h0⟩ | ⟨g,cap,cur,rfl,hb,hg,hm,hmx,hsz,ht⟩
 ·obtain rfl : l = [] := List.eq_nil_of_length_eq_zero h0
  exact .mk none 0 [] (fun _ => .slice none 0 0) (Nat.le_refl _) (Nat.zero_le _) (fun _ => rfl) (fun h => absurd h (by decide)) (fun t h => by cases h) (fun i t h => by simp at h)
 ·refine .mk _ cap l lvs hm hmx (fun h => by cases h) (fun hp => ⟨g,0,rfl,hb,fun i t hi => ?_⟩) hw hs
  have hil := (List.getElem?_eq_some_iff.1 hi).1
  have key : ∀ r x,r < 5 → (ncells t (lvs i))[r]? = some x → w.cell? ⟨g,0 + i * 5 + r,none⟩ = some x := fun r x hr hx => by
   have h1 := nrow_at l lvs l.length i r hil hr
   rw [List.getD_eq_getElem?_getD,hi,Option.getD_some,hx] at h1
   rw [← ht,List.getElem?_take_of_lt (by omega)] at h1
   simp only [World.cell?,hg,Nat.zero_add]
   simpa using h1
  exact ⟨key 0 _ (by omega) rfl,key 1 _ (by omega) rfl,key 2 _ (by omega) rfl,key 3 _ (by omega) rfl,key 4 _ (by omega) rfl⟩
def Nb (w : World) (b : Nat) (x0 x1 x2 x3 x4 : Value) : Prop := w.heap[b]? = some (.cells #[x0,x1,x2,x3,x4] 32 (0,0))
theorem Nb.lt {w : World} {b : Nat} {x0 x1 x2 x3 x4 : Value} (h : Nb w b x0 x1 x2 x3 x4) : b < w.heap.size := (Array.getElem?_eq_some_iff.1 h).1
theorem Nb.fr {w w' : World} {b : Nat} {x0 x1 x2 x3 x4 : Value} (h : Nb w b x0 x1 x2 x3 x4) (k : Fr w w') : Nb w' b x0 x1 x2 x3 x4 := (k.block b h.lt).trans h
theorem Nb.cells {w : World} {b : Nat} {x0 x1 x2 x3 x4 : Value} (h : Nb w b x0 x1 x2 x3 x4) : w.cell? ⟨b,0,none⟩ = some x0 ∧ w.cell? ⟨b,1,none⟩ = some x1 ∧ w.cell? ⟨b,2,none⟩ = some x2 ∧ w.cell? ⟨b,3,none⟩ = some x3 ∧ w.cell? ⟨b,4,none⟩ = some x4 := by
 unfold Nb at h
 simp [World.cell?,h]
theorem Nb.free {w : World} {b : Nat} {x0 x1 x2 x3 x4 : Value} (h : Nb w b x0 x1 x2 x3 x4) (i : Nat) : w.frozen? ⟨b,i,none⟩ = false := by
 unfold Nb at h
 simp [World.frozen?,h]
abbrev nQ (w W : World) (x0 x1 x2 x3 : Value) (K : Prop) : Prop := W.cell? ⟨w.heap.size, 0, none⟩ = some x0 ∧ W.cell? ⟨w.heap.size, 1, none⟩ = some x1 ∧ W.cell? ⟨w.heap.size, 2, none⟩ = some x2 ∧ W.cell? ⟨w.heap.size, 3, none⟩ = some x3 ∧ K
abbrev cQ (W : World) (b o0 o1 o2 o3 o4 : Nat) (c : Nd) (a : Option Addr) (k : Nat) (K : Prop) : Prop := W.cell? ⟨b, o0, none⟩ = some (.int .i64 c.op) ∧ W.cell? ⟨b, o1, none⟩ = some (.int .i64 c.n) ∧ W.cell? ⟨b, o2, none⟩ = some (.string c.s) ∧ W.cell? ⟨b, o3, none⟩ = some (.slice a c.l.length k) ∧ W.cell? ⟨b, o4, none⟩ = some (.int .i64 c.a) ∧ K
abbrev dQ (W : World) (b o0 o1 o2 o3 o4 : Nat) (c : Nd) (a : Option Addr) (k : Nat) : Prop := W.cell? ⟨b, o0, none⟩ = some (.int .i64 c.op) ∧ W.cell? ⟨b, o1, none⟩ = some (.int .i64 c.n) ∧ W.cell? ⟨b, o2, none⟩ = some (.string c.s) ∧ W.cell? ⟨b, o3, none⟩ = some (.slice a c.l.length k) ∧ W.cell? ⟨b, o4, none⟩ = some (.int .i64 c.a)
theorem Nb.new (w : World) (x0 x1 x2 x3 x4 : Value) : Nb (w.alloc (.cells #[x0,x1,x2,x3,x4] 32)) w.heap.size x0 x1 x2 x3 x4 := by
 unfold Nb; simp only [World.alloc,Array.getElem?_push_size]
theorem al0 (w : World) : ∃ w0, w0 = w.alloc (.cells #[.int .i64 0, .int .i64 0, .string ⟨#[]⟩, .slice none 0 0, .int .i64 0] 32) ∧ Hid (Fr w w0) ∧ Hid (Nb w0 w.heap.size (.int .i64 0) (.int .i64 0) (.string ⟨#[]⟩) (.slice none 0 0) (.int .i64 0)) ∧ Hid (w.heap.size < w0.heap.size) := ⟨_, rfl, (Fr.refl w).alloc _, Nb.new w _ _ _ _ _, by show _ < _; simp⟩
theorem fa_ (n : Nd) (w : World) (la : Option Addr) (lc : Nat) : Fr w (w.alloc (.cells #[.int .i64 n.op, .int .i64 n.n, .string n.s, .slice la n.l.length lc, .int .i64 n.a] 32)) := (Fr.refl w).alloc _
theorem nn_ (n : Nd) (w : World) (la : Option Addr) (lc : Nat) : Nb (w.alloc (.cells #[.int .i64 n.op, .int .i64 n.n, .string n.s, .slice la n.l.length lc, .int .i64 n.a] 32)) w.heap.size (.int .i64 n.op) (.int .i64 n.n) (.string n.s) (.slice la n.l.length lc) (.int .i64 n.a) := Nb.new w _ _ _ _ _
theorem Nb.new1 (w : World) (o : Obj) (x0 x1 x2 x3 x4 : Value) : Nb ((w.alloc o).alloc (.cells #[x0,x1,x2,x3,x4] 32)) (w.heap.size + 1) x0 x1 x2 x3 x4 := by
 have h := Nb.new (w.alloc o) x0 x1 x2 x3 x4
 simpa using h
theorem own_fr5 {w0 wr w' : World} {v : Value} {T : TypeId} {z m : Nat} {xs : List Value} (h : Fr w0 wr) (ho : wr.ownsRow w0.heap.size T z v m xs) (hg : wr.grownBy w' v.ownBlock) : Fr w0 w' :=
 Below.grown h hg h.size (fun k hk => (ho.lt k hk).1)
theorem size_alloc' (w : World) (o : Obj) : (w.alloc o).heap.size = w.heap.size + 1 := by simp
theorem getD_some {l : List Nd} {j : Nat} {t : Nd} (h : l[j]? = some t) : l.getD j default = t := by
 rw [List.getD_eq_getElem?_getD,h]; rfl
theorem Nb.news {W : World} {B : Nat} {t : Nd} {lv : Value} (h : Nb W B (.int .i64 t.op) (.int .i64 t.n) (.string t.s) lv (.int .i64 t.a)) : ∀ j u,(ncells t lv)[j]? = some u → W.cell? ((⟨B,0,none⟩ : Addr).add j) = some u := by
 intro j u hu
 obtain ⟨y0,y1,y2,y3,y4⟩ := h.cells
 rw [ap_add,Nat.zero_add]
 match j,hu with
 | 0,hu => obtain rfl : _ = u := Option.some.inj hu; exact y0
 | 1,hu => obtain rfl : _ = u := Option.some.inj hu; exact y1
 | 2,hu => obtain rfl : _ = u := Option.some.inj hu; exact y2
 | 3,hu => obtain rfl : _ = u := Option.some.inj hu; exact y3
 | 4,hu => obtain rfl : _ = u := Option.some.inj hu; exact y4
theorem ncells_one (t : Nd) (a : Option Addr) (n c : Nat) : ∀ u ∈ ncells t (.slice a n c),u.oneCell' = true := by
 intro u hu
 simp only [ncells,List.mem_cons,List.not_mem_nil,or_false] at hu
 rcases hu with rfl | rfl | rfl | rfl | rfl <;> rfl
def SecB (w : World) (b : Nat) (x0 x1 : Value) : Prop := w.heap[b]? = some (.cells #[x0,x1] 24 (0,0))
theorem SecB.lt {w : World} {b : Nat} {x0 x1 : Value} (h : SecB w b x0 x1) : b < w.heap.size := (Array.getElem?_eq_some_iff.1 h).1
theorem SecB.fr {w w' : World} {b : Nat} {x0 x1 : Value} (h : SecB w b x0 x1) (k : Fr w w') : SecB w' b x0 x1 := (k.block b h.lt).trans h
theorem SecB.cells {w : World} {b : Nat} {x0 x1 : Value} (h : SecB w b x0 x1) : w.cell? ⟨b,0,none⟩ = some x0 ∧ w.cell? ⟨b,1,none⟩ = some x1 := by
 unfold SecB at h
 simp [World.cell?,h]
theorem SecB.new (w : World) (x0 x1 : Value) : SecB (w.alloc (.cells #[x0,x1] 24)) w.heap.size x0 x1 := by
 unfold SecB; simp only [World.alloc,Array.getElem?_push_size]
end Go.Proofs.YtbaelbafhdjlnaaGreatDoor
