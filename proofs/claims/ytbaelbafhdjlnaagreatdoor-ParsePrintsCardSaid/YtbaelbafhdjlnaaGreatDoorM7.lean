/- A part of the proof that the law ParsePrints holds for every input. -/
import Derived.Test.YtbaelbafhdjlnaaGreatDoorM2
import Derived.Test.YtbaelbafhdjlnaaGreatDoorM4
import Derived.Maps.AppendAt
import Derived.OwnWalk
import Derived.RegionTactic
import Derived.Deep.RegionHeld3
import Derived.Test.YtbaelbafhdjlnaaGreatDoorM5
import Derived.Defers
import Derived.Recover
namespace Go.Proofs.YtbaelbafhdjlnaaGreatDoor
open Go.RowKit _root_.Go.Proofs.Tryz
set_option linter.unusedVariables false
set_option linter.unusedSimpArgs false
set_option maxRecDepth 100000
set_option maxHeartbeats 16000000
theorem toks_cons (t : Tp) (L : List Tp) : toks (t :: L) = .int .i64 t.k :: .string t.t :: .int .i64 t.n :: .int .i64 t.a :: toks L := rfl
theorem toks_at : ∀ (L : List Tp) (k : Nat) (t : Tp),L[k]? = some t → (toks L)[k * 4]? = some (.int .i64 t.k) ∧ (toks L)[k * 4 + 1]? = some (.string t.t) ∧ (toks L)[k * 4 + 2]? = some (.int .i64 t.n) ∧ (toks L)[k * 4 + 3]? = some (.int .i64 t.a) := by
 intro L
 induction L with
 | nil => intro k t h; simp at h
 | cons x L ih =>
  intro k t h
  cases k with
  | zero =>
   obtain rfl : x = t := by simpa using h
   rw [toks_cons]
   exact ⟨rfl,rfl,rfl,rfl⟩
  | succ k =>
   have h' : L[k]? = some t := by simpa using h
   obtain ⟨h0,h1,h2,h3⟩ := ih k t h'
   rw [toks_cons,show (k + 1) * 4 = k * 4 + 4 by omega]
   exact ⟨h0,h1,h2,h3⟩
def Tc (w : World) (b off : Nat) (L : List Tp) : Prop := ∀ j x,(toks L)[j]? = some x → w.cell? ⟨b,off + j,none⟩ = some x
theorem Tc.fr {w w' : World} {b off : Nat} {L : List Tp} (h : Tc w b off L) (k : Fr w w') : Tc w' b off L := fun j x hx => k.cell (h j x hx)
theorem Tc.at_ {w : World} {b off : Nat} {L : List Tp} (h : Tc w b off L) {k : Nat} {t : Tp} (ht : L[k]? = some t) :
 w.cell? ⟨b,off + k * 4,none⟩ = some (.int .i64 t.k) ∧ w.cell? ⟨b,off + k * 4 + 1,none⟩ = some (.string t.t) ∧ w.cell? ⟨b,off + k * 4 + 2,none⟩ = some (.int .i64 t.n) ∧ w.cell? ⟨b,off + k * 4 + 3,none⟩ = some (.int .i64 t.a) := by
 obtain ⟨h0,h1,h2,h3⟩ := toks_at L k t ht
 exact ⟨h _ _ h0,h _ _ h1,h _ _ h2,h _ _ h3⟩
theorem TkV.tc {w : World} {v : Value} {L : List Tp} (h : TkV w v L) (hl : 0 < L.length) : ∃ b off cap,v = .slice (some ⟨b,off,none⟩) L.length cap ∧ L.length ≤ cap ∧ Tc w b off L := by
 obtain ⟨a,cap,rfl,hle,hr⟩ := h
 obtain ⟨b,off,rfl,hc⟩ := hr hl
 exact ⟨b,off,cap,rfl,hle,hc⟩
def Gw (g : Nat) (a b : World) : Prop := a.grownBy b (some g)
theorem Gw.refl (g : Nat) (a : World) : Gw g a a := World.grownBy.refl a _
theorem Gw.trans {g : Nat} {a b c : World} (h : Gw g a b) (k : Gw g b c) : Gw g a c := World.grownBy.trans h k
theorem Fr.gw {a b : World} (g : Nat) (h : Fr a b) : Gw g a b := ⟨h.os,h.tape,h.output,h.size,fun k hk _ => h.block k hk⟩
theorem Gw.fr {g : Nat} {a b c : World} (h : Gw g a b) (k : Fr b c) : Gw g a c := h.trans (k.gw g)
theorem Gw.alloc {g : Nat} {a b : World} (h : Gw g a b) (o : Obj) : Gw g a (b.alloc o) := h.fr ((Fr.refl b).alloc o)
theorem Gw.le {g : Nat} {a b : World} (h : Gw g a b) : a.heap.size ≤ b.heap.size := h.size
theorem Gw.own {g : Nat} {a b : World} (h : Gw g a b) {p : Addr} (hp : a.heap.size ≤ p.block) (v : Value) : Gw g a (b.setCell p v) :=
 ⟨h.os,h.tape,h.output,by rw [show (b.setCell p v).heap.size = b.heap.size from by simp [World.setCell]]; exact h.size,fun k hk hne => by
  rw [show (b.setCell p v).heap[k]? = b.heap[k]? from by
   simp only [World.setCell,Array.getElem?_modify]
   rw [if_neg (by omega)]]
  exact h.block k hk hne⟩
theorem Gw.set {g : Nat} {a b : World} (h : Gw g a b) {p : Addr} (hp : p.block = g) (v : Value) : Gw g a (b.setCell p v) :=
 ⟨h.os,h.tape,h.output,by rw [show (b.setCell p v).heap.size = b.heap.size from by simp [World.setCell]]; exact h.size,fun k hk hne => by
  rw [show (b.setCell p v).heap[k]? = b.heap[k]? from by
   simp only [World.setCell,Array.getElem?_modify]
   rw [if_neg (by intro e; apply hne; rw [← e,hp])]]
  exact h.block k hk hne⟩
theorem Gw.new {g : Nat} {a b : World} (h : Gw g a b) (hg : a.heap.size ≤ g) : Fr a b :=
 ⟨h.os,h.tape,h.output,h.size,fun k hk => h.block k hk (by intro e; injection e; omega)⟩
theorem Gw.cell {g : Nat} {a b : World} (h : Gw g a b) {k o : Nat} {v : Value} (hc : a.cell? ⟨k,o,none⟩ = some v) (hne : k ≠ g) : b.cell? ⟨k,o,none⟩ = some v :=
 World.grownBy.cell h hc (fun e => hne (by injection e))
def RS (w : World) (g : Nat) (tv : Value) (k m o : Nat) : Prop := w.heap[g]? = some (.cells #[tv,.int .i64 (k : Int),.int .i64 (m : Int),.int .i64 (o : Int)] 107 (0,0))
theorem RS.lt {w : World} {g : Nat} {tv : Value} {k m o : Nat} (h : RS w g tv k m o) : g < w.heap.size := (Array.getElem?_eq_some_iff.1 h).1
theorem RS.fr {w w' : World} {g : Nat} {tv : Value} {k m o : Nat} (h : RS w g tv k m o) (f : Fr w w') : RS w' g tv k m o := (f.block g h.lt).trans h
theorem RS.cells {w : World} {g : Nat} {tv : Value} {k m o : Nat} (h : RS w g tv k m o) : w.cell? ⟨g,0,none⟩ = some tv ∧ w.cell? ⟨g,1,none⟩ = some (.int .i64 (k : Int)) ∧ w.cell? ⟨g,2,none⟩ = some (.int .i64 (m : Int)) ∧ w.cell? ⟨g,3,none⟩ = some (.int .i64 (o : Int)) := by
 unfold RS at h
 simp [World.cell?,h]
theorem RS.free {w : World} {g : Nat} {tv : Value} {k m o : Nat} (h : RS w g tv k m o) (i : Nat) : w.frozen? ⟨g,i,none⟩ = false := by
 unfold RS at h
 simp [World.frozen?,h]
theorem RS.set1 {w : World} {g : Nat} {tv : Value} {k m o : Nat} (h : RS w g tv k m o) (k' : Nat) : RS (w.setCell ⟨g,1,none⟩ (.int .i64 (k' : Int))) g tv k' m o := by
 unfold RS at h ⊢
 simp [World.setCell,Array.getElem?_modify,h]
theorem RS.set2 {w : World} {g : Nat} {tv : Value} {k m o : Nat} (h : RS w g tv k m o) (m' : Nat) : RS (w.setCell ⟨g,2,none⟩ (.int .i64 (m' : Int))) g tv k m' o := by
 unfold RS at h ⊢
 simp [World.setCell,Array.getElem?_modify,h]
theorem RS.set3 {w : World} {g : Nat} {tv : Value} {k m o : Nat} (h : RS w g tv k m o) (o' : Nat) : RS (w.setCell ⟨g,3,none⟩ (.int .i64 (o' : Int))) g tv k m o' := by
 unfold RS at h ⊢
 simp [World.setCell,Array.getElem?_modify,h]
theorem RS.far {w : World} {g : Nat} {tv : Value} {k m o : Nat} (h : RS w g tv k m o) {p : Addr} (hp : p.block ≠ g) (v : Value) : RS (w.setCell p v) g tv k m o := by
 unfold RS at h ⊢
 simp only [World.setCell,Array.getElem?_modify]
 rw [if_neg hp]
 exact h
def TkN (g : Nat) (w : World) (tv : Value) (T : List Tp) : Prop := ∃ b off cap,tv = .slice (some ⟨b,off,none⟩) T.length cap ∧ b ≠ g ∧ T.length ≤ cap ∧ T.length ≤ 20001 ∧ Tc w b off T
theorem TkN.gw {g : Nat} {w w' : World} {tv : Value} {T : List Tp} (h : TkN g w tv T) (k : Gw g w w') : TkN g w' tv T := by
 obtain ⟨b,off,cap,e,hb,hc,hl,ht⟩ := h
 exact ⟨b,off,cap,e,hb,hc,hl,fun j x hx => k.cell (ht j x hx) hb⟩
structure PS (w : World) (g : Nat) (tv : Value) (T : List Tp) (k m o : Nat) : Prop where
 rs : RS w g tv k m o
 tk : TkN g w tv T
 hk : k ≤ 20001
 hm : m ≤ 20000
 ho : o ≤ 160
theorem PS.fr {w w' : World} {g : Nat} {tv : Value} {T : List Tp} {k m o : Nat} (h : PS w g tv T k m o) (f : Fr w w') : PS w' g tv T k m o := ⟨h.rs.fr f,h.tk.gw (f.gw g),h.hk,h.hm,h.ho⟩
def tkV (t : Tp) : Value := .agg #[.int .i64 t.k,.string t.t,.int .i64 t.n,.int .i64 t.a]
def fx (t : Tp) (s : ByteArray) : Bool := (decide (t.k = 4) || decide (t.k = 5)) && decide (t.t = s)
theorem Tb.gw {g : Nat} {w w' : World} {b : Nat} {x0 x1 x2 x3 : Value} (h : Tb w b x0 x1 x2 x3) (k : Gw g w w') (hb : b ≠ g) : Tb w' b x0 x1 x2 x3 := (k.block b h.lt (by intro e; injection e; omega)).trans h
theorem Nb.gw {g : Nat} {w w' : World} {b : Nat} {x0 x1 x2 x3 x4 : Value} (h : Nb w b x0 x1 x2 x3 x4) (k : Gw g w w') (hb : b ≠ g) : Nb w' b x0 x1 x2 x3 x4 := (k.block b h.lt (by intro e; injection e; omega)).trans h
theorem token_any (g : Nat) (tv : Value) (T : List Tp) (k m o : Nat) (t : Tp) (w : World) (hs : PS w g tv T k m o) (ht : T[k]? = some t) :
 Calls prog 97 #[.pointer (some ⟨g,0,none⟩)] w fun e w' => e = .returned (tkV t) ∧ Fr w w' := by
 obtain ⟨b,off,cap,rfl,hb,hcap,hl,htc⟩ := hs.tk
 have hkT := (List.getElem?_eq_some_iff.1 ht).1
 obtain ⟨x0,x1,x2,x3⟩ := htc.at_ ht
 obtain ⟨r0,r1,r2,r3⟩ := hs.rs.cells
 have hgl := hs.rs.lt
 obtain ⟨n,hn⟩ : ∃ n,n = T.length := ⟨_,rfl⟩
 rw [← hn] at r0 hkT
 unfold tkV
 obtain ⟨q0,hq0⟩ : ∃ x : Int,x = t.k := ⟨_,rfl⟩
 obtain ⟨q3,hq3⟩ : ∃ x : Int,x = t.a := ⟨_,rfl⟩
 obtain ⟨q1,hq1⟩ : ∃ x,x = t.t := ⟨_,rfl⟩
 obtain ⟨q2,hq2⟩ : ∃ x,x = t.n := ⟨_,rfl⟩
 rw [← hq0] at x0
 rw [← hq1] at x1
 rw [← hq2] at x2
 rw [← hq3] at x3
 rw [← hq0,← hq1,← hq2,← hq3]
 have hk0 : (0 : Int) ≤ (k : Int) := by omega
 have hk1 : (k : Int) < (n : Int) := by omega
 have hk2 : (k : Int).toNat = k := Int.toNat_natCast k
 obtain ⟨w0,hw0⟩ : ∃ w0,w0 = w.alloc (.cells #[.int .i64 0,.string ⟨#[]⟩,.int .i64 0,.int .i64 0] 98) := ⟨_,rfl⟩
 have hf0 : Fr w w0 := by rw [hw0]; exact (Fr.refl w).alloc _
 have hb0 : Tb w0 w.heap.size (.int .i64 0) (.string ⟨#[]⟩) (.int .i64 0) (.int .i64 0) := by rw [hw0]; exact Tb.new w _ _ _ _
 have y0 := hf0.cell x0
 have y1 := hf0.cell x1
 have y2 := hf0.cell x2
 have y3 := hf0.cell x3
 have s0 := hf0.cell r0
 have s1 := hf0.cell r1
 obtain ⟨c0,c1,c2,c3⟩ := hb0.cells
 have f0 := hb0.free 0
 have f1 := hb0.free 1
 have f2 := hb0.free 2
 have f3 := hb0.free 3
 have HF0 := h_ hf0
 have HW0 := h_ hw0
 clear hs ht htc hn hq0 hq1 hq2 hq3 x0 x1 x2 x3 r0 r1 r2 r3 hf0 hw0 hb0 hcap hl hb
 go_enter func97,ntmps97
 go_wp2_with fail
 try rw [← HW0.out]
 go_region
 go_wp2_with fail
 refine bodyPost_ret (v := .agg #[.int .i64 q0,.string q1,.int .i64 q2,.int .i64 q3]) (by simp [results,results97,go_sem,c0,c1,c2,c3]) rfl ?_
 have e0 : w.heap.size ≤ w.heap.size := Nat.le_refl _
 exact ⟨rfl,((((HF0.out.setCell e0 _).setCell e0 _).setCell e0 _).setCell e0 _).drew⟩
-- behind token
theorem isFixed_any (t : Tp) (s : ByteArray) (w : World) : Calls prog 198 #[tkV t,.string s] w fun e w' => e = .returned (.bool (fx t s)) ∧ Fr w w' := by
 unfold tkV fx
 obtain ⟨q0,hq0⟩ : ∃ x : Int,x = t.k := ⟨_,rfl⟩
 obtain ⟨q3,hq3⟩ : ∃ x : Int,x = t.a := ⟨_,rfl⟩
 obtain ⟨q1,hq1⟩ : ∃ x,x = t.t := ⟨_,rfl⟩
 obtain ⟨q2,hq2⟩ : ∃ x,x = t.n := ⟨_,rfl⟩
 rw [← hq0,← hq1,← hq2,← hq3]
 have e4 : decide (t.k = 4) = decide (q0 = 4) := by rw [hq0]; exact decide_eq_decide.2 (by omega)
 have e5 : decide (t.k = 5) = decide (q0 = 5) := by rw [hq0]; exact decide_eq_decide.2 (by omega)
 rw [e4,e5]
 clear hq0 hq1 hq2 hq3 e4 e5
 have A0 : Hid (∀ x : Obj,Fr w (w.alloc x)) := h_ (fun x => (Fr.refl w).alloc x)
 by_cases h1 : q1 = s
 ·subst h1
  have z1 : (q1.toList == q1.toList) = true := by simp
  by_cases h4 : q0 = 4
  ·subst h4
   rw [show ((decide ((4 : Int) = 4) || decide ((4 : Int) = 5)) && decide (q1 = q1)) = true by simp]
   go_enter func198,ntmps198
   go_wp2_with fail
   go_ret
   exact ⟨rfl,A0.out _⟩
  ·have z4 : (q0 == 4) = false := by rw [beq_eq_false_iff_ne]; exact h4
   by_cases h5 : q0 = 5
   ·subst h5
    rw [show ((decide ((5 : Int) = 4) || decide ((5 : Int) = 5)) && decide (q1 = q1)) = true by simp]
    clear h4
    go_enter func198,ntmps198
    go_wp2_with fail
    go_ret
    exact ⟨rfl,A0.out _⟩
   ·have z5 : (q0 == 5) = false := by rw [beq_eq_false_iff_ne]; exact h5
    rw [show ((decide (q0 = 4) || decide (q0 = 5)) && decide (q1 = q1)) = false by simp [h4,h5]]
    clear h4 h5
    go_enter func198,ntmps198
    go_wp2_with fail
    go_ret
    exact ⟨rfl,A0.out _⟩
 ·have z1 := s_no h1
  rw [show ((decide (q0 = 4) || decide (q0 = 5)) && decide (q1 = s)) = false by simp [h1]]
  clear h1
  by_cases h4 : q0 = 4
  ·subst h4
   go_enter func198,ntmps198
   go_wp2_with fail
   go_ret
   exact ⟨rfl,A0.out _⟩
  ·have z4 : (q0 == 4) = false := by rw [beq_eq_false_iff_ne]; exact h4
   by_cases h5 : q0 = 5
   ·subst h5
    clear h4
    go_enter func198,ntmps198
    go_wp2_with fail
    go_ret
    exact ⟨rfl,A0.out _⟩
   ·have z5 : (q0 == 5) = false := by rw [beq_eq_false_iff_ne]; exact h5
    clear h4 h5
    go_enter func198,ntmps198
    go_wp2_with fail
    go_ret
    exact ⟨rfl,A0.out _⟩
theorem is_any (g : Nat) (tv : Value) (T : List Tp) (k m o : Nat) (t : Tp) (w : World) (hs : PS w g tv T k m o) (ht : T[k]? = some t) (s : ByteArray) : Calls prog 111 #[.pointer (some ⟨g,0,none⟩),.string s] w fun e w' => e = .returned (.bool (fx t s)) ∧ Fr w w' := by
 have C1 := h_ (fun W (h : Fr w W) => token_any g tv T k m o t W (hs.fr h) ht)
 have C2 := h_ (fun W => isFixed_any t s W)
 obtain ⟨D,hD⟩ : ∃ d,d = fx t s := ⟨_,rfl⟩
 obtain ⟨V,hV⟩ : ∃ v,v = tkV t := ⟨_,rfl⟩
 rw [← hD] at C2 ⊢
 rw [← hV] at C1 C2
 clear hD hV hs ht
 go_enter func111,ntmps111
 go_wp2_with fail
 refine (C1.out _ (Fr.refl _)).mono ?_
 rintro e w1 ⟨rfl,hf1⟩
 have HG1 := h_ hf1
 clear hf1
 go_wp2_with fail
 refine (C2.out _).mono ?_
 rintro e w2 ⟨rfl,hf2⟩
 have hfin := HG1.out.trans hf2
 go_wp2_with fail
 go_ret
 exact ⟨rfl,hfin⟩
theorem PS.next {w : World} {g : Nat} {tv : Value} {T : List Tp} {k m o : Nat} (h : PS w g tv T k m o) (hk : k + 1 ≤ 20001) : PS (w.setCell ⟨g,1,none⟩ (.int .i64 ((k + 1 : Nat) : Int))) g tv T (k + 1) m o :=
 ⟨h.rs.set1 _,h.tk.gw ((Gw.refl g w).set rfl _),hk,h.hm,h.ho⟩
theorem PS.open_ {w : World} {g : Nat} {tv : Value} {T : List Tp} {k m o : Nat} (h : PS w g tv T k m o) (o' : Nat) (ho : o' ≤ 160) : PS (w.setCell ⟨g,3,none⟩ (.int .i64 (o' : Int))) g tv T k m o' :=
 ⟨h.rs.set3 _,h.tk.gw ((Gw.refl g w).set rfl _),h.hk,h.hm,ho⟩
theorem PS.klt {w : World} {g : Nat} {tv : Value} {T : List Tp} {k m o : Nat} (h : PS w g tv T k m o) {t : Tp} (ht : T[k]? = some t) : k + 1 ≤ 20001 := by
 obtain ⟨_,_,_,_,_,_,hl,_⟩ := h.tk
 have := (List.getElem?_eq_some_iff.1 ht).1
 omega
theorem wrap_succ (k : Nat) (h : k ≤ 1000000) : IntKind.i64.wrap ((k : Int) + 1) = ((k + 1 : Nat) : Int) := by
 rw [show (k : Int) + 1 = ((k + 1 : Nat) : Int) by omega]; exact IntWalk.i64_in _ (by omega)
theorem take_no (g : Nat) (tv : Value) (T : List Tp) (k m o : Nat) (t : Tp) (w : World) (hs : PS w g tv T k m o) (ht : T[k]? = some t) (s : ByteArray) (hf : fx t s = false) : Calls prog 99 #[.pointer (some ⟨g,0,none⟩),.string s] w fun e w' => e = .returned (.bool false) ∧ Fr w w' := by
 have C1 := h_ (fun W (h : Fr w W) => is_any g tv T k m o t W (hs.fr h) ht s)
 rw [hf] at C1
 clear hs ht hf
 go_enter func99,ntmps99
 go_wp2_with fail
 refine (C1.out _ (Fr.refl _)).mono ?_
 rintro e w1 ⟨rfl,hf1⟩
 go_wp2_with fail
 go_ret
 exact ⟨rfl,hf1⟩
theorem take_yes (g : Nat) (tv : Value) (T : List Tp) (k m o : Nat) (t : Tp) (w : World) (hs : PS w g tv T k m o) (ht : T[k]? = some t) (s : ByteArray) (hf : fx t s = true) : Calls prog 99 #[.pointer (some ⟨g,0,none⟩),.string s] w fun e w' => e = .returned (.bool true) ∧ PS w' g tv T (k + 1) m o ∧ Gw g w w' := by
 have C1 := h_ (fun W (h : Fr w W) => is_any g tv T k m o t W (hs.fr h) ht s)
 rw [hf] at C1
 have HS := h_ hs
 have HKL := h_ (hs.klt ht)
 have i1 := wrap_succ k (by have := hs.hk; omega)
 obtain ⟨k1,hk1⟩ : ∃ x,x = k + 1 := ⟨_,rfl⟩
 rw [← hk1] at i1 ⊢
 have HK1 := h_ hk1
 clear hs ht hf hk1
 go_enter func99,ntmps99
 go_wp2_with fail
 refine (C1.out _ (Fr.refl _)).mono ?_
 rintro e w1 ⟨rfl,hf1⟩
 have HG1 := h_ hf1
 clear hf1
 obtain ⟨r0,r1,r2,r3⟩ := (HS.out.fr HG1.out).rs.cells
 have f1 := (HS.out.fr HG1.out).rs.free 1
 go_wp2_with fail
 go_ret
 have hn := (HS.out.fr HG1.out).next HKL.out
 rw [← HK1.out] at hn
 exact ⟨rfl,hn,((HG1.out.gw g).set rfl _)⟩
theorem want_yes (g : Nat) (tv : Value) (T : List Tp) (k m o : Nat) (t : Tp) (w : World) (hs : PS w g tv T k m o) (ht : T[k]? = some t) (s : ByteArray) (hf : fx t s = true) : Calls prog 113 #[.pointer (some ⟨g,0,none⟩),.string s] w fun e w' => e = .returned (.tuple #[]) ∧ PS w' g tv T (k + 1) m o ∧ Gw g w w' := by
 have C1 := h_ (take_yes g tv T k m o t w hs ht s hf)
 clear hs ht hf
 go_enter func113,ntmps113
 go_wp2_with fail
 refine C1.out.mono ?_
 rintro e w1 ⟨rfl,hp,hg⟩
 have HP := h_ hp
 have HG := h_ hg
 clear hp hg
 go_wp2_with fail
 go_end0
 exact ⟨rfl,HP.out,HG.out⟩
theorem leave_yes (g : Nat) (tv : Value) (T : List Tp) (k m o : Nat) (w : World) (hs : PS w g tv T k m (o + 1)) : Calls prog 114 #[.pointer (some ⟨g,0,none⟩)] w fun e w' => e = .returned (.tuple #[]) ∧ PS w' g tv T k m o ∧ Gw g w w' := by
 have HS := h_ hs
 have ho := hs.ho
 have i1 : IntKind.i64.wrap (((o + 1 : Nat) : Int) - 1) = (o : Int) := by rw [show ((o + 1 : Nat) : Int) - 1 = (o : Int) by omega]; exact IntWalk.i64_in _ (by omega)
 obtain ⟨r0,r1,r2,r3⟩ := hs.rs.cells
 have f3 := hs.rs.free 3
 have HO := h_ ho
 obtain ⟨o1,ho1⟩ : ∃ x,x = o + 1 := ⟨_,rfl⟩
 rw [← ho1] at i1 r3
 clear hs ho ho1
 go_enter func114,ntmps114
 go_wp2_with fail
 go_end0
 exact ⟨rfl,HS.out.open_ o (by have := HO.out; omega),(Gw.refl g w).set rfl _⟩
theorem RS.al {w : World} {g : Nat} {tv : Value} {k m o : Nat} (h : RS w g tv k m o) (x : Obj) : RS (w.alloc x) g tv k m o := h.fr ((Fr.refl w).alloc x)
theorem Tb.al {w : World} {b : Nat} {x0 x1 x2 x3 : Value} (h : Tb w b x0 x1 x2 x3) (x : Obj) : Tb (w.alloc x) b x0 x1 x2 x3 := h.fr ((Fr.refl w).alloc x)
theorem Gw.set' {g : Nat} {a b : World} (h : Gw g a b) (i : Nat) (v : Value) : Gw g a (b.setCell ⟨g,i,none⟩ v) := h.set rfl v
theorem Gw.own' {g : Nat} {a b : World} (h : Gw g a b) {B : Nat} (hp : a.heap.size ≤ B) (i : Nat) (v : Value) : Gw g a (b.setCell ⟨B,i,none⟩ v) := h.own hp v
theorem RS.far' {w : World} {g : Nat} {tv : Value} {k m o : Nat} (h : RS w g tv k m o) {B : Nat} (hp : ¬ B = g) (i : Nat) (v : Value) : RS (w.setCell ⟨B,i,none⟩ v) g tv k m o := h.far hp v
theorem PS.step {w w' : World} {g : Nat} {tv : Value} {T : List Tp} {k m o k' m' o' : Nat} (h : PS w g tv T k m o) (hg : Gw g w w') (hr : RS w' g tv k' m' o') (hk : k' ≤ 20001) (hm : m' ≤ 20000) (ho : o' ≤ 160) : PS w' g tv T k' m' o' :=
 ⟨hr,h.tk.gw hg,hk,hm,ho⟩
theorem PS.both {w w' : World} {g : Nat} {tv : Value} {T : List Tp} {k m o k' m' o' : Nat} (h : PS w g tv T k m o) (hg : Gw g w w') (hr : RS w' g tv k' m' o') (hk : k' ≤ 20001) (hm : m' ≤ 20000) (ho : o' ≤ 160) : PS w' g tv T k' m' o' ∧ Gw g w w' :=
 ⟨h.step hg hr hk hm ho,hg⟩
theorem kind_yes (g : Nat) (tv : Value) (T : List Tp) (k m o : Nat) (t : Tp) (w : World) (hs : PS w g tv T k m o) (ht : T[k]? = some t) (c : Nat) (hc : t.k = c) : Calls prog 100 #[.pointer (some ⟨g,0,none⟩),.int .i64 c] w fun e w' => e = .returned (tkV t) ∧ PS w' g tv T (k + 1) m o ∧ Gw g w w' := by
 have C1 := h_ (fun W (h : Fr w W) => token_any g tv T k m o t W (hs.fr h) ht)
 have HS := h_ hs
 have HKL := h_ (hs.klt ht)
 have i1 := wrap_succ k (by have := hs.hk; omega)
 obtain ⟨k1,hk1⟩ : ∃ x,x = k + 1 := ⟨_,rfl⟩
 rw [← hk1] at i1 ⊢
 have HK1 := h_ hk1
 have hgl := hs.rs.lt
 unfold tkV at C1 ⊢
 obtain ⟨q0,hq0⟩ : ∃ x : Int,x = t.k := ⟨_,rfl⟩
 obtain ⟨q3,hq3⟩ : ∃ x : Int,x = t.a := ⟨_,rfl⟩
 obtain ⟨q1,hq1⟩ : ∃ x,x = t.t := ⟨_,rfl⟩
 obtain ⟨q2,hq2⟩ : ∃ x,x = t.n := ⟨_,rfl⟩
 rw [← hq0,← hq1,← hq2,← hq3] at C1
 rw [← hq0,← hq1,← hq2,← hq3]
 have hc' : (c : Int) = q0 := by rw [hq0]; omega
 rw [hc']
 have z1 : (q0 != q0) = false := by simp
 obtain ⟨B,hB⟩ : ∃ B,B = w.heap.size := ⟨_,rfl⟩
 obtain ⟨w0,hw0⟩ : ∃ w0,w0 = w.alloc (.cells #[.int .i64 0,.string ⟨#[]⟩,.int .i64 0,.int .i64 0] 98) := ⟨_,rfl⟩
 have HF0 : Hid (Fr w w0) := h_ (by rw [hw0]; exact (Fr.refl w).alloc _)
 have HB0 : Hid (Tb w0 B (.int .i64 0) (.string ⟨#[]⟩) (.int .i64 0) (.int .i64 0)) := h_ (by rw [hw0,hB]; exact Tb.new w _ _ _ _)
 have hgB : ¬ g = B := by omega
 have hBg : ¬ B = g := by omega
 have HBle : Hid (w.heap.size ≤ B) := h_ (by omega)
 have HSZ0 : Hid (w0.heap.size = B + 1) := h_ (by rw [hw0,hB]; simp)
 have HW0 := h_ hw0
 have HBB := h_ hB
 clear hs ht hc hc' hk1 hq0 hq1 hq2 hq3 hgl hw0 hB
 go_enter func100,ntmps100
 go_wp2_with fail
 try rw [← HBB.out]
 try rw [← HW0.out]
 refine (C1.out _ HF0.out).mono ?_
 rintro e w1 ⟨rfl,hf1⟩
 have HG1 : Hid (Fr w w1) := h_ (HF0.out.trans hf1)
 have HSZ : Hid (B < w1.heap.size) := h_ (by have h1 := hf1.size; have h2 := HSZ0.out; omega)
 have HB1 := h_ (HB0.out.fr hf1)
 clear hf1
 have HX := h_ ((HS.out.fr HG1.out).rs.al (.cells #[.int .i64 q0,.string q1,.int .i64 q2,.int .i64 q3] 98))
 have HBX := h_ (HB1.out.al (.cells #[.int .i64 q0,.string q1,.int .i64 q2,.int .i64 q3] 98))
 obtain ⟨r0,r1,r2,r3⟩ := HX.out.cells
 have f1 := HX.out.free 1
 obtain ⟨c0,c1,c2,c3⟩ := HBX.out.cells
 have b0 := HBX.out.free 0
 have b1 := HBX.out.free 1
 have b2 := HBX.out.free 2
 have b3 := HBX.out.free 3
 have hgw : g < w1.heap.size := (HS.out.fr HG1.out).rs.lt
 have hbw := HSZ.out
 have n1 : ¬ w1.heap.size = g := by omega
 have n2 : ¬ w1.heap.size = B := by omega
 have n3 : ¬ g = w1.heap.size := by omega
 have n4 : ¬ B = w1.heap.size := by omega
 clear hgw hbw
 go_wp2_with fail
 refine bodyPost_ret (v := .agg #[.int .i64 q0,.string q1,.int .i64 q2,.int .i64 q3]) (by simp [results,results100,go_sem,c0,c1,c2,c3,n1,n2,n3,n4,hgB,hBg]) rfl ?_
 have hle := HBle.out
 have HGW : Gw g w w1 := HG1.out.gw g
 exact ⟨rfl,HS.out.both (by repeat' first | with_reducible exact HGW | with_reducible refine Gw.set' ?_ _ _ | with_reducible refine Gw.own' ?_ (by assumption) _ _ | with_reducible refine Gw.alloc ?_ _) (by repeat' first | with_reducible exact (HS.out.fr HG1.out).rs | with_reducible refine RS.set1 (k := k) ?_ _ | with_reducible refine RS.set2 (m := m) ?_ _ | with_reducible refine RS.set3 (o := o) ?_ _ | with_reducible refine RS.far' ?_ (by assumption) _ _ | with_reducible refine RS.al ?_ _) (by have := HKL.out; have := HK1.out; omega) HS.out.hm HS.out.ho⟩
theorem tok_field (a b c d : Value) (w : World) : (Instr.field 98 (.agg #[a,b,c,d]) 3).run prog w = .ok d w := by kernel_rfl
theorem Nb.far {w : World} {b : Nat} {x0 x1 x2 x3 x4 : Value} (h : Nb w b x0 x1 x2 x3 x4) {p : Nat} (hp : ¬ p = b) (i : Nat) (v : Value) : Nb (w.setCell ⟨p,i,none⟩ v) b x0 x1 x2 x3 x4 := by
 unfold Nb at h ⊢
 simp only [World.setCell,Array.getElem?_modify]
 rw [if_neg hp]
 exact h
theorem Nb.al5 {w : World} {b : Nat} {x0 x1 x2 x3 x4 : Value} (h : Nb w b x0 x1 x2 x3 x4) (x : Obj) : Nb (w.alloc x) b x0 x1 x2 x3 x4 := h.fr ((Fr.refl w).alloc x)
theorem made_yes (g : Nat) (tv : Value) (T : List Tp) (k m o : Nat) (w : World) (hs : PS w g tv T k m o) (t : Nd) (la : Option Addr) (ll lc : Nat) (hm : m + 1 ≤ 20000) :
 Calls prog 115 #[.pointer (some ⟨g,0,none⟩),ndV t (.slice la ll lc)] w fun e w' => e = .returned (ndV t (.slice la ll lc)) ∧ PS w' g tv T k (m + 1) o ∧ Gw g w w' := by
 have HS := h_ hs
 have HM := h_ hm
 have i1 := wrap_succ m (by omega)
 have hgl := hs.rs.lt
 obtain ⟨m1,hm1⟩ : ∃ x,x = m + 1 := ⟨_,rfl⟩
 rw [← hm1] at i1 ⊢
 have i2 : decide ((20000 : Int) < (m1 : Int)) = false := decide_eq_false (by omega)
 have i3 : decide ((m1 : Int) > 20000) = false := decide_eq_false (by omega)
 have HM1 := h_ hm1
 unfold ndV
 obtain ⟨q0,hq0,q1,hq1,q2,hq2,q4,hq4⟩ := qs_ t
 rw [← hq0,← hq1,← hq2,← hq4]
 clear hq0 hq1 hq2 hq4
 have HX := h_ ((hs.rs.al (.cells #[.int .i64 q0,.int .i64 q1,.string q2,.slice la ll lc,.int .i64 q4] 32)).al (.cells #[.int .i64 0,.int .i64 0,.string ⟨#[]⟩,.slice none 0 0,.int .i64 0] 32))
 have HB0 := h_ ((Nb.new w (.int .i64 q0) (.int .i64 q1) (.string q2) (.slice la ll lc) (.int .i64 q4)).al5 (.cells #[.int .i64 0,.int .i64 0,.string ⟨#[]⟩,.slice none 0 0,.int .i64 0] 32))
 have HB1 := h_ (Nb.new1 w (.cells #[.int .i64 q0,.int .i64 q1,.string q2,.slice la ll lc,.int .i64 q4] 32) (.int .i64 0) (.int .i64 0) (.string ⟨#[]⟩) (.slice none 0 0) (.int .i64 0))
 obtain ⟨r0,r1,r2,r3⟩ := HX.out.cells
 have f2 := HX.out.free 2
 obtain ⟨p0,p1,p2,p3,p4⟩ := HB0.out.cells
 obtain ⟨c0,c1,c2,c3,c4⟩ := HB1.out.cells
 have b0 := HB1.out.free 0
 have b1 := HB1.out.free 1
 have b2 := HB1.out.free 2
 have b3 := HB1.out.free 3
 have b4 := HB1.out.free 4
 have n1 : ¬ w.heap.size = g := by omega
 have n2 : ¬ g = w.heap.size := by omega
 have n3 : ¬ w.heap.size + 1 = g := by omega
 have n4 : ¬ g = w.heap.size + 1 := by omega
 have e1 : w.heap.size ≤ w.heap.size + 1 := by omega
 clear hs hm hm1 hgl
 go_enter func115,ntmps115
 go_wp2_with fail
 refine bodyPost_ret (v := .agg #[.int .i64 q0,.int .i64 q1,.string q2,.slice la ll lc,.int .i64 q4]) (by simp [results,results115,go_sem,c0,c1,c2,c3,c4,n1,n2,n3,n4]) rfl ?_
 have HGW := Gw.refl g w
 have HR0 := HX.out
 exact ⟨rfl,HS.out.both (by repeat' first | with_reducible exact HGW | with_reducible refine Gw.set' ?_ _ _ | with_reducible refine Gw.own' ?_ (by assumption) _ _ | with_reducible refine Gw.alloc ?_ _) (by repeat' first | with_reducible exact HR0 | with_reducible refine RS.set1 (k := k) ?_ _ | with_reducible refine RS.set2 (m := m) ?_ _ | with_reducible refine RS.set3 (o := o) ?_ _ | with_reducible refine RS.far' ?_ (by assumption) _ _ | with_reducible refine RS.al ?_ _) HS.out.hk (by have := HM.out; have := HM1.out; omega) HS.out.ho⟩
theorem leaf_yes (g : Nat) (tv : Value) (T : List Tp) (k m o : Nat) (t : Tp) (w : World) (hs : PS w g tv T k m o) (ht : T[k]? = some t) (q0 q1 : Int) (q2 : ByteArray) (hm : m + 1 ≤ 20000) :
 Calls prog 204 #[.pointer (some ⟨g,0,none⟩),.agg #[.int .i64 q0,.int .i64 q1,.string q2,.slice none 0 0,.int .i64 0]] w fun e w' => e = .returned (.agg #[.int .i64 q0,.int .i64 q1,.string q2,.slice none 0 0,.int .i64 t.a]) ∧ PS w' g tv T (k + 1) (m + 1) o ∧ Gw g w w' := by
 have C1 := h_ (fun W (h : Fr w W) => token_any g tv T k m o t W (hs.fr h) ht)
 have C2 := h_ (fun W (h : PS W g tv T (k + 1) m o) => made_yes g tv T (k + 1) m o W h ⟨q0,q1,q2,[],t.a⟩ none 0 0 hm)
 have HS := h_ hs
 have HKL := h_ (hs.klt ht)
 have i1 := wrap_succ k (by have := hs.hk; omega)
 obtain ⟨k1,hk1⟩ : ∃ x,x = k + 1 := ⟨_,rfl⟩
 rw [← hk1] at i1 C2 ⊢
 have HK1 := h_ hk1
 have hgl := hs.rs.lt
 unfold tkV at C1
 unfold ndV at C2
 obtain ⟨x0,hx0⟩ : ∃ x : Int,x = t.k := ⟨_,rfl⟩
 obtain ⟨x3,hx3⟩ : ∃ x : Int,x = t.a := ⟨_,rfl⟩
 obtain ⟨x1,hx1⟩ : ∃ x,x = t.t := ⟨_,rfl⟩
 obtain ⟨x2,hx2⟩ : ∃ x,x = t.n := ⟨_,rfl⟩
 rw [← hx0,← hx1,← hx2,← hx3] at C1
 have hfield := tok_field (.int .i64 x0) (.string x1) (.int .i64 x2) (.int .i64 x3)
 have C2' : Hid (∀ W,PS W g tv T k1 m o → Calls prog 115 #[.pointer (some ⟨g,0,none⟩),.agg #[.int .i64 q0,.int .i64 q1,.string q2,.slice none 0 0,.int .i64 x3]] W fun e w' => e = .returned (.agg #[.int .i64 q0,.int .i64 q1,.string q2,.slice none 0 0,.int .i64 x3]) ∧ PS w' g tv T k1 (m + 1) o ∧ Gw g W w') := by
  rw [hx3]; exact C2
 rw [← hx3]
 clear C2
 obtain ⟨w0,hw0⟩ : ∃ w0,w0 = (w.alloc (.cells #[.int .i64 q0,.int .i64 q1,.string q2,.slice none 0 0,.int .i64 0] 32)).alloc (.cells #[.int .i64 0,.int .i64 0,.string ⟨#[]⟩,.slice none 0 0,.int .i64 0] 32) := ⟨_,rfl⟩
 have HF0 : Hid (Fr w w0) := h_ (by rw [hw0]; exact ((Fr.refl w).alloc _).alloc _)
 have HB0 : Hid (Nb w0 w.heap.size (.int .i64 q0) (.int .i64 q1) (.string q2) (.slice none 0 0) (.int .i64 0)) := h_ (by rw [hw0]; exact (Nb.new w _ _ _ _ _).al5 _)
 have HB1 : Hid (Nb w0 (w.heap.size + 1) (.int .i64 0) (.int .i64 0) (.string ⟨#[]⟩) (.slice none 0 0) (.int .i64 0)) := h_ (by rw [hw0]; exact Nb.new1 w _ _ _ _ _ _)
 have HW0 := h_ hw0
 have n1 : ¬ w.heap.size = g := by omega
 have n2 : ¬ g = w.heap.size := by omega
 have n3 : ¬ w.heap.size + 1 = g := by omega
 have n4 : ¬ g = w.heap.size + 1 := by omega
 have e0 : w.heap.size ≤ w.heap.size := Nat.le_refl _
 have e1 : w.heap.size ≤ w.heap.size + 1 := by omega
 have HM := h_ hm
 clear hs ht hm hk1 hgl hx0 hx1 hx2 hx3 hw0
 go_enter func204,ntmps204
 go_wp2_with fail
 try rw [← HW0.out]
 refine (C1.out _ HF0.out).mono ?_
 rintro e w1 ⟨rfl,hf1⟩
 have HG1 : Hid (Fr w w1) := h_ (HF0.out.trans hf1)
 have HA := h_ (HB0.out.fr hf1)
 have HB := h_ (HB1.out.fr hf1)
 clear hf1
 have HX := h_ (HS.out.fr HG1.out)
 obtain ⟨r0,r1,r2,r3⟩ := HX.out.rs.cells
 have f1 := HX.out.rs.free 1
 obtain ⟨p0,p1,p2,p3,p4⟩ := HA.out.cells
 have a0 := HA.out.free 0
 have a1 := HA.out.free 1
 have a2 := HA.out.free 2
 have a3 := HA.out.free 3
 have a4 := HA.out.free 4
 go_wp2_with fail
 have HGW := HG1.out.gw g
 have HR0 := HX.out.rs
 have HQ := h_ (HS.out.both (w' := (w1.setCell ⟨w.heap.size,4,none⟩ (.int .i64 x3)).setCell ⟨g,1,none⟩ (.int .i64 (k1 : Int))) (by repeat' first | with_reducible exact HGW | with_reducible refine Gw.set' ?_ _ _ | with_reducible refine Gw.own' ?_ (by assumption) _ _ | with_reducible refine Gw.alloc ?_ _) (by repeat' first | with_reducible exact HR0 | with_reducible refine RS.set1 (k := k) ?_ _ | with_reducible refine RS.set2 (m := m) ?_ _ | with_reducible refine RS.set3 (o := o) ?_ _ | with_reducible refine RS.far' ?_ (by assumption) _ _ | with_reducible refine RS.al ?_ _) (by have := HKL.out; have := HK1.out; omega) HS.out.hm HS.out.ho)
 refine (C2'.out _ HQ.out.1).mono ?_
 rintro e w2 ⟨rfl,hp2,hg2⟩
 have HP2 := h_ hp2
 have HG2 := h_ hg2
 clear hp2 hg2
 have HB2 : Hid (Nb w2 (w.heap.size + 1) (.int .i64 0) (.int .i64 0) (.string ⟨#[]⟩) (.slice none 0 0) (.int .i64 0)) := h_ (((HB.out.far (by omega) _ _).far n4 _ _).gw HG2.out n3)
 obtain ⟨c0,c1,c2,c3,c4⟩ := HB2.out.cells
 have b0 := HB2.out.free 0
 have b1 := HB2.out.free 1
 have b2 := HB2.out.free 2
 have b3 := HB2.out.free 3
 have b4 := HB2.out.free 4
 clear HGW HR0
 go_wp2_with fail
 refine bodyPost_ret (v := .agg #[.int .i64 q0,.int .i64 q1,.string q2,.slice none 0 0,.int .i64 x3]) (by simp [results,results204,go_sem,c0,c1,c2,c3,c4]) rfl ?_
 have HGW := HQ.out.2.trans HG2.out
 have HR0 := HP2.out.rs
 exact ⟨rfl,HS.out.both (by repeat' first | with_reducible exact HGW | with_reducible refine Gw.set' ?_ _ _ | with_reducible refine Gw.own' ?_ (by assumption) _ _ | with_reducible refine Gw.alloc ?_ _) (by repeat' first | with_reducible exact HR0 | with_reducible refine RS.set1 (k := k) ?_ _ | with_reducible refine RS.set2 (m := m) ?_ _ | with_reducible refine RS.set3 (o := o) ?_ _ | with_reducible refine RS.far' ?_ (by assumption) _ _ | with_reducible refine RS.al ?_ _) HP2.out.hk HP2.out.hm HP2.out.ho⟩
theorem enter_yes (g : Nat) (tv : Value) (T : List Tp) (k m o : Nat) (t : Tp) (w : World) (hs : PS w g tv T k m o) (ht : T[k]? = some t) (s : ByteArray) (hf : fx t s = true) (ho : o + 1 ≤ 160) :
 Calls prog 112 #[.pointer (some ⟨g,0,none⟩),.string s] w fun e w' => e = .returned (.tuple #[]) ∧ PS w' g tv T (k + 1) m (o + 1) ∧ Gw g w w' := by
 have C1 := h_ (fun W (h : Fr w W) => token_any g tv T k m o t W (hs.fr h) ht)
 have C2 := h_ (fun W (h : Fr w W) => want_yes g tv T k m o t W (hs.fr h) ht s hf)
 have HS := h_ hs
 have HO := h_ ho
 have i1 := wrap_succ o (by omega)
 have i2 : decide ((160 : Int) < ((o + 1 : Nat) : Int)) = false := decide_eq_false (by omega)
 have i3 : decide (((o + 1 : Nat) : Int) > 160) = false := decide_eq_false (by omega)
 obtain ⟨o1,ho1⟩ : ∃ x,x = o + 1 := ⟨_,rfl⟩
 rw [← ho1] at i1 i2 i3 ⊢
 have HO1 := h_ ho1
 unfold tkV at C1
 obtain ⟨x0,hx0⟩ : ∃ x : Int,x = t.k := ⟨_,rfl⟩
 obtain ⟨x3,hx3⟩ : ∃ x : Int,x = t.a := ⟨_,rfl⟩
 obtain ⟨x1,hx1⟩ : ∃ x,x = t.t := ⟨_,rfl⟩
 obtain ⟨x2,hx2⟩ : ∃ x,x = t.n := ⟨_,rfl⟩
 rw [← hx0,← hx1,← hx2,← hx3] at C1
 have hfield := tok_field (.int .i64 x0) (.string x1) (.int .i64 x2) (.int .i64 x3)
 clear hs ht hf ho ho1 hx0 hx1 hx2 hx3
 go_enter func112,ntmps112
 go_wp2_with fail
 refine (C1.out _ (Fr.refl _)).mono ?_
 rintro e w1 ⟨rfl,hf1⟩
 have HG1 := h_ hf1
 clear hf1
 go_wp2_with fail
 refine (C2.out _ HG1.out).mono ?_
 rintro e w2 ⟨rfl,hp2,hg2⟩
 have HP2 := h_ hp2
 have HG2 := h_ ((HG1.out.gw g).trans hg2)
 clear hp2 hg2
 obtain ⟨r0,r1,r2,r3⟩ := HP2.out.rs.cells
 have f3 := HP2.out.rs.free 3
 go_wp2_with fail
 go_end0
 have HGW := HG2.out
 have HR0 := HP2.out.rs
 exact ⟨rfl,HS.out.both (by repeat' first | with_reducible exact HGW | with_reducible refine Gw.set' ?_ _ _ | with_reducible refine Gw.own' ?_ (by assumption) _ _ | with_reducible refine Gw.alloc ?_ _) (by repeat' first | with_reducible exact HR0 | with_reducible refine RS.set1 (k := k + 1) ?_ _ | with_reducible refine RS.set2 (m := m) ?_ _ | with_reducible refine RS.set3 (o := o) ?_ _ | with_reducible refine RS.far' ?_ (by assumption) _ _ | with_reducible refine RS.al ?_ _) HP2.out.hk HP2.out.hm (by have := HO.out; have := HO1.out; omega)⟩
structure Opr where
 t : ByteArray
 op : Int
 n : Int
 l : Int
def opTab : List Opr := [⟨⟨#[120,111,114]⟩,12,10,1⟩,⟨⟨#[101,113,118]⟩,12,11,1⟩,⟨⟨#[124]⟩,12,9,2⟩,⟨⟨#[38]⟩,12,8,3⟩,⟨⟨#[61]⟩,12,12,5⟩,⟨⟨#[126,61]⟩,12,13,5⟩,⟨⟨#[60]⟩,12,14,5⟩,⟨⟨#[60,61]⟩,12,15,5⟩,⟨⟨#[62]⟩,12,16,5⟩,⟨⟨#[62,61]⟩,12,17,5⟩,⟨⟨#[60,60]⟩,12,6,6⟩,⟨⟨#[62,62]⟩,12,7,6⟩,⟨⟨#[43]⟩,12,4,7⟩,⟨⟨#[45]⟩,12,5,7⟩,⟨⟨#[42]⟩,12,1,8⟩,⟨⟨#[47]⟩,12,2,8⟩,⟨⟨#[114,101,109]⟩,12,3,8⟩,⟨⟨#[33]⟩,8,0,9⟩,⟨⟨#[37]⟩,9,0,9⟩,⟨⟨#[111,102]⟩,17,0,9⟩]
theorem opTab_len : opTab.length = 20 := rfl
def oprV (x : Opr) : Value := .agg #[.string x.t,.int .i64 x.op,.int .i64 x.n,.int .i64 x.l]
def opF (t : Tp) (L : Int) : Option Opr := opTab.find? fun x => decide (x.l = L) && fx t x.t
def opZ : Opr := ⟨⟨#[]⟩,0,0,0⟩
def Ov (w : World) : Prop := ∃ b off cap,w.cell? ⟨0,0,none⟩ = some (.slice (some ⟨b,off,none⟩) 20 cap) ∧ 20 ≤ cap ∧ ∀ (i : Nat) (x : Opr),opTab[i]? = some x →
 w.cell? ⟨b,off + i * 4,none⟩ = some (.string x.t) ∧ w.cell? ⟨b,off + i * 4 + 1,none⟩ = some (.int .i64 x.op) ∧ w.cell? ⟨b,off + i * 4 + 2,none⟩ = some (.int .i64 x.n) ∧ w.cell? ⟨b,off + i * 4 + 3,none⟩ = some (.int .i64 x.l)
theorem Ov.fr {w w' : World} (h : Ov w) (k : Fr w w') : Ov w' := by
 obtain ⟨b,off,cap,h0,hc,h⟩ := h
 exact ⟨b,off,cap,k.cell h0,hc,fun i x hx => by obtain ⟨a,b,c,d⟩ := h i x hx; exact ⟨k.cell a,k.cell b,k.cell c,k.cell d⟩⟩
def Ob (w : World) (b : Nat) (x0 x1 x2 x3 : Value) : Prop := w.heap[b]? = some (.cells #[x0,x1,x2,x3] 154 (0,0))
theorem Ob.lt {w : World} {b : Nat} {x0 x1 x2 x3 : Value} (h : Ob w b x0 x1 x2 x3) : b < w.heap.size := (Array.getElem?_eq_some_iff.1 h).1
theorem Ob.fr {w w' : World} {b : Nat} {x0 x1 x2 x3 : Value} (h : Ob w b x0 x1 x2 x3) (k : Fr w w') : Ob w' b x0 x1 x2 x3 := (k.block b h.lt).trans h
theorem Ob.gw {g : Nat} {w w' : World} {b : Nat} {x0 x1 x2 x3 : Value} (h : Ob w b x0 x1 x2 x3) (k : Gw g w w') (hb : b ≠ g) : Ob w' b x0 x1 x2 x3 := (k.block b h.lt (by intro e; injection e; omega)).trans h
theorem Ob.cells {w : World} {b : Nat} {x0 x1 x2 x3 : Value} (h : Ob w b x0 x1 x2 x3) : w.cell? ⟨b,0,none⟩ = some x0 ∧ w.cell? ⟨b,1,none⟩ = some x1 ∧ w.cell? ⟨b,2,none⟩ = some x2 ∧ w.cell? ⟨b,3,none⟩ = some x3 := by
 unfold Ob at h
 simp [World.cell?,h]
theorem Ob.free {w : World} {b : Nat} {x0 x1 x2 x3 : Value} (h : Ob w b x0 x1 x2 x3) (i : Nat) : w.frozen? ⟨b,i,none⟩ = false := by
 unfold Ob at h
 simp [World.frozen?,h]
theorem Ob.new (w : World) (x0 x1 x2 x3 : Value) : Ob (w.alloc (.cells #[x0,x1,x2,x3] 154)) w.heap.size x0 x1 x2 x3 := by
 unfold Ob; simp only [World.alloc,Array.getElem?_push_size]
theorem Ob.new1 (w : World) (o : Obj) (x0 x1 x2 x3 : Value) : Ob ((w.alloc o).alloc (.cells #[x0,x1,x2,x3] 154)) (w.heap.size + 1) x0 x1 x2 x3 := by
 have h := Ob.new (w.alloc o) x0 x1 x2 x3
 simpa using h
theorem opF_drop {t : Tp} {L : Int} {j : Nat} {x : Opr} (hx : opTab[j]? = some x) : (opTab.drop j).find? (fun x => decide (x.l = L) && fx t x.t) = if (decide (x.l = L) && fx t x.t) = true then some x else (opTab.drop (j + 1)).find? (fun x => decide (x.l = L) && fx t x.t) := by
 rw [List.drop_eq_getElem_cons (List.getElem?_eq_some_iff.1 hx).1,List.find?_cons,(List.getElem?_eq_some_iff.1 hx).2]
 cases h : (decide (x.l = L) && fx t x.t) <;> simp
theorem operatorAt_any (t : Tp) (L : Int) (w : World) (ho : Ov w) :
 Calls prog 196 #[tkV t,.int .i64 L] w fun e w' => e = .returned (.tuple #[oprV ((opF t L).getD opZ),.bool (opF t L).isSome]) ∧ Fr w w' := by
 have HO := h_ ho
 have C2 := h_ (fun W s => isFixed_any t s W)
 obtain ⟨R,hR⟩ : ∃ r,r = opF t L := ⟨_,rfl⟩
 have HR := h_ hR
 rw [← hR]
 unfold tkV at C2 ⊢
 obtain ⟨q0,hq0⟩ : ∃ x : Int,x = t.k := ⟨_,rfl⟩
 obtain ⟨q3,hq3⟩ : ∃ x : Int,x = t.a := ⟨_,rfl⟩
 obtain ⟨q1,hq1⟩ : ∃ x,x = t.t := ⟨_,rfl⟩
 obtain ⟨q2,hq2⟩ : ∃ x,x = t.n := ⟨_,rfl⟩
 rw [← hq0,← hq1,← hq2,← hq3] at C2
 rw [← hq0,← hq1,← hq2,← hq3]
 obtain ⟨b,off,cap,h0,hcap,htab⟩ := ho
 have HT := h_ htab
 obtain ⟨w0,hw0⟩ : ∃ w0,w0 = (w.alloc (.cells #[.int .i64 q0,.string q1,.int .i64 q2,.int .i64 q3] 98)).alloc (.cells #[.string ⟨#[]⟩,.int .i64 0,.int .i64 0,.int .i64 0] 154) := ⟨_,rfl⟩
 have HF0 : Hid (Fr w w0) := h_ (by rw [hw0]; exact ((Fr.refl w).alloc _).alloc _)
 have HB0 : Hid (Tb w0 w.heap.size (.int .i64 q0) (.string q1) (.int .i64 q2) (.int .i64 q3)) := h_ (by rw [hw0]; exact (Tb.new w _ _ _ _).al _)
 have HB1 : Hid (Ob w0 (w.heap.size + 1) (.string ⟨#[]⟩) (.int .i64 0) (.int .i64 0) (.int .i64 0)) := h_ (by rw [hw0]; exact Ob.new1 w _ _ _ _ _)
 have HW0 := h_ hw0
 have g0 : w0.cell? ⟨0,0,none⟩ = some (.slice (some ⟨b,off,none⟩) 20 cap) := HF0.out.cell h0
 rw [hw0] at g0
 clear hR hq0 hq1 hq2 hq3 htab hw0 h0
 go_enter func196,ntmps196
 go_wp2_with fail
 try rw [← HW0.out]
 go_loopw [10] (fun i wr => ∃ j : Nat,j ≤ 20 ∧ i = .int .i64 j ∧ Hid (R = (opTab.drop j).find? (fun x => decide (x.l = L) && fx t x.t)) ∧ Fr w0 wr) (fun i _ => 20 - (intOf i).toNat)
 case atStart => exact ⟨0,Nat.zero_le _,rfl,h_ (by rw [HR.out]; rfl),Fr.refl _⟩
 case round =>
  obtain ⟨j,hj,rfl,HJ,hfr⟩ := hrel
  by_cases hlt : j < 20
  ·obtain ⟨x,hx⟩ : ∃ x,opTab[j]? = some x := ⟨_,List.getElem?_eq_getElem (by rw [opTab_len]; exact hlt)⟩
   have hstep := opF_drop (t := t) (L := L) hx
   obtain ⟨x0,x1,x2,x3⟩ := HT.out j x hx
   have y0 := (HF0.out.trans hfr).cell x0
   have y1 := (HF0.out.trans hfr).cell x1
   have y2 := (HF0.out.trans hfr).cell x2
   have y3 := (HF0.out.trans hfr).cell x3
   have HX := h_ hx
   have C3 := h_ (fun W => C2.out W x.t)
   obtain ⟨D,hD⟩ : ∃ d,d = fx t x.t := ⟨_,rfl⟩
   rw [← hD] at hstep
   have C4 : Hid (∀ W,Calls prog 198 #[.agg #[.int .i64 q0,.string q1,.int .i64 q2,.int .i64 q3],.string x.t] W fun e w' => e = .returned (.bool D) ∧ Fr W w') := h_ (by rw [hD]; exact C3.out)
   obtain ⟨xt,hxt⟩ : ∃ y,y = x.t := ⟨_,rfl⟩
   obtain ⟨xo,hxo⟩ : ∃ y,y = x.op := ⟨_,rfl⟩
   obtain ⟨xn,hxn⟩ : ∃ y,y = x.n := ⟨_,rfl⟩
   obtain ⟨xl,hxl⟩ : ∃ y,y = x.l := ⟨_,rfl⟩
   rw [← hxt] at y0 C4
   rw [← hxo] at y1
   rw [← hxn] at y2
   rw [← hxl] at y3 hstep
   have HXV : Hid (oprV x = .agg #[.string xt,.int .i64 xo,.int .i64 xn,.int .i64 xl]) := h_ (by rw [hxt,hxo,hxn,hxl]; rfl)
   have HBT := h_ ((HB0.out.fr hfr).al (.cells #[.string xt,.int .i64 xo,.int .i64 xn,.int .i64 xl] 154))
   have HBO := h_ ((HB1.out.fr hfr).fr ((Fr.refl wr).alloc (.cells #[.string xt,.int .i64 xo,.int .i64 xn,.int .i64 xl] 154)))
   have HBX := h_ (Ob.new wr (.string xt) (.int .i64 xo) (.int .i64 xn) (.int .i64 xl))
   obtain ⟨t0,t1,t2,t3⟩ := HBT.out.cells
   have hji : (j : Int).toNat = j := Int.toNat_natCast j
   clear x0 x1 x2 x3 hx hD hxt hxo hxn hxl C3
   by_cases hl : xl = L
   ·subst hl
    have z1 : (xl == xl) = true := by simp
    have hs2 : (opTab.drop j).find? (fun x => decide (x.l = xl) && fx t x.t) = if D = true then some x else (opTab.drop (j + 1)).find? (fun x => decide (x.l = xl) && fx t x.t) := by rw [hstep]; simp
    clear hstep
    cases D with
    | true =>
     have HRX : Hid (R = some x) := h_ (by rw [HJ.out,hs2,if_pos rfl])
     clear hs2
     go_wp2_with fail
     refine (C4.out _).mono ?_
     rintro e w1 ⟨rfl,hf1⟩
     have HG1 : Hid (Fr w w1) := h_ ((HF0.out.trans hfr).trans (((Fr.refl wr).alloc _).trans hf1))
     obtain ⟨c0,c1,c2,c3⟩ := (HBO.out.fr hf1).cells
     have f0 := (HBO.out.fr hf1).free 0
     have f1 := (HBO.out.fr hf1).free 1
     have f2 := (HBO.out.fr hf1).free 2
     have f3 := (HBO.out.fr hf1).free 3
     obtain ⟨d0,d1,d2,d3⟩ := (HBX.out.fr hf1).cells
     clear hf1
     go_wp2_with fail
     refine bodyPost_ret (v := .tuple #[.agg #[.string xt,.int .i64 xo,.int .i64 xn,.int .i64 xl],.bool true]) (by simp [results,results196,go_sem,c0,c1,c2,c3]) rfl ?_
     rw [HRX.out]
     have e1 : w.heap.size ≤ w.heap.size + 1 := by omega
     refine ⟨?_,(((HG1.out.setCell e1 _).setCell e1 _).setCell e1 _).setCell e1 _⟩
     show _ = Ending.returned (.tuple #[oprV x,.bool true])
     rw [HXV.out]
    | false =>
     have HJ2 : Hid (R = (opTab.drop (j + 1)).find? (fun x => decide (x.l = xl) && fx t x.t)) := h_ (by rw [HJ.out,hs2]; simp)
     clear hs2
     go_wp2_with fail
     refine (C4.out _).mono ?_
     rintro e w1 ⟨rfl,hf1⟩
     have hfin := hfr.trans (((Fr.refl wr).alloc _).trans hf1)
     go_wp2_with fail
     go_roundw
     case rel => exact ⟨j + 1,by omega,by go_num,HJ2,hfin⟩
     case measure => simp [intOf]; omega
   ·have z1 : (xl == L) = false := by rw [beq_eq_false_iff_ne]; exact hl
    have HJ2 : Hid (R = (opTab.drop (j + 1)).find? (fun x => decide (x.l = L) && fx t x.t)) := h_ (by rw [HJ.out,hstep]; simp [hl])
    clear hstep hl
    go_wp2_with fail
    go_roundw
    case rel => exact ⟨j + 1,by omega,by go_num,HJ2,hfr.trans ((Fr.refl wr).alloc _)⟩
    case measure => simp [intOf]; omega
  ·obtain rfl : j = 20 := by omega
   have HRN : Hid (R = none) := h_ (by rw [HJ.out,List.drop_eq_nil_of_le (by rw [opTab_len]; exact Nat.le_refl _)]; rfl)
   have HBO := h_ (HB1.out.fr hfr)
   obtain ⟨c0,c1,c2,c3⟩ := HBO.out.cells
   have f0 := HBO.out.free 0
   have f1 := HBO.out.free 1
   have f2 := HBO.out.free 2
   have f3 := HBO.out.free 3
   go_wp2_with fail
   refine bodyPost_ret (v := .tuple #[.agg #[.string ⟨#[]⟩,.int .i64 0,.int .i64 0,.int .i64 0],.bool false]) (by simp [results,results196,go_sem,c0,c1,c2,c3]) rfl ?_
   rw [HRN.out]
   have e1 : w.heap.size ≤ w.heap.size + 1 := by omega
   exact ⟨rfl,((((HF0.out.trans hfr).setCell e1 _).setCell e1 _).setCell e1 _).setCell e1 _⟩
theorem begins_yes (t : Tp) (h : t.k = 1 ∨ t.k = 2 ∨ t.k = 3) (w : World) : Calls prog 202 #[tkV t] w fun e w' => e = .returned (.bool true) ∧ Fr w w' := by
 unfold tkV
 have A0 : Hid (∀ x : Obj,Fr w (w.alloc x)) := h_ (fun x => (Fr.refl w).alloc x)
 obtain ⟨q0,hq0⟩ : ∃ x : Int,x = t.k := ⟨_,rfl⟩
 rw [← hq0]
 have h3 : q0 = 1 ∨ q0 = 2 ∨ q0 = 3 := by omega
 clear hq0 h
 rcases h3 with rfl | rfl | rfl
 all_goals
  go_enter func202,ntmps202
  go_wp2_with fail
  go_ret
  exact ⟨rfl,A0.out _⟩
theorem checkDepth_yes (t : Nd) (lt : Value) (a : Int) (w : World) (hlt : LN w lt t.l) (hb : bulks t.l ≤ 2000000) (hd : 1 + lvlL t.l ≤ 40) :
 Calls prog 56 #[ndV t lt,.int .i64 a] w fun e w' => e = .returned (.tuple #[]) ∧ Fr w w' := by
 obtain ⟨la,lc,rfl,_,_,_⟩ := hlt.form
 have C1 := h_ (fun W (h : Fr w W) => Levels_any (bulks t.l) (by omega) t.op t.n t.s t.l t.a (Nat.le_refl _) _ W (hlt.fr h))
 unfold ndV
 obtain ⟨d,hd1⟩ : ∃ d,d = 1 + lvlL t.l := ⟨_,rfl⟩
 obtain ⟨ll,hll⟩ : ∃ x : Nat,x = t.l.length := ⟨_,rfl⟩
 rw [← hd1] at C1 hd
 rw [← hll] at C1 ⊢
 have i2 : decide ((40 : Int) < (d : Int)) = false := decide_eq_false (by omega)
 have i3 : decide ((d : Int) > 40) = false := decide_eq_false (by omega)
 obtain ⟨q0,hq0,q1,hq1,q2,hq2,q4,hq4⟩ := qs_ t
 rw [← hq0,← hq1,← hq2,← hq4] at C1
 rw [← hq0,← hq1,← hq2,← hq4]
 clear hq0 hq1 hq2 hq4
 clear hlt hb hd hd1 hll
 go_enter func56,ntmps56
 go_wp2_with fail
 refine (C1.out _ (by repeat' first | exact Fr.refl _ | refine Fr.alloc ?_ _)).mono ?_
 rintro e w1 ⟨rfl,hf1⟩
 have hfin : Fr w w1 := Fr.trans (by repeat' first | exact Fr.refl _ | refine Fr.alloc ?_ _) hf1
 go_wp2_with fail
 go_end0
 exact ⟨rfl,hfin⟩
theorem rightLevel_any (x : Opr) (hx : -1000 ≤ x.l ∧ x.l ≤ 1000) (w : World) : Calls prog 197 #[oprV x] w fun e w' => e = .returned (.int .i64 (x.l + 1)) ∧ Fr w w' := by
 unfold oprV
 obtain ⟨l,hl⟩ : ∃ y,y = x.l := ⟨_,rfl⟩
 rw [← hl] at hx ⊢
 have i1 : IntKind.i64.wrap (l + 1) = l + 1 := IntWalk.i64_in _ (by omega)
 have A0 : Hid (∀ y : Obj,Fr w (w.alloc y)) := h_ (fun y => (Fr.refl w).alloc y)
 clear hl hx
 go_enter func197,ntmps197
 go_wp2_with fail
 go_ret
 exact ⟨rfl,A0.out _⟩
inductive Kd where
 | simple | calls | first (L : Nat) | level (L : Nat) | expr
def opN (x : Opr) (a b : Nd) : Nd := ⟨x.op,x.n,⟨#[]⟩,[a,b],a.a⟩
def callN (a : Nd) (l : List Nd) : Nd := ⟨7,0,⟨#[]⟩,l,a.a⟩
mutual
inductive Dr (T : List Tp) : Nat → Kd → Nat → Nat → Nat → Nd → Nat → Nat → Prop where
 | name (h k m o : Nat) (t : Tp) (ht : T[k]? = some t) (hk : t.k = 1) (hm : m + 1 ≤ 20000) (hw : wfN ⟨6,0,t.t,[],t.a⟩) : Dr T h .simple k m o ⟨6,0,t.t,[],t.a⟩ (k + 1) (m + 1)
 | num (h k m o : Nat) (t : Tp) (ht : T[k]? = some t) (hk : t.k = 2) (hm : m + 1 ≤ 20000) (hw : wfN ⟨1,t.n,⟨#[]⟩,[],t.a⟩) : Dr T h .simple k m o ⟨1,t.n,⟨#[]⟩,[],t.a⟩ (k + 1) (m + 1)
 | calls (h h1 h2 k m o : Nat) (a : Nd) (k1 m1 : Nat) (t : Nd) (k' m' : Nat) (l1 : h1 < h) (l2 : h2 < h) (d1 : Dr T h1 .simple k m o a k1 m1) (d2 : CR T h2 o a k1 m1 t k' m') : Dr T h .calls k m o t k' m'
 | first (h h1 L k m o : Nat) (t : Nd) (k' m' : Nat) (u : Tp) (l1 : h1 < h) (hL : L < 10) (hu : T[k]? = some u) (h4 : L = 4 → fx u ⟨#[126]⟩ = false) (h7 : L = 7 → fx u ⟨#[45]⟩ = false) (d : Dr T h1 (.level (L + 1)) k m o t k' m') : Dr T h (.first L) k m o t k' m'
 | first10 (h h1 k m o : Nat) (t : Nd) (k' m' : Nat) (u : Tp) (l1 : h1 < h) (hu : T[k]? = some u) (h8 : fx u ⟨#[33]⟩ = false) (h9 : fx u ⟨#[64]⟩ = false) (d : Dr T h1 .calls k m o t k' m') : Dr T h (.first 10) k m o t k' m'
 | level (h h1 h2 L k m o : Nat) (a : Nd) (k1 m1 : Nat) (t : Nd) (k' m' : Nat) (l1 : h1 < h) (l2 : h2 < h) (hL : L ≤ 10) (d1 : Dr T h1 (.first L) k m o a k1 m1) (d2 : LR T h2 L o a k1 m1 t k' m') : Dr T h (.level L) k m o t k' m'
 | expr (h h1 k m o : Nat) (t : Nd) (k' m' : Nat) (u : Tp) (l1 : h1 < h) (d : Dr T h1 (.level 1) k m o t k' m') (hu : T[k']? = some u) (hf : fx u ⟨#[45,62]⟩ = false) : Dr T h .expr k m o t k' m'
inductive LR (T : List Tp) : Nat → Nat → Nat → Nd → Nat → Nat → Nd → Nat → Nat → Prop where
 | done (h L o : Nat) (a : Nd) (k m : Nat) (u : Tp) (hu : T[k]? = some u) (hf : opF u L = none) : LR T h L o a k m a k m
 | step (h h1 h2 L o : Nat) (a : Nd) (k m : Nat) (u : Tp) (x : Opr) (b : Nd) (k2 m2 : Nat) (t : Nd) (k' m' : Nat) (l1 : h1 < h) (l2 : h2 < h) (h5 : L ≠ 5) (hu : T[k]? = some u) (hf : opF u L = some x)
  (d1 : Dr T h1 (.level (L + 1)) (k + 1) m o b k2 m2) (hm : m2 + 1 ≤ 20000) (hkm : k < k2) (d2 : LR T h2 L o (opN x a b) k2 (m2 + 1) t k' m') : LR T h L o a k m t k' m'
inductive CR (T : List Tp) : Nat → Nat → Nd → Nat → Nat → Nd → Nat → Nat → Prop where
 | done (h o : Nat) (a : Nd) (k m : Nat) (u : Tp) (hu : T[k]? = some u) (hf : fx u ⟨#[40]⟩ = false) : CR T h o a k m a k m
 | step (h h1 h2 o : Nat) (a : Nd) (k m : Nat) (u u1 u2 : Tp) (l : List Nd) (k2 m2 : Nat) (t : Nd) (k' m' : Nat) (l1 : h1 < h) (l2 : h2 < h) (hu : T[k]? = some u) (hf : fx u ⟨#[40]⟩ = true) (ho : o + 1 ≤ 160)
  (hu1 : T[k + 1]? = some u1) (hf1 : fx u1 ⟨#[41]⟩ = false) (d1 : AR T h1 9 (o + 1) [a] (k + 1) m l k2 m2) (hu2 : T[k2]? = some u2) (hf2 : fx u2 ⟨#[41]⟩ = true) (hm : m2 + 1 ≤ 20000) (hkm : k < k2)
  (d2 : CR T h2 o (callN a l) (k2 + 1) (m2 + 1) t k' m') : CR T h o a k m t k' m'
inductive AR (T : List Tp) : Nat → Nat → Nat → List Nd → Nat → Nat → List Nd → Nat → Nat → Prop where
 | last (h h1 most o : Nat) (l : List Nd) (k m : Nat) (e : Nd) (k1 m1 : Nat) (u v : Tp) (l1 : h1 < h) (hl : l.length < most) (hv : T[k]? = some v) (d : Dr T h1 .expr k m o e k1 m1) (hu : T[k1]? = some u) (hf : fx u ⟨#[44]⟩ = false) : AR T h most o l k m (l ++ [e]) k1 m1
end
def Kd.fn : Kd → Nat
 | .simple => 262
 | .calls => 242
 | .first _ => 195
 | .level _ => 110
 | .expr => 55
def Kd.args (g : Nat) : Kd → Array Value
 | .simple => #[.pointer (some ⟨g,0,none⟩)]
 | .calls => #[.pointer (some ⟨g,0,none⟩)]
 | .first L => #[.pointer (some ⟨g,0,none⟩),.int .i64 L]
 | .level L => #[.pointer (some ⟨g,0,none⟩),.int .i64 L]
 | .expr => #[.pointer (some ⟨g,0,none⟩)]
def OvG (g : Nat) (w : World) : Prop := ∃ b off cap,b ≠ g ∧ 0 ≠ g ∧ w.cell? ⟨0,0,none⟩ = some (.slice (some ⟨b,off,none⟩) 20 cap) ∧ 20 ≤ cap ∧ ∀ (i : Nat) (x : Opr),opTab[i]? = some x →
 w.cell? ⟨b,off + i * 4,none⟩ = some (.string x.t) ∧ w.cell? ⟨b,off + i * 4 + 1,none⟩ = some (.int .i64 x.op) ∧ w.cell? ⟨b,off + i * 4 + 2,none⟩ = some (.int .i64 x.n) ∧ w.cell? ⟨b,off + i * 4 + 3,none⟩ = some (.int .i64 x.l)
theorem OvG.ov {g : Nat} {w : World} (h : OvG g w) : Ov w := by
 obtain ⟨b,off,cap,_,_,h0,hc,h⟩ := h
 exact ⟨b,off,cap,h0,hc,h⟩
theorem OvG.gw {g : Nat} {w w' : World} (h : OvG g w) (k : Gw g w w') : OvG g w' := by
 obtain ⟨b,off,cap,hb,h0g,h0,hc,h⟩ := h
 exact ⟨b,off,cap,hb,h0g,k.cell h0 h0g,hc,fun i x hx => by obtain ⟨a,b,c,d⟩ := h i x hx; exact ⟨k.cell a hb,k.cell b hb,k.cell c hb,k.cell d hb⟩⟩
def CD (T : List Tp) (kd : Kd) (k m o : Nat) (t : Nd) (k' m' : Nat) : Prop := ∀ (g : Nat) (tv : Value) (w : World),OvG g w → PS w g tv T k m o →
 Calls prog kd.fn (kd.args g) w fun e w' => ∃ lv,e = .returned (ndV t lv) ∧ LNP (fun b => w.heap.size ≤ b) w' lv t.l ∧ PS w' g tv T k' m' o ∧ Gw g w w' ∧ wfN t
theorem LNP.nil (P : Nat → Prop) (w : World) : LNP P w (.slice none 0 0) [] :=
 .mk none 0 [] (fun _ => .slice none 0 0) (Nat.le_refl _) (Nat.zero_le _) (fun _ => rfl) (fun h => absurd h (by decide)) (fun t h => by cases h) (fun i t h => by simp at h)
theorem simple_name (T : List Tp) (k m o : Nat) (t : Tp) (ht : T[k]? = some t) (hk : t.k = 1) (hm : m + 1 ≤ 20000) (hw : wfN ⟨6,0,t.t,[],t.a⟩) : CD T .simple k m o ⟨6,0,t.t,[],t.a⟩ (k + 1) (m + 1) := by
 intro g tv w hov hs
 show Calls prog 262 #[.pointer (some ⟨g,0,none⟩)] w _
 have C1 := h_ (fun W (h : Fr w W) => token_any g tv T k m o t W (hs.fr h) ht)
 have C2 := h_ (fun W (h : Fr w W) => leaf_yes g tv T k m o t W (hs.fr h) ht 6 0 t.t hm)
 have HW := h_ hw
 have HS := h_ hs
 have hgl := hs.rs.lt
 have HND : Hid (∀ a b c d,ndV ⟨a,b,c,[],d⟩ (.slice none 0 0) = .agg #[.int .i64 a,.int .i64 b,.string c,.slice none 0 0,.int .i64 d]) := h_ (fun _ _ _ _ => rfl)
 unfold tkV at C1
 rw [hk] at C1
 obtain ⟨x3,hx3⟩ : ∃ x : Nat,x = t.a := ⟨_,rfl⟩
 obtain ⟨x1,hx1⟩ : ∃ x,x = t.t := ⟨_,rfl⟩
 obtain ⟨x2,hx2⟩ : ∃ x,x = t.n := ⟨_,rfl⟩
 rw [← hx3] at C1 C2 HW ⊢
 try rw [← hx1] at C1 C2 HW ⊢
 try rw [← hx1] at C1
 try rw [← hx2] at C1 C2 HW ⊢
 try rw [← hx2] at C1
 obtain ⟨y3,hy3⟩ : ∃ x : Int,x = (x3 : Int) := ⟨_,rfl⟩
 rw [← hy3] at C1 C2
 have HY := h_ hy3
 obtain ⟨w0,hw0⟩ : ∃ w0,w0 = w.alloc (.cells #[.int .i64 0,.int .i64 0,.string ⟨#[]⟩,.slice none 0 0,.int .i64 0] 32) := ⟨_,rfl⟩
 have HF0 : Hid (Fr w w0) := h_ (by rw [hw0]; exact (Fr.refl w).alloc _)
 have HB0 : Hid (Nb w0 w.heap.size (.int .i64 0) (.int .i64 0) (.string ⟨#[]⟩) (.slice none 0 0) (.int .i64 0)) := h_ (by rw [hw0]; exact Nb.new w _ _ _ _ _)
 have HW0 := h_ hw0
 have n3 : ¬ w.heap.size = g := by omega
 have e0 : w.heap.size ≤ w.heap.size := Nat.le_refl _
 clear hs ht hk hm hw hov hx1 hx2 hx3 hy3 hw0 hgl
 go_enter func262,ntmps262
 go_wp2_with fail
 try rw [← HW0.out]
 refine (C1.out _ HF0.out).mono ?_
 rintro e w1 ⟨rfl,hf1⟩
 have HG1 : Hid (Fr w w1) := h_ (HF0.out.trans hf1)
 have HB1 := h_ (HB0.out.fr hf1)
 have HSZ : Hid (w.heap.size < w1.heap.size) := h_ ((HB0.out.fr hf1).lt)
 clear hf1
 go_wp2_with fail
 refine (C2.out _ (HG1.out.alloc _)).mono ?_
 rintro e w2 ⟨rfl,hp2,hg2⟩
 have HP2 := h_ hp2
 have HG2 : Hid (Gw g w w2) := h_ (((HG1.out.alloc _).gw g).trans hg2)
 have HB2 : Hid (Nb w2 w.heap.size (.int .i64 0) (.int .i64 0) (.string ⟨#[]⟩) (.slice none 0 0) (.int .i64 0)) := h_ ((HB1.out.al5 _).gw hg2 n3)
 clear hp2 hg2
 obtain ⟨c0,c1,c2,c3,c4⟩ := HB2.out.cells
 have b0 := HB2.out.free 0
 have b1 := HB2.out.free 1
 have b2 := HB2.out.free 2
 have b3 := HB2.out.free 3
 have b4 := HB2.out.free 4
 go_wp2_with fail
 refine bodyPost_ret (v := .agg #[.int .i64 6,.int .i64 0,.string x1,.slice none 0 0,.int .i64 y3]) (by simp [results,results262,go_sem,c0,c1,c2,c3,c4]) rfl ?_
 have HGW := HG2.out
 have HR0 := HP2.out.rs
 have HQ := HS.out.both (w' := ((((w2.setCell ⟨w.heap.size,0,none⟩ (.int .i64 6)).setCell ⟨w.heap.size,1,none⟩ (.int .i64 0)).setCell ⟨w.heap.size,2,none⟩ (.string x1)).setCell ⟨w.heap.size,3,none⟩ (.slice none 0 0)).setCell ⟨w.heap.size,4,none⟩ (.int .i64 y3)) (by repeat' first | with_reducible exact HGW | with_reducible refine Gw.set' ?_ _ _ | with_reducible refine Gw.own' ?_ (by assumption) _ _ | with_reducible refine Gw.alloc ?_ _) (by repeat' first | with_reducible exact HR0 | with_reducible refine RS.set1 (k := k) ?_ _ | with_reducible refine RS.set2 (m := m) ?_ _ | with_reducible refine RS.set3 (o := o) ?_ _ | with_reducible refine RS.far' ?_ (by assumption) _ _ | with_reducible refine RS.al ?_ _) HP2.out.hk HP2.out.hm HP2.out.ho
 exact ⟨.slice none 0 0,by rw [HND.out,← HY.out],LNP.nil _ _,HQ.1,HQ.2,HW.out⟩
theorem simple_num (T : List Tp) (k m o : Nat) (t : Tp) (ht : T[k]? = some t) (hk : t.k = 2) (hm : m + 1 ≤ 20000) (hw : wfN ⟨1,t.n,⟨#[]⟩,[],t.a⟩) : CD T .simple k m o ⟨1,t.n,⟨#[]⟩,[],t.a⟩ (k + 1) (m + 1) := by
 intro g tv w hov hs
 show Calls prog 262 #[.pointer (some ⟨g,0,none⟩)] w _
 have C1 := h_ (fun W (h : Fr w W) => token_any g tv T k m o t W (hs.fr h) ht)
 have C2 := h_ (fun W (h : Fr w W) => leaf_yes g tv T k m o t W (hs.fr h) ht 1 t.n ⟨#[]⟩ hm)
 have HW := h_ hw
 have HS := h_ hs
 have hgl := hs.rs.lt
 have HND : Hid (∀ a b c d,ndV ⟨a,b,c,[],d⟩ (.slice none 0 0) = .agg #[.int .i64 a,.int .i64 b,.string c,.slice none 0 0,.int .i64 d]) := h_ (fun _ _ _ _ => rfl)
 unfold tkV at C1
 rw [hk] at C1
 obtain ⟨x3,hx3⟩ : ∃ x : Nat,x = t.a := ⟨_,rfl⟩
 obtain ⟨x1,hx1⟩ : ∃ x,x = t.t := ⟨_,rfl⟩
 obtain ⟨x2,hx2⟩ : ∃ x,x = t.n := ⟨_,rfl⟩
 rw [← hx3] at C1 C2 HW ⊢
 try rw [← hx1] at C1 C2 HW ⊢
 try rw [← hx1] at C1
 try rw [← hx2] at C1 C2 HW ⊢
 try rw [← hx2] at C1
 obtain ⟨y3,hy3⟩ : ∃ x : Int,x = (x3 : Int) := ⟨_,rfl⟩
 rw [← hy3] at C1 C2
 have HY := h_ hy3
 obtain ⟨w0,hw0⟩ : ∃ w0,w0 = w.alloc (.cells #[.int .i64 0,.int .i64 0,.string ⟨#[]⟩,.slice none 0 0,.int .i64 0] 32) := ⟨_,rfl⟩
 have HF0 : Hid (Fr w w0) := h_ (by rw [hw0]; exact (Fr.refl w).alloc _)
 have HB0 : Hid (Nb w0 w.heap.size (.int .i64 0) (.int .i64 0) (.string ⟨#[]⟩) (.slice none 0 0) (.int .i64 0)) := h_ (by rw [hw0]; exact Nb.new w _ _ _ _ _)
 have HW0 := h_ hw0
 have n3 : ¬ w.heap.size = g := by omega
 have e0 : w.heap.size ≤ w.heap.size := Nat.le_refl _
 clear hs ht hk hm hw hov hx1 hx2 hx3 hy3 hw0 hgl
 go_enter func262,ntmps262
 go_wp2_with fail
 try rw [← HW0.out]
 refine (C1.out _ HF0.out).mono ?_
 rintro e w1 ⟨rfl,hf1⟩
 have HG1 : Hid (Fr w w1) := h_ (HF0.out.trans hf1)
 have HB1 := h_ (HB0.out.fr hf1)
 have HSZ : Hid (w.heap.size < w1.heap.size) := h_ ((HB0.out.fr hf1).lt)
 clear hf1
 go_wp2_with fail
 refine (C2.out _ (HG1.out.alloc _)).mono ?_
 rintro e w2 ⟨rfl,hp2,hg2⟩
 have HP2 := h_ hp2
 have HG2 : Hid (Gw g w w2) := h_ (((HG1.out.alloc _).gw g).trans hg2)
 have HB2 : Hid (Nb w2 w.heap.size (.int .i64 0) (.int .i64 0) (.string ⟨#[]⟩) (.slice none 0 0) (.int .i64 0)) := h_ ((HB1.out.al5 _).gw hg2 n3)
 clear hp2 hg2
 obtain ⟨c0,c1,c2,c3,c4⟩ := HB2.out.cells
 have b0 := HB2.out.free 0
 have b1 := HB2.out.free 1
 have b2 := HB2.out.free 2
 have b3 := HB2.out.free 3
 have b4 := HB2.out.free 4
 go_wp2_with fail
 refine bodyPost_ret (v := .agg #[.int .i64 1,.int .i64 x2,.string ⟨#[]⟩,.slice none 0 0,.int .i64 y3]) (by simp [results,results262,go_sem,c0,c1,c2,c3,c4]) rfl ?_
 have HGW := HG2.out
 have HR0 := HP2.out.rs
 have HQ := HS.out.both (w' := ((((w2.setCell ⟨w.heap.size,0,none⟩ (.int .i64 1)).setCell ⟨w.heap.size,1,none⟩ (.int .i64 x2)).setCell ⟨w.heap.size,2,none⟩ (.string ⟨#[]⟩)).setCell ⟨w.heap.size,3,none⟩ (.slice none 0 0)).setCell ⟨w.heap.size,4,none⟩ (.int .i64 y3)) (by repeat' first | with_reducible exact HGW | with_reducible refine Gw.set' ?_ _ _ | with_reducible refine Gw.own' ?_ (by assumption) _ _ | with_reducible refine Gw.alloc ?_ _) (by repeat' first | with_reducible exact HR0 | with_reducible refine RS.set1 (k := k) ?_ _ | with_reducible refine RS.set2 (m := m) ?_ _ | with_reducible refine RS.set3 (o := o) ?_ _ | with_reducible refine RS.far' ?_ (by assumption) _ _ | with_reducible refine RS.al ?_ _) HP2.out.hk HP2.out.hm HP2.out.ho
 exact ⟨.slice none 0 0,by rw [HND.out,← HY.out],LNP.nil _ _,HQ.1,HQ.2,HW.out⟩
theorem st5_all {w w2 : World} {g W : Nat} {tv : Value} {T : List Tp} {k m o k' m' o' : Nat} (h0 : PS w g tv T k m o) (hp : PS w2 g tv T k' m' o') (hg : Gw g w w2) {lv : Value} {l : List Nd} (hl : LNP (fun b => W ≤ b) w2 lv l) (hW : w.heap.size < W)
 (n3 : ¬ w.heap.size = g) (x0 x1 x2 x3 x4 : Value) :
 PS (((((w2.setCell ⟨w.heap.size,0,none⟩ x0).setCell ⟨w.heap.size,1,none⟩ x1).setCell ⟨w.heap.size,2,none⟩ x2).setCell ⟨w.heap.size,3,none⟩ x3).setCell ⟨w.heap.size,4,none⟩ x4) g tv T k' m' o' ∧ Gw g w (((((w2.setCell ⟨w.heap.size,0,none⟩ x0).setCell ⟨w.heap.size,1,none⟩ x1).setCell ⟨w.heap.size,2,none⟩ x2).setCell ⟨w.heap.size,3,none⟩ x3).setCell ⟨w.heap.size,4,none⟩ x4) ∧ LNP (fun b => w.heap.size ≤ b) (((((w2.setCell ⟨w.heap.size,0,none⟩ x0).setCell ⟨w.heap.size,1,none⟩ x1).setCell ⟨w.heap.size,2,none⟩ x2).setCell ⟨w.heap.size,3,none⟩ x3).setCell ⟨w.heap.size,4,none⟩ x4) lv l := by
 have e0 : w.heap.size ≤ w.heap.size := Nat.le_refl _
 have hG : Gw g w (((((w2.setCell ⟨w.heap.size,0,none⟩ x0).setCell ⟨w.heap.size,1,none⟩ x1).setCell ⟨w.heap.size,2,none⟩ x2).setCell ⟨w.heap.size,3,none⟩ x3).setCell ⟨w.heap.size,4,none⟩ x4) := ((((hg.own' e0 0 x0).own' e0 1 x1).own' e0 2 x2).own' e0 3 x3).own' e0 4 x4
 refine ⟨h0.step hG (((((hp.rs.far' n3 0 x0).far' n3 1 x1).far' n3 2 x2).far' n3 3 x3).far' n3 4 x4) hp.hk hp.hm hp.ho,hG,hl.keep fun b off u hb hu => ⟨by omega,?_⟩⟩
 have hne : w.heap.size ≠ b := by omega
 rw [World.cell?_setCell_far _ _ _ _ hne,World.cell?_setCell_far _ _ _ _ hne,World.cell?_setCell_far _ _ _ _ hne,World.cell?_setCell_far _ _ _ _ hne,World.cell?_setCell_far _ _ _ _ hne]
 exact hu
theorem expr_of (T : List Tp) (k m o : Nat) (t : Nd) (k' m' : Nat) (u : Tp) (hd : CD T (.level 1) k m o t k' m') (hu : T[k']? = some u) (hf : fx u ⟨#[45,62]⟩ = false) : CD T .expr k m o t k' m' := by
 intro g tv w hov hs
 show Calls prog 55 #[.pointer (some ⟨g,0,none⟩)] w _
 have HC : Hid (∀ (tv : Value) (w : World),OvG g w → PS w g tv T k m o → Calls prog 110 #[.pointer (some ⟨g,0,none⟩),.int .i64 1] w fun e w' => ∃ lv,e = .returned (ndV t lv) ∧ LNP (fun b => w.heap.size ≤ b) w' lv t.l ∧ PS w' g tv T k' m' o ∧ Gw g w w' ∧ wfN t) := h_ (fun tv w a b => hd g tv w a b)
 have HS := h_ hs
 have HOV := h_ hov
 have hgl := hs.rs.lt
 have HU := h_ hu
 have HFU := h_ hf
 obtain ⟨w0,hw0,HF0,HB0,HSZ0⟩ := al0 w
 have HW0 := h_ hw0
 have n3 : ¬ w.heap.size = g := by omega
 clear hw0 hgl
 clear hs hov hd hu hf
 go_enter func55,ntmps55
 go_wp2_with fail
 try rw [← HW0.out]
 refine (HC.out tv _ (HOV.out.gw (HF0.out.gw g)) (HS.out.fr HF0.out)).mono ?_
 rintro e w1 ⟨lv,rfl,hl1,hp1,hg1,hwf⟩
 have HWF := h_ hwf
 obtain ⟨la,lc,rfl,_,_,_⟩ := hl1.ln.form
 have HL1 := h_ hl1
 have HP1 := h_ hp1
 have HG1 : Hid (Gw g w w1) := h_ ((HF0.out.gw g).trans hg1)
 have HB1 := h_ (HB0.out.gw hg1 n3)
 have HSZ : Hid (w0.heap.size ≤ w1.heap.size) := h_ hg1.size
 have C2 := h_ (fun W (h : Fr w1 W) => is_any g tv T k' m' o u W (hp1.fr h) HU.out ⟨#[45,62]⟩)
 rw [HFU.out] at C2
 clear hl1 hp1 hg1 hwf
 obtain ⟨q0,hq0,q1,hq1,q2,hq2,q4,hq4⟩ := qs_ t
 obtain ⟨ll,hll⟩ : ∃ x,x = t.l.length := ⟨_,rfl⟩
 have HV : Hid (Ending.returned (.agg #[.int .i64 q0,.int .i64 q1,.string q2,.slice la ll lc,.int .i64 q4]) = Ending.returned (ndV t (.slice la ll lc))) := h_ (by rw [hq0,hq1,hq2,hq4]; rfl)
 unfold ndV
 rw [← hq0,← hq1,← hq2,← hq4,← hll]
 clear hq0 hq1 hq2 hq4
 rw [← hll] at HL1
 have HLL := h_ hll
 clear hll
 have HBL := h_ (Nb.new w1 (.int .i64 q0) (.int .i64 q1) (.string q2) (.slice la ll lc) (.int .i64 q4))
 go_wp2_with fail
 refine (C2.out _ ((Fr.refl w1).alloc _)).mono ?_
 rintro e w2 ⟨rfl,hf2⟩
 have HF2 : Hid (Fr w1 w2) := h_ (((Fr.refl w1).alloc _).trans hf2)
 have HG2 : Hid (Gw g w w2) := h_ (HG1.out.fr HF2.out)
 have HP2 := h_ (HP1.out.fr HF2.out)
 have HB2 := h_ (HB1.out.fr HF2.out)
 have HBL2 := h_ (HBL.out.fr hf2)
 have HL2 : Hid (LNP (fun b => w0.heap.size ≤ b) w2 (.slice la ll lc) t.l) := h_ (HL1.out.keep fun b off x hb hx => ⟨hb,HF2.out.cell hx⟩)
 clear hf2
 obtain ⟨p0,p1,p2,p3,p4⟩ := HBL2.out.cells
 obtain ⟨c0,c1,c2,c3,c4⟩ := HB2.out.cells
 have b0 := HB2.out.free 0
 have b1 := HB2.out.free 1
 have b2 := HB2.out.free 2
 have b3 := HB2.out.free 3
 have b4 := HB2.out.free 4
 go_wp2_with fail
 refine bodyPost_ret (v := .agg #[.int .i64 q0,.int .i64 q1,.string q2,.slice la ll lc,.int .i64 q4]) (by simp [results,results55,go_sem,c0,c1,c2,c3,c4]) rfl ?_
 have HQ := st5_all HS.out HP2.out HG2.out HL2.out (by have := HSZ0.out; omega) n3 (.int .i64 q0) (.int .i64 q1) (.string q2) (.slice la ll lc) (.int .i64 q4)
 exact ⟨_,HV.out,HQ.2.2,HQ.1,HQ.2.1,HWF.out⟩
theorem first_any (T : List Tp) (L : Nat) (hL : L < 10) (h4 : L ≠ 4) (h7 : L ≠ 7) (k m o : Nat) (t : Nd) (k' m' : Nat) (u : Tp) (hu : T[k]? = some u)  (hd : CD T (.level (L + 1)) k m o t k' m') : CD T (.first L) k m o t k' m' := by
 intro g tv w hov hs
 show Calls prog 195 #[.pointer (some ⟨g,0,none⟩),.int .i64 (L : Int)] w _
 have HC : Hid (∀ (tv : Value) (w : World),OvG g w → PS w g tv T k m o → Calls prog 110 #[.pointer (some ⟨g,0,none⟩),.int .i64 ((L + 1 : Nat) : Int)] w fun e w' => ∃ lv,e = .returned (ndV t lv) ∧ LNP (fun b => w.heap.size ≤ b) w' lv t.l ∧ PS w' g tv T k' m' o ∧ Gw g w w' ∧ wfN t) := h_ (fun tv w a b => hd g tv w a b)
 have HS := h_ hs
 have HOV := h_ hov
 have hgl := hs.rs.lt
 obtain ⟨w0,hw0,HF0,HB0,HSZ0⟩ := al0 w
 have HW0 := h_ hw0
 have n3 : ¬ w.heap.size = g := by omega
 clear hw0 hgl
 have z4 : ((L : Int) == 4) = false := by rw [beq_eq_false_iff_ne]; omega
 have z7 : ((L : Int) == 7) = false := by rw [beq_eq_false_iff_ne]; omega
 have z10 : ((L : Int) == 10) = false := by rw [beq_eq_false_iff_ne]; omega
 have i1 := wrap_succ L (by omega)
 obtain ⟨L1,hL1⟩ : ∃ x,x = L + 1 := ⟨_,rfl⟩
 rw [← hL1] at i1 HC
 clear hL1 hL h4 h7
 clear hs hov hd hu
 go_enter func195,ntmps195
 go_wp2_with fail
 try rw [← HW0.out]
 refine (HC.out tv _ (HOV.out.gw (HF0.out.gw g)) (HS.out.fr HF0.out)).mono ?_
 rintro e w2 ⟨lv,rfl,hl2,hp2,hg2,hwf⟩
 have HWF := h_ hwf
 obtain ⟨la,lc,rfl,_,_,_⟩ := hl2.ln.form
 have HL2 := h_ hl2
 have HP2 := h_ hp2
 have HG2 : Hid (Gw g w w2) := h_ ((HF0.out.gw g).trans hg2)
 have HB2 := h_ (HB0.out.gw hg2 n3)
 clear hl2 hp2 hg2 hwf
 obtain ⟨q0,hq0,q1,hq1,q2,hq2,q4,hq4⟩ := qs_ t
 obtain ⟨ll,hll⟩ : ∃ x,x = t.l.length := ⟨_,rfl⟩
 have HV : Hid (Ending.returned (.agg #[.int .i64 q0,.int .i64 q1,.string q2,.slice la ll lc,.int .i64 q4]) = Ending.returned (ndV t (.slice la ll lc))) := h_ (by rw [hq0,hq1,hq2,hq4]; rfl)
 unfold ndV
 rw [← hq0,← hq1,← hq2,← hq4,← hll]
 clear hq0 hq1 hq2 hq4
 rw [← hll] at HL2
 clear hll
 obtain ⟨c0,c1,c2,c3,c4⟩ := HB2.out.cells
 have b0 := HB2.out.free 0
 have b1 := HB2.out.free 1
 have b2 := HB2.out.free 2
 have b3 := HB2.out.free 3
 have b4 := HB2.out.free 4
 go_wp2_with fail
 refine bodyPost_ret (v := .agg #[.int .i64 q0,.int .i64 q1,.string q2,.slice la ll lc,.int .i64 q4]) (by simp [results,results195,go_sem,c0,c1,c2,c3,c4]) rfl ?_
 have HQ := st5_all HS.out HP2.out HG2.out HL2.out (by have := HSZ0.out; omega) n3 (.int .i64 q0) (.int .i64 q1) (.string q2) (.slice la ll lc) (.int .i64 q4)
 exact ⟨_,HV.out,HQ.2.2,HQ.1,HQ.2.1,HWF.out⟩
theorem first_four (T : List Tp)  (k m o : Nat) (t : Nd) (k' m' : Nat) (u : Tp) (hu : T[k]? = some u) (h8 : fx u ⟨#[126]⟩ = false) (hd : CD T (.level 5) k m o t k' m') : CD T (.first 4) k m o t k' m' := by
 intro g tv w hov hs
 show Calls prog 195 #[.pointer (some ⟨g,0,none⟩),.int .i64 4] w _
 have HC : Hid (∀ (tv : Value) (w : World),OvG g w → PS w g tv T k m o → Calls prog 110 #[.pointer (some ⟨g,0,none⟩),.int .i64 5] w fun e w' => ∃ lv,e = .returned (ndV t lv) ∧ LNP (fun b => w.heap.size ≤ b) w' lv t.l ∧ PS w' g tv T k' m' o ∧ Gw g w w' ∧ wfN t) := h_ (fun tv w a b => hd g tv w a b)
 have CI0 := h_ (fun W (h : Fr w W) => is_any g tv T k m o u W (hs.fr h) hu ⟨#[126]⟩)
 rw [h8] at CI0
 have HS := h_ hs
 have HOV := h_ hov
 have hgl := hs.rs.lt
 obtain ⟨w0,hw0,HF0,HB0,HSZ0⟩ := al0 w
 have HW0 := h_ hw0
 have n3 : ¬ w.heap.size = g := by omega
 clear hw0 hgl
 clear hs hov hd hu h8
 go_enter func195,ntmps195
 go_wp2_with fail
 try rw [← HW0.out]
 refine (CI0.out _ HF0.out).mono ?_
 rintro e v0 ⟨rfl,hf1⟩
 have HF1 : Hid (Fr w v0) := h_ (Fr.trans HF0.out hf1)
 have HX0 := h_ (HB0.out.fr hf1)
 have HZ1 : Hid (w.heap.size < v0.heap.size) := h_ (by have := hf1.size; have := HSZ0.out; omega)
 clear hf1
 go_wp2_with fail
 refine (HC.out tv _ (HOV.out.gw (HF1.out.gw g)) (HS.out.fr HF1.out)).mono ?_
 rintro e w2 ⟨lv,rfl,hl2,hp2,hg2,hwf⟩
 have HWF := h_ hwf
 obtain ⟨la,lc,rfl,_,_,_⟩ := hl2.ln.form
 have HL2 := h_ hl2
 have HP2 := h_ hp2
 have HG2 : Hid (Gw g w w2) := h_ ((HF1.out.gw g).trans hg2)
 have HB2 := h_ (HX0.out.gw hg2 n3)
 clear hl2 hp2 hg2 hwf
 obtain ⟨q0,hq0,q1,hq1,q2,hq2,q4,hq4⟩ := qs_ t
 obtain ⟨ll,hll⟩ : ∃ x,x = t.l.length := ⟨_,rfl⟩
 have HV : Hid (Ending.returned (.agg #[.int .i64 q0,.int .i64 q1,.string q2,.slice la ll lc,.int .i64 q4]) = Ending.returned (ndV t (.slice la ll lc))) := h_ (by rw [hq0,hq1,hq2,hq4]; rfl)
 unfold ndV
 rw [← hq0,← hq1,← hq2,← hq4,← hll]
 clear hq0 hq1 hq2 hq4
 rw [← hll] at HL2
 clear hll
 obtain ⟨c0,c1,c2,c3,c4⟩ := HB2.out.cells
 have b0 := HB2.out.free 0
 have b1 := HB2.out.free 1
 have b2 := HB2.out.free 2
 have b3 := HB2.out.free 3
 have b4 := HB2.out.free 4
 go_wp2_with fail
 refine bodyPost_ret (v := .agg #[.int .i64 q0,.int .i64 q1,.string q2,.slice la ll lc,.int .i64 q4]) (by simp [results,results195,go_sem,c0,c1,c2,c3,c4]) rfl ?_
 have HQ := st5_all HS.out HP2.out HG2.out HL2.out (by have := HZ1.out; omega) n3 (.int .i64 q0) (.int .i64 q1) (.string q2) (.slice la ll lc) (.int .i64 q4)
 exact ⟨_,HV.out,HQ.2.2,HQ.1,HQ.2.1,HWF.out⟩
theorem first_seven (T : List Tp)  (k m o : Nat) (t : Nd) (k' m' : Nat) (u : Tp) (hu : T[k]? = some u) (h8 : fx u ⟨#[45]⟩ = false) (hd : CD T (.level 8) k m o t k' m') : CD T (.first 7) k m o t k' m' := by
 intro g tv w hov hs
 show Calls prog 195 #[.pointer (some ⟨g,0,none⟩),.int .i64 7] w _
 have HC : Hid (∀ (tv : Value) (w : World),OvG g w → PS w g tv T k m o → Calls prog 110 #[.pointer (some ⟨g,0,none⟩),.int .i64 8] w fun e w' => ∃ lv,e = .returned (ndV t lv) ∧ LNP (fun b => w.heap.size ≤ b) w' lv t.l ∧ PS w' g tv T k' m' o ∧ Gw g w w' ∧ wfN t) := h_ (fun tv w a b => hd g tv w a b)
 have CI0 := h_ (fun W (h : Fr w W) => is_any g tv T k m o u W (hs.fr h) hu ⟨#[45]⟩)
 rw [h8] at CI0
 have HS := h_ hs
 have HOV := h_ hov
 have hgl := hs.rs.lt
 obtain ⟨w0,hw0,HF0,HB0,HSZ0⟩ := al0 w
 have HW0 := h_ hw0
 have n3 : ¬ w.heap.size = g := by omega
 clear hw0 hgl
 clear hs hov hd hu h8
 go_enter func195,ntmps195
 go_wp2_with fail
 try rw [← HW0.out]
 refine (CI0.out _ HF0.out).mono ?_
 rintro e v0 ⟨rfl,hf1⟩
 have HF1 : Hid (Fr w v0) := h_ (Fr.trans HF0.out hf1)
 have HX0 := h_ (HB0.out.fr hf1)
 have HZ1 : Hid (w.heap.size < v0.heap.size) := h_ (by have := hf1.size; have := HSZ0.out; omega)
 clear hf1
 go_wp2_with fail
 refine (HC.out tv _ (HOV.out.gw (HF1.out.gw g)) (HS.out.fr HF1.out)).mono ?_
 rintro e w2 ⟨lv,rfl,hl2,hp2,hg2,hwf⟩
 have HWF := h_ hwf
 obtain ⟨la,lc,rfl,_,_,_⟩ := hl2.ln.form
 have HL2 := h_ hl2
 have HP2 := h_ hp2
 have HG2 : Hid (Gw g w w2) := h_ ((HF1.out.gw g).trans hg2)
 have HB2 := h_ (HX0.out.gw hg2 n3)
 clear hl2 hp2 hg2 hwf
 obtain ⟨q0,hq0,q1,hq1,q2,hq2,q4,hq4⟩ := qs_ t
 obtain ⟨ll,hll⟩ : ∃ x,x = t.l.length := ⟨_,rfl⟩
 have HV : Hid (Ending.returned (.agg #[.int .i64 q0,.int .i64 q1,.string q2,.slice la ll lc,.int .i64 q4]) = Ending.returned (ndV t (.slice la ll lc))) := h_ (by rw [hq0,hq1,hq2,hq4]; rfl)
 unfold ndV
 rw [← hq0,← hq1,← hq2,← hq4,← hll]
 clear hq0 hq1 hq2 hq4
 rw [← hll] at HL2
 clear hll
 obtain ⟨c0,c1,c2,c3,c4⟩ := HB2.out.cells
 have b0 := HB2.out.free 0
 have b1 := HB2.out.free 1
 have b2 := HB2.out.free 2
 have b3 := HB2.out.free 3
 have b4 := HB2.out.free 4
 go_wp2_with fail
 refine bodyPost_ret (v := .agg #[.int .i64 q0,.int .i64 q1,.string q2,.slice la ll lc,.int .i64 q4]) (by simp [results,results195,go_sem,c0,c1,c2,c3,c4]) rfl ?_
 have HQ := st5_all HS.out HP2.out HG2.out HL2.out (by have := HZ1.out; omega) n3 (.int .i64 q0) (.int .i64 q1) (.string q2) (.slice la ll lc) (.int .i64 q4)
 exact ⟨_,HV.out,HQ.2.2,HQ.1,HQ.2.1,HWF.out⟩
theorem first_ten (T : List Tp)  (k m o : Nat) (t : Nd) (k' m' : Nat) (u : Tp) (hu : T[k]? = some u) (h8 : fx u ⟨#[33]⟩ = false) (h9 : fx u ⟨#[64]⟩ = false) (hd : CD T .calls k m o t k' m') : CD T (.first 10) k m o t k' m' := by
 intro g tv w hov hs
 show Calls prog 195 #[.pointer (some ⟨g,0,none⟩),.int .i64 10] w _
 have HC : Hid (∀ (tv : Value) (w : World),OvG g w → PS w g tv T k m o → Calls prog 242 #[.pointer (some ⟨g,0,none⟩)] w fun e w' => ∃ lv,e = .returned (ndV t lv) ∧ LNP (fun b => w.heap.size ≤ b) w' lv t.l ∧ PS w' g tv T k' m' o ∧ Gw g w w' ∧ wfN t) := h_ (fun tv w a b => hd g tv w a b)
 have CI0 := h_ (fun W (h : Fr w W) => is_any g tv T k m o u W (hs.fr h) hu ⟨#[33]⟩)
 rw [h8] at CI0
 have CI1 := h_ (fun W (h : Fr w W) => is_any g tv T k m o u W (hs.fr h) hu ⟨#[64]⟩)
 rw [h9] at CI1
 have HS := h_ hs
 have HOV := h_ hov
 have hgl := hs.rs.lt
 obtain ⟨w0,hw0,HF0,HB0,HSZ0⟩ := al0 w
 have HW0 := h_ hw0
 have n3 : ¬ w.heap.size = g := by omega
 clear hw0 hgl
 clear hs hov hd hu h8 h9
 go_enter func195,ntmps195
 go_wp2_with fail
 try rw [← HW0.out]
 refine (CI0.out _ HF0.out).mono ?_
 rintro e v0 ⟨rfl,hf1⟩
 have HF1 : Hid (Fr w v0) := h_ (Fr.trans HF0.out hf1)
 have HX0 := h_ (HB0.out.fr hf1)
 have HZ1 : Hid (w.heap.size < v0.heap.size) := h_ (by have := hf1.size; have := HSZ0.out; omega)
 clear hf1
 go_wp2_with fail
 refine (CI1.out _ HF1.out).mono ?_
 rintro e v1 ⟨rfl,hf1⟩
 have HF2 : Hid (Fr w v1) := h_ (Fr.trans HF1.out hf1)
 have HX1 := h_ (HX0.out.fr hf1)
 have HZ2 : Hid (w.heap.size < v1.heap.size) := h_ (by have := hf1.size; have := HZ1.out; omega)
 clear hf1
 go_wp2_with fail
 refine (HC.out tv _ (HOV.out.gw (HF2.out.gw g)) (HS.out.fr HF2.out)).mono ?_
 rintro e w2 ⟨lv,rfl,hl2,hp2,hg2,hwf⟩
 have HWF := h_ hwf
 obtain ⟨la,lc,rfl,_,_,_⟩ := hl2.ln.form
 have HL2 := h_ hl2
 have HP2 := h_ hp2
 have HG2 : Hid (Gw g w w2) := h_ ((HF2.out.gw g).trans hg2)
 have HB2 := h_ (HX1.out.gw hg2 n3)
 clear hl2 hp2 hg2 hwf
 obtain ⟨q0,hq0,q1,hq1,q2,hq2,q4,hq4⟩ := qs_ t
 obtain ⟨ll,hll⟩ : ∃ x,x = t.l.length := ⟨_,rfl⟩
 have HV : Hid (Ending.returned (.agg #[.int .i64 q0,.int .i64 q1,.string q2,.slice la ll lc,.int .i64 q4]) = Ending.returned (ndV t (.slice la ll lc))) := h_ (by rw [hq0,hq1,hq2,hq4]; rfl)
 unfold ndV
 rw [← hq0,← hq1,← hq2,← hq4,← hll]
 clear hq0 hq1 hq2 hq4
 rw [← hll] at HL2
 clear hll
 obtain ⟨c0,c1,c2,c3,c4⟩ := HB2.out.cells
 have b0 := HB2.out.free 0
 have b1 := HB2.out.free 1
 have b2 := HB2.out.free 2
 have b3 := HB2.out.free 3
 have b4 := HB2.out.free 4
 go_wp2_with fail
 refine bodyPost_ret (v := .agg #[.int .i64 q0,.int .i64 q1,.string q2,.slice la ll lc,.int .i64 q4]) (by simp [results,results195,go_sem,c0,c1,c2,c3,c4]) rfl ?_
 have HQ := st5_all HS.out HP2.out HG2.out HL2.out (by have := HZ2.out; omega) n3 (.int .i64 q0) (.int .i64 q1) (.string q2) (.slice la ll lc) (.int .i64 q4)
 exact ⟨_,HV.out,HQ.2.2,HQ.1,HQ.2.1,HWF.out⟩
theorem opF_in {t : Tp} {L : Int} {x : Opr} (h : opF t L = some x) : x ∈ opTab ∧ x.l = L := by
 unfold opF at h
 have h1 := List.mem_of_find?_eq_some h
 have h2 := List.find?_some h
 simp only [Bool.and_eq_true,decide_eq_true_eq] at h2
 exact ⟨h1,h2.1⟩
theorem opTab_wf : ∀ x ∈ opTab,wf64 x.op ∧ wf64 x.n := by
 intro x hx
 unfold opTab at hx
 simp only [List.mem_cons,List.not_mem_nil,or_false] at hx
 rcases hx with rfl | rfl | rfl | rfl | rfl | rfl | rfl | rfl | rfl | rfl | rfl | rfl | rfl | rfl | rfl | rfl | rfl | rfl | rfl | rfl <;> (unfold wf64; exact ⟨by constructor <;> simp only [] <;> omega,by constructor <;> simp only [] <;> omega⟩)
theorem LNP.two {P : Nat → Prop} {w : World} {R : Nat} {a b : Nd} {la lb : Value} (hR : P R)
 (hc : w.heap[R]? = some (.cells #[.int .i64 a.op,.int .i64 a.n,.string a.s,la,.int .i64 a.a,.int .i64 b.op,.int .i64 b.n,.string b.s,lb,.int .i64 b.a] 32 (0,0)))
 (ha : wfN a) (hb : wfN b) (hla : LNP P w la a.l) (hlb : LNP P w lb b.l) : LNP P w (.slice (some ⟨R,0,none⟩) 2 2) [a,b] := by
 refine LNP.mk (some ⟨R,0,none⟩) 2 [a,b] (fun i => if i = 0 then la else lb) (Nat.le_refl _) (by unfold maxLen; omega) (fun h => by cases h) (fun _ => ⟨R,0,rfl,hR,fun i u hu => ?_⟩) (fun u hu => ?_) (fun i u hu => ?_)
 ·match i,hu with
  | 0,hu =>
   simp at hu; subst hu
   exact ⟨by simp [World.cell?,hc],by simp [World.cell?,hc],by simp [World.cell?,hc],by simp [World.cell?,hc],by simp [World.cell?,hc]⟩
  | 1,hu =>
   simp at hu; subst hu
   exact ⟨by simp [World.cell?,hc],by simp [World.cell?,hc],by simp [World.cell?,hc],by simp [World.cell?,hc],by simp [World.cell?,hc]⟩
 ·simp at hu
  rcases hu with rfl | rfl
  ·exact ha
  ·exact hb
 ·match i,hu with
  | 0,hu => simp at hu; subst hu; exact hla
  | 1,hu => simp at hu; subst hu; exact hlb
def nx (g : Nat) (w : World) : Nat := match w.cell? ⟨g,1,none⟩ with
 | some (.int _ k) => k.toNat
 | _ => 0
theorem nx_of {w : World} {g : Nat} {tv : Value} {k m o : Nat} (h : RS w g tv k m o) : nx g w = k := by
 unfold nx
 rw [h.cells.2.1]
 rfl
theorem Ob.al {w : World} {b : Nat} {x0 x1 x2 x3 : Value} (h : Ob w b x0 x1 x2 x3) (x : Obj) : Ob (w.alloc x) b x0 x1 x2 x3 := h.fr ((Fr.refl w).alloc x)
theorem Ob.far {w : World} {b : Nat} {x0 x1 x2 x3 : Value} (h : Ob w b x0 x1 x2 x3) {p : Nat} (hp : ¬ p = b) (i : Nat) (v : Value) : Ob (w.setCell ⟨p,i,none⟩ v) b x0 x1 x2 x3 := by
 unfold Ob at h ⊢
 simp only [World.setCell,Array.getElem?_modify]
 rw [if_neg hp]
 exact h
theorem Nb.set5 {w : World} {b : Nat} {y0 y1 y2 y3 y4 : Value} (h : Nb w b y0 y1 y2 y3 y4) (x0 x1 x2 x3 x4 : Value) :
 Nb (((((w.setCell ⟨b,0,none⟩ x0).setCell ⟨b,1,none⟩ x1).setCell ⟨b,2,none⟩ x2).setCell ⟨b,3,none⟩ x3).setCell ⟨b,4,none⟩ x4) b x0 x1 x2 x3 x4 := by
 unfold Nb at h ⊢
 simp [World.setCell,Array.getElem?_modify,h]
theorem LR_inv {T : List Tp} {h L o : Nat} {a : Nd} {k m : Nat} {t : Nd} {k' m' : Nat} (hr : LR T h L o a k m t k' m') :
 (∃ u,T[k]? = some u ∧ opF u L = none ∧ t = a ∧ k' = k ∧ m' = m) ∨
 (∃ h1 h2 u x b k2 m2,h1 < h ∧ h2 < h ∧ L ≠ 5 ∧ T[k]? = some u ∧ opF u L = some x ∧ Dr T h1 (.level (L + 1)) (k + 1) m o b k2 m2 ∧ m2 + 1 ≤ 20000 ∧ k < k2 ∧ LR T h2 L o (opN x a b) k2 (m2 + 1) t k' m') := by
 cases hr with
 | done _ _ _ _ _ _ u hu hf => exact .inl ⟨u,hu,hf,rfl,rfl,rfl⟩
 | step _ h1 h2 _ _ _ _ _ u x b k2 m2 _ _ _ l1 l2 h5 hu hf d1 hm hkm d2 => exact .inr ⟨h1,h2,u,x,b,k2,m2,l1,l2,h5,hu,hf,d1,hm,hkm,d2⟩
theorem set5_gw {g : Nat} {a w : World} {B : Nat} (h : Gw g a w) (hB : a.heap.size ≤ B) (x0 x1 x2 x3 x4 : Value) :
 Gw g a (((((w.setCell ⟨B,0,none⟩ x0).setCell ⟨B,1,none⟩ x1).setCell ⟨B,2,none⟩ x2).setCell ⟨B,3,none⟩ x3).setCell ⟨B,4,none⟩ x4) :=
 ((((h.own' hB 0 x0).own' hB 1 x1).own' hB 2 x2).own' hB 3 x3).own' hB 4 x4
theorem set5_rs {w : World} {g : Nat} {tv : Value} {k m o : Nat} (h : RS w g tv k m o) {B : Nat} (hp : ¬ B = g) (x0 x1 x2 x3 x4 : Value) :
 RS (((((w.setCell ⟨B,0,none⟩ x0).setCell ⟨B,1,none⟩ x1).setCell ⟨B,2,none⟩ x2).setCell ⟨B,3,none⟩ x3).setCell ⟨B,4,none⟩ x4) g tv k m o :=
 ((((h.far' hp 0 x0).far' hp 1 x1).far' hp 2 x2).far' hp 3 x3).far' hp 4 x4
theorem set5_nb {w : World} {b : Nat} {y0 y1 y2 y3 y4 : Value} (h : Nb w b y0 y1 y2 y3 y4) {B : Nat} (hp : ¬ B = b) (x0 x1 x2 x3 x4 : Value) :
 Nb (((((w.setCell ⟨B,0,none⟩ x0).setCell ⟨B,1,none⟩ x1).setCell ⟨B,2,none⟩ x2).setCell ⟨B,3,none⟩ x3).setCell ⟨B,4,none⟩ x4) b y0 y1 y2 y3 y4 :=
 ((((h.far hp 0 x0).far hp 1 x1).far hp 2 x2).far hp 3 x3).far hp 4 x4
theorem set5_cell {w : World} {B b off : Nat} {u : Value} (h : w.cell? ⟨b,off,none⟩ = some u) (hne : B ≠ b) (x0 x1 x2 x3 x4 : Value) :
 (((((w.setCell ⟨B,0,none⟩ x0).setCell ⟨B,1,none⟩ x1).setCell ⟨B,2,none⟩ x2).setCell ⟨B,3,none⟩ x3).setCell ⟨B,4,none⟩ x4).cell? ⟨b,off,none⟩ = some u := by
 rw [World.cell?_setCell_far _ _ _ _ hne,World.cell?_setCell_far _ _ _ _ hne,World.cell?_setCell_far _ _ _ _ hne,World.cell?_setCell_far _ _ _ _ hne,World.cell?_setCell_far _ _ _ _ hne]
 exact h
theorem level_of (T : List Tp) (h : Nat) (IH : ∀ h',h' < h → ∀ kd k m o t k' m',Dr T h' kd k m o t k' m' → CD T kd k m o t k' m') (L k m o : Nat) (hL : L ≤ 10) (a : Nd) (k1 m1 : Nat) (t : Nd) (k' m' h2 : Nat)
 (hd : CD T (.first L) k m o a k1 m1) (hlt : h2 < h) (hr : LR T h2 L o a k1 m1 t k' m') : CD T (.level L) k m o t k' m' := by
 intro g tv w hov hs
 show Calls prog 110 #[.pointer (some ⟨g,0,none⟩),.int .i64 L] w _
 have HC : Hid (∀ (tv : Value) (w : World),OvG g w → PS w g tv T k m o → Calls prog 195 #[.pointer (some ⟨g,0,none⟩),.int .i64 L] w fun e w' => ∃ lv,e = .returned (ndV a lv) ∧ LNP (fun b => w.heap.size ≤ b) w' lv a.l ∧ PS w' g tv T k1 m1 o ∧ Gw g w w' ∧ wfN a) := h_ (fun tv w x y => hd g tv w x y)
 have HIH := h_ IH
 have HS := h_ hs
 have HOV := h_ hov
 have HR := h_ hr
 have HLT := h_ hlt
 have hgl := hs.rs.lt
 obtain ⟨w0,hw0,HF0,HB0,HSZ0⟩ := al0 w
 have HW0 := h_ hw0
 have n3 : ¬ w.heap.size = g := by omega
 clear hw0 hgl
 have HL10 := h_ hL
 clear hs hov hd hr IH hlt hL
 go_enter func110,ntmps110
 go_wp2_with fail
 try rw [← HW0.out]
 refine (HC.out tv _ (HOV.out.gw (HF0.out.gw g)) (HS.out.fr HF0.out)).mono ?_
 rintro e w1 ⟨lv,rfl,hl1,hp1,hg1,hwf⟩
 obtain ⟨la,lc,rfl,_,_,_⟩ := hl1.ln.form
 have HB1 := h_ (HB0.out.gw hg1 n3)
 obtain ⟨B5,hB5⟩ : ∃ B,B = w1.heap.size := ⟨_,rfl⟩
 have hsz1 := hg1.size
 have hz0 := HSZ0.out
 have n5 : ¬ B5 = g := by have := hp1.rs.lt; omega
 have n5w : ¬ B5 = w.heap.size := by omega
 have n5w' : ¬ w.heap.size = B5 := by omega
 obtain ⟨wl,hwl⟩ : ∃ wl,wl = w1.alloc (.cells #[.int .i64 a.op,.int .i64 a.n,.string a.s,.slice la a.l.length lc,.int .i64 a.a] 32) := ⟨_,rfl⟩
 have hfl : Fr w1 wl := by rw [hwl]; exact (Fr.refl w1).alloc _
 have HWL := h_ hwl
 have hrel0 : Hid (∃ (h3 : Nat) (a : Nd) (k1 m1 : Nat) (lv : Value),h3 < h ∧ LR T h3 L o a k1 m1 t k' m' ∧ Nb wl B5 (.int .i64 a.op) (.int .i64 a.n) (.string a.s) lv (.int .i64 a.a) ∧ LNP (fun b => w0.heap.size ≤ b ∧ b ≠ B5) wl lv a.l ∧ PS wl g tv T k1 m1 o ∧ Gw g w wl ∧ Nb wl w.heap.size (.int .i64 0) (.int .i64 0) (.string ⟨#[]⟩) (.slice none 0 0) (.int .i64 0) ∧ wfN a) :=
  h_ ⟨h2,a,k1,m1,_,HLT.out,HR.out,by rw [hwl,hB5]; exact Nb.new w1 _ _ _ _ _,hl1.keep fun b off x hb hx => ⟨⟨hb,by have := World.block_lt_of_cell? w1 _ hx; simp only [] at this; omega⟩,hfl.cell hx⟩,hp1.fr hfl,((HF0.out.gw g).trans hg1).fr hfl,HB1.out.fr hfl,hwf⟩
 have HSZ1 : Hid (w0.heap.size ≤ B5) := h_ (by omega)
 have HB5 := h_ hB5
 clear hl1 hp1 hg1 hwf hsz1 hz0 hfl hwl hB5
 unfold ndV
 go_wp2_with fail
 rw [← HWL.out]
 try rw [← HB5.out]
 go_loopw [12] (fun _ wr => ∃ (h3 : Nat) (a : Nd) (k1 m1 : Nat) (lv : Value),h3 < h ∧ LR T h3 L o a k1 m1 t k' m' ∧ Nb wr B5 (.int .i64 a.op) (.int .i64 a.n) (.string a.s) lv (.int .i64 a.a) ∧ LNP (fun b => w0.heap.size ≤ b ∧ b ≠ B5) wr lv a.l ∧ PS wr g tv T k1 m1 o ∧ Gw g w wr ∧ Nb wr w.heap.size (.int .i64 0) (.int .i64 0) (.string ⟨#[]⟩) (.slice none 0 0) (.int .i64 0) ∧ wfN a) (fun _ wr => 20002 - nx g wr)
 case atStart => exact hrel0.out
 case round =>
  obtain ⟨h3,a,k1,m1,lv,hh3,hlr,hn,hl,hp,hg,hb,hwf⟩ := hrel
  obtain ⟨ala,alc,rfl,_,_,_⟩ := hl.ln.form
  have HN := h_ hn
  have HL := h_ hl
  have HP := h_ hp
  have HG := h_ hg
  have HB := h_ hb
  have HWF := h_ hwf
  have HINV := h_ (LR_inv hlr)
  have HH3 := h_ hh3
  have hnl := hn.lt
  have hbl := hb.lt
  have HNL := h_ hnl
  clear hn hl hp hg hb hwf hlr hh3 hrel0
  obtain ⟨a0,ha0⟩ : ∃ x,x = a.op := ⟨_,rfl⟩
  obtain ⟨a1,ha1⟩ : ∃ x,x = a.n := ⟨_,rfl⟩
  obtain ⟨a2,ha2⟩ : ∃ x,x = a.s := ⟨_,rfl⟩
  obtain ⟨a4,ha4⟩ : ∃ x,x = a.a := ⟨_,rfl⟩
  obtain ⟨all,hall⟩ : ∃ x,x = a.l.length := ⟨_,rfl⟩
  rw [← ha0,← ha1,← ha2,← ha4,← hall] at HN
  rw [← hall] at HL
  have HAV : Hid (∀ l,Value.agg #[.int .i64 a0,.int .i64 a1,.string a2,l,.int .i64 a4] = ndV a l) := h_ (fun l => by rw [ha0,ha1,ha2,ha4]; rfl)
  have HA4 := h_ ha4
  have HAO := h_ (And.intro ha0 (And.intro ha1 ha2))
  clear ha0 ha1 ha2 ha4 hall
  rcases HINV.out with ⟨u,hu,hf,ht,hk,hm⟩ | ⟨h1,h2,u,x,b,k2,m2,l1,l2,h5,hu,hf,d1,hm,hkm,d2⟩
  ·have HT := h_ ht
   have HK := h_ hk
   have HM := h_ hm
   have C1 := h_ (fun W (h : Fr wr W) => token_any g tv T k1 m1 o u W (HP.out.fr h) hu)
   have C2 : Hid (∀ W,Fr wr W → Calls prog 196 #[tkV u,.int .i64 L] W fun e w' => e = .returned (.tuple #[.agg #[.string ⟨#[]⟩,.int .i64 0,.int .i64 0,.int .i64 0],.bool false]) ∧ Fr W w') := h_ (fun W h => by
    have := operatorAt_any u L W (HOV.out.gw (HG.out.fr h)).ov
    rw [hf] at this
    exact this)
   obtain ⟨tk,htk⟩ : ∃ v,v = tkV u := ⟨_,rfl⟩
   rw [← htk] at C1 C2
   clear ht hk hm hu hf htk
   go_wp2_with fail
   refine (C1.out _ (Fr.refl _)).mono ?_
   rintro e w2 ⟨rfl,hf2⟩
   have HF2 := h_ hf2
   clear hf2
   go_wp2_with fail
   refine (C2.out _ HF2.out).mono ?_
   rintro e w3 ⟨rfl,hf3⟩
   have HF4 := h_ ((HF2.out.trans hf3).alloc (.cells #[.string ⟨#[]⟩,.int .i64 0,.int .i64 0,.int .i64 0] 154))
   clear hf3
   have HN4 := h_ (HN.out.fr HF4.out)
   have HB2 := h_ (HB.out.fr HF4.out)
   have HP2 := h_ (HP.out.fr HF4.out)
   have HG2 := h_ (HG.out.fr HF4.out)
   have HL2 : Hid (LNP (fun b => w0.heap.size ≤ b) (w3.alloc (.cells #[.string ⟨#[]⟩,.int .i64 0,.int .i64 0,.int .i64 0] 154)) (.slice ala all alc) a.l) := h_ (HL.out.keep fun b off x hb hx => ⟨hb.1,HF4.out.cell hx⟩)
   obtain ⟨p0,p1,p2,p3,p4⟩ := HN4.out.cells
   obtain ⟨c0,c1,c2,c3,c4⟩ := HB2.out.cells
   have b0 := HB2.out.free 0
   have b1 := HB2.out.free 1
   have b2 := HB2.out.free 2
   have b3 := HB2.out.free 3
   have b4 := HB2.out.free 4
   go_wp2_with fail
   refine bodyPost_ret (v := .agg #[.int .i64 a0,.int .i64 a1,.string a2,.slice ala all alc,.int .i64 a4]) (by simp [results,results110,go_sem,c0,c1,c2,c3,c4]) rfl ?_
   have HQ := st5_all HS.out HP2.out HG2.out HL2.out HSZ0.out n3 (.int .i64 a0) (.int .i64 a1) (.string a2) (.slice ala all alc) (.int .i64 a4)
   rw [HT.out,HK.out,HM.out]
   exact ⟨_,by rw [HAV.out],HQ.2.2,HQ.1,HQ.2.1,HWF.out⟩
  ·have HD2 := h_ d2
   have HKM := h_ hkm
   have HM2 := h_ hm
   have HL2' := h_ l2
   obtain ⟨hxin,hxl⟩ := opF_in hf
   have HXW := h_ (opTab_wf x hxin)
   have C1 := h_ (fun W (h : Fr wr W) => token_any g tv T k1 m1 o u W (HP.out.fr h) hu)
   have C2 : Hid (∀ W,Fr wr W → Calls prog 196 #[tkV u,.int .i64 L] W fun e w' => e = .returned (.tuple #[oprV x,.bool true]) ∧ Fr W w') := h_ (fun W h => by
    have := operatorAt_any u L W (HOV.out.gw (HG.out.fr h)).ov
    rw [hf] at this
    exact this)
   have C3 : Hid (∀ W,Calls prog 197 #[oprV x] W fun e w' => e = .returned (.int .i64 ((L + 1 : Nat) : Int)) ∧ Fr W w') := h_ (fun W => by
    have := rightLevel_any x (by have := HL10.out; omega) W
    rw [hxl] at this
    exact this)
   have C4 : Hid (∀ (w : World),OvG g w → PS w g tv T (k1 + 1) m1 o → Calls prog 110 #[.pointer (some ⟨g,0,none⟩),.int .i64 ((L + 1 : Nat) : Int)] w fun e w' => ∃ lv,e = .returned (ndV b lv) ∧ LNP (fun b => w.heap.size ≤ b) w' lv b.l ∧ PS w' g tv T k2 m2 o ∧ Gw g w w' ∧ wfN b) := h_ (fun w y z => HIH.out h1 (by have := HH3.out; omega) _ _ _ _ _ _ _ d1 g tv w y z)
   have hkl := HP.out.klt hu
   have HKL := h_ hkl
   have i1 := wrap_succ k1 (by omega)
   have z5 : ((L : Int) == 5) = false := by rw [beq_eq_false_iff_ne]; omega
   obtain ⟨tk,htk⟩ : ∃ v,v = tkV u := ⟨_,rfl⟩
   rw [← htk] at C1 C2
   obtain ⟨xt,hxt⟩ : ∃ y,y = x.t := ⟨_,rfl⟩
   obtain ⟨xo,hxo⟩ : ∃ y,y = x.op := ⟨_,rfl⟩
   obtain ⟨xn,hxn⟩ : ∃ y,y = x.n := ⟨_,rfl⟩
   obtain ⟨xl,hxl2⟩ : ∃ y,y = x.l := ⟨_,rfl⟩
   unfold oprV at C2 C3
   rw [← hxt,← hxo,← hxn,← hxl2] at C2 C3
   have HXO := h_ (And.intro hxo hxn)
   obtain ⟨k3,hk3⟩ : ∃ y,y = k1 + 1 := ⟨_,rfl⟩
   rw [← hk3] at i1 C4
   have HK3 := h_ hk3
   obtain ⟨L1,hL1⟩ : ∃ y,y = L + 1 := ⟨_,rfl⟩
   rw [← hL1] at C3 C4
   clear d2 hkm hm l1 l2 h5 hu hf d1 hxin hxl hkl htk hxt hxo hxn hxl2 hk3 hL1
   go_wp2_with fail
   refine (C1.out _ (Fr.refl _)).mono ?_
   rintro e w2 ⟨rfl,hf2⟩
   have HF2 := h_ hf2
   clear hf2
   go_wp2_with fail
   refine (C2.out _ HF2.out).mono ?_
   rintro e w3 ⟨rfl,hf3⟩
   have HZ3 := h_ (HF2.out.trans hf3).size
   have HF4 := h_ ((HF2.out.trans hf3).alloc (.cells #[.string xt,.int .i64 xo,.int .i64 xn,.int .i64 xl] 154))
   clear hf3
   have HP4 := h_ (HP.out.fr HF4.out)
   obtain ⟨r0,r1,r2,r3⟩ := HP4.out.rs.cells
   have f1 := HP4.out.rs.free 1
   have HO4 : Hid (Ob (w3.alloc (.cells #[.string xt,.int .i64 xo,.int .i64 xn,.int .i64 xl] 154)) w3.heap.size (.string xt) (.int .i64 xo) (.int .i64 xn) (.int .i64 xl)) := h_ (Ob.new w3 _ _ _ _)
   have n6 : ¬ w3.heap.size = g := by have h1 := HP.out.rs.lt; have h2 := HZ3.out; omega
   have n6' : ¬ g = w3.heap.size := fun h => n6 h.symm
   obtain ⟨q60,q61,q62,q63⟩ := HO4.out.cells
   go_wp2_with fail
   have HPN : Hid (PS ((w3.alloc (.cells #[.string xt,.int .i64 xo,.int .i64 xn,.int .i64 xl] 154)).setCell ⟨g,1,none⟩ (.int .i64 (k3 : Int))) g tv T k3 m1 o) := h_ (by rw [HK3.out]; exact HP4.out.next HKL.out)
   have HGN : Hid (Gw g wr ((w3.alloc (.cells #[.string xt,.int .i64 xo,.int .i64 xn,.int .i64 xl] 154)).setCell ⟨g,1,none⟩ (.int .i64 (k3 : Int)))) := h_ ((HF4.out.gw g).set' 1 _)
   refine (C3.out _).mono ?_
   rintro e w4 ⟨rfl,hf4⟩
   have HP4' := h_ (HPN.out.fr hf4)
   have HG4 : Hid (Gw g wr w4) := h_ (HGN.out.fr hf4)
   have HO4' := h_ ((HO4.out.far n6' 1 (.int .i64 (k3 : Int))).fr hf4)
   clear hf4
   go_wp2_with fail
   refine (C4.out _ (HOV.out.gw (HG.out.trans HG4.out)) HP4'.out).mono ?_
   rintro e w5 ⟨lvb,rfl,hlb,hp5,hg5,hwb⟩
   obtain ⟨bla,blc,rfl,_,_,_⟩ := hlb.ln.form
   have HG5 : Hid (Gw g wr w5) := h_ (HG4.out.trans hg5)
   have HP5 := h_ hp5
   have HWB := h_ hwb
   have HLB := h_ hlb
   have HN5 := h_ (HN.out.gw HG5.out n5)
   have HB5' := h_ (HB.out.gw HG5.out n3)
   have HO5 := h_ (HO4'.out.gw hg5 n6)
   have HSZ45 := h_ hg5.size
   clear hlb hp5 hg5 hwb
   obtain ⟨b0,hb0⟩ : ∃ x,x = b.op := ⟨_,rfl⟩
   obtain ⟨b1,hb1⟩ : ∃ x,x = b.n := ⟨_,rfl⟩
   obtain ⟨b2,hb2⟩ : ∃ x,x = b.s := ⟨_,rfl⟩
   obtain ⟨b4,hb4⟩ : ∃ x,x = b.a := ⟨_,rfl⟩
   obtain ⟨bll,hbll⟩ : ∃ x,x = b.l.length := ⟨_,rfl⟩
   unfold ndV
   rw [← hb0,← hb1,← hb2,← hb4,← hbll]
   rw [← hbll] at HLB
   have HBO := h_ (And.intro hb0 (And.intro hb1 (And.intro hb2 hb4)))
   clear hb0 hb1 hb2 hb4 hbll
   have HN6 := h_ (HN5.out.al5 (.cells #[.int .i64 b0,.int .i64 b1,.string b2,.slice bla bll blc,.int .i64 b4] 32))
   have HO6 := h_ (HO5.out.al (.cells #[.int .i64 b0,.int .i64 b1,.string b2,.slice bla bll blc,.int .i64 b4] 32))
   have HN7 := h_ (HN6.out.al5 (.cells #[.int .i64 a0,.int .i64 a1,.string a2,.slice ala all alc,.int .i64 a4,.int .i64 b0,.int .i64 b1,.string b2,.slice bla bll blc,.int .i64 b4] 32))
   have HO7 := h_ (HO6.out.al (.cells #[.int .i64 a0,.int .i64 a1,.string a2,.slice ala all alc,.int .i64 a4,.int .i64 b0,.int .i64 b1,.string b2,.slice bla bll blc,.int .i64 b4] 32))
   have HB8 := h_ (Nb.new w5 (.int .i64 b0) (.int .i64 b1) (.string b2) (.slice bla bll blc) (.int .i64 b4))
   obtain ⟨s0,s1,s2,s3,s4⟩ := HN6.out.cells
   obtain ⟨v0,v1,v2,v3,v4⟩ := HN7.out.cells
   obtain ⟨o0,o1,o2,o3⟩ := HO6.out.cells
   obtain ⟨y0,y1,y2,y3⟩ := HO7.out.cells
   obtain ⟨e0,e1,e2,e3,e4⟩ := HB8.out.cells
   have HF7 : Hid (Fr w5 ((w5.alloc (.cells #[.int .i64 b0,.int .i64 b1,.string b2,.slice bla bll blc,.int .i64 b4] 32)).alloc (.cells #[.int .i64 a0,.int .i64 a1,.string a2,.slice ala all alc,.int .i64 a4,.int .i64 b0,.int .i64 b1,.string b2,.slice bla bll blc,.int .i64 b4] 32))) := h_ (((Fr.refl w5).alloc _).alloc _)
   have C5 : Hid (∀ R,R = w5.heap.size + 1 → Calls prog 115 #[.pointer (some ⟨g,0,none⟩),.agg #[.int .i64 xo,.int .i64 xn,.string ⟨#[]⟩,.slice (some ⟨R,0,none⟩) 2 2,.int .i64 a4]] ((w5.alloc (.cells #[.int .i64 b0,.int .i64 b1,.string b2,.slice bla bll blc,.int .i64 b4] 32)).alloc (.cells #[.int .i64 a0,.int .i64 a1,.string a2,.slice ala all alc,.int .i64 a4,.int .i64 b0,.int .i64 b1,.string b2,.slice bla bll blc,.int .i64 b4] 32)) fun e w' => e = .returned (.agg #[.int .i64 xo,.int .i64 xn,.string ⟨#[]⟩,.slice (some ⟨R,0,none⟩) 2 2,.int .i64 a4]) ∧ PS w' g tv T k2 (m2 + 1) o ∧ Gw g ((w5.alloc (.cells #[.int .i64 b0,.int .i64 b1,.string b2,.slice bla bll blc,.int .i64 b4] 32)).alloc (.cells #[.int .i64 a0,.int .i64 a1,.string a2,.slice ala all alc,.int .i64 a4,.int .i64 b0,.int .i64 b1,.string b2,.slice bla bll blc,.int .i64 b4] 32)) w') :=
    h_ (fun R hR => made_yes g tv T k2 m2 o _ (HP5.out.fr HF7.out) ⟨xo,xn,⟨#[]⟩,[],a4⟩ (some ⟨R,0,none⟩) 2 2 HM2.out)
   go_wp2_with fail
   refine (C5.out _ rfl).mono ?_
   rintro e w8 ⟨rfl,hp8,hg8⟩
   have HP8 := h_ hp8
   have HG7 : Hid (Gw g wr ((w5.alloc (.cells #[.int .i64 b0,.int .i64 b1,.string b2,.slice bla bll blc,.int .i64 b4] 32)).alloc (.cells #[.int .i64 a0,.int .i64 a1,.string a2,.slice ala all alc,.int .i64 a4,.int .i64 b0,.int .i64 b1,.string b2,.slice bla bll blc,.int .i64 b4] 32))) := h_ (HG5.out.fr HF7.out)
   have HG8 := h_ hg8
   have HN8 := h_ (HN7.out.gw hg8 n5)
   have HB8' := h_ ((HB5'.out.fr HF7.out).gw hg8 n3)
   clear hp8 hg8
   obtain ⟨c0,c1,c2,c3,c4⟩ := HN8.out.cells
   have fz0 := HN8.out.free 0
   have fz1 := HN8.out.free 1
   have fz2 := HN8.out.free 2
   have fz3 := HN8.out.free 3
   have fz4 := HN8.out.free 4
   go_wp2_with fail
   have HRS9 := h_ (set5_rs HP8.out.rs n5 (.int .i64 xo) (.int .i64 xn) (.string ⟨#[]⟩) (.slice (some ⟨w5.heap.size + 1,0,none⟩) 2 2) (.int .i64 a4))
   have HGW9 := h_ (set5_gw ((HG.out.trans HG7.out).trans HG8.out) (B := B5) (by have := HSZ1.out; have := HSZ0.out; omega) (.int .i64 xo) (.int .i64 xn) (.string ⟨#[]⟩) (.slice (some ⟨w5.heap.size + 1,0,none⟩) 2 2) (.int .i64 a4))
   have hgs : g < w0.heap.size := by have h1 := HS.out.rs.lt; have h2 := HSZ0.out; omega
   have HGS := h_ hgs
   clear hgs
   have HL9 : Hid (LNP (fun b => w0.heap.size ≤ b ∧ b ≠ B5) (((((w8.setCell ⟨B5,0,none⟩ (.int .i64 xo)).setCell ⟨B5,1,none⟩ (.int .i64 xn)).setCell ⟨B5,2,none⟩ (.string ⟨#[]⟩)).setCell ⟨B5,3,none⟩ (.slice (some ⟨w5.heap.size + 1,0,none⟩) 2 2)).setCell ⟨B5,4,none⟩ (.int .i64 a4)) (.slice (some ⟨w5.heap.size + 1,0,none⟩) 2 2) [a,b]) := h_ (by
    have hz1 := HSZ1.out
    have hz2 := HNL.out
    have hz3 := HG4.out.size
    have hz4 := HSZ45.out
    have hz5 := HGS.out
    have h7 : LNP (fun b => w0.heap.size ≤ b ∧ b ≠ B5) ((w5.alloc (.cells #[.int .i64 b0,.int .i64 b1,.string b2,.slice bla bll blc,.int .i64 b4] 32)).alloc (.cells #[.int .i64 a0,.int .i64 a1,.string a2,.slice ala all alc,.int .i64 a4,.int .i64 b0,.int .i64 b1,.string b2,.slice bla bll blc,.int .i64 b4] 32)) (.slice (some ⟨w5.heap.size + 1,0,none⟩) 2 2) [a,b] := by
     refine LNP.two ⟨by omega,by omega⟩ ?_ HWF.out HWB.out (HL.out.keep fun b off x hb hx => ⟨hb,HG7.out.cell hx (by omega)⟩) (HLB.out.keep fun b off x hb hx => ⟨⟨by omega,by omega⟩,HF7.out.cell hx⟩)
     rw [← HAO.out.1,← HAO.out.2.1,← HAO.out.2.2,← HA4.out,← HBO.out.1,← HBO.out.2.1,← HBO.out.2.2.1,← HBO.out.2.2.2]
     rw [show w5.heap.size + 1 = (w5.alloc (.cells #[.int .i64 b0,.int .i64 b1,.string b2,.slice bla bll blc,.int .i64 b4] 32)).heap.size by simp]
     simp only [World.alloc,Array.getElem?_push_size]
    exact h7.keep fun b off x hb hx => ⟨hb,set5_cell (HG8.out.cell hx (by omega)) (by omega) _ _ _ _ _⟩)
   go_roundw
   case rel =>
    refine ⟨h2,opN x a b,k2,m2 + 1,.slice (some ⟨w5.heap.size + 1,0,none⟩) 2 2,by have h1 := HL2'.out; have h2 := HH3.out; omega,HD2.out,?_,HL9.out,HS.out.step HGW9.out HRS9.out HP8.out.hk HP8.out.hm HP8.out.ho,HGW9.out,set5_nb HB8'.out n5w _ _ _ _ _,⟨HXW.out.1,HXW.out.2,HWF.out.a,by show (0 : Nat) ≤ _; omega⟩⟩
    show Nb _ B5 (.int .i64 x.op) (.int .i64 x.n) (.string ⟨#[]⟩) _ (.int .i64 a.a)
    rw [← HXO.out.1,← HXO.out.2,← HA4.out]
    exact HN8.out.set5 _ _ _ _ _
   case measure =>
    rw [nx_of HRS9.out,nx_of HP.out.rs]
    have h1 := HP8.out.hk
    have h2 := HKM.out
    omega
section
variable {P : Program} {w : World}
theorem run_append_full (base : Nat) (t ty e : TypeId) (i : TypeInfo) (z : Value) (size bytes : Nat) (ht : P.underlying t = some (.slice e)) (hi : P.info? e = some i) (hz : i.zero = some z)
 (hsize : i.size = size) (hby : i.bytes = bytes) (hzs : z.cells.size = size) (hsz : 0 < size)
 (g n : Nat) (xs : List Value) (hown : w.ownsRow base e size (.slice (some ⟨g,0,none⟩) n n) n xs)
 (a : Addr) (m c : Nat) (news : List Value) (hl : news.length = m * size) (hnews : ∀ j u,news[j]? = some u → w.cell? (a.add j) = some u) (h1 : ∀ u ∈ news,u.oneCell' = true)
 (hm : 0 < m) (h63 : n + m ≤ maxLen) (hbytes : (n + m) * bytes ≤ 140737488355328) (hbase : base ≤ w.heap.size) :
 ∃ v' w',(Builtin.append_ #[t,t] ty #[.slice (some ⟨g,0,none⟩) n n,.slice (some a) m c]).run P w = .ok v' w' ∧ w'.ownsRow base e size v' (n + m) (xs ++ news) ∧ Fr w w' ∧ v'.ownBlock = some w.heap.size := by
 obtain ⟨v',w',hr,h2,h3,_⟩ := run_append_own (P := P) (w := w) base t ty e i z size bytes ht hi hz hsize hby hzs hsz _ n xs hown a m c news hl hnews h1 h63 hbytes hbase
 subst hsize
 subst hby
 have hq := run_append_grow (P := P) w t ty e i z ht hi hz ⟨g,0,none⟩ n n xs hown.1 (hown.cells (g := g) rfl) a m c news hl hnews (by omega) (by simp only [maxLen] at h63; omega) (growslice_fits (by omega) hbytes)
 have hr' := hr
 rw [hq] at hr'
 obtain ⟨e1,e2⟩ : _ = v' ∧ _ = w' := by simpa using hr'
 refine ⟨v',w',hr,h2,?_,by rw [← e1]; rfl⟩
 rw [← e2]
 exact ((Fr.refl w).drew).alloc _
theorem wp_append_full {o : Oper} {a : Act} {K : Act → World → Prop} {Q : Exit → Act → World → Prop} (s x : Operand) (t : TypeId)
 (ho : o.op = .call { callee := .builtin .append,args := #[s,x],argTypes := #[t,t] })
 (base : Nat) (e : TypeId) (i : TypeInfo) (z : Value) (size bytes : Nat) (ht : P.underlying t = some (.slice e)) (hi : P.info? e = some i) (hz : i.zero = some z)
 (hsize : i.size = size) (hby : i.bytes = bytes) (hzs : z.cells.size = size) (hsz : 0 < size)
 (g n : Nat) (xs : List Value) (hs : a.eval s = .slice (some ⟨g,0,none⟩) n n) (hown : w.ownsRow base e size (.slice (some ⟨g,0,none⟩) n n) n xs)
 (ad : Addr) (m c : Nat) (news : List Value) (hx : a.eval x = .slice (some ad) m c) (hl : news.length = m * size) (hnews : ∀ j u,news[j]? = some u → w.cell? (ad.add j) = some u) (h1 : ∀ u ∈ news,u.oneCell' = true)
 (hm : 0 < m) (h63 : n + m ≤ maxLen) (hbytes : (n + m) * bytes ≤ 140737488355328) (hbase : base ≤ w.heap.size)
 (h : ∀ v' w',w'.ownsRow base e size v' (n + m) (xs ++ news) → Fr w w' → v'.ownBlock = some w.heap.size → K (a.put o.dst v') w') : o.wp P a w K Q := by
 obtain ⟨v',w',hr,h2,h3,h4⟩ := run_append_full (P := P) (w := w) base t o.type e i z size bytes ht hi hz hsize hby hzs hsz g n xs hown ad m c news hl hnews h1 hm h63 hbytes hbase
 unfold Oper.wp
 simp [execOp,ho,resolve,invoke,builtin,hs,hx,hr,Result.andThen]
 exact h v' w' h2 h3 h4
end
theorem LNP.row2 {P : Nat → Prop} {w : World} {v : Value} {a e : Nd} {la le : Value} {G : Nat} (h : w.ownsRow 0 32 5 v 2 (ncells a la ++ ncells e le)) (hG : v.ownBlock = some G) (hP : P G)
 (ha : wfN a) (he : wfN e) (hla : LNP P w la a.l) (hle : LNP P w le e.l) : LNP P w v [a,e] := by
 rcases h.2 with ⟨rfl,h0⟩ | ⟨g,cap,cur,rfl,hb,hg,hm,hmx,hsz,ht⟩
 ·omega
 ·obtain rfl : g = G := by simpa [Value.ownBlock] using hG
  have key : ∀ (j : Nat) (x : Value),j < 10 → (ncells a la ++ ncells e le)[j]? = some x → w.cell? ⟨g,j,none⟩ = some x := fun j x hj hx => by
   rw [← ht,List.getElem?_take_of_lt (by omega)] at hx
   simp only [World.cell?,hg]
   simpa using hx
  refine LNP.mk _ cap [a,e] (fun i => if i = 0 then la else le) hm hmx (fun h => by cases h) (fun _ => ⟨g,0,rfl,hP,fun i t hi => ?_⟩) (fun u hu => ?_) (fun i u hu => ?_)
  ·match i,hi with
   | 0,hi =>
    simp at hi; subst hi
    exact ⟨key 0 _ (by omega) rfl,key 1 _ (by omega) rfl,key 2 _ (by omega) rfl,key 3 _ (by omega) rfl,key 4 _ (by omega) rfl⟩
   | 1,hi =>
    simp at hi; subst hi
    exact ⟨key 5 _ (by omega) rfl,key 6 _ (by omega) rfl,key 7 _ (by omega) rfl,key 8 _ (by omega) rfl,key 9 _ (by omega) rfl⟩
  ·simp at hu
   rcases hu with rfl | rfl
   ·exact ha
   ·exact he
  ·match i,hu with
   | 0,hu => simp at hu; subst hu; exact hla
   | 1,hu => simp at hu; subst hu; exact hle
theorem expressions_two (T : List Tp) (k m o : Nat) (a t : Nd) (k1 m1 : Nat) (v u : Tp) (hv : T[k]? = some v) (hd : CD T .expr k m o t k1 m1) (hu : T[k1]? = some u) (hf : fx u ⟨#[44]⟩ = false)
 (g : Nat) (tv : Value) (w : World) (hov : OvG g w) (hs : PS w g tv T k m o) (R : Nat) (la : Value) (hrow : w.ownsRow 0 32 5 (.slice (some ⟨R,0,none⟩) 1 1) 1 (ncells a la)) (hRg : R ≠ g) (hwa : wfN a)
 (P : Nat → Prop) (hP1 : ∀ b,P b → b ≠ g) (hP2 : ∀ b,w.heap.size ≤ b → P b) (hla : LNP P w la a.l) :
 Calls prog 246 #[.pointer (some ⟨g,0,none⟩),.slice (some ⟨R,0,none⟩) 1 1,.int .i64 9] w fun e' w' => ∃ ra rc,e' = .returned (.slice ra 2 rc) ∧ LNP P w' (.slice ra 2 rc) [a,t] ∧ PS w' g tv T k1 m1 o ∧ Gw g w w' := by
 have C1 := h_ (fun W (h : Fr w W) => token_any g tv T k m o v W (hs.fr h) hv)
 have C2 : Hid (∀ W,Fr w W → Calls prog 55 #[.pointer (some ⟨g,0,none⟩)] W fun e w' => ∃ lv,e = .returned (ndV t lv) ∧ LNP (fun b => W.heap.size ≤ b) w' lv t.l ∧ PS w' g tv T k1 m1 o ∧ Gw g W w' ∧ wfN t) := h_ (fun W h => hd g tv W (hov.gw (h.gw g)) (hs.fr h))
 have C3 : Hid (∀ W,PS W g tv T k1 m1 o → Calls prog 99 #[.pointer (some ⟨g,0,none⟩),.string ⟨#[44]⟩] W fun e w' => e = .returned (.bool false) ∧ Fr W w') := h_ (fun W h => take_no g tv T k1 m1 o u W h hu ⟨#[44]⟩ hf)
 have HROW := h_ hrow
 have HLA := h_ hla
 have HWA := h_ hwa
 have HP1 := h_ hP1
 have HP2 := h_ hP2
 have HRG := h_ hRg
 obtain ⟨i0,hi0,hz0,hz1,hz2⟩ := info_of Tryz.infoNode
 have HI := h_ (And.intro hi0 (And.intro hz0 (And.intro hz1 hz2)))
 obtain ⟨tk,htk⟩ : ∃ x,x = tkV v := ⟨_,rfl⟩
 unfold tkV at htk
 obtain ⟨x0,hx0⟩ : ∃ x : Int,x = v.k := ⟨_,rfl⟩
 obtain ⟨x3,hx3⟩ : ∃ x : Int,x = v.a := ⟨_,rfl⟩
 obtain ⟨x1,hx1⟩ : ∃ x,x = v.t := ⟨_,rfl⟩
 obtain ⟨x2,hx2⟩ : ∃ x,x = v.n := ⟨_,rfl⟩
 unfold tkV at C1
 rw [← hx0,← hx1,← hx2,← hx3] at C1
 clear hv hd hu hf hov hs hrow hla hwa hP1 hP2 hi0 hz0 hz1 hz2 htk hx0 hx1 hx2 hx3 hRg
 go_enter func246,ntmps246
 go_wp2_with fail
 go_loopw [1] (fun s1 wr => s1 = .slice (some ⟨R,0,none⟩) 1 1 ∧ w = wr) (fun _ _ => 0)
 case atStart => exact ⟨rfl,rfl⟩
 case round =>
  obtain ⟨rfl,rfl⟩ := hrel
  go_wp2_with fail
  refine (C1.out _ (Fr.refl _)).mono ?_
  rintro e w1 ⟨rfl,hf1⟩
  have HF1 := h_ (hf1.alloc (.cells #[.int .i64 x0,.string x1,.int .i64 x2,.int .i64 x3] 98))
  clear hf1
  go_wp2_with fail
  refine (C2.out _ HF1.out).mono ?_
  rintro e w2 ⟨lv,rfl,hl2,hp2,hg2,hwf⟩
  obtain ⟨la0,lc,rfl,_,_,_⟩ := hl2.ln.form
  have HWF := h_ hwf
  have HP := h_ hp2
  have HG2 : Hid (Gw g w w2) := h_ ((HF1.out.gw g).trans hg2)
  have HL2 : Hid (LNP P w2 (.slice la0 t.l.length lc) t.l) := h_ (hl2.keep fun b off x hb hx => ⟨HP2.out b (by have := HF1.out.size; omega),hx⟩)
  have HLA2 : Hid (LNP P w2 la a.l) := h_ (HLA.out.keep fun b off x hb hx => ⟨hb,HG2.out.cell hx (HP1.out b hb)⟩)
  clear hl2 hp2 hg2 hwf
  obtain ⟨ll,hll⟩ : ∃ x,x = t.l.length := ⟨_,rfl⟩
  rw [← hll] at HL2
  have hsz2 := HG2.out.size
  have HSZ2 := h_ hsz2
  unfold ndV
  rw [← hll]
  have HXS : Hid (∀ j u,(ncells t (.slice la0 ll lc))[j]? = some u → (w2.alloc (.cells #[.int .i64 t.op,.int .i64 t.n,.string t.s,.slice la0 ll lc,.int .i64 t.a] 32)).cell? ((⟨w2.heap.size,0,none⟩ : Addr).add j) = some u) := h_ (Nb.news (Nb.new w2 _ _ _ _ _))
  have HRW : Hid ((w2.alloc (.cells #[.int .i64 t.op,.int .i64 t.n,.string t.s,.slice la0 ll lc,.int .i64 t.a] 32)).ownsRow 0 32 5 (.slice (some ⟨R,0,none⟩) 1 1) 1 (ncells a la)) := h_ (HROW.out.kept (HG2.out.alloc _) (.inr (by simp only [Value.ownBlock]; intro e; injection e with e; exact HRG.out e)))
  clear hll hsz2
  go_wp2_with (with_reducible refine stop_append_n ?_)
  unfold StopN
  refine wpList_plain rfl fun K hK => ?_
  refine wp_append_full (.tmp 22) (.tmp 25) 22 rfl 0 32 i0 _ 5 64 underlying22 HI.out.1 HI.out.2.1 HI.out.2.2.1 HI.out.2.2.2 rfl (by omega) R 1 (ncells a la) (by rfl) HRW.out ⟨w2.heap.size,0,none⟩ 1 1 (ncells t (.slice la0 ll lc)) (by rfl) (by rfl) HXS.out (ncells_one _ _ _ _) (by omega) (by unfold maxLen; omega) (by omega) (Nat.zero_le _) fun v2 w3 hown2 hf3 hb3 => hK _ _ ?_
  have HF3 : Hid (Fr w2 w3) := h_ (((Fr.refl w2).alloc _).trans hf3)
  have HP3 := h_ (HP.out.fr HF3.out)
  have HL3 : Hid (LNP P w3 v2 [a,t]) := h_ (LNP.row2 hown2 hb3 (HP2.out _ (by have := HSZ2.out; rw [size_alloc']; omega)) HWA.out HWF.out (HLA2.out.keep fun b off x hb hx => ⟨hb,HF3.out.cell hx⟩) (HL2.out.keep fun b off x hb hx => ⟨hb,HF3.out.cell hx⟩))
  obtain ⟨ra,rc,rfl⟩ := own_form5 hown2
  clear hown2 hf3 hb3 hK
  go_wp2_with fail
  refine (C3.out _ HP3.out).mono ?_
  rintro e w4 ⟨rfl,hf4⟩
  have HF4 := h_ hf4
  clear hf4
  go_wp2_with fail
  go_ret
  exact ⟨ra,rc,rfl,HL3.out.keep fun b off x hb hx => ⟨hb,HF4.out.cell hx⟩,HP3.out.fr HF4.out,(HG2.out.fr HF3.out).fr HF4.out⟩
theorem CR_inv {T : List Tp} {h o : Nat} {a : Nd} {k m : Nat} {t : Nd} {k' m' : Nat} (hr : CR T h o a k m t k' m') :
 (∃ u,T[k]? = some u ∧ fx u ⟨#[40]⟩ = false ∧ t = a ∧ k' = k ∧ m' = m) ∨
 (∃ h1 h2 u u1 u2 l k2 m2,h1 < h ∧ h2 < h ∧ T[k]? = some u ∧ fx u ⟨#[40]⟩ = true ∧ o + 1 ≤ 160 ∧ T[k + 1]? = some u1 ∧ fx u1 ⟨#[41]⟩ = false ∧ AR T h1 9 (o + 1) [a] (k + 1) m l k2 m2 ∧ T[k2]? = some u2 ∧ fx u2 ⟨#[41]⟩ = true ∧ m2 + 1 ≤ 20000 ∧ k < k2 ∧ CR T h2 o (callN a l) (k2 + 1) (m2 + 1) t k' m') := by
 cases hr with
 | done _ _ _ _ _ u hu hf => exact .inl ⟨u,hu,hf,rfl,rfl,rfl⟩
 | step _ h1 h2 _ _ _ _ u u1 u2 l k2 m2 _ _ _ l1 l2 hu hf ho hu1 hf1 d1 hu2 hf2 hm hkm d2 => exact .inr ⟨h1,h2,u,u1,u2,l,k2,m2,l1,l2,hu,hf,ho,hu1,hf1,d1,hu2,hf2,hm,hkm,d2⟩
theorem AR_inv {T : List Tp} {h most o : Nat} {a : Nd} {k m : Nat} {l : List Nd} {k' m' : Nat} (hr : AR T h most o [a] k m l k' m') :
 ∃ h1 e u v,h1 < h ∧ l = [a,e] ∧ T[k]? = some v ∧ Dr T h1 .expr k m o e k' m' ∧ T[k']? = some u ∧ fx u ⟨#[44]⟩ = false := by
 cases hr with
 | last _ h1 _ _ _ _ _ e _ _ u v l1 hl hv d hu hf => exact ⟨h1,e,u,v,l1,rfl,hv,d,hu,hf⟩
theorem calls_of (T : List Tp) (h : Nat) (IH : ∀ h',h' < h → ∀ kd k m o t k' m',Dr T h' kd k m o t k' m' → CD T kd k m o t k' m') (k m o : Nat) (a : Nd) (k1 m1 : Nat) (t : Nd) (k' m' h2 : Nat)
 (hd : CD T .simple k m o a k1 m1) (hlt : h2 < h) (hr : CR T h2 o a k1 m1 t k' m') : CD T .calls k m o t k' m' := by
 intro g tv w hov hs
 show Calls prog 242 #[.pointer (some ⟨g,0,none⟩)] w _
 have HC : Hid (∀ (tv : Value) (w : World),OvG g w → PS w g tv T k m o → Calls prog 262 #[.pointer (some ⟨g,0,none⟩)] w fun e w' => ∃ lv,e = .returned (ndV a lv) ∧ LNP (fun b => w.heap.size ≤ b) w' lv a.l ∧ PS w' g tv T k1 m1 o ∧ Gw g w w' ∧ wfN a) := h_ (fun tv w x y => hd g tv w x y)
 have HIH := h_ IH
 have HS := h_ hs
 have HOV := h_ hov
 have HR := h_ hr
 have HLT := h_ hlt
 have hgl := hs.rs.lt
 obtain ⟨w0,hw0,HF0,HB0,HSZ0⟩ := al0 w
 have HW0 := h_ hw0
 have n3 : ¬ w.heap.size = g := by omega
 clear hw0 hgl
 clear hs hov hd hr IH hlt
 go_enter func242,ntmps242
 go_wp2_with fail
 try rw [← HW0.out]
 refine (HC.out tv _ (HOV.out.gw (HF0.out.gw g)) (HS.out.fr HF0.out)).mono ?_
 rintro e w1 ⟨lv,rfl,hl1,hp1,hg1,hwf⟩
 obtain ⟨la,lc,rfl,_,_,_⟩ := hl1.ln.form
 have HB1 := h_ (HB0.out.gw hg1 n3)
 obtain ⟨B5,hB5⟩ : ∃ B,B = w1.heap.size := ⟨_,rfl⟩
 have hsz1 := hg1.size
 have hz0 := HSZ0.out
 have n5 : ¬ B5 = g := by have := hp1.rs.lt; omega
 have n5w : ¬ B5 = w.heap.size := by omega
 have n5w' : ¬ w.heap.size = B5 := by omega
 obtain ⟨wl,hwl⟩ : ∃ wl,wl = w1.alloc (.cells #[.int .i64 a.op,.int .i64 a.n,.string a.s,.slice la a.l.length lc,.int .i64 a.a] 32) := ⟨_,rfl⟩
 have hfl : Fr w1 wl := by rw [hwl]; exact (Fr.refl w1).alloc _
 have HWL := h_ hwl
 have hrel0 : Hid (∃ (h3 : Nat) (a : Nd) (k1 m1 : Nat) (lv : Value),h3 < h ∧ CR T h3 o a k1 m1 t k' m' ∧ Nb wl B5 (.int .i64 a.op) (.int .i64 a.n) (.string a.s) lv (.int .i64 a.a) ∧ LNP (fun b => w0.heap.size ≤ b ∧ b ≠ B5) wl lv a.l ∧ PS wl g tv T k1 m1 o ∧ Gw g w wl ∧ Nb wl w.heap.size (.int .i64 0) (.int .i64 0) (.string ⟨#[]⟩) (.slice none 0 0) (.int .i64 0) ∧ wfN a) :=
  h_ ⟨h2,a,k1,m1,_,HLT.out,HR.out,by rw [hwl,hB5]; exact Nb.new w1 _ _ _ _ _,hl1.keep fun b off x hb hx => ⟨⟨hb,by have := World.block_lt_of_cell? w1 _ hx; simp only [] at this; omega⟩,hfl.cell hx⟩,hp1.fr hfl,((HF0.out.gw g).trans hg1).fr hfl,HB1.out.fr hfl,hwf⟩
 have HSZ1 : Hid (w0.heap.size ≤ B5) := h_ (by omega)
 have HB5 := h_ hB5
 clear hl1 hp1 hg1 hwf hsz1 hz0 hfl hwl hB5
 unfold ndV
 go_wp2_with fail
 rw [← HWL.out]
 try rw [← HB5.out]
 go_loopw [8] (fun _ wr => ∃ (h3 : Nat) (a : Nd) (k1 m1 : Nat) (lv : Value),h3 < h ∧ CR T h3 o a k1 m1 t k' m' ∧ Nb wr B5 (.int .i64 a.op) (.int .i64 a.n) (.string a.s) lv (.int .i64 a.a) ∧ LNP (fun b => w0.heap.size ≤ b ∧ b ≠ B5) wr lv a.l ∧ PS wr g tv T k1 m1 o ∧ Gw g w wr ∧ Nb wr w.heap.size (.int .i64 0) (.int .i64 0) (.string ⟨#[]⟩) (.slice none 0 0) (.int .i64 0) ∧ wfN a) (fun _ wr => 20002 - nx g wr)
 case atStart => exact hrel0.out
 case round =>
  obtain ⟨h3,a,k1,m1,lv,hh3,hlr,hn,hl,hp,hg,hb,hwf⟩ := hrel
  obtain ⟨ala,alc,rfl,_,_,_⟩ := hl.ln.form
  have HN := h_ hn
  have HL := h_ hl
  have HP := h_ hp
  have HG := h_ hg
  have HB := h_ hb
  have HWF := h_ hwf
  have HINV := h_ (CR_inv hlr)
  have HH3 := h_ hh3
  have HNL := h_ hn.lt
  clear hn hl hp hg hb hwf hlr hh3 hrel0
  obtain ⟨a0,ha0⟩ : ∃ x,x = a.op := ⟨_,rfl⟩
  obtain ⟨a1,ha1⟩ : ∃ x,x = a.n := ⟨_,rfl⟩
  obtain ⟨a2,ha2⟩ : ∃ x,x = a.s := ⟨_,rfl⟩
  obtain ⟨a4,ha4⟩ : ∃ x,x = a.a := ⟨_,rfl⟩
  obtain ⟨all,hall⟩ : ∃ x,x = a.l.length := ⟨_,rfl⟩
  rw [← ha0,← ha1,← ha2,← ha4,← hall] at HN
  rw [← hall] at HL
  have HAV : Hid (∀ l,Value.agg #[.int .i64 a0,.int .i64 a1,.string a2,l,.int .i64 a4] = ndV a l) := h_ (fun l => by rw [ha0,ha1,ha2,ha4]; rfl)
  have HNC : Hid (∀ l,ncells a l = [.int .i64 a0,.int .i64 a1,.string a2,l,.int .i64 a4]) := h_ (fun l => by rw [ha0,ha1,ha2,ha4]; rfl)
  have HA4 := h_ ha4
  clear ha0 ha1 ha2 ha4 hall
  rcases HINV.out with ⟨u,hu,hf,ht,hk,hm⟩ | ⟨h1,h2,u,u1,u2,l,k2,m2,l1,l2,hu,hf,ho,hu1,hf1,d1,hu2,hf2,hm,hkm,d2⟩
  ·have HT := h_ ht
   have HK := h_ hk
   have HM := h_ hm
   have C1 : Hid (∀ W,Fr wr W → Calls prog 111 #[.pointer (some ⟨g,0,none⟩),.string ⟨#[40]⟩] W fun e w' => e = .returned (.bool false) ∧ Fr W w') := h_ (fun W h => by
    have := is_any g tv T k1 m1 o u W (HP.out.fr h) hu ⟨#[40]⟩
    rw [hf] at this
    exact this)
   clear ht hk hm hu hf
   go_wp2_with fail
   refine (C1.out _ (Fr.refl _)).mono ?_
   rintro e w2 ⟨rfl,hf2⟩
   have HF4 := h_ hf2
   clear hf2
   have HN4 := h_ (HN.out.fr HF4.out)
   have HB2 := h_ (HB.out.fr HF4.out)
   have HP2 := h_ (HP.out.fr HF4.out)
   have HG2 := h_ (HG.out.fr HF4.out)
   have HL2 : Hid (LNP (fun b => w0.heap.size ≤ b) w2 (.slice ala all alc) a.l) := h_ (HL.out.keep fun b off x hb hx => ⟨hb.1,HF4.out.cell hx⟩)
   obtain ⟨p0,p1,p2,p3,p4⟩ := HN4.out.cells
   obtain ⟨c0,c1,c2,c3,c4⟩ := HB2.out.cells
   have b0 := HB2.out.free 0
   have b1 := HB2.out.free 1
   have b2 := HB2.out.free 2
   have b3 := HB2.out.free 3
   have b4 := HB2.out.free 4
   go_wp2_with fail
   refine bodyPost_ret (v := .agg #[.int .i64 a0,.int .i64 a1,.string a2,.slice ala all alc,.int .i64 a4]) (by simp [results,results242,go_sem,c0,c1,c2,c3,c4]) rfl ?_
   have HQ := st5_all HS.out HP2.out HG2.out HL2.out HSZ0.out n3 (.int .i64 a0) (.int .i64 a1) (.string a2) (.slice ala all alc) (.int .i64 a4)
   rw [HT.out,HK.out,HM.out]
   exact ⟨_,by rw [HAV.out],HQ.2.2,HQ.1,HQ.2.1,HWF.out⟩
  ·obtain ⟨h4,e,u3,v,l4,rfl,hv,de,hu3,hf3⟩ := AR_inv d1
   have HD2 := h_ d2
   have HKM := h_ hkm
   have HM2 := h_ hm
   have HLT2 := h_ l2
   have hgs : g < w0.heap.size := by have h1 := HS.out.rs.lt; have h2 := HSZ0.out; omega
   have HGS := h_ hgs
   have C1 : Hid (∀ W,Fr wr W → Calls prog 111 #[.pointer (some ⟨g,0,none⟩),.string ⟨#[40]⟩] W fun e w' => e = .returned (.bool true) ∧ Fr W w') := h_ (fun W h => by
    have := is_any g tv T k1 m1 o u W (HP.out.fr h) hu ⟨#[40]⟩
    rw [hf] at this
    exact this)
   have C2 : Hid (∀ W,PS W g tv T k1 m1 o → Calls prog 112 #[.pointer (some ⟨g,0,none⟩),.string ⟨#[40]⟩] W fun e w' => e = .returned (.tuple #[]) ∧ PS w' g tv T (k1 + 1) m1 (o + 1) ∧ Gw g W w') := h_ (fun W h => enter_yes g tv T k1 m1 o u W h hu ⟨#[40]⟩ hf ho)
   have C3 : Hid (∀ W,PS W g tv T (k1 + 1) m1 (o + 1) → Calls prog 111 #[.pointer (some ⟨g,0,none⟩),.string ⟨#[41]⟩] W fun e w' => e = .returned (.bool false) ∧ Fr W w') := h_ (fun W h => by
    have := is_any g tv T (k1 + 1) m1 (o + 1) u1 W h hu1 ⟨#[41]⟩
    rw [hf1] at this
    exact this)
   have C4 : Hid (∀ W,OvG g W → PS W g tv T (k1 + 1) m1 (o + 1) → ∀ R,W.ownsRow 0 32 5 (.slice (some ⟨R,0,none⟩) 1 1) 1 (ncells a (.slice ala all alc)) → R ≠ g → (∀ b,W.heap.size ≤ b → w0.heap.size ≤ b ∧ b ≠ B5) → LNP (fun b => w0.heap.size ≤ b ∧ b ≠ B5) W (.slice ala all alc) a.l →
    Calls prog 246 #[.pointer (some ⟨g,0,none⟩),.slice (some ⟨R,0,none⟩) 1 1,.int .i64 9] W fun e' w' => ∃ ra rc,e' = .returned (.slice ra 2 rc) ∧ LNP (fun b => w0.heap.size ≤ b ∧ b ≠ B5) w' (.slice ra 2 rc) [a,e] ∧ PS w' g tv T k2 m2 (o + 1) ∧ Gw g W w') :=
    h_ (fun W x y R r1 r2 r3 r4 => expressions_two T (k1 + 1) m1 (o + 1) a e k2 m2 v u3 hv (HIH.out h4 (by have := HH3.out; omega) _ _ _ _ _ _ _ de) hu3 hf3 g tv W x y R _ r1 r2 HWF.out _ (fun b hb => by have := HGS.out; omega) r3 r4)
   have C5 : Hid (∀ W,PS W g tv T k2 m2 (o + 1) → Calls prog 113 #[.pointer (some ⟨g,0,none⟩),.string ⟨#[41]⟩] W fun e w' => e = .returned (.tuple #[]) ∧ PS w' g tv T (k2 + 1) m2 (o + 1) ∧ Gw g W w') := h_ (fun W h => want_yes g tv T k2 m2 (o + 1) u2 W h hu2 ⟨#[41]⟩ hf2)
   have C6 : Hid (∀ W,PS W g tv T (k2 + 1) m2 (o + 1) → Calls prog 114 #[.pointer (some ⟨g,0,none⟩)] W fun e w' => e = .returned (.tuple #[]) ∧ PS w' g tv T (k2 + 1) m2 o ∧ Gw g W w') := h_ (fun W h => leave_yes g tv T (k2 + 1) m2 o W h)
   have C7 : Hid (∀ W ra rc,PS W g tv T (k2 + 1) m2 o → Calls prog 115 #[.pointer (some ⟨g,0,none⟩),.agg #[.int .i64 7,.int .i64 0,.string ⟨#[]⟩,.slice ra 2 rc,.int .i64 a4]] W fun e w' => e = .returned (.agg #[.int .i64 7,.int .i64 0,.string ⟨#[]⟩,.slice ra 2 rc,.int .i64 a4]) ∧ PS w' g tv T (k2 + 1) (m2 + 1) o ∧ Gw g W w') :=
    h_ (fun W ra rc h => made_yes g tv T (k2 + 1) m2 o W h ⟨7,0,⟨#[]⟩,[],a4⟩ ra 2 rc HM2.out)
   clear d1 d2 hkm hm l1 l2 l4 hu hf ho hu1 hf1 hu2 hf2 hv de hu3 hf3 hgs
   go_wp2_with fail
   refine (C1.out _ (Fr.refl _)).mono ?_
   rintro e' w2 ⟨rfl,hf2⟩
   have HF2 := h_ hf2
   have HFA := h_ (hf2.alloc (.cells #[.int .i64 a0,.int .i64 a1,.string a2,.slice ala all alc,.int .i64 a4] 32))
   have HN2 := h_ (HN.out.fr hf2)
   clear hf2
   obtain ⟨p0,p1,p2,p3,p4⟩ := HN2.out.cells
   have HROW : Hid ((w2.alloc (.cells #[.int .i64 a0,.int .i64 a1,.string a2,.slice ala all alc,.int .i64 a4] 32)).ownsRow 0 32 5 (.slice (some ⟨w2.heap.size,0,none⟩) 1 1) 1 (ncells a (.slice ala all alc))) := h_ (by
    rw [HNC.out]
    exact World.ownsRow_lit w2 #[.int .i64 a0,.int .i64 a1,.string a2,.slice ala all alc,.int .i64 a4] 1 (Nat.zero_le _) (by unfold maxLen; omega) rfl)
   have nR : ¬ w2.heap.size = g := by have h1 := HP.out.rs.lt; have h2 := HF2.out.size; omega
   have HNR := h_ nR
   clear nR
   go_wp2_with fail
   refine (C2.out _ (HP.out.fr HFA.out)).mono ?_
   rintro e' w3 ⟨rfl,hp3,hg3⟩
   have HP3 := h_ hp3
   have HG3 : Hid (Gw g (w2.alloc (.cells #[.int .i64 a0,.int .i64 a1,.string a2,.slice ala all alc,.int .i64 a4] 32)) w3) := h_ hg3
   clear hp3 hg3
   go_wp2_with fail
   refine (C3.out _ HP3.out).mono ?_
   rintro e' w4 ⟨rfl,hf4⟩
   have HP4 := h_ (HP3.out.fr hf4)
   have HG4 : Hid (Gw g (w2.alloc (.cells #[.int .i64 a0,.int .i64 a1,.string a2,.slice ala all alc,.int .i64 a4] 32)) w4) := h_ (HG3.out.fr hf4)
   have HGR4 : Hid (Gw g wr w4) := h_ ((HFA.out.gw g).trans HG4.out)
   clear hf4
   go_wp2_with fail
   refine (C4.out _ (HOV.out.gw (HG.out.trans HGR4.out)) HP4.out _ (HROW.out.kept HG4.out (.inr (by simp only [Value.ownBlock]; intro e; injection e with e; exact HNR.out e))) HNR.out (fun b hb => by have h1 := HGR4.out.size; have h2 := HNL.out; have h3 := HSZ1.out; omega) (HL.out.keep fun b off x hb hx => ⟨hb,HGR4.out.cell hx (by have := HGS.out; omega)⟩)).mono ?_
   rintro e' w5 ⟨ra,rc,rfl,hl5,hp5,hg5⟩
   have HL5 := h_ hl5
   have HP5 := h_ hp5
   have HG5 : Hid (Gw g wr w5) := h_ (HGR4.out.trans hg5)
   clear hl5 hp5 hg5
   go_wp2_with fail
   refine (C5.out _ HP5.out).mono ?_
   rintro e' w6 ⟨rfl,hp6,hg6⟩
   have HP6 := h_ hp6
   have HG6 := h_ hg6
   clear hp6 hg6
   go_wp2_with fail
   refine (C6.out _ HP6.out).mono ?_
   rintro e' w7 ⟨rfl,hp7,hg7⟩
   have HP7 := h_ hp7
   have HG57 : Hid (Gw g w5 w7) := h_ (HG6.out.trans hg7)
   have HN7 := h_ (HN.out.gw (HG5.out.trans HG57.out) n5)
   clear hp7 hg7
   obtain ⟨s0,s1,s2,s3,s4⟩ := HN7.out.cells
   go_wp2_with fail
   refine (C7.out _ ra rc HP7.out).mono ?_
   rintro e' w8 ⟨rfl,hp8,hg8⟩
   have HP8 := h_ hp8
   have HG58 : Hid (Gw g w5 w8) := h_ (HG57.out.trans hg8)
   have HG8 : Hid (Gw g wr w8) := h_ (HG5.out.trans HG58.out)
   have HN8 := h_ (HN.out.gw HG8.out n5)
   have HB8' := h_ (HB.out.gw HG8.out n3)
   clear hp8 hg8
   obtain ⟨c0,c1,c2,c3,c4⟩ := HN8.out.cells
   have fz0 := HN8.out.free 0
   have fz1 := HN8.out.free 1
   have fz2 := HN8.out.free 2
   have fz3 := HN8.out.free 3
   have fz4 := HN8.out.free 4
   go_wp2_with fail
   have HRS9 := h_ (set5_rs HP8.out.rs n5 (.int .i64 7) (.int .i64 0) (.string ⟨#[]⟩) (.slice ra 2 rc) (.int .i64 a4))
   have HGW9 := h_ (set5_gw (HG.out.trans HG8.out) (B := B5) (by have := HSZ1.out; have := HSZ0.out; omega) (.int .i64 7) (.int .i64 0) (.string ⟨#[]⟩) (.slice ra 2 rc) (.int .i64 a4))
   have HL9 : Hid (LNP (fun b => w0.heap.size ≤ b ∧ b ≠ B5) (((((w8.setCell ⟨B5,0,none⟩ (.int .i64 7)).setCell ⟨B5,1,none⟩ (.int .i64 0)).setCell ⟨B5,2,none⟩ (.string ⟨#[]⟩)).setCell ⟨B5,3,none⟩ (.slice ra 2 rc)).setCell ⟨B5,4,none⟩ (.int .i64 a4)) (.slice ra 2 rc) [a,e]) := h_ (by
    have hz5 := HGS.out
    exact HL5.out.keep fun b off x hb hx => ⟨hb,set5_cell (HG58.out.cell hx (by omega)) (by omega) _ _ _ _ _⟩)
   go_roundw
   case rel =>
    refine ⟨h2,callN a [a,e],k2 + 1,m2 + 1,.slice ra 2 rc,by have h1 := HLT2.out; have h2 := HH3.out; omega,HD2.out,?_,HL9.out,HS.out.step HGW9.out HRS9.out HP8.out.hk HP8.out.hm HP8.out.ho,HGW9.out,set5_nb HB8'.out n5w _ _ _ _ _,⟨by unfold wf64; show (-9223372036854775808 : Int) ≤ 7 ∧ (7 : Int) ≤ _; omega,by unfold wf64; show (-9223372036854775808 : Int) ≤ 0 ∧ (0 : Int) ≤ _; omega,HWF.out.a,by show (0 : Nat) ≤ _; omega⟩⟩
    show Nb _ B5 (.int .i64 7) (.int .i64 0) (.string ⟨#[]⟩) _ (.int .i64 a.a)
    rw [← HA4.out]
    exact HN8.out.set5 _ _ _ _ _
   case measure =>
    rw [nx_of HRS9.out,nx_of HP.out.rs]
    have h1 := HP8.out.hk
    have h2 := HKM.out
    omega
theorem Dr_CD (T : List Tp) : ∀ (h : Nat) (kd : Kd) (k m o : Nat) (t : Nd) (k' m' : Nat),Dr T h kd k m o t k' m' → CD T kd k m o t k' m' := by
 intro h
 induction h using Nat.strongRecOn with
 | _ h ih =>
  intro kd k m o t k' m' hd
  cases hd with
  | name _ _ _ _ t ht hk hm hw => exact simple_name T k m o t ht hk hm hw
  | num _ _ _ _ t ht hk hm hw => exact simple_num T k m o t ht hk hm hw
  | calls _ h1 h2 _ _ _ a k1 m1 _ _ _ l1 l2 d1 d2 => exact calls_of T h ih k m o a k1 m1 t k' m' h2 (ih h1 l1 _ _ _ _ _ _ _ d1) l2 d2
  | first _ h1 L _ _ _ _ _ _ u l1 hL hu h4 h7 d =>
   by_cases e4 : L = 4
   ·subst e4; exact first_four T k m o t k' m' u hu (h4 rfl) (ih h1 l1 _ _ _ _ _ _ _ d)
   ·by_cases e7 : L = 7
    ·subst e7; exact first_seven T k m o t k' m' u hu (h7 rfl) (ih h1 l1 _ _ _ _ _ _ _ d)
    ·exact first_any T L hL e4 e7 k m o t k' m' u hu (ih h1 l1 _ _ _ _ _ _ _ d)
  | first10 _ h1 _ _ _ _ _ _ u l1 hu h8 h9 d => exact first_ten T k m o t k' m' u hu h8 h9 (ih h1 l1 _ _ _ _ _ _ _ d)
  | level _ h1 h2 L _ _ _ a k1 m1 _ _ _ l1 l2 hL d1 d2 => exact level_of T h ih L k m o hL a k1 m1 t k' m' h2 (ih h1 l1 _ _ _ _ _ _ _ d1) l2 d2
  | expr _ h1 _ _ _ _ _ _ u l1 d hu hf => exact expr_of T k m o t k' m' u (ih h1 l1 _ _ _ _ _ _ _ d) hu hf
theorem LNP.one {P : Nat → Prop} {w : World} {R : Nat} {a : Nd} {la : Value} (hR : P R) (hc : w.heap[R]? = some (.cells #[.int .i64 a.op,.int .i64 a.n,.string a.s,la,.int .i64 a.a] 32 (0,0)))
 (ha : wfN a) (hla : LNP P w la a.l) : LNP P w (.slice (some ⟨R,0,none⟩) 1 1) [a] := by
 refine LNP.mk (some ⟨R,0,none⟩) 1 [a] (fun _ => la) (Nat.le_refl _) (by unfold maxLen; omega) (fun h => by cases h) (fun _ => ⟨R,0,rfl,hR,fun i u hu => ?_⟩) (fun u hu => ?_) (fun i u hu => ?_)
 ·match i,hu with
  | 0,hu =>
   simp at hu; subst hu
   exact ⟨by simp [World.cell?,hc],by simp [World.cell?,hc],by simp [World.cell?,hc],by simp [World.cell?,hc],by simp [World.cell?,hc]⟩
 ·simp at hu; subst hu; exact ha
 ·match i,hu with
  | 0,hu => simp at hu; subst hu; exact hla
def cmdN (a : Nd) : Nd := ⟨31,0,⟨#[]⟩,[a],a.a⟩
theorem assignmentOrCall_call (T : List Tp) (k m o : Nat) (a : Nd) (k1 m1 : Nat) (u : Tp) (hd : CD T .expr k m o a k1 m1) (h7 : a.op = 7) (hu : T[k1]? = some u) (hf : fx u ⟨#[44]⟩ = false) (hf2 : fx u ⟨#[58,61]⟩ = false) (hm : m1 + 1 ≤ 20000)
 (g : Nat) (tv : Value) (w : World) (hov : OvG g w) (hs : PS w g tv T k m o) :
 Calls prog 203 #[.pointer (some ⟨g,0,none⟩)] w fun e w' => ∃ lv,e = .returned (ndV (cmdN a) lv) ∧ LNP (fun b => w.heap.size ≤ b) w' lv (cmdN a).l ∧ PS w' g tv T k1 (m1 + 1) o ∧ Gw g w w' ∧ wfN (cmdN a) := by
 have HC : Hid (∀ (w : World),OvG g w → PS w g tv T k m o → Calls prog 55 #[.pointer (some ⟨g,0,none⟩)] w fun e w' => ∃ lv,e = .returned (ndV a lv) ∧ LNP (fun b => w.heap.size ≤ b) w' lv a.l ∧ PS w' g tv T k1 m1 o ∧ Gw g w w' ∧ wfN a) := h_ (fun w x y => hd g tv w x y)
 have C2 : Hid (∀ W,PS W g tv T k1 m1 o → Calls prog 99 #[.pointer (some ⟨g,0,none⟩),.string ⟨#[44]⟩] W fun e w' => e = .returned (.bool false) ∧ Fr W w') := h_ (fun W h => take_no g tv T k1 m1 o u W h hu ⟨#[44]⟩ hf)
 have C3 : Hid (∀ W,PS W g tv T k1 m1 o → Calls prog 111 #[.pointer (some ⟨g,0,none⟩),.string ⟨#[58,61]⟩] W fun e w' => e = .returned (.bool false) ∧ Fr W w') := h_ (fun W h => by
  have := is_any g tv T k1 m1 o u W h hu ⟨#[58,61]⟩
  rw [hf2] at this
  exact this)
 have HS := h_ hs
 have HOV := h_ hov
 have HM := h_ hm
 have hgl := hs.rs.lt
 obtain ⟨w0,hw0,HF0,HB0,HSZ0⟩ := al0 w
 have HW0 := h_ hw0
 have n3 : ¬ w.heap.size = g := by omega
 clear hw0 hgl
 have H7 := h_ h7
 clear hs hov hd hu hf hf2 hm h7
 go_enter func203,ntmps203
 go_wp2_with fail
 try rw [← HW0.out]
 refine (HC.out _ (HOV.out.gw (HF0.out.gw g)) (HS.out.fr HF0.out)).mono ?_
 rintro e w1 ⟨lv,rfl,hl1,hp1,hg1,hwf⟩
 obtain ⟨la,lc,rfl,_,_,_⟩ := hl1.ln.form
 have HWF := h_ hwf
 have HL1 := h_ hl1
 have HP1 := h_ hp1
 have HG1 : Hid (Gw g w w1) := h_ ((HF0.out.gw g).trans hg1)
 have HB1 := h_ (HB0.out.gw hg1 n3)
 have HSZ : Hid (w0.heap.size ≤ w1.heap.size) := h_ hg1.size
 clear hl1 hp1 hg1 hwf
 obtain ⟨q0,hq0,q1,hq1,q2,hq2,q4,hq4⟩ := qs_ a
 obtain ⟨ll,hll⟩ : ∃ x,x = a.l.length := ⟨_,rfl⟩
 have HV : Hid (Ending.returned (.agg #[.int .i64 q0,.int .i64 q1,.string q2,.slice la ll lc,.int .i64 q4]) = Ending.returned (ndV a (.slice la ll lc))) := h_ (by rw [hq0,hq1,hq2,hq4]; rfl)
 unfold ndV
 rw [← hq0,← hq1,← hq2,← hq4,← hll]
 have HQ := h_ (And.intro hq0 (And.intro hq1 (And.intro hq2 hq4)))
 have h7' : q0 = 7 := by rw [hq0]; exact H7.out
 clear hq0 hq1 hq2 hq4
 subst h7'
 rw [← hll] at HL1
 have HLL := h_ hll
 clear hll
 have HN0 := h_ (Nb.new w1 (.int .i64 7) (.int .i64 q1) (.string q2) (.slice la ll lc) (.int .i64 q4))
 have HF3 : Hid (Fr w1 ((w1.alloc (.cells #[.int .i64 7,.int .i64 q1,.string q2,.slice la ll lc,.int .i64 q4] 32)).alloc (.cells #[.int .i64 7,.int .i64 q1,.string q2,.slice la ll lc,.int .i64 q4] 32))) := h_ (((Fr.refl w1).alloc _).alloc _)
 have HROW : Hid (((w1.alloc (.cells #[.int .i64 7,.int .i64 q1,.string q2,.slice la ll lc,.int .i64 q4] 32)).alloc (.cells #[.int .i64 7,.int .i64 q1,.string q2,.slice la ll lc,.int .i64 q4] 32)).heap[w1.heap.size + 1]? = some (.cells #[.int .i64 7,.int .i64 q1,.string q2,.slice la ll lc,.int .i64 q4] 32 (0,0))) := h_ (by
  rw [show w1.heap.size + 1 = (w1.alloc (.cells #[.int .i64 7,.int .i64 q1,.string q2,.slice la ll lc,.int .i64 q4] 32)).heap.size by simp]
  simp only [World.alloc,Array.getElem?_push_size])
 go_wp2_with fail
 refine (C2.out _ (HP1.out.fr HF3.out)).mono ?_
 rintro e w2 ⟨rfl,hf2⟩
 have HF2 : Hid (Fr ((w1.alloc (.cells #[.int .i64 7,.int .i64 q1,.string q2,.slice la ll lc,.int .i64 q4] 32)).alloc (.cells #[.int .i64 7,.int .i64 q1,.string q2,.slice la ll lc,.int .i64 q4] 32)) w2) := h_ hf2
 clear hf2
 go_wp2_with fail
 refine (C3.out _ ((HP1.out.fr HF3.out).fr HF2.out)).mono ?_
 rintro e w3 ⟨rfl,hf3⟩
 have HFR : Hid (Fr ((w1.alloc (.cells #[.int .i64 7,.int .i64 q1,.string q2,.slice la ll lc,.int .i64 q4] 32)).alloc (.cells #[.int .i64 7,.int .i64 q1,.string q2,.slice la ll lc,.int .i64 q4] 32)) w3) := h_ (HF2.out.trans hf3)
 have HF13 : Hid (Fr w1 w3) := h_ (HF3.out.trans HFR.out)
 clear hf3
 have HN3 := h_ ((HN0.out.al5 (.cells #[.int .i64 7,.int .i64 q1,.string q2,.slice la ll lc,.int .i64 q4] 32)).fr HFR.out)
 obtain ⟨p0,p1,p2,p3,p4⟩ := HN3.out.cells
 have C4 : Hid (∀ R,Calls prog 115 #[.pointer (some ⟨g,0,none⟩),.agg #[.int .i64 31,.int .i64 0,.string ⟨#[]⟩,.slice (some ⟨R,0,none⟩) 1 1,.int .i64 q4]] w3 fun e w' => e = .returned (.agg #[.int .i64 31,.int .i64 0,.string ⟨#[]⟩,.slice (some ⟨R,0,none⟩) 1 1,.int .i64 q4]) ∧ PS w' g tv T k1 (m1 + 1) o ∧ Gw g w3 w') :=
  h_ (fun R => made_yes g tv T k1 m1 o w3 (HP1.out.fr HF13.out) ⟨31,0,⟨#[]⟩,[],q4⟩ (some ⟨R,0,none⟩) 1 1 HM.out)
 go_wp2_with fail
 refine (C4.out _).mono ?_
 rintro e w4 ⟨rfl,hp4,hg4⟩
 have HP2 := h_ hp4
 have HG2 : Hid (Gw g w w4) := h_ ((HG1.out.fr HF13.out).trans hg4)
 have HB2 := h_ ((HB1.out.fr HF13.out).gw hg4 n3)
 have HL2 : Hid (LNP (fun b => w0.heap.size ≤ b) w4 (.slice (some ⟨w1.heap.size + 1,0,none⟩) 1 1) [a]) := h_ (by
  have hz1 := HSZ.out
  have hz2 := HSZ0.out
  have hgl2 := HS.out.rs.lt
  refine LNP.one (by omega) ?_ HWF.out (HL1.out.keep fun b off x hb hx => ⟨hb,hg4.cell (HF13.out.cell hx) (by omega)⟩)
  rw [← HQ.out.1,← HQ.out.2.1,← HQ.out.2.2.1,← HQ.out.2.2.2]
  have hlt : w1.heap.size + 1 < ((w1.alloc (.cells #[.int .i64 7,.int .i64 q1,.string q2,.slice la ll lc,.int .i64 q4] 32)).alloc (.cells #[.int .i64 7,.int .i64 q1,.string q2,.slice la ll lc,.int .i64 q4] 32)).heap.size := by simp
  rw [hg4.block _ (Nat.lt_of_lt_of_le hlt HFR.out.size) (by intro e; injection e; omega),HFR.out.block _ hlt]
  exact HROW.out)
 clear hp4 hg4
 obtain ⟨c0,c1,c2,c3,c4⟩ := HB2.out.cells
 have b0 := HB2.out.free 0
 have b1 := HB2.out.free 1
 have b2 := HB2.out.free 2
 have b3 := HB2.out.free 3
 have b4 := HB2.out.free 4
 go_wp2_with fail
 refine bodyPost_ret (v := .agg #[.int .i64 31,.int .i64 0,.string ⟨#[]⟩,.slice (some ⟨w1.heap.size + 1,0,none⟩) 1 1,.int .i64 q4]) (by simp [results,results203,go_sem,c0,c1,c2,c3,c4]) rfl ?_
 have HZ := st5_all HS.out HP2.out HG2.out HL2.out HSZ0.out n3 (.int .i64 31) (.int .i64 0) (.string ⟨#[]⟩) (.slice (some ⟨w1.heap.size + 1,0,none⟩) 1 1) (.int .i64 q4)
 refine ⟨_,by rw [HQ.out.2.2.2]; rfl,HZ.2.2,HZ.1,HZ.2.1,⟨by unfold wf64; show (-9223372036854775808 : Int) ≤ 31 ∧ (31 : Int) ≤ _; omega,by unfold wf64; show (-9223372036854775808 : Int) ≤ 0 ∧ (0 : Int) ≤ _; omega,HWF.out.a,by show (0 : Nat) ≤ _; omega⟩⟩
theorem fx_name {t : Tp} (h : t.k = 1 ∨ t.k = 2 ∨ t.k = 3 ∨ t.k = 0) (s : ByteArray) : fx t s = false := by
 unfold fx
 rw [decide_eq_false (show ¬ t.k = 4 by omega),decide_eq_false (show ¬ t.k = 5 by omega)]
 rfl
theorem repeated_none (T : List Tp) (k m o : Nat) (u : Tp) (hu : T[k]? = some u) (h1 : fx u ⟨#[114,101,112,101,97,116]⟩ = false) (h2 : fx u ⟨#[114,101,112,101,97,116,119,104,105,108,101]⟩ = false) (h3 : fx u ⟨#[114,101,112,101,97,116,117,110,116,105,108]⟩ = false) (t : Nd) (la : Option Addr) (ll lc : Nat) (g : Nat) (tv : Value) (w : World) (hs : PS w g tv T k m o) :
 Calls prog 130 #[.pointer (some ⟨g,0,none⟩),ndV t (.slice la ll lc)] w fun e w' => e = .returned (ndV t (.slice la ll lc)) ∧ Fr w w' := by
 have C1 : Hid (∀ W,Fr w W → Calls prog 99 #[.pointer (some ⟨g,0,none⟩),.string ⟨#[114,101,112,101,97,116]⟩] W fun e w' => e = .returned (.bool false) ∧ Fr W w') := h_ (fun W h => take_no g tv T k m o u W (hs.fr h) hu ⟨#[114,101,112,101,97,116]⟩ h1)
 have C2 : Hid (∀ W,Fr w W → Calls prog 99 #[.pointer (some ⟨g,0,none⟩),.string ⟨#[114,101,112,101,97,116,119,104,105,108,101]⟩] W fun e w' => e = .returned (.bool false) ∧ Fr W w') := h_ (fun W h => take_no g tv T k m o u W (hs.fr h) hu ⟨#[114,101,112,101,97,116,119,104,105,108,101]⟩ h2)
 have C3 : Hid (∀ W,Fr w W → Calls prog 99 #[.pointer (some ⟨g,0,none⟩),.string ⟨#[114,101,112,101,97,116,117,110,116,105,108]⟩] W fun e w' => e = .returned (.bool false) ∧ Fr W w') := h_ (fun W h => take_no g tv T k m o u W (hs.fr h) hu ⟨#[114,101,112,101,97,116,117,110,116,105,108]⟩ h3)
 unfold ndV
 obtain ⟨q0,hq0,q1,hq1,q2,hq2,q4,hq4⟩ := qs_ t
 rw [← hq0,← hq1,← hq2,← hq4]
 clear hq0 hq1 hq2 hq4
 obtain ⟨w0,hw0⟩ : ∃ w0,w0 = (w.alloc (.cells #[.int .i64 q0,.int .i64 q1,.string q2,.slice la ll lc,.int .i64 q4] 32)).alloc (.cells #[.int .i64 0,.int .i64 0,.string ⟨#[]⟩,.slice none 0 0,.int .i64 0] 32) := ⟨_,rfl⟩
 have HF0 : Hid (Fr w w0) := h_ (by rw [hw0]; exact ((Fr.refl w).alloc _).alloc _)
 have HA0 : Hid (Nb w0 w.heap.size (.int .i64 q0) (.int .i64 q1) (.string q2) (.slice la ll lc) (.int .i64 q4)) := h_ (by rw [hw0]; exact (Nb.new w _ _ _ _ _).al5 _)
 have HB0 : Hid (Nb w0 (w.heap.size + 1) (.int .i64 0) (.int .i64 0) (.string ⟨#[]⟩) (.slice none 0 0) (.int .i64 0)) := h_ (by rw [hw0]; exact Nb.new1 w _ _ _ _ _ _)
 have HW0 := h_ hw0
 clear hu h1 h2 h3 hs hw0
 go_enter func130,ntmps130
 go_wp2_with fail
 try rw [← HW0.out]
 go_loopw [8] (fun _ wr => w0 = wr) (fun _ _ => 0)
 case atStart => rfl
 case round =>
  obtain rfl := hrel
  go_wp2_with fail
  refine (C1.out _ HF0.out).mono ?_
  rintro e w1 ⟨rfl,hf1⟩
  have HF1 := h_ hf1
  clear hf1
  go_wp2_with fail
  refine (C2.out _ (HF0.out.trans HF1.out)).mono ?_
  rintro e w2 ⟨rfl,hf2⟩
  have HF2 := h_ (HF1.out.trans hf2)
  clear hf2
  go_wp2_with fail
  refine (C3.out _ (HF0.out.trans HF2.out)).mono ?_
  rintro e w3 ⟨rfl,hf3⟩
  have HF3 := h_ (HF2.out.trans hf3)
  clear hf3
  have HA3 := h_ (HA0.out.fr HF3.out)
  have HB3 := h_ (HB0.out.fr HF3.out)
  obtain ⟨p0,p1,p2,p3,p4⟩ := HA3.out.cells
  obtain ⟨c0,c1,c2,c3,c4⟩ := HB3.out.cells
  have b0 := HB3.out.free 0
  have b1 := HB3.out.free 1
  have b2 := HB3.out.free 2
  have b3 := HB3.out.free 3
  have b4 := HB3.out.free 4
  go_wp2_with fail
  refine bodyPost_ret (v := .agg #[.int .i64 q0,.int .i64 q1,.string q2,.slice la ll lc,.int .i64 q4]) (by simp [results,results130,go_sem,c0,c1,c2,c3,c4]) rfl ?_
  have e1 : w.heap.size ≤ w.heap.size + 1 := by omega
  exact ⟨rfl,(((((HF0.out.trans HF3.out).setCell e1 _).setCell e1 _).setCell e1 _).setCell e1 _).setCell e1 _⟩
theorem basic_begins (T : List Tp) (k m o : Nat) (u : Tp) (hu : T[k]? = some u) (hk : u.k = 1 ∨ u.k = 2 ∨ u.k = 3) (t : Nd) (k1 m1 : Nat) (g : Nat) (tv : Value) (w : World) (hov : OvG g w) (hs : PS w g tv T k m o)
 (hd : ∀ (w : World),OvG g w → PS w g tv T k m o → Calls prog 203 #[.pointer (some ⟨g,0,none⟩)] w fun e w' => ∃ lv,e = .returned (ndV t lv) ∧ LNP (fun b => w.heap.size ≤ b) w' lv t.l ∧ PS w' g tv T k1 m1 o ∧ Gw g w w' ∧ wfN t) :
 Calls prog 129 #[.pointer (some ⟨g,0,none⟩)] w fun e w' => ∃ lv,e = .returned (.tuple #[ndV t lv,.bool true]) ∧ LNP (fun b => w.heap.size ≤ b) w' lv t.l ∧ PS w' g tv T k1 m1 o ∧ Gw g w w' ∧ wfN t := by
 have C1 := h_ (fun W (h : Fr w W) => token_any g tv T k m o u W (hs.fr h) hu)
 have C2 := h_ (fun W => begins_yes u hk W)
 have HC := h_ hd
 have HS := h_ hs
 have HOV := h_ hov
 have hgl := hs.rs.lt
 obtain ⟨w0,hw0,HF0,HB0,HSZ0⟩ := al0 w
 have HW0 := h_ hw0
 have n3 : ¬ w.heap.size = g := by omega
 clear hw0 hgl
 unfold tkV at C1 C2
 obtain ⟨x0,hx0⟩ : ∃ x : Int,x = u.k := ⟨_,rfl⟩
 obtain ⟨x3,hx3⟩ : ∃ x : Int,x = u.a := ⟨_,rfl⟩
 obtain ⟨x1,hx1⟩ : ∃ x,x = u.t := ⟨_,rfl⟩
 obtain ⟨x2,hx2⟩ : ∃ x,x = u.n := ⟨_,rfl⟩
 rw [← hx0,← hx1,← hx2,← hx3] at C1 C2
 clear hs hov hd hu hk hx0 hx1 hx2 hx3
 go_enter func129,ntmps129
 go_wp2_with fail
 try rw [← HW0.out]
 refine (C1.out _ HF0.out).mono ?_
 rintro e v1 ⟨rfl,hf1⟩
 have HF1 := h_ ((HF0.out.trans hf1).alloc (.cells #[.int .i64 x0,.string x1,.int .i64 x2,.int .i64 x3] 98))
 have HBA := h_ ((HB0.out.fr hf1).al5 (.cells #[.int .i64 x0,.string x1,.int .i64 x2,.int .i64 x3] 98))
 have HZ1 : Hid (w0.heap.size ≤ v1.heap.size) := h_ hf1.size
 clear hf1
 go_wp2_with fail
 refine (C2.out _).mono ?_
 rintro e v2 ⟨rfl,hf2⟩
 have HF2 := h_ (HF1.out.trans hf2)
 have HBB := h_ (HBA.out.fr hf2)
 have HZ2 : Hid (w0.heap.size ≤ v2.heap.size) := h_ (by have h1 := HZ1.out; have h2 := hf2.size; rw [size_alloc'] at h2; omega)
 clear hf2
 go_wp2_with fail
 refine (HC.out _ (HOV.out.gw (HF2.out.gw g)) (HS.out.fr HF2.out)).mono ?_
 rintro e w2 ⟨lv,rfl,hl2,hp2,hg2,hwf⟩
 have HWF := h_ hwf
 obtain ⟨la,lc,rfl,_,_,_⟩ := hl2.ln.form
 have HL2 := h_ hl2
 have HP2 := h_ hp2
 have HG2 : Hid (Gw g w w2) := h_ ((HF2.out.gw g).trans hg2)
 have HB2 := h_ (HBB.out.gw hg2 n3)
 clear hl2 hp2 hg2 hwf
 obtain ⟨q0,hq0,q1,hq1,q2,hq2,q4,hq4⟩ := qs_ t
 obtain ⟨ll,hll⟩ : ∃ x,x = t.l.length := ⟨_,rfl⟩
 have HV : Hid (Value.agg #[.int .i64 q0,.int .i64 q1,.string q2,.slice la ll lc,.int .i64 q4] = ndV t (.slice la ll lc)) := h_ (by rw [hq0,hq1,hq2,hq4]; rfl)
 unfold ndV
 rw [← hq0,← hq1,← hq2,← hq4,← hll]
 clear hq0 hq1 hq2 hq4
 rw [← hll] at HL2
 clear hll
 obtain ⟨c0,c1,c2,c3,c4⟩ := HB2.out.cells
 have b0 := HB2.out.free 0
 have b1 := HB2.out.free 1
 have b2 := HB2.out.free 2
 have b3 := HB2.out.free 3
 have b4 := HB2.out.free 4
 go_wp2_with fail
 refine bodyPost_ret (v := .tuple #[.agg #[.int .i64 q0,.int .i64 q1,.string q2,.slice la ll lc,.int .i64 q4],.bool true]) (by simp [results,results129,go_sem,c0,c1,c2,c3,c4]) rfl ?_
 have HQ := st5_all HS.out HP2.out HG2.out HL2.out (by have h1 := HSZ0.out; have h2 := HZ2.out; omega) n3 (.int .i64 q0) (.int .i64 q1) (.string q2) (.slice la ll lc) (.int .i64 q4)
 exact ⟨_,by rw [HV.out],HQ.2.2,HQ.1,HQ.2.1,HWF.out⟩
theorem before_no (T : List Tp) (k m o : Nat) (u : Tp) (hu : T[k + 1]? = some u) (s : ByteArray) (hf : fx u s = false) (g : Nat) (tv : Value) (w : World) (hs : PS w g tv T k m o) (R : Nat) (hc : w.cell? ⟨R,0,none⟩ = some (.string s)) :
 Calls prog 123 #[.pointer (some ⟨g,0,none⟩),.slice (some ⟨R,0,none⟩) 1 1] w fun e w' => e = .returned (.bool false) ∧ Fr w w' := by
 have C1 : Hid (∀ W,Calls prog 198 #[tkV u,.string s] W fun e w' => e = .returned (.bool false) ∧ Fr W w') := h_ (fun W => by
  have := isFixed_any u s W
  rw [hf] at this
  exact this)
 obtain ⟨b,off,cap,rfl,hb,hcap,hl,htc⟩ := hs.tk
 have hkT := (List.getElem?_eq_some_iff.1 hu).1
 obtain ⟨y0,y1,y2,y3⟩ := htc.at_ hu
 obtain ⟨r0,r1,r2,r3⟩ := hs.rs.cells
 have i1 := wrap_succ k (by have := hs.hk; omega)
 obtain ⟨n,hn⟩ : ∃ n,n = T.length := ⟨_,rfl⟩
 rw [← hn] at r0 hkT hcap
 obtain ⟨k1,hk1⟩ : ∃ x,x = k + 1 := ⟨_,rfl⟩
 rw [← hk1] at i1 y0 y1 y2 y3 hkT
 unfold tkV at C1
 obtain ⟨x0,hx0⟩ : ∃ x : Int,x = u.k := ⟨_,rfl⟩
 obtain ⟨x3,hx3⟩ : ∃ x : Int,x = u.a := ⟨_,rfl⟩
 obtain ⟨x1,hx1⟩ : ∃ x,x = u.t := ⟨_,rfl⟩
 obtain ⟨x2,hx2⟩ : ∃ x,x = u.n := ⟨_,rfl⟩
 rw [← hx0,← hx1,← hx2,← hx3] at C1
 rw [← hx0] at y0
 rw [← hx1] at y1
 rw [← hx2] at y2
 rw [← hx3] at y3
 have j0 : (0 : Int) ≤ (k1 : Int) := by omega
 have j1 : (k1 : Int) ≤ (n : Int) := by omega
 have j2 : (k1 : Int).toNat = k1 := Int.toNat_natCast k1
 have j3 : ¬ cap = k1 := by omega
 have j4 : decide (((n - k1 : Nat) : Int) < 1) = false := decide_eq_false (by omega)
 have j5 : 0 < n - k1 := by omega
 have j6 : (0 : Int) < ((n - k1 : Nat) : Int) := by omega
 have HY := h_ (And.intro y0 (And.intro y1 (And.intro y2 y3)))
 have HCC := h_ hc
 clear hu hf hs htc hb hl hn hk1 hx0 hx1 hx2 hx3 y0 y1 y2 y3 hkT hcap hc r2 r3
 go_enter func123,ntmps123
 go_wp2_with fail
 go_region
 all_goals
  go_wp2_with fail
  go_loopw [25] (fun i wr => i = .int .i64 0 ∧ Fr w wr) (fun _ _ => 0)
  case atStart => exact ⟨rfl,(Fr.refl w).drew⟩
  case round =>
   obtain ⟨rfl,hfr⟩ := hrel
   have c0 := hfr.cell HCC.out
   have y0 := hfr.cell HY.out.1
   have y1 := hfr.cell HY.out.2.1
   have y2 := hfr.cell HY.out.2.2.1
   have y3 := hfr.cell HY.out.2.2.2
   go_wp2_with fail
   refine (C1.out _).mono ?_
   rintro e w1 ⟨rfl,hf1⟩
   have hfin := hfr.trans hf1
   go_wp2_with fail
   go_ret
   exact ⟨rfl,hfin⟩
theorem command_call (T : List Tp) (k m o : Nat) (u v x : Tp) (hu : T[k]? = some u) (hk : u.k = 1) (hv : T[k + 1]? = some v) (hfv : fx v ⟨#[58]⟩ = false) (t : Nd) (k1 m1 : Nat) (hx : T[k1]? = some x) (hxr : fx x ⟨#[114,101,112,101,97,116]⟩ = false ∧ fx x ⟨#[114,101,112,101,97,116,119,104,105,108,101]⟩ = false ∧ fx x ⟨#[114,101,112,101,97,116,117,110,116,105,108]⟩ = false)
 (g : Nat) (tv : Value) (w : World) (hov : OvG g w) (hs : PS w g tv T k m o)
 (hd : ∀ (w : World),OvG g w → PS w g tv T k m o → Calls prog 129 #[.pointer (some ⟨g,0,none⟩)] w fun e w' => ∃ lv,e = .returned (.tuple #[ndV t lv,.bool true]) ∧ LNP (fun b => w.heap.size ≤ b) w' lv t.l ∧ PS w' g tv T k1 m1 o ∧ Gw g w w' ∧ wfN t) :
 Calls prog 60 #[.pointer (some ⟨g,0,none⟩)] w fun e w' => ∃ lv,e = .returned (ndV t lv) ∧ LNP (fun b => w.heap.size ≤ b) w' lv t.l ∧ PS w' g tv T k1 m1 o ∧ Gw g w w' ∧ wfN t := by
 have C1 := h_ (fun W (h : Fr w W) => token_any g tv T k m o u W (hs.fr h) hu)
 have CB : Hid (∀ W,Fr w W → ∀ R,W.cell? ⟨R,0,none⟩ = some (.string ⟨#[58]⟩) → Calls prog 123 #[.pointer (some ⟨g,0,none⟩),.slice (some ⟨R,0,none⟩) 1 1] W fun e w' => e = .returned (.bool false) ∧ Fr W w') := h_ (fun W h R hc => before_no T k m o v hv ⟨#[58]⟩ hfv g tv W (hs.fr h) R hc)
 have CT : Hid (∀ s W,Fr w W → Calls prog 99 #[.pointer (some ⟨g,0,none⟩),.string s] W fun e w' => e = .returned (.bool false) ∧ Fr W w') := h_ (fun s W h => take_no g tv T k m o u W (hs.fr h) hu s (fx_name (.inl hk) s))
 have CI : Hid (∀ s W,Fr w W → Calls prog 111 #[.pointer (some ⟨g,0,none⟩),.string s] W fun e w' => e = .returned (.bool false) ∧ Fr W w') := h_ (fun s W h => by
  have := is_any g tv T k m o u W (hs.fr h) hu s
  rw [fx_name (.inl hk) s] at this
  exact this)
 have CR : Hid (∀ (W : World) la ll lc,PS W g tv T k1 m1 o → Calls prog 130 #[.pointer (some ⟨g,0,none⟩),ndV t (.slice la ll lc)] W fun e w' => e = .returned (ndV t (.slice la ll lc)) ∧ Fr W w') := h_ (fun W la ll lc h => repeated_none T k1 m1 o x hx hxr.1 hxr.2.1 hxr.2.2 t la ll lc g tv W h)
 have HC := h_ hd
 have HS := h_ hs
 have HOV := h_ hov
 have hgl := hs.rs.lt
 obtain ⟨w0,hw0,HF0,HB0,HSZ0⟩ := al0 w
 have HW0 := h_ hw0
 have n3 : ¬ w.heap.size = g := by omega
 clear hw0 hgl
 unfold tkV at C1
 rw [hk] at C1
 obtain ⟨x0,hx0⟩ : ∃ x : Int,x = u.k := ⟨_,rfl⟩
 obtain ⟨x3,hx3⟩ : ∃ x : Int,x = u.a := ⟨_,rfl⟩
 obtain ⟨x1,hx1⟩ : ∃ x,x = u.t := ⟨_,rfl⟩
 obtain ⟨x2,hx2⟩ : ∃ x,x = u.n := ⟨_,rfl⟩
 rw [← hx1,← hx2,← hx3] at C1
 clear hs hov hd hu hk hv hfv hx hxr hx0 hx1 hx2 hx3
 go_enter func60,ntmps60
 go_wp2_with fail
 try rw [← HW0.out]
 refine (C1.out _ HF0.out).mono ?_
 rintro e v0 ⟨rfl,hf1⟩
 have HFA := h_ (((HF0.out.trans hf1).alloc (.cells #[.int .i64 ((1 : Nat) : Int),.string x1,.int .i64 x2,.int .i64 x3] 98)).alloc (.cells #[.string ⟨#[58]⟩] 9))
 have HBA := h_ (((HB0.out.fr hf1).al5 (.cells #[.int .i64 ((1 : Nat) : Int),.string x1,.int .i64 x2,.int .i64 x3] 98)).al5 (.cells #[.string ⟨#[58]⟩] 9))
 have HZ0 : Hid (w0.heap.size ≤ v0.heap.size) := h_ hf1.size
 clear hf1
 go_wp2_with fail
 refine (CB.out _ HFA.out _ (by simp)).mono ?_
 rintro e v1 ⟨rfl,hf2⟩
 have HF1 : Hid (Fr w v1) := h_ (HFA.out.trans hf2)
 have HB1 := h_ (HBA.out.fr hf2)
 have HZ1 : Hid (w0.heap.size ≤ v1.heap.size) := h_ (by have h1 := HZ0.out; have h2 := hf2.size; rw [size_alloc',size_alloc'] at h2; omega)
 clear hf2
 go_wp2_with fail
 refine (CT.out _ _ HF1.out).mono ?_
 rintro e v2 ⟨rfl,hf2⟩
 have HF2 : Hid (Fr w v2) := h_ (HF1.out.trans hf2)
 have HB2 := h_ (HB1.out.fr hf2)
 have HZ2 : Hid (w0.heap.size ≤ v2.heap.size) := h_ (Nat.le_trans HZ1.out hf2.size)
 clear hf2 HF1 HB1 HZ1
 go_wp2_with fail
 refine (CT.out _ _ HF2.out).mono ?_
 rintro e v3 ⟨rfl,hf2⟩
 have HF3 : Hid (Fr w v3) := h_ (HF2.out.trans hf2)
 have HB3 := h_ (HB2.out.fr hf2)
 have HZ3 : Hid (w0.heap.size ≤ v3.heap.size) := h_ (Nat.le_trans HZ2.out hf2.size)
 clear hf2 HF2 HB2 HZ2
 go_wp2_with fail
 refine (CT.out _ _ HF3.out).mono ?_
 rintro e v4 ⟨rfl,hf2⟩
 have HF4 : Hid (Fr w v4) := h_ (HF3.out.trans hf2)
 have HB4 := h_ (HB3.out.fr hf2)
 have HZ4 : Hid (w0.heap.size ≤ v4.heap.size) := h_ (Nat.le_trans HZ3.out hf2.size)
 clear hf2 HF3 HB3 HZ3
 go_wp2_with fail
 refine (CT.out _ _ HF4.out).mono ?_
 rintro e v5 ⟨rfl,hf2⟩
 have HF5 : Hid (Fr w v5) := h_ (HF4.out.trans hf2)
 have HB5 := h_ (HB4.out.fr hf2)
 have HZ5 : Hid (w0.heap.size ≤ v5.heap.size) := h_ (Nat.le_trans HZ4.out hf2.size)
 clear hf2 HF4 HB4 HZ4
 go_wp2_with fail
 refine (CT.out _ _ HF5.out).mono ?_
 rintro e v6 ⟨rfl,hf2⟩
 have HF6 : Hid (Fr w v6) := h_ (HF5.out.trans hf2)
 have HB6 := h_ (HB5.out.fr hf2)
 have HZ6 : Hid (w0.heap.size ≤ v6.heap.size) := h_ (Nat.le_trans HZ5.out hf2.size)
 clear hf2 HF5 HB5 HZ5
 go_wp2_with fail
 refine (CT.out _ _ HF6.out).mono ?_
 rintro e v7 ⟨rfl,hf2⟩
 have HF7 : Hid (Fr w v7) := h_ (HF6.out.trans hf2)
 have HB7 := h_ (HB6.out.fr hf2)
 have HZ7 : Hid (w0.heap.size ≤ v7.heap.size) := h_ (Nat.le_trans HZ6.out hf2.size)
 clear hf2 HF6 HB6 HZ6
 go_wp2_with fail
 refine (CT.out _ _ HF7.out).mono ?_
 rintro e v8 ⟨rfl,hf2⟩
 have HF8 : Hid (Fr w v8) := h_ (HF7.out.trans hf2)
 have HB8 := h_ (HB7.out.fr hf2)
 have HZ8 : Hid (w0.heap.size ≤ v8.heap.size) := h_ (Nat.le_trans HZ7.out hf2.size)
 clear hf2 HF7 HB7 HZ7
 go_wp2_with fail
 refine (CT.out _ _ HF8.out).mono ?_
 rintro e v9 ⟨rfl,hf2⟩
 have HF9 : Hid (Fr w v9) := h_ (HF8.out.trans hf2)
 have HB9 := h_ (HB8.out.fr hf2)
 have HZ9 : Hid (w0.heap.size ≤ v9.heap.size) := h_ (Nat.le_trans HZ8.out hf2.size)
 clear hf2 HF8 HB8 HZ8
 go_wp2_with fail
 refine (CT.out _ _ HF9.out).mono ?_
 rintro e v10 ⟨rfl,hf2⟩
 have HF10 : Hid (Fr w v10) := h_ (HF9.out.trans hf2)
 have HB10 := h_ (HB9.out.fr hf2)
 have HZ10 : Hid (w0.heap.size ≤ v10.heap.size) := h_ (Nat.le_trans HZ9.out hf2.size)
 clear hf2 HF9 HB9 HZ9
 go_wp2_with fail
 refine (CI.out _ _ HF10.out).mono ?_
 rintro e v11 ⟨rfl,hf2⟩
 have HF11 : Hid (Fr w v11) := h_ (HF10.out.trans hf2)
 have HB11 := h_ (HB10.out.fr hf2)
 have HZ11 : Hid (w0.heap.size ≤ v11.heap.size) := h_ (Nat.le_trans HZ10.out hf2.size)
 clear hf2 HF10 HB10 HZ10
 go_wp2_with fail
 refine (CI.out _ _ HF11.out).mono ?_
 rintro e v12 ⟨rfl,hf2⟩
 have HF12 : Hid (Fr w v12) := h_ (HF11.out.trans hf2)
 have HB12 := h_ (HB11.out.fr hf2)
 have HZ12 : Hid (w0.heap.size ≤ v12.heap.size) := h_ (Nat.le_trans HZ11.out hf2.size)
 clear hf2 HF11 HB11 HZ11
 go_wp2_with fail
 refine (CI.out _ _ HF12.out).mono ?_
 rintro e v13 ⟨rfl,hf2⟩
 have HF13 : Hid (Fr w v13) := h_ (HF12.out.trans hf2)
 have HB13 := h_ (HB12.out.fr hf2)
 have HZ13 : Hid (w0.heap.size ≤ v13.heap.size) := h_ (Nat.le_trans HZ12.out hf2.size)
 clear hf2 HF12 HB12 HZ12
 go_wp2_with fail
 refine (HC.out _ (HOV.out.gw (HF13.out.gw g)) (HS.out.fr HF13.out)).mono ?_
 rintro e w3 ⟨lv,rfl,hl3,hp3,hg3,hwf⟩
 have HWF := h_ hwf
 obtain ⟨la,lc,rfl,_,_,_⟩ := hl3.ln.form
 have HL3 := h_ hl3
 have HP3 := h_ hp3
 have HG3 : Hid (Gw g w w3) := h_ ((HF13.out.gw g).trans hg3)
 have HB3 := h_ (HB13.out.gw hg3 n3)
 clear hl3 hp3 hg3 hwf
 obtain ⟨q0,hq0,q1,hq1,q2,hq2,q4,hq4⟩ := qs_ t
 obtain ⟨ll,hll⟩ : ∃ x,x = t.l.length := ⟨_,rfl⟩
 have HV : Hid (Ending.returned (.agg #[.int .i64 q0,.int .i64 q1,.string q2,.slice la ll lc,.int .i64 q4]) = Ending.returned (ndV t (.slice la ll lc))) := h_ (by rw [hq0,hq1,hq2,hq4]; rfl)
 unfold ndV
 rw [← hq0,← hq1,← hq2,← hq4,← hll]
 have HQ4 := h_ (And.intro hq0 (And.intro hq1 (And.intro hq2 hq4)))
 clear hq0 hq1 hq2 hq4
 rw [← hll] at HL3
 clear hll
 have CR2 : Hid (∀ W,PS W g tv T k1 m1 o → Calls prog 130 #[.pointer (some ⟨g,0,none⟩),.agg #[.int .i64 q0,.int .i64 q1,.string q2,.slice la ll lc,.int .i64 q4]] W fun e w' => e = .returned (.agg #[.int .i64 q0,.int .i64 q1,.string q2,.slice la ll lc,.int .i64 q4]) ∧ Fr W w') := h_ (fun W h => by
  have := CR.out W la ll lc h
  rw [show ndV t (.slice la ll lc) = .agg #[.int .i64 q0,.int .i64 q1,.string q2,.slice la ll lc,.int .i64 q4] by rw [HQ4.out.1,HQ4.out.2.1,HQ4.out.2.2.1,HQ4.out.2.2.2]; rfl] at this
  exact this)
 have HFN : Hid (Fr w3 (w3.alloc (.cells #[.int .i64 q0,.int .i64 q1,.string q2,.slice la ll lc,.int .i64 q4] 32))) := h_ ((Fr.refl w3).alloc _)
 go_wp2_with fail
 refine (CR2.out _ (HP3.out.fr HFN.out)).mono ?_
 rintro e w2 ⟨rfl,hf2⟩
 have HF32 : Hid (Fr w3 w2) := h_ (HFN.out.trans hf2)
 clear hf2
 have HG2 := h_ (HG3.out.fr HF32.out)
 have HP2 := h_ (HP3.out.fr HF32.out)
 have HB2 := h_ (HB3.out.fr HF32.out)
 have HL2 := h_ (HL3.out.keep (Q := fun b => v13.heap.size ≤ b) fun b off x hb hx => ⟨hb,HF32.out.cell hx⟩)
 obtain ⟨c0,c1,c2,c3,c4⟩ := HB2.out.cells
 have b0 := HB2.out.free 0
 have b1 := HB2.out.free 1
 have b2 := HB2.out.free 2
 have b3 := HB2.out.free 3
 have b4 := HB2.out.free 4
 go_wp2_with fail
 refine bodyPost_ret (v := .agg #[.int .i64 q0,.int .i64 q1,.string q2,.slice la ll lc,.int .i64 q4]) (by simp [results,results60,go_sem,c0,c1,c2,c3,c4]) rfl ?_
 have HQ := st5_all HS.out HP2.out HG2.out HL2.out (by have h1 := HSZ0.out; have h2 := HZ13.out; omega) n3 (.int .i64 q0) (.int .i64 q1) (.string q2) (.slice la ll lc) (.int .i64 q4)
 exact ⟨_,HV.out,HQ.2.2,HQ.1,HQ.2.1,HWF.out⟩
def prcN (s : ByteArray) (t : Nd) (a : Int) : Nd := ⟨64,1,s,[t],a⟩
theorem Nb.put1 {w : World} {b : Nat} {x0 x1 x2 x3 x4 : Value} (h : Nb w b x0 x1 x2 x3 x4) (y : Value) : Nb (w.setCell ⟨b,1,none⟩ y) b x0 y x2 x3 x4 := by
 unfold Nb at h ⊢
 simp [World.setCell,Array.getElem?_modify,h]
theorem Nb.put3 {w : World} {b : Nat} {x0 x1 x2 x3 x4 : Value} (h : Nb w b x0 x1 x2 x3 x4) (y : Value) : Nb (w.setCell ⟨b,3,none⟩ y) b x0 x1 x2 y x4 := by
 unfold Nb at h ⊢
 simp [World.setCell,Array.getElem?_modify,h]
theorem procedure_be (T : List Tp) (k m o : Nat) (u u1 u2 u3 : Tp) (hu : T[k]? = some u) (hk : u.k = 1) (hu1 : T[k + 1]? = some u1) (hf1 : fx u1 ⟨#[40]⟩ = true) (hu2 : T[k + 2]? = some u2) (hf2 : fx u2 ⟨#[41]⟩ = true) (hu3 : T[k + 3]? = some u3) (hf3 : fx u3 ⟨#[98,101]⟩ = true)
 (t : Nd) (k1 m1 : Nat) (hm : m1 + 1 ≤ 20000) (at_ : Int) (hat : wf64 at_) (hsz : u.t.size ≤ 140737488351232) (g : Nat) (tv : Value) (w : World) (hov : OvG g w) (hs : PS w g tv T k m o)
 (hd : ∀ (w : World),OvG g w → PS w g tv T (k + 4) m o → Calls prog 60 #[.pointer (some ⟨g,0,none⟩)] w fun e w' => ∃ lv,e = .returned (ndV t lv) ∧ LNP (fun b => w.heap.size ≤ b) w' lv t.l ∧ PS w' g tv T k1 m1 o ∧ Gw g w w' ∧ wfN t) :
 Calls prog 191 #[.pointer (some ⟨g,0,none⟩),.int .i64 at_] w fun e w' => ∃ lv,e = .returned (ndV (prcN u.t t at_) lv) ∧ LNP (fun b => w.heap.size ≤ b) w' lv (prcN u.t t at_).l ∧ PS w' g tv T k1 (m1 + 1) o ∧ Gw g w w' ∧ wfN (prcN u.t t at_) := by
 have C1 := h_ (fun W (h : Fr w W) => kind_yes g tv T k m o u W (hs.fr h) hu 1 hk)
 have C2 : Hid (∀ W,PS W g tv T (k + 1) m o → Calls prog 113 #[.pointer (some ⟨g,0,none⟩),.string ⟨#[40]⟩] W fun e w' => e = .returned (.tuple #[]) ∧ PS w' g tv T (k + 2) m o ∧ Gw g W w') := h_ (fun W h => want_yes g tv T (k + 1) m o u1 W h hu1 ⟨#[40]⟩ hf1)
 have C3 : Hid (∀ W,PS W g tv T (k + 2) m o → Calls prog 111 #[.pointer (some ⟨g,0,none⟩),.string ⟨#[41]⟩] W fun e w' => e = .returned (.bool true) ∧ Fr W w') := h_ (fun W h => by
  have := is_any g tv T (k + 2) m o u2 W h hu2 ⟨#[41]⟩
  rw [hf2] at this
  exact this)
 have C4 : Hid (∀ W,PS W g tv T (k + 2) m o → Calls prog 113 #[.pointer (some ⟨g,0,none⟩),.string ⟨#[41]⟩] W fun e w' => e = .returned (.tuple #[]) ∧ PS w' g tv T (k + 3) m o ∧ Gw g W w') := h_ (fun W h => want_yes g tv T (k + 2) m o u2 W h hu2 ⟨#[41]⟩ hf2)
 have C5 : Hid (∀ W,PS W g tv T (k + 3) m o → Calls prog 99 #[.pointer (some ⟨g,0,none⟩),.string ⟨#[98,101]⟩] W fun e w' => e = .returned (.bool true) ∧ PS w' g tv T (k + 4) m o ∧ Gw g W w') := h_ (fun W h => take_yes g tv T (k + 3) m o u3 W h hu3 ⟨#[98,101]⟩ hf3)
 have HC := h_ hd
 have HS := h_ hs
 have HOV := h_ hov
 have HM := h_ hm
 have HAT := h_ hat
 have HUS := h_ hsz
 have hgl := hs.rs.lt
 obtain ⟨i0,hi0,hz0,hz1,hz2⟩ := info_of Tryz.infoNode
 have HI := h_ (And.intro hi0 (And.intro hz0 (And.intro hz1 hz2)))
 obtain ⟨w0,hw0,HF0,HB0,HSZ0⟩ := al0 w
 have HW0 := h_ hw0
 have n3 : ¬ w.heap.size = g := by omega
 clear hw0 hgl
 unfold tkV at C1
 obtain ⟨x0,hx0⟩ : ∃ x : Int,x = u.k := ⟨_,rfl⟩
 obtain ⟨x3,hx3⟩ : ∃ x : Int,x = u.a := ⟨_,rfl⟩
 obtain ⟨x1,hx1⟩ : ∃ x,x = u.t := ⟨_,rfl⟩
 obtain ⟨x2,hx2⟩ : ∃ x,x = u.n := ⟨_,rfl⟩
 rw [← hx0,← hx1,← hx2,← hx3] at C1
 rw [← hx1]
 rw [← hx1] at HUS
 clear hs hov hd hu hk hu1 hf1 hu2 hf2 hu3 hf3 hm hat hsz hx0 hx1 hx2 hx3 hi0 hz0 hz1 hz2
 go_enter func191,ntmps191
 go_wp2_with fail
 try rw [← HW0.out]
 refine (C1.out _ HF0.out).mono ?_
 rintro e w1 ⟨rfl,hp1,hg1⟩
 have HP1 := h_ hp1
 have HG1 : Hid (Gw g w w1) := h_ ((HF0.out.gw g).trans hg1)
 have HB1 := h_ (HB0.out.gw hg1 n3)
 have HZ1 : Hid (w0.heap.size ≤ w1.heap.size) := h_ hg1.size
 clear hp1 hg1
 have HFA : Hid (Fr w1 ((w1.alloc (.cells #[.int .i64 x0,.string x1,.int .i64 x2,.int .i64 x3] 98)).alloc (.cells #[.int .i64 64,.int .i64 0,.string x1,.slice none 0 0,.int .i64 at_] 32))) := h_ (((Fr.refl w1).alloc _).alloc _)
 have H6 := h_ (Nb.new1 w1 (.cells #[.int .i64 x0,.string x1,.int .i64 x2,.int .i64 x3] 98) (.int .i64 64) (.int .i64 0) (.string x1) (.slice none 0 0) (.int .i64 at_))
 have n6 : ¬ w1.heap.size + 1 = g := by have h0 := HS.out.rs.lt; have h1 := HZ1.out; have h2 := HSZ0.out; omega
 have n6' : ¬ g = w1.heap.size + 1 := fun h => n6 h.symm
 go_wp2_with fail
 refine (C2.out _ (HP1.out.fr HFA.out)).mono ?_
 rintro e w2 ⟨rfl,hp2,hg2⟩
 have HP2 := h_ hp2
 have HG2 : Hid (Gw g w1 w2) := h_ ((HFA.out.gw g).trans hg2)
 have H62 := h_ (H6.out.gw hg2 n6)
 clear hp2 hg2
 go_wp2_with fail
 refine (C3.out _ HP2.out).mono ?_
 rintro e w3 ⟨rfl,hf3⟩
 have HP3 := h_ (HP2.out.fr hf3)
 have HG3 := h_ (HG2.out.fr hf3)
 have H63 := h_ (H62.out.fr hf3)
 clear hf3
 go_wp2_with fail
 refine (C4.out _ HP3.out).mono ?_
 rintro e w4 ⟨rfl,hp4,hg4⟩
 have HP4 := h_ (hp4.fr ((Fr.refl w4).alloc (.cells #[.int .i64 0,.int .i64 0,.string ⟨#[]⟩,.slice none 0 0,.int .i64 0] 32)))
 have HG4 := h_ ((HG3.out.trans hg4).fr ((Fr.refl w4).alloc (.cells #[.int .i64 0,.int .i64 0,.string ⟨#[]⟩,.slice none 0 0,.int .i64 0] 32)))
 have H64 := h_ ((H63.out.gw hg4 n6).al5 (.cells #[.int .i64 0,.int .i64 0,.string ⟨#[]⟩,.slice none 0 0,.int .i64 0] 32))
 have H7 := h_ (Nb.new w4 (.int .i64 0) (.int .i64 0) (.string ⟨#[]⟩) (.slice none 0 0) (.int .i64 0))
 have HZ4 : Hid (w1.heap.size + 2 ≤ w4.heap.size) := h_ (by have h1 := HG3.out.size; have h2 := H63.out.lt; have h3 := hg4.size; omega)
 have n7 : ¬ w4.heap.size = g := by have h0 := HS.out.rs.lt; have h1 := HZ4.out; have h2 := HZ1.out; have h3 := HSZ0.out; omega
 have n76 : ¬ w4.heap.size = w1.heap.size + 1 := by have h1 := HZ4.out; omega
 have n67 : ¬ w1.heap.size + 1 = w4.heap.size := by have h1 := HZ4.out; omega
 clear hp4 hg4
 go_wp2_with fail
 refine (C5.out _ HP4.out).mono ?_
 rintro e w5 ⟨rfl,hp5,hg5⟩
 have HP5 := h_ hp5
 have HG5 := h_ (HG4.out.trans hg5)
 have H65 := h_ (H64.out.gw hg5 n6)
 have H75 := h_ (H7.out.gw hg5 n7)
 have HZ5 : Hid (w4.heap.size < w5.heap.size) := h_ (H75.out.lt)
 clear hp5 hg5
 obtain ⟨s0,s1,s2,s3,s4⟩ := H65.out.cells
 have fs1 := H65.out.free 1
 go_wp2_with fail
 have HLE6 : Hid (w.heap.size ≤ w1.heap.size + 1) := h_ (by have h1 := HG1.out.size; omega)
 have HLE7 : Hid (w.heap.size ≤ w4.heap.size) := h_ (by have h1 := HG1.out.size; have h2 := HZ4.out; omega)
 have HGX : Hid (Gw g w (w5.setCell ⟨w1.heap.size + 1,1,none⟩ (.int .i64 1))) := h_ ((HG1.out.trans HG5.out).own' HLE6.out 1 (.int .i64 1))
 have HPX : Hid (PS (w5.setCell ⟨w1.heap.size + 1,1,none⟩ (.int .i64 1)) g tv T (k + 4) m o) := h_ (HS.out.step HGX.out (HP5.out.rs.far' n6 1 (.int .i64 1)) HP5.out.hk HP5.out.hm HP5.out.ho)
 refine (HC.out _ (HOV.out.gw HGX.out) HPX.out).mono ?_
 rintro e w6 ⟨lv,rfl,hl6,hp6,hg6,hwf⟩
 obtain ⟨la,lc,rfl,_,_,_⟩ := hl6.ln.form
 have HWF := h_ hwf
 have HP6 := h_ hp6
 have HG6 := h_ (HGX.out.trans hg6)
 have H66 := h_ ((H65.out.put1 (.int .i64 1)).gw hg6 n6)
 have H76 := h_ ((H75.out.far n67 1 (.int .i64 1)).gw hg6 n7)
 have HL6 : Hid (LNP (fun b => w5.heap.size ≤ b) w6 (.slice la t.l.length lc) t.l) := h_ (hl6.keep fun b off x hb hx => ⟨by have : (w5.setCell ⟨w1.heap.size + 1,1,none⟩ (.int .i64 1)).heap.size = w5.heap.size := (by simp [World.setCell]); omega,hx⟩)
 have n6w : ¬ w1.heap.size + 1 = w.heap.size := by have h1 := HG1.out.size; omega
 have n7w : ¬ w4.heap.size = w.heap.size := by have h1 := HG1.out.size; have h2 := HZ4.out; omega
 have HB6 := h_ (((HB1.out.gw HG5.out n3).far n6w 1 (.int .i64 1)).gw hg6 n3)
 have HZ6 : Hid (w5.heap.size ≤ w6.heap.size) := h_ (by have := hg6.size; have h2 : (w5.setCell ⟨w1.heap.size + 1,1,none⟩ (.int .i64 1)).heap.size = w5.heap.size := (by simp [World.setCell]); omega)
 clear hl6 hp6 hg6 hwf
 obtain ⟨q0,hq0,q1,hq1,q2,hq2,q4,hq4⟩ := qs_ t
 obtain ⟨ll,hll⟩ : ∃ x,x = t.l.length := ⟨_,rfl⟩
 have HV : Hid (Ending.returned (.agg #[.int .i64 q0,.int .i64 q1,.string q2,.slice la ll lc,.int .i64 q4]) = Ending.returned (ndV t (.slice la ll lc))) := h_ (by rw [hq0,hq1,hq2,hq4]; rfl)
 unfold ndV
 rw [← hq0,← hq1,← hq2,← hq4,← hll]
 have HNC : Hid (ncells t (.slice la ll lc) = [.int .i64 q0,.int .i64 q1,.string q2,.slice la ll lc,.int .i64 q4]) := h_ (by rw [hq0,hq1,hq2,hq4]; rfl)
 clear hq0 hq1 hq2 hq4 HV
 rw [← hll] at HL6
 clear hll
 have HN7 := h_ (H76.out.set5 (.int .i64 q0) (.int .i64 q1) (.string q2) (.slice la ll lc) (.int .i64 q4))
 have HN6 := h_ (set5_nb H66.out n76 (.int .i64 q0) (.int .i64 q1) (.string q2) (.slice la ll lc) (.int .i64 q4))
 obtain ⟨z0,z1,z2,z3,z4⟩ := H76.out.cells
 have fz0 := H76.out.free 0
 have fz1 := H76.out.free 1
 have fz2 := H76.out.free 2
 have fz3 := H76.out.free 3
 have fz4 := H76.out.free 4
 obtain ⟨t0,t1,t2,t3,t4⟩ := HN7.out.cells
 obtain ⟨y0,y1,y2,y3,y4⟩ := HN6.out.cells
 have hs6 : (((((w6.setCell ⟨w4.heap.size,0,none⟩ (.int .i64 q0)).setCell ⟨w4.heap.size,1,none⟩ (.int .i64 q1)).setCell ⟨w4.heap.size,2,none⟩ (.string q2)).setCell ⟨w4.heap.size,3,none⟩ (.slice la ll lc)).setCell ⟨w4.heap.size,4,none⟩ (.int .i64 q4)).heap.size = w6.heap.size := by simp [World.setCell]
 have HS6 := h_ hs6
 have HXS : Hid (∀ j u,(ncells t (.slice la ll lc))[j]? = some u → ((((((w6.setCell ⟨w4.heap.size,0,none⟩ (.int .i64 q0)).setCell ⟨w4.heap.size,1,none⟩ (.int .i64 q1)).setCell ⟨w4.heap.size,2,none⟩ (.string q2)).setCell ⟨w4.heap.size,3,none⟩ (.slice la ll lc)).setCell ⟨w4.heap.size,4,none⟩ (.int .i64 q4)).alloc (.cells #[.int .i64 q0,.int .i64 q1,.string q2,.slice la ll lc,.int .i64 q4] 32)).cell? ((⟨w6.heap.size,0,none⟩ : Addr).add j) = some u) := h_ (by
  have h := Nb.new (((((w6.setCell ⟨w4.heap.size,0,none⟩ (.int .i64 q0)).setCell ⟨w4.heap.size,1,none⟩ (.int .i64 q1)).setCell ⟨w4.heap.size,2,none⟩ (.string q2)).setCell ⟨w4.heap.size,3,none⟩ (.slice la ll lc)).setCell ⟨w4.heap.size,4,none⟩ (.int .i64 q4)) (.int .i64 q0) (.int .i64 q1) (.string q2) (.slice la ll lc) (.int .i64 q4)
  rw [hs6] at h
  intro j u hu
  rw [HNC.out] at hu
  obtain ⟨y0,y1,y2,y3,y4⟩ := h.cells
  rw [ap_add,Nat.zero_add]
  match j,hu with
  | 0,hu => obtain rfl : _ = u := Option.some.inj hu; exact y0
  | 1,hu => obtain rfl : _ = u := Option.some.inj hu; exact y1
  | 2,hu => obtain rfl : _ = u := Option.some.inj hu; exact y2
  | 3,hu => obtain rfl : _ = u := Option.some.inj hu; exact y3
  | 4,hu => obtain rfl : _ = u := Option.some.inj hu; exact y4)
 have HSZ6 : Hid (w5.heap.size ≤ ((((((w6.setCell ⟨w4.heap.size,0,none⟩ (.int .i64 q0)).setCell ⟨w4.heap.size,1,none⟩ (.int .i64 q1)).setCell ⟨w4.heap.size,2,none⟩ (.string q2)).setCell ⟨w4.heap.size,3,none⟩ (.slice la ll lc)).setCell ⟨w4.heap.size,4,none⟩ (.int .i64 q4)).alloc (.cells #[.int .i64 q0,.int .i64 q1,.string q2,.slice la ll lc,.int .i64 q4] 32)).heap.size) := h_ (by rw [size_alloc',hs6]; have := HZ6.out; omega)
 clear hs6
 go_wp2_with (with_reducible refine stop_append_n ?_)
 unfold StopN
 refine wpList_plain rfl fun K hK => ?_
 refine wp_append_where (.tmp 34) (.tmp 36) 22 rfl w5.heap.size 32 i0 _ 5 64 underlying22 HI.out.1 HI.out.2.1 HI.out.2.2.1 HI.out.2.2.2 rfl (by omega) (.slice none 0 0) 0 [] (by rfl) (World.ownsRow_nil _ _ _ _) ⟨w6.heap.size,0,none⟩ 1 1 (ncells t (.slice la ll lc)) (by rfl) (by rfl) HXS.out (ncells_one _ _ _ _) (by omega) (by unfold maxLen; omega) (by omega) HSZ6.out fun v2 w7 hown2 hg2 hwh => hK _ _ ?_
 have HF7 : Hid (Fr (((((w6.setCell ⟨w4.heap.size,0,none⟩ (.int .i64 q0)).setCell ⟨w4.heap.size,1,none⟩ (.int .i64 q1)).setCell ⟨w4.heap.size,2,none⟩ (.string q2)).setCell ⟨w4.heap.size,3,none⟩ (.slice la ll lc)).setCell ⟨w4.heap.size,4,none⟩ (.int .i64 q4)) w7) := h_ (((Fr.refl _).alloc (.cells #[.int .i64 q0,.int .i64 q1,.string q2,.slice la ll lc,.int .i64 q4] 32)).trans ⟨hg2.os,hg2.tape,hg2.output,hg2.size,fun k hk => hg2.block k hk (by simp [Value.ownBlock])⟩)
 have HG6' : Hid (Gw g w (((((w6.setCell ⟨w4.heap.size,0,none⟩ (.int .i64 q0)).setCell ⟨w4.heap.size,1,none⟩ (.int .i64 q1)).setCell ⟨w4.heap.size,2,none⟩ (.string q2)).setCell ⟨w4.heap.size,3,none⟩ (.slice la ll lc)).setCell ⟨w4.heap.size,4,none⟩ (.int .i64 q4))) := h_ (set5_gw HG6.out HLE7.out _ _ _ _ _)
 have HG7 := h_ (HG6'.out.fr HF7.out)
 have HL7 : Hid (LNP (fun b => w5.heap.size ≤ b) w7 v2 [t]) := h_ (LNP.row (l := [t]) (lvs := fun _ => .slice la ll lc) hown2 (by intro x hx; simp at hx; subst hx; exact HWF.out) (fun i x hx => by
  match i,hx with
  | 0,hx =>
   simp at hx; subst hx
   exact HL6.out.keep fun b off x hb hx => ⟨hb,HF7.out.cell (set5_cell hx (by have := HZ5.out; omega) _ _ _ _ _)⟩))
 obtain ⟨ra,rc,rfl⟩ := own_form5 hown2
 have H67 := h_ (HN6.out.fr HF7.out)
 have HRS7 := h_ ((set5_rs HP6.out.rs n7 (.int .i64 q0) (.int .i64 q1) (.string q2) (.slice la ll lc) (.int .i64 q4)).fr HF7.out)
 clear hown2 hg2 hwh hK
 have HG8 : Hid (Gw g w (w7.setCell ⟨w1.heap.size + 1,3,none⟩ (.slice ra (0 + 1) rc))) := h_ (HG7.out.own' HLE6.out 3 _)
 have HP8 : Hid (PS (w7.setCell ⟨w1.heap.size + 1,3,none⟩ (.slice ra (0 + 1) rc)) g tv T k1 m1 o) := h_ (HS.out.step HG8.out (HRS7.out.far' n6 3 _) HP6.out.hk HP6.out.hm HP6.out.ho)
 have H68 := h_ (H67.out.put3 (.slice ra (0 + 1) rc))
 have C6 : Hid (Calls prog 115 #[.pointer (some ⟨g,0,none⟩),.agg #[.int .i64 64,.int .i64 1,.string x1,.slice ra (0 + 1) rc,.int .i64 at_]] (w7.setCell ⟨w1.heap.size + 1,3,none⟩ (.slice ra (0 + 1) rc)) fun e w' => e = .returned (.agg #[.int .i64 64,.int .i64 1,.string x1,.slice ra (0 + 1) rc,.int .i64 at_]) ∧ PS w' g tv T k1 (m1 + 1) o ∧ Gw g (w7.setCell ⟨w1.heap.size + 1,3,none⟩ (.slice ra (0 + 1) rc)) w') :=
  h_ (made_yes g tv T k1 m1 o _ HP8.out ⟨64,1,x1,[],at_⟩ ra (0 + 1) rc HM.out)
 obtain ⟨j0,j1,j2,j3,j4⟩ := H67.out.cells
 have fj3 := H67.out.free 3
 obtain ⟨l0,l1,l2,l3,l4⟩ := H68.out.cells
 go_wp2_with fail
 refine C6.out.mono ?_
 rintro e w9 ⟨rfl,hp9,hg9⟩
 have HP2 := h_ hp9
 have HG2 := h_ (HG8.out.trans hg9)
 have HB2 := h_ ((((set5_nb HB6.out n7w (.int .i64 q0) (.int .i64 q1) (.string q2) (.slice la ll lc) (.int .i64 q4)).fr HF7.out).far n6w 3 (.slice ra (0 + 1) rc)).gw hg9 n3)
 have HL2 : Hid (LNP (fun b => w5.heap.size ≤ b) w9 (.slice ra (0 + 1) rc) [t]) := h_ (by
  have h1 := HZ4.out
  have h2 := HZ5.out
  have h3 := HS.out.rs.lt
  have h4 := HG1.out.size
  exact HL7.out.keep fun b off x hb hx => ⟨hb,hg9.cell (by rw [World.cell?_setCell_far _ _ _ _ (by show w1.heap.size + 1 ≠ b; omega)]; exact hx) (by omega)⟩)
 clear hp9 hg9
 obtain ⟨c0,c1,c2,c3,c4⟩ := HB2.out.cells
 have b0 := HB2.out.free 0
 have b1 := HB2.out.free 1
 have b2 := HB2.out.free 2
 have b3 := HB2.out.free 3
 have b4 := HB2.out.free 4
 go_wp2_with fail
 refine bodyPost_ret (v := .agg #[.int .i64 64,.int .i64 1,.string x1,.slice ra (0 + 1) rc,.int .i64 at_]) (by simp [results,results191,go_sem,c0,c1,c2,c3,c4]) rfl ?_
 have HQ := st5_all HS.out HP2.out HG2.out HL2.out (by have h1 := HG1.out.size; have h2 := HZ4.out; have h3 := HZ5.out; omega) n3 (.int .i64 64) (.int .i64 1) (.string x1) (.slice ra (0 + 1) rc) (.int .i64 at_)
 exact ⟨_,rfl,HQ.2.2,HQ.1,HQ.2.1,⟨by unfold wf64; show (-9223372036854775808 : Int) ≤ 64 ∧ (64 : Int) ≤ _; omega,by unfold wf64; show (-9223372036854775808 : Int) ≤ 1 ∧ (1 : Int) ≤ _; omega,HAT.out,HUS.out⟩⟩
theorem declaration_let (T : List Tp) (k m o : Nat) (u : Tp) (hu : T[k]? = some u) (h1 : fx u ⟨#[109,97,110,105,102,101,115,116]⟩ = false) (h2 : fx u ⟨#[115,116,97,116,105,99]⟩ = false) (h3 : fx u ⟨#[103,108,111,98,97,108]⟩ = false) (h4 : fx u ⟨#[108,101,116]⟩ = true) (t : Nd) (k1 m1 : Nat) (ba : Option Addr) (bl bc : Nat)
 (g : Nat) (tv : Value) (w : World) (hov : OvG g w) (hs : PS w g tv T k m o)
 (hd : ∀ (w : World),OvG g w → PS w g tv T (k + 1) m o → Calls prog 191 #[.pointer (some ⟨g,0,none⟩),.int .i64 u.a] w fun e w' => ∃ lv,e = .returned (ndV t lv) ∧ LNP (fun b => w.heap.size ≤ b) w' lv t.l ∧ PS w' g tv T k1 m1 o ∧ Gw g w w' ∧ wfN t) :
 Calls prog 101 #[.pointer (some ⟨g,0,none⟩),.slice ba bl bc] w fun e w' => ∃ lv,e = .returned (.tuple #[ndV t lv,.bool true]) ∧ LNP (fun b => w.heap.size ≤ b) w' lv t.l ∧ PS w' g tv T k1 m1 o ∧ Gw g w w' ∧ wfN t := by
 have C1 := h_ (fun W (h : Fr w W) => token_any g tv T k m o u W (hs.fr h) hu)
 have CT1 : Hid (∀ W,Fr w W → Calls prog 99 #[.pointer (some ⟨g,0,none⟩),.string ⟨#[109,97,110,105,102,101,115,116]⟩] W fun e w' => e = .returned (.bool false) ∧ Fr W w') := h_ (fun W h => take_no g tv T k m o u W (hs.fr h) hu _ h1)
 have CT2 : Hid (∀ W,Fr w W → Calls prog 99 #[.pointer (some ⟨g,0,none⟩),.string ⟨#[115,116,97,116,105,99]⟩] W fun e w' => e = .returned (.bool false) ∧ Fr W w') := h_ (fun W h => take_no g tv T k m o u W (hs.fr h) hu _ h2)
 have CT3 : Hid (∀ W,Fr w W → Calls prog 99 #[.pointer (some ⟨g,0,none⟩),.string ⟨#[103,108,111,98,97,108]⟩] W fun e w' => e = .returned (.bool false) ∧ Fr W w') := h_ (fun W h => take_no g tv T k m o u W (hs.fr h) hu _ h3)
 have CT4 : Hid (∀ W,Fr w W → Calls prog 99 #[.pointer (some ⟨g,0,none⟩),.string ⟨#[108,101,116]⟩] W fun e w' => e = .returned (.bool true) ∧ PS w' g tv T (k + 1) m o ∧ Gw g W w') := h_ (fun W h => take_yes g tv T k m o u W (hs.fr h) hu _ h4)
 have HC := h_ hd
 have HS := h_ hs
 have HOV := h_ hov
 have hgl := hs.rs.lt
 obtain ⟨w0,hw0,HF0,HB0,HSZ0⟩ := al0 w
 have HW0 := h_ hw0
 have n3 : ¬ w.heap.size = g := by omega
 clear hw0 hgl
 unfold tkV at C1
 obtain ⟨x0,hx0⟩ : ∃ x : Int,x = u.k := ⟨_,rfl⟩
 obtain ⟨x3,hx3⟩ : ∃ x : Int,x = u.a := ⟨_,rfl⟩
 obtain ⟨x1,hx1⟩ : ∃ x,x = u.t := ⟨_,rfl⟩
 obtain ⟨x2,hx2⟩ : ∃ x,x = u.n := ⟨_,rfl⟩
 rw [← hx0,← hx1,← hx2,← hx3] at C1
 rw [← hx3] at HC
 have hfield := tok_field (.int .i64 x0) (.string x1) (.int .i64 x2) (.int .i64 x3)
 clear hs hov hd hu h1 h2 h3 h4 hx0 hx1 hx2 hx3
 go_enter func101,ntmps101
 go_wp2_with fail
 try rw [← HW0.out]
 refine (C1.out _ HF0.out).mono ?_
 rintro e v0 ⟨rfl,hf2⟩
 have HF0' : Hid (Fr w v0) := h_ (HF0.out.trans hf2)
 have HB0' := h_ (HB0.out.fr hf2)
 have HZ0 : Hid (w0.heap.size ≤ v0.heap.size) := h_ hf2.size
 clear hf2
 go_wp2_with fail
 refine (CT1.out _ HF0'.out).mono ?_
 rintro e v1 ⟨rfl,hf2⟩
 have HF1 : Hid (Fr w v1) := h_ (HF0'.out.trans hf2)
 have HB1 := h_ (HB0'.out.fr hf2)
 have HZ1 : Hid (w0.heap.size ≤ v1.heap.size) := h_ (Nat.le_trans HZ0.out hf2.size)
 clear hf2
 go_wp2_with fail
 refine (CT2.out _ HF1.out).mono ?_
 rintro e v2 ⟨rfl,hf2⟩
 have HF2 : Hid (Fr w v2) := h_ (HF1.out.trans hf2)
 have HB2 := h_ (HB1.out.fr hf2)
 have HZ2 : Hid (w0.heap.size ≤ v2.heap.size) := h_ (Nat.le_trans HZ1.out hf2.size)
 clear hf2
 go_wp2_with fail
 refine (CT3.out _ HF2.out).mono ?_
 rintro e v3 ⟨rfl,hf2⟩
 have HF3 : Hid (Fr w v3) := h_ (HF2.out.trans hf2)
 have HB3 := h_ (HB2.out.fr hf2)
 have HZ3 : Hid (w0.heap.size ≤ v3.heap.size) := h_ (Nat.le_trans HZ2.out hf2.size)
 clear hf2
 go_wp2_with fail
 refine (CT4.out _ HF3.out).mono ?_
 rintro e v4 ⟨rfl,hp4,hg4⟩
 have HP4 := h_ hp4
 have HG4 := h_ ((HF3.out.gw g).trans hg4)
 have HB4 := h_ (HB3.out.gw hg4 n3)
 have HZ4 : Hid (w0.heap.size ≤ v4.heap.size) := h_ (Nat.le_trans HZ3.out hg4.size)
 clear hp4 hg4
 go_wp2_with fail
 refine (HC.out _ (HOV.out.gw HG4.out) HP4.out).mono ?_
 rintro e w2 ⟨lv,rfl,hl2,hp2,hg2,hwf⟩
 have HWF := h_ hwf
 obtain ⟨la,lc,rfl,_,_,_⟩ := hl2.ln.form
 have HL2 := h_ hl2
 have HP2 := h_ hp2
 have HG2 := h_ (HG4.out.trans hg2)
 have HB2 := h_ (HB4.out.gw hg2 n3)
 clear hl2 hp2 hg2 hwf
 obtain ⟨q0,hq0,q1,hq1,q2,hq2,q4,hq4⟩ := qs_ t
 obtain ⟨ll,hll⟩ : ∃ x,x = t.l.length := ⟨_,rfl⟩
 have HV : Hid (Value.agg #[.int .i64 q0,.int .i64 q1,.string q2,.slice la ll lc,.int .i64 q4] = ndV t (.slice la ll lc)) := h_ (by rw [hq0,hq1,hq2,hq4]; rfl)
 unfold ndV
 rw [← hq0,← hq1,← hq2,← hq4,← hll]
 clear hq0 hq1 hq2 hq4
 rw [← hll] at HL2
 clear hll
 obtain ⟨c0,c1,c2,c3,c4⟩ := HB2.out.cells
 have b0 := HB2.out.free 0
 have b1 := HB2.out.free 1
 have b2 := HB2.out.free 2
 have b3 := HB2.out.free 3
 have b4 := HB2.out.free 4
 go_wp2_with fail
 refine bodyPost_ret (v := .tuple #[.agg #[.int .i64 q0,.int .i64 q1,.string q2,.slice la ll lc,.int .i64 q4],.bool true]) (by simp [results,results101,go_sem,c0,c1,c2,c3,c4]) rfl ?_
 have HQ := st5_all HS.out HP2.out HG2.out HL2.out (by have h1 := HSZ0.out; have h2 := HZ4.out; omega) n3 (.int .i64 q0) (.int .i64 q1) (.string q2) (.slice la ll lc) (.int .i64 q4)
 exact ⟨_,by rw [HV.out],HQ.2.2,HQ.1,HQ.2.1,HWF.out⟩
theorem declaration_none (T : List Tp) (k m o : Nat) (u : Tp) (hu : T[k]? = some u) (hk : u.k = 0) (b off bc : Nat)
 (g : Nat) (tv : Value) (w : World) (hs : PS w g tv T k m o) (hc : w.cell? ⟨b,off,none⟩ = some (.int .i64 64)) :
 Calls prog 101 #[.pointer (some ⟨g,0,none⟩),.slice (some ⟨b,off,none⟩) 1 bc] w fun e w' => e = .returned (.tuple #[.agg #[.int .i64 0,.int .i64 0,.string ⟨#[]⟩,.slice none 0 0,.int .i64 0],.bool false]) ∧ Fr w w' := by
 have C1 := h_ (fun W (h : Fr w W) => token_any g tv T k m o u W (hs.fr h) hu)
 have CT : Hid (∀ s W,Fr w W → Calls prog 99 #[.pointer (some ⟨g,0,none⟩),.string s] W fun e w' => e = .returned (.bool false) ∧ Fr W w') := h_ (fun s W h => take_no g tv T k m o u W (hs.fr h) hu s (fx_name (.inr (.inr (.inr hk))) s))
 have HCC := h_ hc
 have hgl := hs.rs.lt
 obtain ⟨w0,hw0,HF0,HB0,HSZ0⟩ := al0 w
 have HW0 := h_ hw0
 have n3 : ¬ w.heap.size = g := by omega
 clear hw0 hgl
 unfold tkV at C1
 obtain ⟨x0,hx0⟩ : ∃ x : Int,x = u.k := ⟨_,rfl⟩
 obtain ⟨x3,hx3⟩ : ∃ x : Int,x = u.a := ⟨_,rfl⟩
 obtain ⟨x1,hx1⟩ : ∃ x,x = u.t := ⟨_,rfl⟩
 obtain ⟨x2,hx2⟩ : ∃ x,x = u.n := ⟨_,rfl⟩
 rw [← hx0,← hx1,← hx2,← hx3] at C1
 have hfield := tok_field (.int .i64 x0) (.string x1) (.int .i64 x2) (.int .i64 x3)
 have i1 : IntKind.i64.wrap ((1 : Int) - 1) = 0 := by rw [show (1 : Int) - 1 = 0 by omega]; exact IntWalk.i64_in _ (by omega)
 clear hs hu hk hc hx0 hx1 hx2 hx3
 go_enter func101,ntmps101
 go_wp2_with fail
 try rw [← HW0.out]
 refine (C1.out _ HF0.out).mono ?_
 rintro e v0 ⟨rfl,hf2⟩
 have HF0' : Hid (Fr w v0) := h_ (HF0.out.trans hf2)
 have HB0' := h_ (HB0.out.fr hf2)
 clear hf2
 go_wp2_with fail
 refine (CT.out _ _ HF0'.out).mono ?_
 rintro e v1 ⟨rfl,hf2⟩
 have HF1 : Hid (Fr w v1) := h_ (HF0'.out.trans hf2)
 have HB1 := h_ (HB0'.out.fr hf2)
 clear hf2
 go_wp2_with fail
 refine (CT.out _ _ HF1.out).mono ?_
 rintro e v2 ⟨rfl,hf2⟩
 have HF2 : Hid (Fr w v2) := h_ (HF1.out.trans hf2)
 have HB2 := h_ (HB1.out.fr hf2)
 clear hf2
 go_wp2_with fail
 refine (CT.out _ _ HF2.out).mono ?_
 rintro e v3 ⟨rfl,hf2⟩
 have HF3 : Hid (Fr w v3) := h_ (HF2.out.trans hf2)
 have HB3 := h_ (HB2.out.fr hf2)
 clear hf2
 go_wp2_with fail
 refine (CT.out _ _ HF3.out).mono ?_
 rintro e v4 ⟨rfl,hf2⟩
 have HF4 : Hid (Fr w v4) := h_ (HF3.out.trans hf2)
 have HB4 := h_ (HB3.out.fr hf2)
 clear hf2
 have hcell := HF4.out.cell HCC.out
 go_wp2_with fail
 refine (CT.out _ _ HF4.out).mono ?_
 rintro e v5 ⟨rfl,hf2⟩
 have HF5 : Hid (Fr w v5) := h_ (HF4.out.trans hf2)
 have HB2 := h_ (HB4.out.fr hf2)
 clear hf2
 obtain ⟨c0,c1,c2,c3,c4⟩ := HB2.out.cells
 have b0 := HB2.out.free 0
 have b1 := HB2.out.free 1
 have b2 := HB2.out.free 2
 have b3 := HB2.out.free 3
 have b4 := HB2.out.free 4
 go_wp2_with fail
 refine bodyPost_ret (v := .tuple #[.agg #[.int .i64 0,.int .i64 0,.string ⟨#[]⟩,.slice none 0 0,.int .i64 0],.bool false]) (by simp [results,results101,go_sem,c0,c1,c2,c3,c4]) rfl ?_
 have e0 : w.heap.size ≤ w.heap.size := Nat.le_refl _
 exact ⟨rfl,((((HF5.out.setCell e0 _).setCell e0 _).setCell e0 _).setCell e0 _).setCell e0 _⟩
theorem SecB.gw {g : Nat} {w w' : World} {b : Nat} {x0 x1 : Value} (h : SecB w b x0 x1) (k : Gw g w w') (hb : b ≠ g) : SecB w' b x0 x1 := (k.block b h.lt (by intro e; injection e; omega)).trans h
theorem SecB.al {w : World} {b : Nat} {x0 x1 : Value} (h : SecB w b x0 x1) (x : Obj) : SecB (w.alloc x) b x0 x1 := h.fr ((Fr.refl w).alloc x)
theorem SecB.free {w : World} {b : Nat} {x0 x1 : Value} (h : SecB w b x0 x1) (i : Nat) : w.frozen? ⟨b,i,none⟩ = false := by
 unfold SecB at h
 simp [World.frozen?,h]
theorem SecB.put1 {w : World} {b : Nat} {x0 x1 : Value} (h : SecB w b x0 x1) (y : Value) : SecB (w.setCell ⟨b,1,none⟩ y) b x0 y := by
 unfold SecB at h ⊢
 simp [World.setCell,Array.getElem?_modify,h]
theorem SecB.far {w : World} {b : Nat} {x0 x1 : Value} (h : SecB w b x0 x1) {p : Nat} (hp : ¬ p = b) (i : Nat) (v : Value) : SecB (w.setCell ⟨p,i,none⟩ v) b x0 x1 := by
 unfold SecB at h ⊢
 simp only [World.setCell,Array.getElem?_modify]
 rw [if_neg hp]
 exact h
theorem SecB.new1 (w : World) (o : Obj) (x0 x1 : Value) : SecB ((w.alloc o).alloc (.cells #[x0,x1] 24)) (w.heap.size + 1) x0 x1 := by
 have h := SecB.new (w.alloc o) x0 x1
 simpa using h
theorem section_one (T : List Tp) (k m o : Nat) (u x : Tp) (hu : T[k]? = some u) (h1 : fx u ⟨#[115,101,99,116,105,111,110]⟩ = false) (t : Nd) (k1 m1 : Nat) (hkm : k < k1) (h64 : t.op = 64) (hx : T[k1]? = some x) (hx0 : x.k = 0) (hlv : 1 + lvlL t.l ≤ 40) (hbk : bulks t.l ≤ 2000000)
 (g : Nat) (tv : Value) (w : World) (hov : OvG g w) (hs : PS w g tv T k m o)
 (hd : ∀ (w : World) (ba : Option Addr) (bl bc : Nat),OvG g w → PS w g tv T k m o → Calls prog 101 #[.pointer (some ⟨g,0,none⟩),.slice ba bl bc] w fun e w' => ∃ lv,e = .returned (.tuple #[ndV t lv,.bool true]) ∧ LNP (fun b => w.heap.size ≤ b) w' lv t.l ∧ PS w' g tv T k1 m1 o ∧ Gw g w w' ∧ wfN t) :
 Calls prog 49 #[.pointer (some ⟨g,0,none⟩)] w fun e w' => ∃ ra rc,e = .returned (.agg #[.string ⟨#[]⟩,.slice ra 1 rc]) ∧ LNP (fun b => w.heap.size ≤ b) w' (.slice ra 1 rc) [t] ∧ PS w' g tv T k1 m1 o ∧ Gw g w w' := by
 have CT : Hid (∀ W,Fr w W → Calls prog 99 #[.pointer (some ⟨g,0,none⟩),.string ⟨#[115,101,99,116,105,111,110]⟩] W fun e w' => e = .returned (.bool false) ∧ Fr W w') := h_ (fun W h => take_no g tv T k m o u W (hs.fr h) hu _ h1)
 have CN : Hid (∀ W b off bc,PS W g tv T k1 m1 o → W.cell? ⟨b,off,none⟩ = some (.int .i64 64) → Calls prog 101 #[.pointer (some ⟨g,0,none⟩),.slice (some ⟨b,off,none⟩) 1 bc] W fun e w' => e = .returned (.tuple #[.agg #[.int .i64 0,.int .i64 0,.string ⟨#[]⟩,.slice none 0 0,.int .i64 0],.bool false]) ∧ Fr W w') := h_ (fun W b off bc h hc => declaration_none T k1 m1 o x hx hx0 b off bc g tv W h hc)
 have CK : Hid (∀ W la lc a,LN W (.slice la t.l.length lc) t.l → Calls prog 56 #[ndV t (.slice la t.l.length lc),.int .i64 a] W fun e w' => e = .returned (.tuple #[]) ∧ Fr W w') := h_ (fun W la lc a h => checkDepth_yes t _ a W h hbk hlv)
 have HC := h_ hd
 have HS := h_ hs
 have HOV := h_ hov
 have HKM := h_ hkm
 have H64 := h_ h64
 have hgl := hs.rs.lt
 obtain ⟨i0,hi0,hz0,hz1,hz2⟩ := info_of Tryz.infoNode
 have HI := h_ (And.intro hi0 (And.intro hz0 (And.intro hz1 hz2)))
 obtain ⟨w0,hw0⟩ : ∃ w0,w0 = (w.alloc (.cells #[.string ⟨#[]⟩,.slice none 0 0] 24)).alloc (.cells #[.string ⟨#[]⟩,.slice none 0 0] 24) := ⟨_,rfl⟩
 have HF0 : Hid (Fr w w0) := h_ (by rw [hw0]; exact ((Fr.refl w).alloc _).alloc _)
 have HA0 : Hid (SecB w0 w.heap.size (.string ⟨#[]⟩) (.slice none 0 0)) := h_ (by rw [hw0]; exact (SecB.new w _ _).al _)
 have HB0 : Hid (SecB w0 (w.heap.size + 1) (.string ⟨#[]⟩) (.slice none 0 0)) := h_ (by rw [hw0]; exact SecB.new1 w _ _ _)
 have HZ0 : Hid (w0.heap.size = w.heap.size + 2) := h_ (by rw [hw0]; simp)
 have HW0 := h_ hw0
 have n3 : ¬ w.heap.size = g := by omega
 have n4 : ¬ w.heap.size + 1 = g := by omega
 have HGL := h_ hgl
 clear hs hov hd hu h1 hkm h64 hx hx0 hlv hbk hi0 hz0 hz1 hz2 hw0 hgl
 go_enter func49,ntmps49
 go_wp2_with fail
 try rw [← HW0.out]
 refine (CT.out _ HF0.out).mono ?_
 rintro e w1 ⟨rfl,hf1⟩
 have HF1 : Hid (Fr w w1) := h_ (HF0.out.trans hf1)
 have HA1 := h_ (HA0.out.fr hf1)
 have HB1 := h_ (HB0.out.fr hf1)
 have HZ1 : Hid (w0.heap.size ≤ w1.heap.size) := h_ hf1.size
 clear hf1
 go_wp2_with fail
 go_loopw [12] (fun _ wr => w0.heap.size ≤ wr.heap.size ∧ Gw g w wr ∧ SecB wr w.heap.size (.string ⟨#[]⟩) (.slice none 0 0) ∧ ((SecB wr (w.heap.size + 1) (.string ⟨#[]⟩) (.slice none 0 0) ∧ PS wr g tv T k m o) ∨ (∃ ra rc,SecB wr (w.heap.size + 1) (.string ⟨#[]⟩) (.slice ra 1 rc) ∧ PS wr g tv T k1 m1 o ∧ LNP (fun b => w0.heap.size ≤ b) wr (.slice ra 1 rc) [t]))) (fun _ wr => 20002 - nx g wr)
 case atStart => exact ⟨HZ1.out,HF1.out.gw g,HA1.out,.inl ⟨HB1.out,HS.out.fr HF1.out⟩⟩
 case round =>
  obtain ⟨hz,hg,ha,hst⟩ := hrel
  have HZ := h_ hz
  have HG := h_ hg
  have HA := h_ ha
  clear hz hg ha
  rcases hst with ⟨hb,hp⟩ | ⟨ra,rc,hb,hp,hl⟩
  ·have HB := h_ hb
   have HP := h_ hp
   obtain ⟨s0,s1⟩ := hb.cells
   clear hb hp
   go_wp2_with fail
   refine (HC.out _ _ _ _ (HOV.out.gw HG.out) HP.out).mono ?_
   rintro e w2 ⟨lv,rfl,hl2,hp2,hg2,hwf⟩
   obtain ⟨la,lc,rfl,_,_,_⟩ := hl2.ln.form
   have HWF := h_ hwf
   have HL2 : Hid (LNP (fun b => w0.heap.size ≤ b) w2 (.slice la t.l.length lc) t.l) := h_ (hl2.keep fun b off y hb hy => ⟨Nat.le_trans HZ.out hb,hy⟩)
   have HP2 := h_ hp2
   have HG2 := h_ (HG.out.trans hg2)
   have HB2 := h_ (HB.out.gw hg2 n4)
   have HA2 := h_ (HA.out.gw hg2 n3)
   have HZ2 : Hid (w0.heap.size ≤ w2.heap.size) := h_ (Nat.le_trans HZ.out hg2.size)
   have CK2 : Hid (∀ W a,Fr w2 W → Calls prog 56 #[ndV t (.slice la t.l.length lc),.int .i64 a] W fun e w' => e = .returned (.tuple #[]) ∧ Fr W w') := h_ (fun W a h => CK.out W la lc a (HL2.out.ln.fr h))
   clear hl2 hp2 hg2 hwf
   obtain ⟨q0,hq0,q1,hq1,q2,hq2,q4,hq4⟩ := qs_ t
   obtain ⟨ll,hll⟩ : ∃ x,x = t.l.length := ⟨_,rfl⟩
   unfold ndV at CK2 ⊢
   rw [← hq0,← hq1,← hq2,← hq4,← hll] at CK2
   rw [← hq0,← hq1,← hq2,← hq4,← hll]
   rw [← hll] at HL2
   have HNC : Hid (ncells t (.slice la ll lc) = [.int .i64 q0,.int .i64 q1,.string q2,.slice la ll lc,.int .i64 q4]) := h_ (by rw [hq0,hq1,hq2,hq4]; rfl)
   clear hq0 hq1 hq2 hq4 hll
   have HN4 := h_ (Nb.new w2 (.int .i64 q0) (.int .i64 q1) (.string q2) (.slice la ll lc) (.int .i64 q4))
   go_wp2_with fail
   refine (CK2.out _ _ ((Fr.refl w2).alloc _)).mono ?_
   rintro e w3 ⟨rfl,hf3⟩
   have HF3 : Hid (Fr w2 w3) := h_ (((Fr.refl w2).alloc (.cells #[.int .i64 q0,.int .i64 q1,.string q2,.slice la ll lc,.int .i64 q4] 32)).trans hf3)
   have HN43 := h_ (HN4.out.fr hf3)
   have HB3 := h_ (HB2.out.fr HF3.out)
   clear hf3
   obtain ⟨t0,t1⟩ := HB3.out.cells
   obtain ⟨y0,y1,y2,y3,y4⟩ := HN43.out.cells
   have HXS : Hid (∀ j u,(ncells t (.slice la ll lc))[j]? = some u → (w3.alloc (.cells #[.int .i64 q0,.int .i64 q1,.string q2,.slice la ll lc,.int .i64 q4] 32)).cell? ((⟨w3.heap.size,0,none⟩ : Addr).add j) = some u) := h_ (by
    have h := Nb.new w3 (.int .i64 q0) (.int .i64 q1) (.string q2) (.slice la ll lc) (.int .i64 q4)
    intro j u hu
    rw [HNC.out] at hu
    obtain ⟨y0,y1,y2,y3,y4⟩ := h.cells
    rw [ap_add,Nat.zero_add]
    match j,hu with
    | 0,hu => obtain rfl : _ = u := Option.some.inj hu; exact y0
    | 1,hu => obtain rfl : _ = u := Option.some.inj hu; exact y1
    | 2,hu => obtain rfl : _ = u := Option.some.inj hu; exact y2
    | 3,hu => obtain rfl : _ = u := Option.some.inj hu; exact y3
    | 4,hu => obtain rfl : _ = u := Option.some.inj hu; exact y4)
   have HSZ3 : Hid (w0.heap.size ≤ (w3.alloc (.cells #[.int .i64 q0,.int .i64 q1,.string q2,.slice la ll lc,.int .i64 q4] 32)).heap.size) := h_ (by rw [size_alloc']; have h1 := HZ2.out; have h2 := HF3.out.size; omega)
   go_wp2_with (with_reducible refine stop_append_n ?_)
   unfold StopN
   refine wpList_plain rfl fun K hK => ?_
   refine wp_append_where (.tmp 27) (.tmp 29) 22 rfl w0.heap.size 32 i0 _ 5 64 underlying22 HI.out.1 HI.out.2.1 HI.out.2.2.1 HI.out.2.2.2 rfl (by omega) (.slice none 0 0) 0 [] (by rfl) (World.ownsRow_nil _ _ _ _) ⟨w3.heap.size,0,none⟩ 1 1 (ncells t (.slice la ll lc)) (by rfl) (by rfl) HXS.out (ncells_one _ _ _ _) (by omega) (by unfold maxLen; omega) (by omega) HSZ3.out fun v2 w4 hown2 hg2 hwh => hK _ _ ?_
   have HF4 : Hid (Fr w2 w4) := h_ ((HF3.out.alloc (.cells #[.int .i64 q0,.int .i64 q1,.string q2,.slice la ll lc,.int .i64 q4] 32)).trans ⟨hg2.os,hg2.tape,hg2.output,hg2.size,fun k hk => hg2.block k hk (by simp [Value.ownBlock])⟩)
   have HL4 : Hid (LNP (fun b => w0.heap.size ≤ b) w4 v2 [t]) := h_ (LNP.row (l := [t]) (lvs := fun _ => .slice la ll lc) hown2 (by intro x hx; simp at hx; subst hx; exact HWF.out) (fun i x hx => by
    match i,hx with
    | 0,hx =>
     simp at hx; subst hx
     exact HL2.out.keep fun b off y hb hy => ⟨hb,HF4.out.cell hy⟩))
   obtain ⟨ra,rc,rfl⟩ := own_form5 hown2
   have HB4 := h_ (HB2.out.fr HF4.out)
   have HA4 := h_ (HA2.out.fr HF4.out)
   have HP4 := h_ (HP2.out.fr HF4.out)
   clear hown2 hg2 hwh hK
   obtain ⟨j0,j1⟩ := HB4.out.cells
   have fj := HB4.out.free 1
   go_wp2_with fail
   have n5 : ¬ w.heap.size + 1 = w.heap.size := by omega
   have HG4 : Hid (Gw g w (w4.setCell ⟨w.heap.size + 1,1,none⟩ (.slice ra (0 + 1) rc))) := h_ ((HG2.out.fr HF4.out).own' (by omega) 1 _)
   have HR4 := h_ (HP4.out.rs.far' n4 1 (.slice ra (0 + 1) rc))
   go_roundw
   case rel =>
    refine ⟨?_,HG4.out,HA4.out.far n5 1 _,.inr ⟨ra,rc,HB4.out.put1 _,HS.out.step HG4.out HR4.out HP4.out.hk HP4.out.hm HP4.out.ho,HL4.out.keep fun b off y hb hy => ⟨hb,by rw [World.cell?_setCell_far _ _ _ _ (by show w.heap.size + 1 ≠ b; have := HZ0.out; omega)]; exact hy⟩⟩⟩
    rw [show (w4.setCell ⟨w.heap.size + 1,1,none⟩ (.slice ra (0 + 1) rc)).heap.size = w4.heap.size by simp [World.setCell]]
    have h1 := HZ2.out
    have h2 := HF4.out.size
    omega
   case measure =>
    rw [nx_of HR4.out,nx_of HP.out.rs]
    have h1 := HP4.out.hk
    have h2 := HKM.out
    omega
  ·have HB := h_ hb
   have HP := h_ hp
   have HL := h_ hl
   obtain ⟨b,off,lv,e1,hnc,_⟩ := hl.ln.at_ (i := 0) (t := t) rfl
   subst e1
   have hcop : wr.cell? ⟨b,off,none⟩ = some (.int .i64 64) := by
    have h := hnc.op
    rw [Nat.zero_mul,Nat.add_zero,H64.out] at h
    exact h
   have HCO := h_ hcop
   obtain ⟨s0,s1⟩ := hb.cells
   clear hb hp hl hnc hcop
   go_wp2_with fail
   refine (CN.out _ _ _ _ HP.out HCO.out).mono ?_
   rintro e w2 ⟨rfl,hf2⟩
   have HF2 : Hid (Fr wr (w2.alloc (.cells #[.int .i64 0,.int .i64 0,.string ⟨#[]⟩,.slice none 0 0,.int .i64 0] 32))) := h_ (hf2.alloc _)
   clear hf2
   have HB2 := h_ (HB.out.fr HF2.out)
   have HA2 := h_ (HA.out.fr HF2.out)
   have HP2 := h_ (HP.out.fr HF2.out)
   obtain ⟨t0,t1⟩ := HB2.out.cells
   obtain ⟨c0,c1⟩ := HA2.out.cells
   have f0 := HA2.out.free 0
   have f1 := HA2.out.free 1
   go_wp2_with fail
   refine bodyPost_ret (v := .agg #[.string ⟨#[]⟩,.slice (some ⟨b,off,none⟩) 1 rc]) (by simp [results,results49,go_sem,c0,c1]) rfl ?_
   have e0 : w.heap.size ≤ w.heap.size := Nat.le_refl _
   have HGZ := ((HG.out.fr HF2.out).own' e0 0 (.string ⟨#[]⟩)).own' e0 1 (.slice (some ⟨b,off,none⟩) 1 rc)
   refine ⟨_,_,rfl,HL.out.keep fun b' off' y hb hy => ⟨by have := HZ0.out; omega,?_⟩,HS.out.step HGZ ((HP2.out.rs.far' n3 0 _).far' n3 1 _) HP2.out.hk HP2.out.hm HP2.out.ho,HGZ⟩
   have hne : w.heap.size ≠ b' := by have := HZ0.out; omega
   rw [World.cell?_setCell_far _ _ _ _ hne,World.cell?_setCell_far _ _ _ _ hne]
   exact HF2.out.cell hy
theorem Ov.g {w : World} (h : Ov w) {g : Nat} (hg : w.heap.size ≤ g) : OvG g w := by
 obtain ⟨b,off,cap,h0,hc,h⟩ := h
 refine ⟨b,off,cap,?_,?_,h0,hc,h⟩
 ·have h1 := World.block_lt_of_cell? w _ (h 0 _ rfl).1
  simp only at h1
  omega
 ·have h1 := World.block_lt_of_cell? w _ h0
  simp only at h1
  omega
theorem Fr.own {a b : World} (h : Fr a b) {p : Nat} (hp : a.heap.size ≤ p) (i : Nat) (v : Value) : Fr a (b.setCell ⟨p,i,none⟩ v) :=
 ⟨h.os,h.tape,h.output,by rw [show (b.setCell ⟨p,i,none⟩ v).heap.size = b.heap.size from by simp [World.setCell]]; exact h.size,fun k hk => by
  rw [show (b.setCell ⟨p,i,none⟩ v).heap[k]? = b.heap[k]? from by
   simp only [World.setCell,Array.getElem?_modify]
   rw [if_neg (by omega)]]
  exact h.block k hk⟩
theorem catch_idle (p q : Addr) (w : World) :
 CallsD prog 96 #[.pointer (some p),.pointer (some q)] .returning w fun e u' w' => e = .returned (.tuple #[]) ∧ u' = .returning ∧ Fr w w' := by
 have hta : ∀ w,(Instr.typeAssert .nilIface 20 104 true).run prog w = .ok (.tuple #[.agg #[.int .i64 0,.int .i64 0],.bool false]) w := fun _ => by kernel_rfl
 refine callsD_of_wpS func96 rfl fun c₀ cs hu => ?_
 apply wpS_seq
 apply wpS_region
 simp [wpOpsS,go_sem,recoverD,hu,ntmps96,Exit.thenS,hta]
 apply wpS_seq
 apply wpS_region
 simp [wpOpsS,go_sem,Exit.thenS]
 refine wpS_cond (t := false) (by simp [Act.eval,Array.replicate]) ?_
 simp only [Bool.false_eq_true,if_false]
 refine wpS_of_wp (wp_skip ?_)
 cases c₀
 simp_all [bodyPostS,results,results96]
 exact (Fr.refl w).alloc _
theorem SecB.put0 {w : World} {b : Nat} {x0 x1 : Value} (h : SecB w b x0 x1) (y : Value) : SecB (w.setCell ⟨b,0,none⟩ y) b y x1 := by
 unfold SecB at h ⊢
 simp [World.setCell,Array.getElem?_modify,h]
def Cb (w : World) (b : Nat) (v : Value) (ty : Nat) : Prop := w.heap[b]? = some (.cells #[v] ty (0,0))
theorem Cb.lt {w : World} {b ty : Nat} {v : Value} (h : Cb w b v ty) : b < w.heap.size := (Array.getElem?_eq_some_iff.1 h).1
theorem Cb.fr {w w' : World} {b ty : Nat} {v : Value} (h : Cb w b v ty) (k : Fr w w') : Cb w' b v ty := (k.block b h.lt).trans h
theorem Cb.al {w : World} {b ty : Nat} {v : Value} (h : Cb w b v ty) (x : Obj) : Cb (w.alloc x) b v ty := h.fr ((Fr.refl w).alloc x)
theorem Cb.gw {g : Nat} {w w' : World} {b ty : Nat} {v : Value} (h : Cb w b v ty) (k : Gw g w w') (hb : b ≠ g) : Cb w' b v ty := (k.block b h.lt (by intro e; injection e; omega)).trans h
theorem Cb.new (w : World) (v : Value) (ty : Nat) : Cb (w.alloc (.cells #[v] ty)) w.heap.size v ty := by
 unfold Cb
 simp only [World.alloc,Array.getElem?_push_size]
theorem Cb.cell {w : World} {b ty : Nat} {v : Value} (h : Cb w b v ty) : w.cell? ⟨b,0,none⟩ = some v := by
 unfold Cb at h
 simp [World.cell?,h]
theorem Cb.free {w : World} {b ty : Nat} {v : Value} (h : Cb w b v ty) : w.frozen? ⟨b,0,none⟩ = false := by
 unfold Cb at h
 simp [World.frozen?,h]
theorem Cb.put {w : World} {b ty : Nat} {v : Value} (h : Cb w b v ty) (v' : Value) : Cb (w.setCell ⟨b,0,none⟩ v') b v' ty := by
 unfold Cb at h ⊢
 simp [World.setCell,Array.getElem?_modify,h]
theorem Cb.far {w : World} {b ty : Nat} {v : Value} (h : Cb w b v ty) {p : Nat} (hp : ¬ p = b) (i : Nat) (v' : Value) : Cb (w.setCell ⟨p,i,none⟩ v') b v ty := by
 unfold Cb at h ⊢
 simp only [World.setCell,Array.getElem?_modify]
 rw [if_neg hp]
 exact h
theorem Cb.apart {w : World} {b ty tb off : Nat} {v : Value} {T : List Tp} (h : Cb w b v ty) (k : Tc w tb off T) (hl : 0 < T.length) : ¬ tb = b := by
 intro e
 subst e
 have h1 := (k.at_ (k := 0) (t := T[0]) (by simp [hl])).2.1
 unfold Cb at h
 simp [World.cell?,h] at h1
theorem tok_field0 (a b c d : Value) (w : World) : (Instr.field 98 (.agg #[a,b,c,d]) 0).run prog w = .ok a w := by kernel_rfl
theorem read_section (s : ByteArray) (hs : s.size ≤ 9223372036854775807) (T : List Tp) (p k1 m1 : Nat) (x : Tp) (t : Nd) (hsc : scan s = ⟨T,0,p⟩) (hl : 0 < T.length) (hl2 : T.length ≤ 20001) (hx : T[k1]? = some x) (hx0 : x.k = 0)
 (hway : ∀ (g : Nat) (tv : Value) (w : World),OvG g w → PS w g tv T 0 0 0 → Calls prog 49 #[.pointer (some ⟨g,0,none⟩)] w fun e w' => ∃ ra rc,e = .returned (.agg #[.string ⟨#[]⟩,.slice ra 1 rc]) ∧ LNP (fun b => w.heap.size ≤ b) w' (.slice ra 1 rc) [t] ∧ PS w' g tv T k1 m1 0 ∧ Gw g w w')
 (w : World) (hev : Ev w) (hov : Ov w) :
 Calls prog 48 #[.string s,.func (.func 49) #[] #[]] w fun e w' => ∃ ra rc,e = .returned (.tuple #[.agg #[.string ⟨#[]⟩,.slice ra 1 rc],.int .i64 0,.int .i64 0]) ∧ LNP (fun b => w.heap.size ≤ b) w' (.slice ra 1 rc) [t] ∧ Fr w w' := by
 have hmf : ∀ (fn : Fn) (first cap : Array Value) (w : World),(Instr.makeFunc fn first cap).run prog w = .ok (.func fn first cap) w := fun _ _ _ _ => rfl
 have HW := h_ hway
 have HE := h_ hev
 have HO := h_ hov
 obtain ⟨e0,he0⟩ : ∃ e0 : Nat,e0 = (scan s).er := ⟨_,rfl⟩
 have HSC := h_ hsc
 have HX := h_ (And.intro hx hx0)
 clear hway hev hov hsc he0 hx hx0
 obtain ⟨w0,hw0⟩ : ∃ w0,w0 = ((w.alloc (.cells #[.string ⟨#[]⟩,.slice none 0 0] 24)).alloc (.cells #[.int .i64 0] 25)).alloc (.cells #[.int .i64 0] 3) := ⟨_,rfl⟩
 have HF0 : Hid (Fr w w0) := h_ (by rw [hw0]; exact (((Fr.refl w).alloc _).alloc _).alloc _)
 have HB4 : Hid (SecB w0 w.heap.size (.string ⟨#[]⟩) (.slice none 0 0)) := h_ (by rw [hw0]; exact ((SecB.new w _ _).al _).al _)
 have HB5 : Hid (Cb w0 (w.heap.size + 1) (.int .i64 0) 25) := h_ (by rw [hw0]; exact (by simpa using Cb.new (w.alloc (.cells #[.string ⟨#[]⟩,.slice none 0 0] 24)) (.int .i64 0) 25 : Cb ((w.alloc (.cells #[.string ⟨#[]⟩,.slice none 0 0] 24)).alloc (.cells #[.int .i64 0] 25)) (w.heap.size + 1) (.int .i64 0) 25).al _)
 have HB6 : Hid (Cb w0 (w.heap.size + 1 + 1) (.int .i64 0) 3) := h_ (by rw [hw0]; simpa using Cb.new ((w.alloc (.cells #[.string ⟨#[]⟩,.slice none 0 0] 24)).alloc (.cells #[.int .i64 0] 25)) (.int .i64 0) 3)
 have HW0 := h_ hw0
 clear hw0
 go_enter_defers func48,ntmps48
 go_wp2_with fail
 try rw [← HW0.out]
 refine (Scan_any s hs _ (HE.out.fr HF0.out)).mono ?_
 rw [HSC.out]
 rintro e w1 ⟨tv,rfl,htv,hf1⟩
 obtain ⟨tb,toff,tcap,rfl,hcap,htc⟩ := htv.tc hl
 have HTC := h_ (And.intro hcap htc)
 have HF1 : Hid (Fr w w1) := h_ (HF0.out.trans hf1)
 have HB41 := h_ (HB4.out.fr hf1)
 have HB51 := h_ (HB5.out.fr hf1)
 have HB61 := h_ (HB6.out.fr hf1)
 clear htv hf1 hcap htc
 have f5 := HB51.out.free
 have f6 := HB61.out.free
 have c5 := HB51.out.cell
 have c6 := HB61.out.cell
 go_wp2_with fail
 obtain ⟨tl,htl⟩ : ∃ x,x = T.length := ⟨_,rfl⟩
 have n56 : ¬ w.heap.size + 1 = w.heap.size + 1 + 1 := by omega
 have n65 : ¬ w.heap.size + 1 + 1 = w.heap.size + 1 := by omega
 have n54 : ¬ w.heap.size + 1 = w.heap.size := by omega
 have n64 : ¬ w.heap.size + 1 + 1 = w.heap.size := by omega
 obtain ⟨w2,hw2⟩ : ∃ w2,w2 = ((w1.setCell ⟨w.heap.size + 1,0,none⟩ (.int .i64 0)).setCell ⟨w.heap.size + 1 + 1,0,none⟩ (.int .i64 p)).alloc (.cells #[.slice (some ⟨tb,toff,none⟩) T.length tcap,.int .i64 0,.int .i64 0,.int .i64 0] 107) := ⟨_,rfl⟩
 have HF2 : Hid (Fr w w2) := h_ (by
  rw [hw2]
  exact ((HF1.out.own (by omega) _ _).own (by omega) _ _).alloc _)
 have HB42 : Hid (SecB w2 w.heap.size (.string ⟨#[]⟩) (.slice none 0 0)) := h_ (by rw [hw2]; exact ((HB41.out.far n54 _ _).far n64 _ _).al _)
 have HB52 : Hid (Cb w2 (w.heap.size + 1) (.int .i64 0) 25) := h_ (by rw [hw2]; exact ((HB51.out.put _).far n65 _ _).al _)
 have HB62 : Hid (Cb w2 (w.heap.size + 1 + 1) (.int .i64 p) 3) := h_ (by rw [hw2]; exact ((HB61.out.far n56 _ _).put _).al _)
 have HS1 : w1.heap.size = ((w1.setCell ⟨w.heap.size + 1,0,none⟩ (.int .i64 0)).setCell ⟨w.heap.size + 1 + 1,0,none⟩ (.int .i64 p)).heap.size := by simp [World.setCell]
 have HRS : Hid (RS w2 w1.heap.size (.slice (some ⟨tb,toff,none⟩) T.length tcap) 0 0 0) := h_ (by
  unfold RS
  rw [hw2,HS1]
  simp only [World.alloc,Array.getElem?_push_size]
  rfl)
 have HTK : Hid (TkN w1.heap.size w2 (.slice (some ⟨tb,toff,none⟩) T.length tcap) T) := h_ (by
  have a5 := HB51.out.apart HTC.out.2 hl
  have a6 := HB61.out.apart HTC.out.2 hl
  refine ⟨tb,toff,tcap,rfl,?_,HTC.out.1,hl2,fun j u hj => ?_⟩
  ·have h1 := World.block_lt_of_cell? w1 _ (HTC.out.2.at_ (k := 0) (t := T[0]) (by simp [hl])).1
   simp only at h1
   omega
  ·rw [hw2]
   refine ((Fr.refl _).alloc _).cell ?_
   rw [World.cell?_setCell_far _ _ _ _ (by show ¬ _ = tb; exact fun e => a6 e.symm),World.cell?_setCell_far _ _ _ _ (by show ¬ _ = tb; exact fun e => a5 e.symm)]
   exact HTC.out.2 j u hj)
 have HPS : Hid (PS w2 w1.heap.size (.slice (some ⟨tb,toff,none⟩) T.length tcap) T 0 0 0) := h_ ⟨HRS.out,HTK.out,by omega,by omega,by omega⟩
 have HOG : Hid (OvG w1.heap.size w2) := h_ ((HO.out.g HF1.out.size).gw (HF2.out.gw _))
 rw [← hw2]
 clear htl hw2 HS1
 refine (HW.out _ _ _ HOG.out HPS.out).mono ?_
 rintro e w3 ⟨ra,rc,rfl,hl3,hp3,hg3⟩
 have n4g : w.heap.size ≠ w1.heap.size := by have := HB41.out.lt; omega
 have n5g : w.heap.size + 1 ≠ w1.heap.size := by have := HB51.out.lt; omega
 have n6g : w.heap.size + 1 + 1 ≠ w1.heap.size := by have := HB61.out.lt; omega
 have HLE : Hid (w2.heap.size ≤ w3.heap.size) := h_ hg3.size
 have HL3 := h_ hl3
 have HP3 := h_ hp3
 have HB43 := h_ (HB42.out.gw hg3 n4g)
 have HB53 := h_ (HB52.out.gw hg3 n5g)
 have HB63 := h_ (HB62.out.gw hg3 n6g)
 have HF3 : Hid (Fr w w3) := h_ ((((HF2.out.gw w1.heap.size).trans hg3)).new HF1.out.size)
 clear hl3 hp3 hg3
 have HS9 := h_ (SecB.new w3 (.string ⟨#[]⟩) (.slice ra 1 rc))
 go_wp2_with fail
 obtain ⟨x1,hx1⟩ : ∃ y,y = x.t := ⟨_,rfl⟩
 obtain ⟨x2,hx2⟩ : ∃ y,y = x.n := ⟨_,rfl⟩
 obtain ⟨x3,hx3⟩ : ∃ y : Int,y = x.a := ⟨_,rfl⟩
 have hto := token_any w1.heap.size (.slice (some ⟨tb,toff,none⟩) T.length tcap) T k1 m1 0 x (w3.alloc (.cells #[.string ⟨#[]⟩,.slice ra 1 rc] 24)) (HP3.out.fr ((Fr.refl w3).alloc _)) HX.out.1
 unfold tkV at hto
 rw [HX.out.2,← hx1,← hx2,← hx3] at hto
 have hfield := tok_field0 (.int .i64 0) (.string x1) (.int .i64 x2) (.int .i64 x3)
 have HTO := h_ hto
 clear hto hx1 hx2 hx3
 refine HTO.out.mono ?_
 rintro e w4 ⟨rfl,hf4⟩
 have HF4 : Hid (Fr w3 w4) := h_ (((Fr.refl w3).alloc _).trans hf4)
 have HS94 := h_ (HS9.out.fr hf4)
 have HB44 := h_ (HB43.out.fr HF4.out)
 have HB54 := h_ (HB53.out.fr HF4.out)
 have HB64 := h_ (HB63.out.fr HF4.out)
 clear hf4
 obtain ⟨s0,s1⟩ := HS94.out.cells
 obtain ⟨y0,y1⟩ := HB44.out.cells
 have fy0 := HB44.out.free 0
 have fy1 := HB44.out.free 1
 have z5 := HB54.out.cell
 have z6 := HB64.out.cell
 have fz5 := HB54.out.free
 have fz6 := HB64.out.free
 go_wp2_with fail
 obtain ⟨w5,hw5⟩ : ∃ w5,w5 = (((w4.setCell ⟨w.heap.size,0,none⟩ (.string ⟨#[]⟩)).setCell ⟨w.heap.size,1,none⟩ (.slice ra 1 rc)).setCell ⟨w.heap.size + 1,0,none⟩ (.int .i64 0)).setCell ⟨w.heap.size + 1 + 1,0,none⟩ (.int .i64 0) := ⟨_,rfl⟩
 have n45 : ¬ w.heap.size = w.heap.size + 1 := by omega
 have n46 : ¬ w.heap.size = w.heap.size + 1 + 1 := by omega
 have HF5 : Hid (Fr w w5) := h_ (by
  rw [hw5]
  exact ((((HF3.out.trans HF4.out).own (Nat.le_refl _) _ _).own (Nat.le_refl _) _ _).own (by omega) _ _).own (by omega) _ _)
 have HB45 : Hid (SecB w5 w.heap.size (.string ⟨#[]⟩) (.slice ra 1 rc)) := h_ (by rw [hw5]; exact ((HB44.out.put0 _).put1 _ |>.far n54 _ _).far n64 _ _)
 have HB55 : Hid (Cb w5 (w.heap.size + 1) (.int .i64 0) 25) := h_ (by rw [hw5]; exact (((HB54.out.far n45 _ _).far n45 _ _).put _).far n65 _ _)
 have HB65 : Hid (Cb w5 (w.heap.size + 1 + 1) (.int .i64 0) 3) := h_ (by rw [hw5]; exact (((HB64.out.far n46 _ _).far n46 _ _).far n56 _ _).put _)
 have HL5 : Hid (LNP (fun b => w.heap.size ≤ b) w5 (.slice ra 1 rc) [t]) := h_ (HL3.out.keep fun b off y hb hy => by
  have hl1 := HB41.out.lt
  have hl5 := HB51.out.lt
  have hl6 := HB61.out.lt
  have h12 := HRS.out.lt
  have hb' : w2.heap.size ≤ b := hb
  have e6 : w.heap.size + 1 + 1 ≠ b := by omega
  have e5 : w.heap.size + 1 ≠ b := by omega
  have e4 : w.heap.size ≠ b := by omega
  rw [hw5,World.cell?_setCell_far _ _ _ _ e6,World.cell?_setCell_far _ _ _ _ e5,World.cell?_setCell_far _ _ _ _ e4,World.cell?_setCell_far _ _ _ _ e4]
  exact ⟨by omega,HF4.out.cell hy⟩)
 rw [← hw5]
 clear hw5
 refine leaves_cons (f := 96) (args := #[.pointer (some ⟨w.heap.size + 1,0,none⟩),.pointer (some ⟨w.heap.size + 1 + 1,0,none⟩)]) (by simp) (by simp [go_sem]) ?_
 refine (catch_idle _ _ _).mono ?_
 rintro e u' w6 ⟨rfl,rfl,hf6⟩
 obtain ⟨d0,d1⟩ := (HB45.out.fr hf6).cells
 have d5 := (HB55.out.fr hf6).cell
 have d6 := (HB65.out.fr hf6).cell
 have HL6 : Hid (LNP (fun b => w.heap.size ≤ b) w6 (.slice ra 1 rc) [t]) := h_ (HL5.out.keep fun b off y hb hy => ⟨hb,hf6.cell hy⟩)
 have HF6 := h_ (HF5.out.trans hf6)
 clear hf6
 simp [Leaves,settle,results,results48,go_sem,d0,d1,d5,d6]
 exact ⟨_,_,⟨rfl,rfl⟩,HL6.out,HF6.out⟩
theorem Parse_one (s : ByteArray) (t : Nd) (w : World)
 (hr : ∀ W,Fr w W → Calls prog 48 #[.string s,.func (.func 49) #[] #[]] W fun e w' => ∃ ra rc,e = .returned (.tuple #[.agg #[.string ⟨#[]⟩,.slice ra 1 rc],.int .i64 0,.int .i64 0]) ∧ LNP (fun b => W.heap.size ≤ b) w' (.slice ra 1 rc) [t] ∧ Fr W w') :
 Calls prog 11 #[.string s] w fun e w' => ∃ ra rc,e = .returned (.tuple #[.agg #[.string ⟨#[]⟩,.slice ra 1 rc],.int .i64 0,.int .i64 0]) ∧ LNP (fun b => w.heap.size < b) w' (.slice ra 1 rc) [t] ∧ Fr w w' := by
 have HR := h_ hr
 clear hr
 have HB : Hid (SecB (w.alloc (.cells #[.string ⟨#[]⟩,.slice none 0 0] 24)) w.heap.size (.string ⟨#[]⟩) (.slice none 0 0)) := h_ (SecB.new w _ _)
 have HF0 : Hid (Fr w (w.alloc (.cells #[.string ⟨#[]⟩,.slice none 0 0] 24))) := h_ ((Fr.refl w).alloc _)
 go_enter func11,ntmps11
 go_wp2_with fail
 refine (HR.out _ HF0.out).mono ?_
 rintro e w1 ⟨ra,rc,rfl,hl1,hf1⟩
 have HL1 := h_ hl1
 have HB1 := h_ (HB.out.fr hf1)
 have HF1 := h_ (HF0.out.trans hf1)
 clear hl1 hf1
 obtain ⟨y0,y1⟩ := HB1.out.cells
 have fy0 := HB1.out.free 0
 have fy1 := HB1.out.free 1
 go_wp2_with fail
 have e0 : w.heap.size ≤ w.heap.size := Nat.le_refl _
 have HF2 : Hid (Fr w ((w1.setCell ⟨w.heap.size,0,none⟩ (.string ⟨#[]⟩)).setCell ⟨w.heap.size,1,none⟩ (.slice ra 1 rc))) := h_ ((HF1.out.own e0 _ _).own e0 _ _)
 have HB2 : Hid (SecB ((w1.setCell ⟨w.heap.size,0,none⟩ (.string ⟨#[]⟩)).setCell ⟨w.heap.size,1,none⟩ (.slice ra 1 rc)) w.heap.size (.string ⟨#[]⟩) (.slice ra 1 rc)) := h_ ((HB1.out.put0 _).put1 _)
 have HL2 : Hid (LNP (fun b => w.heap.size < b) ((w1.setCell ⟨w.heap.size,0,none⟩ (.string ⟨#[]⟩)).setCell ⟨w.heap.size,1,none⟩ (.slice ra 1 rc)) (.slice ra 1 rc) [t]) := h_ (HL1.out.keep fun b off y hb hy => by
  have hb' : (w.alloc (.cells #[.string ⟨#[]⟩,.slice none 0 0] 24)).heap.size ≤ b := hb
  rw [size_alloc'] at hb'
  have e4 : w.heap.size ≠ b := by omega
  rw [World.cell?_setCell_far _ _ _ _ e4,World.cell?_setCell_far _ _ _ _ e4]
  exact ⟨by omega,hy⟩)
 generalize (w1.setCell ⟨w.heap.size,0,none⟩ (.string ⟨#[]⟩)).setCell ⟨w.heap.size,1,none⟩ (.slice ra 1 rc) = w2 at HF2 HB2 HL2 ⊢
 obtain ⟨d0,d1⟩ := HB2.out.cells
 refine bodyPost_ret (v := .tuple #[.agg #[.string ⟨#[]⟩,.slice ra 1 rc],.int .i64 0,.int .i64 0]) (by simp [results,results11,go_sem,d0,d1]) rfl ?_
 exact ⟨_,_,rfl,HL2.out,HF2.out⟩
def ow : ByteArray := ⟨#[108,101,116,32,115,116,97,114,116,40,41,32,98,101,32,119,114,99,104,40,39,65,39,43,49,41]⟩
theorem ow0 : bt ow 0 = 108 := rfl
theorem ow1 : bt ow 1 = 101 := rfl
theorem ow2 : bt ow 2 = 116 := rfl
theorem ow3 : bt ow 3 = 32 := rfl
theorem ow4 : bt ow 4 = 115 := rfl
theorem ow5 : bt ow 5 = 116 := rfl
theorem ow6 : bt ow 6 = 97 := rfl
theorem ow7 : bt ow 7 = 114 := rfl
theorem ow8 : bt ow 8 = 116 := rfl
theorem ow9 : bt ow 9 = 40 := rfl
theorem ow10 : bt ow 10 = 41 := rfl
theorem ow11 : bt ow 11 = 32 := rfl
theorem ow12 : bt ow 12 = 98 := rfl
theorem ow13 : bt ow 13 = 101 := rfl
theorem ow14 : bt ow 14 = 32 := rfl
theorem ow15 : bt ow 15 = 119 := rfl
theorem ow16 : bt ow 16 = 114 := rfl
theorem ow17 : bt ow 17 = 99 := rfl
theorem ow18 : bt ow 18 = 104 := rfl
theorem ow19 : bt ow 19 = 40 := rfl
theorem ow20 : bt ow 20 = 39 := rfl
theorem ow21 : bt ow 21 = 65 := rfl
theorem ow23 : bt ow 23 = 43 := rfl
theorem ow24 : bt ow 24 = 49 := rfl
theorem ow25 : bt ow 25 = 41 := rfl
theorem owt0 : tokAt ow 0 = ⟨4,⟨#[108,101,116]⟩,0,3,0⟩ := by
 have hr : run part ow 0 = 3 := by rw [run_inside (by decide) (by rw [ow0]; rfl),run_inside (by decide) (by rw [ow1]; rfl),run_inside (by decide) (by rw [ow2]; rfl),run_out (by rw [ow3]; rfl)]
 have he : ow.extract 0 3 = ⟨#[108,101,116]⟩ := by rfl
 unfold tokAt
 rw [if_pos (by rw [ow0]; rfl)]
 unfold wordT
 rw [hr,he,if_pos (show hasB 43 keyB ⟨#[108,101,116]⟩ = true from has_yes 17 (by decide) rfl)]
theorem owt1 : tokAt ow 4 = ⟨1,⟨#[115,116,97,114,116]⟩,0,9,0⟩ := by
 have hr : run part ow 4 = 9 := by rw [run_inside (by decide) (by rw [ow4]; rfl),run_inside (by decide) (by rw [ow5]; rfl),run_inside (by decide) (by rw [ow6]; rfl),run_inside (by decide) (by rw [ow7]; rfl),run_inside (by decide) (by rw [ow8]; rfl),run_out (by rw [ow9]; rfl)]
 have he : ow.extract 4 9 = ⟨#[115,116,97,114,116]⟩ := by rfl
 unfold tokAt
 rw [if_pos (by rw [ow4]; rfl)]
 unfold wordT
 rw [hr,he,if_neg (by rw [has_not (neAll_of (by decide))]; decide),if_neg (by decide)]
theorem owt2 : tokAt ow 9 = ⟨5,⟨#[40]⟩,0,10,0⟩ := by
 have he : ow.extract 9 10 = ⟨#[40]⟩ := by rfl
 unfold tokAt
 rw [ow9,if_neg (by decide),if_neg (by decide),if_neg (by decide),if_neg (by decide),if_neg (by decide)]
 unfold sgnT
 have he2 : ow.extract 9 11 = ⟨#[40,41]⟩ := by rfl
 rw [he2,if_neg (by rw [has_not (neAll_of (by decide))]; decide),he,if_pos ⟨by decide,has_yes 0 (by decide) rfl⟩]
theorem owt3 : tokAt ow 10 = ⟨5,⟨#[41]⟩,0,11,0⟩ := by
 have he : ow.extract 10 11 = ⟨#[41]⟩ := by rfl
 unfold tokAt
 rw [ow10,if_neg (by decide),if_neg (by decide),if_neg (by decide),if_neg (by decide),if_neg (by decide)]
 unfold sgnT
 have he2 : ow.extract 10 12 = ⟨#[41,32]⟩ := by rfl
 rw [he2,if_neg (by rw [has_not (neAll_of (by decide))]; decide),he,if_pos ⟨by decide,has_yes 1 (by decide) rfl⟩]
theorem owt4 : tokAt ow 12 = ⟨4,⟨#[98,101]⟩,0,14,0⟩ := by
 have hr : run part ow 12 = 14 := by rw [run_inside (by decide) (by rw [ow12]; rfl),run_inside (by decide) (by rw [ow13]; rfl),run_out (by rw [ow14]; rfl)]
 have he : ow.extract 12 14 = ⟨#[98,101]⟩ := by rfl
 unfold tokAt
 rw [if_pos (by rw [ow12]; rfl)]
 unfold wordT
 rw [hr,he,if_pos (show hasB 43 keyB ⟨#[98,101]⟩ = true from has_yes 1 (by decide) rfl)]
theorem owt5 : tokAt ow 15 = ⟨1,⟨#[119,114,99,104]⟩,0,19,0⟩ := by
 have hr : run part ow 15 = 19 := by rw [run_inside (by decide) (by rw [ow15]; rfl),run_inside (by decide) (by rw [ow16]; rfl),run_inside (by decide) (by rw [ow17]; rfl),run_inside (by decide) (by rw [ow18]; rfl),run_out (by rw [ow19]; rfl)]
 have he : ow.extract 15 19 = ⟨#[119,114,99,104]⟩ := by rfl
 unfold tokAt
 rw [if_pos (by rw [ow15]; rfl)]
 unfold wordT
 rw [hr,he,if_neg (by rw [has_not (neAll_of (by decide))]; decide),if_neg (by decide)]
theorem owt6 : tokAt ow 19 = ⟨5,⟨#[40]⟩,0,20,0⟩ := by
 have he : ow.extract 19 20 = ⟨#[40]⟩ := by rfl
 unfold tokAt
 rw [ow19,if_neg (by decide),if_neg (by decide),if_neg (by decide),if_neg (by decide),if_neg (by decide)]
 unfold sgnT
 have he2 : ow.extract 19 21 = ⟨#[40,39]⟩ := by rfl
 rw [he2,if_neg (by rw [has_not (neAll_of (by decide))]; decide),he,if_pos ⟨by decide,has_yes 0 (by decide) rfl⟩]
theorem owt7 : tokAt ow 20 = ⟨2,nul,65,23,0⟩ := by
 have hi : ins ow 21 39 = ⟨65,22,true⟩ := by
  unfold ins
  rw [if_neg (by decide),ow21,if_neg (by decide)]
  rfl
 unfold tokAt
 rw [ow20,if_neg (by decide),if_neg (by decide),if_neg (by decide),if_pos rfl]
 unfold chrT
 rw [hi,if_pos ⟨rfl,by decide⟩]
 rfl
theorem owt8 : tokAt ow 23 = ⟨5,⟨#[43]⟩,0,24,0⟩ := by
 have he : ow.extract 23 24 = ⟨#[43]⟩ := by rfl
 unfold tokAt
 rw [ow23,if_neg (by decide),if_neg (by decide),if_neg (by decide),if_neg (by decide),if_neg (by decide)]
 unfold sgnT
 have he2 : ow.extract 23 25 = ⟨#[43,49]⟩ := by rfl
 rw [he2,if_neg (by rw [has_not (neAll_of (by decide))]; decide),he,if_pos ⟨by decide,has_yes 10 (by decide) rfl⟩]
theorem owt9 : tokAt ow 24 = ⟨2,nul,1,25,0⟩ := by
 have hr : run digit ow 24 = 25 := by rw [run_inside (by decide) (by rw [ow24]; rfl),run_out (by rw [ow25]; rfl)]
 unfold tokAt
 rw [ow24,if_neg (by decide),if_pos (by decide)]
 unfold numT
 rw [hr,if_neg (by decide)]
 rfl
theorem owt10 : tokAt ow 25 = ⟨5,⟨#[41]⟩,0,26,0⟩ := by
 have he : ow.extract 25 26 = ⟨#[41]⟩ := by rfl
 unfold tokAt
 rw [ow25,if_neg (by decide),if_neg (by decide),if_neg (by decide),if_neg (by decide),if_neg (by decide)]
 unfold sgnT
 rw [if_neg (fun h => absurd h.1 (by decide)),he,if_pos ⟨by decide,has_yes 1 (by decide) rfl⟩]
def owT : List Tp := [⟨4,⟨#[108,101,116]⟩,0,0⟩,⟨1,⟨#[115,116,97,114,116]⟩,0,4⟩,⟨5,⟨#[40]⟩,0,9⟩,⟨5,⟨#[41]⟩,0,10⟩,⟨4,⟨#[98,101]⟩,0,12⟩,⟨1,⟨#[119,114,99,104]⟩,0,15⟩,⟨5,⟨#[40]⟩,0,19⟩,⟨2,nul,65,20⟩,⟨5,⟨#[43]⟩,0,23⟩,⟨2,nul,1,24⟩,⟨5,⟨#[41]⟩,0,25⟩,⟨0,nul,0,26⟩]
theorem ow_scan : scan ow = ⟨owT,0,0⟩ := by
 unfold scan
 rw [if_neg (by decide),skp_self (by rw [ow0]; rfl) (by decide)]
 rw [scG_step (by decide) (by rw [owt0]) (by decide),owt0]
 rw [show skp ow (Tk.e ⟨4,⟨#[108,101,116]⟩,0,3,0⟩) = 4 from by
  have e : run blank ow 3 = 4 := by rw [run_inside (by decide) (by rw [ow3]; rfl),run_out (by rw [ow4]; rfl)]
  rw [skp_stop (by rw [e]; decide),e]]
 rw [scG_step (by decide) (by rw [owt1]) (by decide),owt1]
 rw [show skp ow (Tk.e ⟨1,⟨#[115,116,97,114,116]⟩,0,9,0⟩) = 9 from skp_self (by rw [ow9]; rfl) (by decide)]
 rw [scG_step (by decide) (by rw [owt2]) (by decide),owt2]
 rw [show skp ow (Tk.e ⟨5,⟨#[40]⟩,0,10,0⟩) = 10 from skp_self (by rw [ow10]; rfl) (by decide)]
 rw [scG_step (by decide) (by rw [owt3]) (by decide),owt3]
 rw [show skp ow (Tk.e ⟨5,⟨#[41]⟩,0,11,0⟩) = 12 from by
  have e : run blank ow 11 = 12 := by rw [run_inside (by decide) (by rw [ow11]; rfl),run_out (by rw [ow12]; rfl)]
  rw [skp_stop (by rw [e]; decide),e]]
 rw [scG_step (by decide) (by rw [owt4]) (by decide),owt4]
 rw [show skp ow (Tk.e ⟨4,⟨#[98,101]⟩,0,14,0⟩) = 15 from by
  have e : run blank ow 14 = 15 := by rw [run_inside (by decide) (by rw [ow14]; rfl),run_out (by rw [ow15]; rfl)]
  rw [skp_stop (by rw [e]; decide),e]]
 rw [scG_step (by decide) (by rw [owt5]) (by decide),owt5]
 rw [show skp ow (Tk.e ⟨1,⟨#[119,114,99,104]⟩,0,19,0⟩) = 19 from skp_self (by rw [ow19]; rfl) (by decide)]
 rw [scG_step (by decide) (by rw [owt6]) (by decide),owt6]
 rw [show skp ow (Tk.e ⟨5,⟨#[40]⟩,0,20,0⟩) = 20 from skp_self (by rw [ow20]; rfl) (by decide)]
 rw [scG_step (by decide) (by rw [owt7]) (by decide),owt7]
 rw [show skp ow (Tk.e ⟨2,nul,65,23,0⟩) = 23 from skp_self (by rw [ow23]; rfl) (by decide)]
 rw [scG_step (by decide) (by rw [owt8]) (by decide),owt8]
 rw [show skp ow (Tk.e ⟨5,⟨#[43]⟩,0,24,0⟩) = 24 from skp_self (by rw [ow24]; rfl) (by decide)]
 rw [scG_step (by decide) (by rw [owt9]) (by decide),owt9]
 rw [show skp ow (Tk.e ⟨2,nul,1,25,0⟩) = 25 from skp_self (by rw [ow25]; rfl) (by decide)]
 rw [scG_step (by decide) (by rw [owt10]) (by decide),owt10]
 rw [show skp ow (Tk.e ⟨5,⟨#[41]⟩,0,26,0⟩) = 26 from by
  have e := run_end (p := blank) (s := ow) (i := 26) (by decide)
  rw [skp_stop (by rw [e]; decide),e]]
 rw [scG_end (by decide) (by decide)]
 rfl
theorem opF_word {t : Tp} (h4 : ¬ t.k = 4) (h5 : ¬ t.k = 5) (L : Int) : opF t L = none := by
 unfold opF
 rw [List.find?_eq_none]
 intro x _
 unfold fx
 simp [h4,h5]
theorem lv_of (T : List Tp) (h k m o : Nat) (t : Nd) (k' m' : Nat) (u v : Tp) (hu : T[k]? = some u) (u1 : fx u ⟨#[126]⟩ = false) (u2 : fx u ⟨#[45]⟩ = false) (u3 : fx u ⟨#[33]⟩ = false) (u4 : fx u ⟨#[64]⟩ = false)
 (hv : T[k']? = some v) (lo : Nat) (hn : ∀ L : Nat,lo ≤ L → L ≤ 10 → opF v L = none) (d : Dr T h .calls k m o t k' m') : ∀ j L,L + j = 10 → lo ≤ L → Dr T (h + 2 * j + 2) (.level L) k m o t k' m' := by
 intro j
 induction j with
 | zero =>
  intro L e hl
  obtain rfl : L = 10 := by omega
  exact .level _ (h + 1) 0 10 k m o t k' m' t k' m' (by omega) (by omega) (by omega) (.first10 _ h k m o t k' m' u (by omega) hu u3 u4 d) (.done 0 10 o t k' m' v hv (hn 10 hl (by omega)))
 | succ j ih =>
  intro L e hl
  exact .level _ (h + 2 * j + 3) 0 L k m o t k' m' t k' m' (by omega) (by omega) (by omega) (.first _ (h + 2 * j + 2) L k m o t k' m' u (by omega) (by omega) hu (fun _ => u1) (fun _ => u2) (ih (L + 1) (by omega) (by omega))) (.done 0 L o t k' m' v hv (hn L hl (by omega)))
theorem lv_up (T : List Tp) (h k m o : Nat) (t : Nd) (k' m' : Nat) (u v : Tp) (hu : T[k]? = some u) (u1 : fx u ⟨#[126]⟩ = false) (u2 : fx u ⟨#[45]⟩ = false)
 (hv : T[k']? = some v) (lo hi : Nat) (hi10 : hi ≤ 10) (hn : ∀ L : Nat,lo ≤ L → L < hi → opF v L = none) (d : Dr T h (.level hi) k m o t k' m') : ∀ j L,L + j = hi → lo ≤ L → Dr T (h + 2 * j) (.level L) k m o t k' m' := by
 intro j
 induction j with
 | zero =>
  intro L e hl
  obtain rfl : L = hi := by omega
  exact d
 | succ j ih =>
  intro L e hl
  exact .level _ (h + 2 * j + 1) 0 L k m o t k' m' t k' m' (by omega) (by omega) (by omega) (.first _ (h + 2 * j) L k m o t k' m' u (by omega) (by omega) hu (fun _ => u1) (fun _ => u2) (ih (L + 1) (by omega) (by omega))) (.done 0 L o t k' m' v hv (hn L hl (by omega)))
def nmN : Nd := ⟨6,0,⟨#[119,114,99,104]⟩,[],15⟩
def n65 : Nd := ⟨1,65,⟨#[]⟩,[],20⟩
def n1 : Nd := ⟨1,1,⟨#[]⟩,[],24⟩
def plO : Opr := ⟨⟨#[43]⟩,12,4,7⟩
def owN : Nd := prcN ⟨#[115,116,97,114,116]⟩ (cmdN (callN nmN [nmN,opN plO n65 n1])) 0
theorem wf_leaf {op n a : Int} {s : ByteArray} (h1 : wf64 op) (h2 : wf64 n) (h3 : wf64 a) (h4 : s.size ≤ 140737488351232) : wfN ⟨op,n,s,[],a⟩ := ⟨h1,h2,h3,h4⟩
theorem opF_par (L : Int) : opF ⟨5,⟨#[41]⟩,0,25⟩ L = none := by
 simp [opF,opTab,fx]
theorem opF_plus (L : Nat) (h : 8 ≤ L) (h2 : L ≤ 10) : opF ⟨5,⟨#[43]⟩,0,23⟩ L = none := by
 obtain rfl | rfl | rfl : L = 8 ∨ L = 9 ∨ L = 10 := by omega
 all_goals simp [opF,opTab,fx]
theorem opF_pl : opF ⟨5,⟨#[43]⟩,0,23⟩ (7 : Nat) = some plO := by
 simp [opF,opTab,fx,plO]
theorem ow65 : Dr owT 1 .calls 7 1 1 n65 8 2 :=
 .calls 1 0 0 7 1 1 n65 8 2 n65 8 2 (by omega) (by omega) (.num 0 7 1 1 ⟨2,nul,65,20⟩ rfl rfl (by omega) (wf_leaf (by unfold wf64; decide) (by unfold wf64; decide) (by unfold wf64; decide) (by decide))) (.done 0 1 n65 8 2 ⟨5,⟨#[43]⟩,0,23⟩ rfl (by decide))
theorem ow1' : Dr owT 1 .calls 9 2 1 n1 10 3 :=
 .calls 1 0 0 9 2 1 n1 10 3 n1 10 3 (by omega) (by omega) (.num 0 9 2 1 ⟨2,nul,1,24⟩ rfl rfl (by omega) (wf_leaf (by unfold wf64; decide) (by unfold wf64; decide) (by unfold wf64; decide) (by decide))) (.done 0 1 n1 10 3 ⟨5,⟨#[41]⟩,0,25⟩ rfl (by decide))
theorem ow65l : Dr owT 7 (.level 8) 7 1 1 n65 8 2 := lv_of owT 1 7 1 1 n65 8 2 ⟨2,nul,65,20⟩ ⟨5,⟨#[43]⟩,0,23⟩ rfl (by decide) (by decide) (by decide) (by decide) rfl 8 opF_plus ow65 2 8 rfl (by omega)
theorem ow1l : Dr owT 7 (.level 8) 9 2 1 n1 10 3 := lv_of owT 1 9 2 1 n1 10 3 ⟨2,nul,1,24⟩ ⟨5,⟨#[41]⟩,0,25⟩ rfl (by decide) (by decide) (by decide) (by decide) rfl 8 (fun L _ _ => opF_par L) ow1' 2 8 rfl (by omega)
theorem owPl : Dr owT 9 (.level 7) 7 1 1 (opN plO n65 n1) 10 4 :=
 .level 9 8 8 7 7 1 1 n65 8 2 _ 10 4 (by omega) (by omega) (by omega) (.first 8 7 7 7 1 1 n65 8 2 ⟨2,nul,65,20⟩ (by omega) (by omega) rfl (fun _ => by decide) (fun _ => by decide) ow65l)
  (.step 8 7 0 7 1 n65 8 2 ⟨5,⟨#[43]⟩,0,23⟩ plO n1 10 3 _ 10 4 (by omega) (by omega) (by omega) rfl opF_pl ow1l (by omega) (by omega) (.done 0 7 1 _ 10 4 ⟨5,⟨#[41]⟩,0,25⟩ rfl (opF_par _)))
theorem owE : Dr owT 22 .expr 7 1 1 (opN plO n65 n1) 10 4 :=
 .expr 22 21 7 1 1 _ 10 4 ⟨5,⟨#[41]⟩,0,25⟩ (by omega) (lv_up owT 9 7 1 1 _ 10 4 ⟨2,nul,65,20⟩ ⟨5,⟨#[41]⟩,0,25⟩ rfl (by decide) (by decide) rfl 1 7 (by omega) (fun L _ _ => opF_par L) owPl 6 1 rfl (by omega)) rfl (by decide)
theorem owC : Dr owT 26 .calls 5 0 0 (callN nmN [nmN,opN plO n65 n1]) 11 5 :=
 .calls 26 0 25 5 0 0 nmN 6 1 _ 11 5 (by omega) (by omega) (.name 0 5 0 0 ⟨1,⟨#[119,114,99,104]⟩,0,15⟩ rfl rfl (by omega) (wf_leaf (by unfold wf64; decide) (by unfold wf64; decide) (by unfold wf64; decide) (by decide)))
  (.step 25 23 0 0 nmN 6 1 ⟨5,⟨#[40]⟩,0,19⟩ ⟨2,nul,65,20⟩ ⟨5,⟨#[41]⟩,0,25⟩ [nmN,opN plO n65 n1] 10 4 _ 11 5 (by omega) (by omega) rfl (by decide) (by omega) rfl (by decide)
   (.last 23 22 9 1 [nmN] 7 1 (opN plO n65 n1) 10 4 ⟨5,⟨#[41]⟩,0,25⟩ ⟨2,nul,65,20⟩ (by omega) (by decide) rfl owE rfl (by decide)) rfl (by decide) (by omega) (by omega)
   (.done 0 0 _ 11 5 ⟨0,nul,0,26⟩ rfl (by decide)))
theorem owX : Dr owT 47 .expr 5 0 0 (callN nmN [nmN,opN plO n65 n1]) 11 5 :=
 .expr 47 46 5 0 0 _ 11 5 ⟨0,nul,0,26⟩ (by omega) (lv_of owT 26 5 0 0 _ 11 5 ⟨1,⟨#[119,114,99,104]⟩,0,15⟩ ⟨0,nul,0,26⟩ rfl (by decide) (by decide) (by decide) (by decide) rfl 1 (fun L _ _ => opF_word (by decide) (by decide) L) owC 9 1 rfl (by omega)) rfl (by decide)
theorem ow_way (g : Nat) (tv : Value) (w : World) (hov : OvG g w) (hs : PS w g tv owT 0 0 0) :
 Calls prog 49 #[.pointer (some ⟨g,0,none⟩)] w fun e w' => ∃ ra rc,e = .returned (.agg #[.string ⟨#[]⟩,.slice ra 1 rc]) ∧ LNP (fun b => w.heap.size ≤ b) w' (.slice ra 1 rc) [owN] ∧ PS w' g tv owT 11 7 0 ∧ Gw g w w' :=
 section_one owT 0 0 0 ⟨4,⟨#[108,101,116]⟩,0,0⟩ ⟨0,nul,0,26⟩ rfl (by decide) owN 11 7 (by omega) rfl rfl rfl (by decide) (by decide) g tv w hov hs fun w ba bl bc hov hs =>
 declaration_let owT 0 0 0 ⟨4,⟨#[108,101,116]⟩,0,0⟩ rfl (by decide) (by decide) (by decide) (by decide) owN 11 7 ba bl bc g tv w hov hs fun w hov hs =>
 procedure_be owT 1 0 0 ⟨1,⟨#[115,116,97,114,116]⟩,0,4⟩ ⟨5,⟨#[40]⟩,0,9⟩ ⟨5,⟨#[41]⟩,0,10⟩ ⟨4,⟨#[98,101]⟩,0,12⟩ rfl rfl rfl (by decide) rfl (by decide) rfl (by decide) (cmdN (callN nmN [nmN,opN plO n65 n1])) 11 6 (by omega) 0 (by unfold wf64; decide) (by decide) g tv w hov hs fun w hov hs =>
 command_call owT 5 0 0 ⟨1,⟨#[119,114,99,104]⟩,0,15⟩ ⟨5,⟨#[40]⟩,0,19⟩ ⟨0,nul,0,26⟩ rfl rfl rfl (by decide) _ 11 6 rfl ⟨by decide,by decide,by decide⟩ g tv w hov hs fun w hov hs =>
 basic_begins owT 5 0 0 ⟨1,⟨#[119,114,99,104]⟩,0,15⟩ rfl (.inl rfl) _ 11 6 g tv w hov hs fun w hov hs =>
 assignmentOrCall_call owT 5 0 0 _ 11 5 ⟨0,nul,0,26⟩ (Dr_CD owT 47 .expr 5 0 0 _ 11 5 owX) rfl rfl (by decide) (by decide) (by omega) g tv w hov hs
theorem ow_parse (w : World) (hev : Ev w) (hov : Ov w) :
 Calls prog 11 #[.string ow] w fun e w' => ∃ ra rc,e = .returned (.tuple #[.agg #[.string ⟨#[]⟩,.slice ra 1 rc],.int .i64 0,.int .i64 0]) ∧ LNP (fun b => w.heap.size < b) w' (.slice ra 1 rc) [owN] ∧ Fr w w' :=
 Parse_one ow owN w fun W h => read_section ow (by decide) owT 0 11 7 ⟨0,nul,0,26⟩ owN ow_scan (by decide) (by decide) rfl rfl ow_way W (hev.fr h) (hov.fr h)
end Go.Proofs.YtbaelbafhdjlnaaGreatDoor
