/- A part of the proof that the law ParsePrints holds for every input. -/
import Derived.Test.YtbaelbafhdjlnaaGreatDoorY2
namespace Go.Proofs.YtbaelbafhdjlnaaGreatDoor
open Go.RowKit _root_.Go.Proofs.Tryz
set_option linter.unusedVariables false
set_option linter.unusedSimpArgs false
set_option maxRecDepth 100000
set_option maxHeartbeats 8000000
def RLv (n : Nd) (v : Int) : Prop := ∀ (w : World) (lv : Value),LN w lv n.l → Calls prog 160 #[ndV n lv] w fun e w' => e = .returned (.int .i64 v) ∧ Fr w w'
inductive LvK : Int → Int → Prop
 | l1 : LvK 1 11
 | l2 : LvK 2 11
 | l3 : LvK 3 11
 | l4 : LvK 4 11
 | l5 : LvK 5 11
 | l6 : LvK 6 11
 | l15 : LvK 15 11
 | l16 : LvK 16 11
 | l18 : LvK 18 11
 | l7 : LvK 7 10
 | l10 : LvK 10 10
 | l11 : LvK 11 10
 | l8 : LvK 8 9
 | l9 : LvK 9 9
 | l17 : LvK 17 9
 | l14 : LvK 14 0
inductive BinK : Nat → Int → Int → Int → Int → ByteArray → Prop
 | b1 : BinK 1 1 8 8 9 (⟨#[42]⟩ : BA)
 | b2 : BinK 2 2 8 8 9 (⟨#[47]⟩ : BA)
 | b3 : BinK 3 3 8 8 9 (⟨#[114,101,109]⟩ : BA)
 | b4 : BinK 4 4 7 7 8 (⟨#[43]⟩ : BA)
 | b5 : BinK 5 5 7 7 8 (⟨#[45]⟩ : BA)
 | b6 : BinK 6 6 6 6 7 (⟨#[60,60]⟩ : BA)
 | b7 : BinK 7 7 6 6 7 (⟨#[62,62]⟩ : BA)
 | b8 : BinK 8 8 3 3 4 (⟨#[38]⟩ : BA)
 | b9 : BinK 9 9 2 2 3 (⟨#[124]⟩ : BA)
 | b10 : BinK 10 10 1 1 2 (⟨#[120,111,114]⟩ : BA)
 | b11 : BinK 11 11 1 1 2 (⟨#[101,113,118]⟩ : BA)
 | b12 : BinK 12 12 5 6 6 (⟨#[61]⟩ : BA)
 | b13 : BinK 13 13 5 6 6 (⟨#[126,61]⟩ : BA)
 | b14 : BinK 14 14 5 6 6 (⟨#[60]⟩ : BA)
 | b15 : BinK 15 15 5 6 6 (⟨#[60,61]⟩ : BA)
 | b16 : BinK 16 16 5 6 6 (⟨#[62]⟩ : BA)
 | b17 : BinK 17 17 5 6 6 (⟨#[62,61]⟩ : BA)
theorem BinK.two {q : Nat} {k v l r : Int} {T : ByteArray} (h : BinK q k v l r T) : (v = 5 ∧ l = 6 ∧ r = 6) ∨ ((v == 5) = false ∧ l = v ∧ IntKind.i64.wrap (v + 1) = r) := by
 cases h
 all_goals first | exact .inl ⟨rfl,rfl,rfl⟩ | exact .inr ⟨rfl,rfl,rfl⟩
theorem rlev_op {o v : Int} (h : LvK o v) (n : Nd) (hop : n.op = o) : RLv n v := by
 intro w lv hl
 obtain ⟨la,lc,rfl,hlc,hlm,_⟩ := hl.form
 rw [ndV_eq,hop]
 have HFA : Hid (Fr w (w.alloc (.cells #[.int .i64 o,.int .i64 n.n,.string n.s,.slice la n.l.length lc,.int .i64 n.a] 32))) := h_ ((Fr.refl w).alloc _)
 have HN := h_ (Nb.new w (.int .i64 o) (.int .i64 n.n) (.string n.s) (.slice la n.l.length lc) (.int .i64 n.a))
 obtain ⟨z0,z1,z2,z3,z4⟩ := HN.out.cells
 clear hl hop
 cases h
 all_goals
  go_enter func160,ntmps160
  go_wp2_with fail
  go_ret
  exact ⟨rfl,HFA.out⟩
theorem rlev_bin {q : Nat} {k v l r : Int} {T : ByteArray} (h : BinK q k v l r T) (n : Nd) (hop : n.op = 12) (hn1 : n.n = k) : RLv n v := by
 intro w lv hl
 obtain ⟨la,lc,rfl,hlc,hlm,_⟩ := hl.form
 rw [ndV_eq,hop,hn1]
 have HFA : Hid (Fr w (w.alloc (.cells #[.int .i64 12,.int .i64 k,.string n.s,.slice la n.l.length lc,.int .i64 n.a] 32))) := h_ ((Fr.refl w).alloc _)
 have HN := h_ (Nb.new w (.int .i64 12) (.int .i64 k) (.string n.s) (.slice la n.l.length lc) (.int .i64 n.a))
 obtain ⟨z0,z1,z2,z3,z4⟩ := HN.out.cells
 clear hl hop hn1
 cases h
 all_goals
  go_enter func160,ntmps160
  go_wp2_with fail
  go_ret
  exact ⟨rfl,HFA.out⟩
theorem rlev_13_19 (n : Nd) (hop : n.op = 13) (hn1 : n.n = 19) : RLv n 4 := by
 intro w lv hl
 obtain ⟨la,lc,rfl,hlc,hlm,_⟩ := hl.form
 rw [ndV_eq,hop,hn1]
 have HFA : Hid (Fr w (w.alloc (.cells #[.int .i64 13,.int .i64 19,.string n.s,.slice la n.l.length lc,.int .i64 n.a] 32))) := h_ ((Fr.refl w).alloc _)
 have HN := h_ (Nb.new w (.int .i64 13) (.int .i64 19) (.string n.s) (.slice la n.l.length lc) (.int .i64 n.a))
 obtain ⟨z0,z1,z2,z3,z4⟩ := HN.out.cells
 clear hl hop hn1
 go_enter func160,ntmps160
 go_wp2_with fail
 go_ret
 exact ⟨rfl,HFA.out⟩
theorem rlev_13_18 (n : Nd) (hop : n.op = 13) (hn1 : n.n = 18) : RLv n 7 := by
 intro w lv hl
 obtain ⟨la,lc,rfl,hlc,hlm,_⟩ := hl.form
 rw [ndV_eq,hop,hn1]
 have HFA : Hid (Fr w (w.alloc (.cells #[.int .i64 13,.int .i64 18,.string n.s,.slice la n.l.length lc,.int .i64 n.a] 32))) := h_ ((Fr.refl w).alloc _)
 have HN := h_ (Nb.new w (.int .i64 13) (.int .i64 18) (.string n.s) (.slice la n.l.length lc) (.int .i64 n.a))
 obtain ⟨z0,z1,z2,z3,z4⟩ := HN.out.cells
 clear hl hop hn1
 go_enter func160,ntmps160
 go_wp2_with fail
 go_ret
 exact ⟨rfl,HFA.out⟩
theorem rat_x (n : Nd) (L v : Int) (A : List ByteArray) (hv : RLv n v) (hd : Rx 83 mk1 n A) (hsz : A.length ≤ 1000000) : Rx 158 (mkL L) n (if L ≤ v then A else [⟨#[40]⟩] ++ A ++ [⟨#[41]⟩]) := by
 intro w lv hl
 show Calls prog 158 #[ndV n lv,.int .i64 L] w _
 have CV := h_ (fun W (h : Fr w W) => hv W _ (hl.fr h))
 have CX := h_ (fun W (h : Fr w W) => hd W _ (hl.fr h))
 obtain ⟨la,lc,rfl,hlc,hlm,_⟩ := hl.form
 rw [ndV_eq] at CV CX ⊢
 unfold mk1 at CX
 have HSZ := h_ hsz
 have HFA := h_ (fa_ n w la lc)
 have HN := h_ (nn_ n w la lc)
 obtain ⟨z0,z1,z2,z3,z4⟩ := HN.out.cells
 clear hl hv hd hsz
 by_cases hlt : L ≤ v
 ·have hdc : decide (v < L) = false := decide_eq_false (by omega)
  rw [if_pos hlt]
  clear hlt
  go_enter func158,ntmps158
  go_wp2_with fail
  refine (CV.out _ HFA.out).mono ?_
  rintro e w1 ⟨rfl,hf1⟩
  obtain ⟨y0,y1,y2,y3,y4⟩ := (HN.out.fr hf1).cells
  have HF1 := h_ (HFA.out.trans hf1)
  clear z0 z1 z2 z3 z4 hf1
  go_wp2_with fail
  refine (CX.out _ HF1.out).mono ?_
  rintro e w2 ⟨r0,rfl,ho,hf2⟩
  have HO := h_ (ho.low (B' := w.heap.size) HF1.out.size)
  have HF2 := h_ (HF1.out.trans hf2)
  clear ho hf2
  go_wp2_with fail
  go_ret
  exact ⟨_,rfl,HO.out,HF2.out⟩
 ·have hdc : decide (v < L) = true := decide_eq_true (by omega)
  rw [if_neg hlt]
  clear hlt
  go_enter func158,ntmps158
  go_wp2_with fail
  refine (CV.out _ HFA.out).mono ?_
  rintro e w1 ⟨rfl,hf1⟩
  obtain ⟨y0,y1,y2,y3,y4⟩ := (HN.out.fr hf1).cells
  have HF1 := h_ (HFA.out.trans hf1)
  clear z0 z1 z2 z3 z4 hf1
  go_wp2_with fail
  refine (CX.out _ HF1.out).mono ?_
  rintro e w2 ⟨r0,rfl,ho,hf2⟩
  have HS := h_ (OS.sl ho)
  have HF2 := h_ (HF1.out.trans hf2)
  clear ho hf2
  go_wp2_with fail
  refine (wrap_x ⟨#[40]⟩ ⟨#[41]⟩ r0 A _ HS.out (by have := HSZ.out; omega)).mono ?_
  rintro e w3 ⟨r1,rfl,ho,hf3⟩
  have HO := h_ (ho.low (B' := w.heap.size) HF2.out.size)
  have HF3 := h_ (HF2.out.trans hf3)
  clear ho hf3
  go_wp2_with fail
  go_ret
  exact ⟨_,rfl,HO.out,HF3.out⟩
theorem rsign_any {q : Nat} {k v l r : Int} {T : ByteArray} (h : BinK q k v l r T) (w : World) : Calls prog 161 #[.int .i64 k] w fun e w' => e = .returned (.string T) ∧ Fr w w' := by
 have HF : Hid (Fr w (w.alloc (.cells #[.string ⟨#[]⟩,.string (⟨#[42]⟩ : BA),.string (⟨#[47]⟩ : BA),.string (⟨#[114,101,109]⟩ : BA),.string (⟨#[43]⟩ : BA),.string (⟨#[45]⟩ : BA),.string (⟨#[60,60]⟩ : BA),.string (⟨#[62,62]⟩ : BA),.string (⟨#[38]⟩ : BA),.string (⟨#[124]⟩ : BA),.string (⟨#[120,111,114]⟩ : BA),.string (⟨#[101,113,118]⟩ : BA),.string (⟨#[61]⟩ : BA),.string (⟨#[126,61]⟩ : BA),.string (⟨#[60]⟩ : BA),.string (⟨#[60,61]⟩ : BA),.string (⟨#[62]⟩ : BA),.string (⟨#[62,61]⟩ : BA)] 9))) := h_ ((Fr.refl w).alloc _)
 have hc : (w.alloc (.cells #[.string ⟨#[]⟩,.string (⟨#[42]⟩ : BA),.string (⟨#[47]⟩ : BA),.string (⟨#[114,101,109]⟩ : BA),.string (⟨#[43]⟩ : BA),.string (⟨#[45]⟩ : BA),.string (⟨#[60,60]⟩ : BA),.string (⟨#[62,62]⟩ : BA),.string (⟨#[38]⟩ : BA),.string (⟨#[124]⟩ : BA),.string (⟨#[120,111,114]⟩ : BA),.string (⟨#[101,113,118]⟩ : BA),.string (⟨#[61]⟩ : BA),.string (⟨#[126,61]⟩ : BA),.string (⟨#[60]⟩ : BA),.string (⟨#[60,61]⟩ : BA),.string (⟨#[62]⟩ : BA),.string (⟨#[62,61]⟩ : BA)] 9)).cell? ⟨w.heap.size,q,none⟩ = some (.string T) := by cases h <;> simp
 cases h
 all_goals
  go_enter func161,ntmps161
  go_wp2_with fail
  go_ret
  exact ⟨rfl,HF.out⟩
theorem r_bin (n c0 c1 : Nd) {q : Nat} {k v l r : Int} {T : ByteArray} (hK : BinK q k v l r T) (A0 A1 : List ByteArray) (hop : n.op = 12) (hn1 : n.n = k) (hnl : n.l = [c0,c1]) (hv : RLv n v) (h0 : Rx 158 (mkL l) c0 A0) (h1 : Rx 158 (mkL r) c1 A1) (hsz : (A0 ++ [T] ++ A1).length ≤ 1000000) : Rx 83 mk1 n (A0 ++ [T] ++ A1) := by
 intro w lv hl
 show Calls prog 83 #[ndV n lv] w _
 obtain ⟨b,off,lc,a0,k0,a1,k1,rfl,HNC0,hl0,HNC1,hl1,hlc,hlm⟩ := kid2 hl hnl
 have CV := h_ (fun W (h : Fr w W) => hv W _ (hl.fr h))
 rw [ndV_eq,hop,hn1] at CV ⊢
 have C0 := h_ (fun W (h : Fr w W) => h0 W _ (hl0.fr h))
 rw [ndV_eq] at C0
 unfold mkL at C0
 have C1 := h_ (fun W (h : Fr w W) => h1 W _ (hl1.fr h))
 rw [ndV_eq] at C1
 unfold mkL at C1
 have HSZ := h_ hsz
 have CS := h_ (fun W => rsign_any hK W)
 obtain ⟨w1,HW1,HF1,HNB⟩ := al1 w (.int .i64 12) (.int .i64 k) (.string n.s) (.slice (some ⟨b,off,none⟩) 2 lc) (.int .i64 n.a)
 have HK := h_ (fun W' (h : Fr w1 W') => hk2 HNB.out HF1.out HNC0.out HNC1.out h)
 have hq1 : Fr w1 w1 := Fr.refl _
 obtain ⟨n0,n1,n2,n3,n4⟩ := HNB.out.cells
 rw [HW1.out] at n0 n1 n2 n3 n4
 clear hl hop hn1 hnl hsz hl0 hl1 h0 h1 hv hlm
 rcases hK.two with ⟨rfl,rfl,rfl⟩ | ⟨e5,rfl,er⟩
 all_goals
  go_enter func83,ntmps83
  go_wp2_with fail
  rw [← HW1.out]
  refine (CV.out _ HF1.out).mono ?_
  rintro e wL ⟨rfl,hfL⟩
  have hq0 : Fr w1 wL.drew := hfL.drew
  clear n0 n1 n2 n3 n4
  go_wp2_with fail
  go_region_held3 (fun W' => nQ w W' (.int .i64 12) (.int .i64 k) (.string n.s) (.slice (some ⟨b,off,none⟩) 2 lc) (cQ W' b off (off + 1) (off + 2) (off + 3) (off + 4) c0 a0 k0 (dQ W' b (off + 5) (off + 6) (off + 7) (off + 8) (off + 9) c1 a1 k1)))
   (first | exact HK.out _ (by assumption) | exact HK.out _ (Fr.alloc (by assumption) _))
   ((first
   | (go_at_call 158; with_reducible refine (C0.out _ ?_).mono ?_; exact HF1.out.trans (by assumption); rintro e wx ⟨r0,rfl,ho0,hfx⟩; have hs0 := OS.sl ho0; have hqx := Fr.trans (by assumption : Fr w1 _) hfx)
   | (go_at_call 161; refine (CS.out _).mono ?_; rintro e wx ⟨rfl,hfx⟩; have hqx := Fr.trans (by assumption : Fr w1 _) hfx; have hs0 := hs0.fr hfx)
   | (go_at_call 158; refine (C1.out _ ?_).mono ?_; exact HF1.out.trans (by assumption); rintro e wx ⟨r1,rfl,ho1,hfx⟩; have hs1 := OS.sl ho1; have hqx := Fr.trans (by assumption : Fr w1 _) hfx; have hs0 := hs0.fr hfx)
   | (go_at_call 159; with_reducible refine (joined_x r0 r1 A0 A1 _ _ hs0 hs1 ?_).mono ?_; (have hz := HSZ.out; simp at hz ⊢; omega); rintro e wx ⟨r2,rfl,ho2,hfx⟩; have hs2 := OS.sl ho2; have hqx := Fr.trans (by assumption : Fr w1 _) hfx)))
  have hfin : Fr w wx := HF1.out.trans hqx
  have hlo := ho2.low (B' := w.heap.size) (Nat.le_trans HF1.out.size (by first | exact Fr.size (by assumption) | exact Below.size (by assumption)))
  go_wp2_with fail
  go_ret
  exact ⟨_,rfl,hlo,hfin⟩
end Go.Proofs.YtbaelbafhdjlnaaGreatDoor
