/- A part of the proof that the law ParsePrints holds for every input. -/
import Derived.Test.YtbaelbafhdjlnaaGreatDoorY4
import Derived.Test.YtbaelbafhdjlnaaGreatDoorX2
namespace Go.Proofs.YtbaelbafhdjlnaaGreatDoor
open Go.RowKit _root_.Go.Proofs.Tryz
set_option linter.unusedVariables false
set_option linter.unusedSimpArgs false
set_option maxRecDepth 100000
set_option maxHeartbeats 8000000
theorem r_proc0 (n bd : Nd) (ps : List Nd) (tk : Nd → List ByteArray) (B : List ByteArray) (hop : n.op = 64) (hn1 : n.n = 0) (hnl : n.l = ps ++ [bd]) (hlp : ps.length ≤ 1000000) (hps : ∀ x ∈ ps,Rx 83 mk1 x (tk x)) (hd : Rx 83 mk1 bd B) (hsz : (([([[(⟨#[108,101,116]⟩ : BA),n.s],([(⟨#[40]⟩ : BA)] ++ joinT ⟨#[44]⟩ (ps.map tk) ++ [(⟨#[41]⟩ : BA)])] : List (List ByteArray)).flatten,[(⟨#[61]⟩ : BA)],B] : List (List ByteArray)).flatten).length ≤ 1000000) : Rx 80 mk1 n (([([[(⟨#[108,101,116]⟩ : BA),n.s],([(⟨#[40]⟩ : BA)] ++ joinT ⟨#[44]⟩ (ps.map tk) ++ [(⟨#[41]⟩ : BA)])] : List (List ByteArray)).flatten,[(⟨#[61]⟩ : BA)],B] : List (List ByteArray)).flatten) := by
 intro w lv hl
 show Calls prog 80 #[ndV n lv] w _
 obtain ⟨la,lc,rfl,hlc,hlm,_⟩ := hl.form
 rw [ndV_eq]
 have hll : n.l.length = ps.length + 1 := by rw [hnl]; simp
 obtain ⟨b,off,lvx,rfl,hnc,hlx,_⟩ := hl.at_ (i := ps.length) (t := bd) (by rw [hnl]; simp)
 obtain ⟨xa,xc,rfl,_,_,_⟩ := hlx.form
 have hlr := hl.take_ ps.length (by omega)
 rw [show n.l.take ps.length = ps from by rw [hnl]; simp] at hlr
 rw [hop,hn1]
 rw [hll] at hlc ⊢
 obtain ⟨H,hH⟩ : ∃ F,F = ([[(⟨#[108,101,116]⟩ : BA),n.s],([(⟨#[40]⟩ : BA)] ++ joinT ⟨#[44]⟩ (ps.map tk) ++ [(⟨#[41]⟩ : BA)])] : List (List ByteArray)).flatten := ⟨_,rfl⟩
 have hsH : H.length ≤ 1000000 := by rw [← hH] at hsz; simp only [List.flatten_cons,List.length_append] at hsz; omega
 have hsJ : (joinT ⟨#[44]⟩ (ps.map tk)).length ≤ 1000000 := by rw [hH] at hsH; simp only [List.flatten_cons,List.length_append] at hsH; omega
 have CX := h_ (fun W (h : Fr w W) => hd W _ (hlx.fr h))
 rw [ndV_eq] at CX
 unfold mk1 at CX
 have CL := h_ (fun W (h : Fr w W) => rlisted_x ps tk _ W (hlr.fr h) hps hsJ)
 rw [← hH] at hsz ⊢
 obtain ⟨J,hJ⟩ : ∃ J,J = joinT ⟨#[44]⟩ (ps.map tk) := ⟨_,rfl⟩
 rw [← hJ] at CL hH hsJ
 have HH := h_ hH
 have HSZ := h_ hsz
 have HSH := h_ hsH
 have HSJ := h_ hsJ
 obtain ⟨rl,hrl⟩ : ∃ y,y = ps.length := ⟨_,rfl⟩
 rw [← hrl] at CL hnc hlc ⊢
 have q1 : wrap64 (rl : Int) = (rl : Int) := IntWalk.wrap64_in _ (by omega)
 have q2 : (rl : Int).toNat = rl := Int.toNat_natCast rl
 have hcap : rl + 1 ≤ lc := hlc
 have q5 : rl ≤ lc := Nat.le_of_succ_le hlc
 have p1 : (0 : Int) ≤ (rl : Int) := Int.natCast_nonneg rl
 have p3 : (rl : Int) < (rl : Int) + 1 := Int.lt_succ rl
 have p4 : (rl : Int) < ((rl + 1 : Nat) : Int) := Int.ofNat_lt.2 (Nat.lt_succ_self rl)
 have HNC := h_ hnc
 obtain ⟨w1,hw1⟩ : ∃ w1,w1 = w.alloc (.cells #[.int .i64 64,.int .i64 0,.string n.s,.slice (some ⟨b,off,none⟩) (rl + 1) lc,.int .i64 n.a] 32) := ⟨_,rfl⟩
 have HF1 : Hid (Fr w w1) := h_ (by rw [hw1]; exact (Fr.refl w).alloc _)
 have HNB : Hid (Nb w1 w.heap.size (.int .i64 64) (.int .i64 0) (.string n.s) (.slice (some ⟨b,off,none⟩) (rl + 1) lc) (.int .i64 n.a)) := h_ (by rw [hw1]; exact Nb.new w _ _ _ _ _)
 have HW1 := h_ hw1
 have HK : Hid (∀ W',Fr w1 W' → nQ w W' (.int .i64 64) (.int .i64 0) (.string n.s) (.slice (some ⟨b,off,none⟩) (rl + 1) lc) (dQ W' b (off + rl * 5) (off + rl * 5 + 1) (off + rl * 5 + 2) (off + rl * 5 + 3) (off + rl * 5 + 4) bd xa xc)) := h_ (fun W' h => by
  obtain ⟨q0,q1,q2,q3,q4⟩ := (HNB.out.fr h).cells
  obtain ⟨y0,y1,y2,y3,y4⟩ := HNC.out.fr (HF1.out.trans h)
  exact ⟨q0,q1,q2,q3,y0,y1,y2,y3,y4⟩)
 have hq0 : Fr w1 w1.drew := (Fr.refl _).drew
 have hq1 : Fr w1 w1 := Fr.refl _
 clear hl hop hn1 hnl hlp hps hd hsz hll hlx hlr hH hsH hsJ hJ hrl hnc hlc hlm hw1
 obtain ⟨z0,z1,z2,z3,y0,y1,y2,y3,y4⟩ := HK.out w1 (Fr.refl _)
 rw [HW1.out] at z0 z3
 clear z1 z2 y0 y1 y2 y3 y4
 go_enter func80,ntmps80
 go_wp2_with fail
 rw [← HW1.out]
 clear z0 z3
 go_region_held3 (fun W' => nQ w W' (.int .i64 64) (.int .i64 0) (.string n.s) (.slice (some ⟨b,off,none⟩) (rl + 1) lc) (dQ W' b (off + rl * 5) (off + rl * 5 + 1) (off + rl * 5 + 2) (off + rl * 5 + 3) (off + rl * 5 + 4) bd xa xc))
  (first | exact HK.out _ (by assumption) | exact HK.out _ (Fr.drew (Fr.alloc hq1 _)) | exact HK.out _ (Fr.alloc (by assumption) _) | exact HK.out _ (Fr.alloc (Fr.alloc (by assumption) _) _))
  ((first
  | (go_at_call 153; refine (CL.out _ ?_).mono ?_; with_reducible exact HF1.out.trans (Fr.drew (Fr.alloc hq1 _)); rintro e wx ⟨r0,rfl,ho0,hfx⟩; have hs0 := OS.sl ho0; have hsl := ((OS.sl (own_twoS w1 (⟨#[108,101,116]⟩ : BA) n.s)).fr (Fr.drew (Fr.refl _))).fr hfx; have hqx := Fr.trans (Fr.drew (Fr.alloc hq1 _)) hfx)
  | (go_at_call 153; refine (CL.out _ ?_).mono ?_; with_reducible exact HF1.out.trans hq0; rintro e wx ⟨r0,rfl,ho0,hfx⟩; have hs0 := OS.sl ho0; have hqx := Fr.trans hq0 hfx)
  | (go_at_call 152; with_reducible refine (wrap_x ⟨#[40]⟩ ⟨#[41]⟩ r0 J _ hs0 ?_).mono ?_; (have := HSJ.out; omega); rintro e wx ⟨r1,rfl,ho1,hfx⟩; have hs1 := OS.sl ho1; obtain ⟨g1,m1,k_1,rfl⟩ := own_form5' ho1; have hqx := Fr.trans hqx hfx; try have hsl := hsl.fr hfx)
  | (go_at_call 152; with_reducible refine (wrap_x ⟨#[40]⟩ ⟨#[41]⟩ r0 J _ (hs0.fr ((Fr.refl _).alloc _)) ?_).mono ?_; (have := HSJ.out; omega); rintro e wx ⟨r1,rfl,ho1,hfx⟩; have hs1 := OS.sl ho1; obtain ⟨g1,m1,k_1,rfl⟩ := own_form5' ho1; have hsl := (OS.sl (own_twoS _ (⟨#[108,101,116]⟩ : BA) n.s)).fr hfx; have hqx := Fr.trans (Fr.alloc hqx _) hfx)
  | (go_at_call 79; refine (words_2 _ (.slice g1 m1 k_1) [(⟨#[108,101,116]⟩ : BA),n.s] ([(⟨#[40]⟩ : BA)] ++ J ++ [(⟨#[41]⟩ : BA)]) _ _ rfl hsl hs1 ?_).mono ?_; (have hz := HSH.out; rw [HH.out] at hz; exact hz); rintro e wx ⟨r2,rfl,ho2,hfx⟩; have hqx := Fr.trans hqx hfx)
  | (go_at_call 79; refine (words_2 _ (.slice g1 m1 k_1) [(⟨#[108,101,116]⟩ : BA),n.s] ([(⟨#[40]⟩ : BA)] ++ J ++ [(⟨#[41]⟩ : BA)]) _ (wx.alloc _) ?_ ?_ ?_ ?_).mono ?_; (rw [size_alloc']); (with_reducible exact OS.sl (own_twoS wx (⟨#[108,101,116]⟩ : BA) n.s)); (with_reducible exact hs1.fr ((Fr.refl _).alloc _)); (have hz := HSH.out; rw [HH.out] at hz; exact hz); rintro e wx ⟨r2,rfl,ho2,hfx⟩; have hqx := Fr.trans (Fr.alloc hqx _) hfx)))
 all_goals
  rw [← HH.out] at ho2
  have hs2 := OS.sl ho2
  obtain ⟨g2,m2,k_2,rfl⟩ := own_form5' ho2
  have HQ2 := h_ hqx
  obtain ⟨z0,z1,z2,z3,y0,y1,y2,y3,y4⟩ := HK.out _ hqx
  have hs2 := hs2.fr ((Fr.refl _).drew)
  have hqd := HQ2.out.drew
  clear z0 z2 z3 y0 y1 y2 y3 y4 ho0 ho1 ho2 hs0 hs1 hq0 hq1 hfx
  go_wp2_with fail
  clear z1
  go_region_held3 (fun W' => nQ w W' (.int .i64 64) (.int .i64 0) (.string n.s) (.slice (some ⟨b,off,none⟩) (rl + 1) lc) (dQ W' b (off + rl * 5) (off + rl * 5 + 1) (off + rl * 5 + 2) (off + rl * 5 + 3) (off + rl * 5 + 4) bd xa xc))
   (first | exact HK.out _ (by assumption) | exact HK.out _ (Fr.alloc (by assumption) _))
   ((first
   | (go_at_call 154; with_reducible refine (one_x (⟨#[61]⟩ : BA) _).mono ?_; rintro e wx ⟨r3,rfl,ho3,hfx⟩; have hs3 := OS.sl ho3; obtain ⟨g3,m3,k_3,rfl⟩ := own_form5' ho3; have hqx := Fr.trans hqd hfx; have hs2 := hs2.fr hfx)
   | (go_at_call 83; with_reducible refine (CX.out _ ?_).mono ?_; exact HF1.out.trans (by assumption); rintro e wx ⟨r4,rfl,ho4,hfx⟩; have hs4 := OS.sl ho4; obtain ⟨g4,m4,k_4,rfl⟩ := own_form5' ho4; have hqx := Fr.trans hqx hfx; have hs2 := hs2.fr hfx; have hs3 := hs3.fr hfx)
   | (go_at_call 79; refine (words_3 (.slice g2 m2 k_2) (.slice g3 m3 k_3) (.slice g4 m4 k_4) H [(⟨#[61]⟩ : BA)] B _ _ rfl hs2 hs3 hs4 ?_).mono ?_; (exact HSZ.out); rintro e wx ⟨r5,rfl,ho5,hfx⟩; have ho5 := ho5.low (B' := w1.heap.size) hqx.size; have hqx := Fr.trans hqx hfx)))
  all_goals
   have hfin : Fr w wx := HF1.out.trans hqx
   have hlo := ho5.low (B' := w.heap.size) HF1.out.size
   go_wp2_with fail
   go_ret
   exact ⟨_,rfl,hlo,hfin⟩
theorem r_proc1 (n bd : Nd) (ps : List Nd) (tk : Nd → List ByteArray) (B : List ByteArray) (hop : n.op = 64) (hn1 : n.n = 1) (hnl : n.l = ps ++ [bd]) (hlp : ps.length ≤ 1000000) (hps : ∀ x ∈ ps,Rx 83 mk1 x (tk x)) (hd : Rx 86 mk1 bd B) (hsz : (([([[(⟨#[108,101,116]⟩ : BA),n.s],([(⟨#[40]⟩ : BA)] ++ joinT ⟨#[44]⟩ (ps.map tk) ++ [(⟨#[41]⟩ : BA)])] : List (List ByteArray)).flatten,[(⟨#[98,101]⟩ : BA)],B] : List (List ByteArray)).flatten).length ≤ 1000000) : Rx 80 mk1 n (([([[(⟨#[108,101,116]⟩ : BA),n.s],([(⟨#[40]⟩ : BA)] ++ joinT ⟨#[44]⟩ (ps.map tk) ++ [(⟨#[41]⟩ : BA)])] : List (List ByteArray)).flatten,[(⟨#[98,101]⟩ : BA)],B] : List (List ByteArray)).flatten) := by
 intro w lv hl
 show Calls prog 80 #[ndV n lv] w _
 obtain ⟨la,lc,rfl,hlc,hlm,_⟩ := hl.form
 rw [ndV_eq]
 have hll : n.l.length = ps.length + 1 := by rw [hnl]; simp
 obtain ⟨b,off,lvx,rfl,hnc,hlx,_⟩ := hl.at_ (i := ps.length) (t := bd) (by rw [hnl]; simp)
 obtain ⟨xa,xc,rfl,_,_,_⟩ := hlx.form
 have hlr := hl.take_ ps.length (by omega)
 rw [show n.l.take ps.length = ps from by rw [hnl]; simp] at hlr
 rw [hop,hn1]
 rw [hll] at hlc ⊢
 obtain ⟨H,hH⟩ : ∃ F,F = ([[(⟨#[108,101,116]⟩ : BA),n.s],([(⟨#[40]⟩ : BA)] ++ joinT ⟨#[44]⟩ (ps.map tk) ++ [(⟨#[41]⟩ : BA)])] : List (List ByteArray)).flatten := ⟨_,rfl⟩
 have hsH : H.length ≤ 1000000 := by rw [← hH] at hsz; simp only [List.flatten_cons,List.length_append] at hsz; omega
 have hsJ : (joinT ⟨#[44]⟩ (ps.map tk)).length ≤ 1000000 := by rw [hH] at hsH; simp only [List.flatten_cons,List.length_append] at hsH; omega
 have CX := h_ (fun W (h : Fr w W) => hd W _ (hlx.fr h))
 rw [ndV_eq] at CX
 unfold mk1 at CX
 have CL := h_ (fun W (h : Fr w W) => rlisted_x ps tk _ W (hlr.fr h) hps hsJ)
 rw [← hH] at hsz ⊢
 obtain ⟨J,hJ⟩ : ∃ J,J = joinT ⟨#[44]⟩ (ps.map tk) := ⟨_,rfl⟩
 rw [← hJ] at CL hH hsJ
 have HH := h_ hH
 have HSZ := h_ hsz
 have HSH := h_ hsH
 have HSJ := h_ hsJ
 obtain ⟨rl,hrl⟩ : ∃ y,y = ps.length := ⟨_,rfl⟩
 rw [← hrl] at CL hnc hlc ⊢
 have q1 : wrap64 (rl : Int) = (rl : Int) := IntWalk.wrap64_in _ (by omega)
 have q2 : (rl : Int).toNat = rl := Int.toNat_natCast rl
 have hcap : rl + 1 ≤ lc := hlc
 have q5 : rl ≤ lc := Nat.le_of_succ_le hlc
 have p1 : (0 : Int) ≤ (rl : Int) := Int.natCast_nonneg rl
 have p3 : (rl : Int) < (rl : Int) + 1 := Int.lt_succ rl
 have p4 : (rl : Int) < ((rl + 1 : Nat) : Int) := Int.ofNat_lt.2 (Nat.lt_succ_self rl)
 have HNC := h_ hnc
 obtain ⟨w1,hw1⟩ : ∃ w1,w1 = w.alloc (.cells #[.int .i64 64,.int .i64 1,.string n.s,.slice (some ⟨b,off,none⟩) (rl + 1) lc,.int .i64 n.a] 32) := ⟨_,rfl⟩
 have HF1 : Hid (Fr w w1) := h_ (by rw [hw1]; exact (Fr.refl w).alloc _)
 have HNB : Hid (Nb w1 w.heap.size (.int .i64 64) (.int .i64 1) (.string n.s) (.slice (some ⟨b,off,none⟩) (rl + 1) lc) (.int .i64 n.a)) := h_ (by rw [hw1]; exact Nb.new w _ _ _ _ _)
 have HW1 := h_ hw1
 have HK : Hid (∀ W',Fr w1 W' → nQ w W' (.int .i64 64) (.int .i64 1) (.string n.s) (.slice (some ⟨b,off,none⟩) (rl + 1) lc) (dQ W' b (off + rl * 5) (off + rl * 5 + 1) (off + rl * 5 + 2) (off + rl * 5 + 3) (off + rl * 5 + 4) bd xa xc)) := h_ (fun W' h => by
  obtain ⟨q0,q1,q2,q3,q4⟩ := (HNB.out.fr h).cells
  obtain ⟨y0,y1,y2,y3,y4⟩ := HNC.out.fr (HF1.out.trans h)
  exact ⟨q0,q1,q2,q3,y0,y1,y2,y3,y4⟩)
 have hq0 : Fr w1 w1.drew := (Fr.refl _).drew
 have hq1 : Fr w1 w1 := Fr.refl _
 clear hl hop hn1 hnl hlp hps hd hsz hll hlx hlr hH hsH hsJ hJ hrl hnc hlc hlm hw1
 obtain ⟨z0,z1,z2,z3,y0,y1,y2,y3,y4⟩ := HK.out w1 (Fr.refl _)
 rw [HW1.out] at z0 z3
 clear z1 z2 y0 y1 y2 y3 y4
 go_enter func80,ntmps80
 go_wp2_with fail
 rw [← HW1.out]
 clear z0 z3
 go_region_held3 (fun W' => nQ w W' (.int .i64 64) (.int .i64 1) (.string n.s) (.slice (some ⟨b,off,none⟩) (rl + 1) lc) (dQ W' b (off + rl * 5) (off + rl * 5 + 1) (off + rl * 5 + 2) (off + rl * 5 + 3) (off + rl * 5 + 4) bd xa xc))
  (first | exact HK.out _ (by assumption) | exact HK.out _ (Fr.drew (Fr.alloc hq1 _)) | exact HK.out _ (Fr.alloc (by assumption) _) | exact HK.out _ (Fr.alloc (Fr.alloc (by assumption) _) _))
  ((first
  | (go_at_call 153; refine (CL.out _ ?_).mono ?_; with_reducible exact HF1.out.trans (Fr.drew (Fr.alloc hq1 _)); rintro e wx ⟨r0,rfl,ho0,hfx⟩; have hs0 := OS.sl ho0; have hsl := ((OS.sl (own_twoS w1 (⟨#[108,101,116]⟩ : BA) n.s)).fr (Fr.drew (Fr.refl _))).fr hfx; have hqx := Fr.trans (Fr.drew (Fr.alloc hq1 _)) hfx)
  | (go_at_call 153; refine (CL.out _ ?_).mono ?_; with_reducible exact HF1.out.trans hq0; rintro e wx ⟨r0,rfl,ho0,hfx⟩; have hs0 := OS.sl ho0; have hqx := Fr.trans hq0 hfx)
  | (go_at_call 152; with_reducible refine (wrap_x ⟨#[40]⟩ ⟨#[41]⟩ r0 J _ hs0 ?_).mono ?_; (have := HSJ.out; omega); rintro e wx ⟨r1,rfl,ho1,hfx⟩; have hs1 := OS.sl ho1; obtain ⟨g1,m1,k_1,rfl⟩ := own_form5' ho1; have hqx := Fr.trans hqx hfx; try have hsl := hsl.fr hfx)
  | (go_at_call 152; with_reducible refine (wrap_x ⟨#[40]⟩ ⟨#[41]⟩ r0 J _ (hs0.fr ((Fr.refl _).alloc _)) ?_).mono ?_; (have := HSJ.out; omega); rintro e wx ⟨r1,rfl,ho1,hfx⟩; have hs1 := OS.sl ho1; obtain ⟨g1,m1,k_1,rfl⟩ := own_form5' ho1; have hsl := (OS.sl (own_twoS _ (⟨#[108,101,116]⟩ : BA) n.s)).fr hfx; have hqx := Fr.trans (Fr.alloc hqx _) hfx)
  | (go_at_call 79; refine (words_2 _ (.slice g1 m1 k_1) [(⟨#[108,101,116]⟩ : BA),n.s] ([(⟨#[40]⟩ : BA)] ++ J ++ [(⟨#[41]⟩ : BA)]) _ _ rfl hsl hs1 ?_).mono ?_; (have hz := HSH.out; rw [HH.out] at hz; exact hz); rintro e wx ⟨r2,rfl,ho2,hfx⟩; have hqx := Fr.trans hqx hfx)
  | (go_at_call 79; refine (words_2 _ (.slice g1 m1 k_1) [(⟨#[108,101,116]⟩ : BA),n.s] ([(⟨#[40]⟩ : BA)] ++ J ++ [(⟨#[41]⟩ : BA)]) _ (wx.alloc _) ?_ ?_ ?_ ?_).mono ?_; (rw [size_alloc']); (with_reducible exact OS.sl (own_twoS wx (⟨#[108,101,116]⟩ : BA) n.s)); (with_reducible exact hs1.fr ((Fr.refl _).alloc _)); (have hz := HSH.out; rw [HH.out] at hz; exact hz); rintro e wx ⟨r2,rfl,ho2,hfx⟩; have hqx := Fr.trans (Fr.alloc hqx _) hfx)))
 all_goals
  rw [← HH.out] at ho2
  have hs2 := OS.sl ho2
  obtain ⟨g2,m2,k_2,rfl⟩ := own_form5' ho2
  have HQ2 := h_ hqx
  obtain ⟨z0,z1,z2,z3,y0,y1,y2,y3,y4⟩ := HK.out _ hqx
  have hs2 := hs2.fr ((Fr.refl _).drew)
  have hqd := HQ2.out.drew
  clear z0 z2 z3 y0 y1 y2 y3 y4 ho0 ho1 ho2 hs0 hs1 hq0 hq1 hfx
  go_wp2_with fail
  clear z1
  go_region_held3 (fun W' => nQ w W' (.int .i64 64) (.int .i64 1) (.string n.s) (.slice (some ⟨b,off,none⟩) (rl + 1) lc) (dQ W' b (off + rl * 5) (off + rl * 5 + 1) (off + rl * 5 + 2) (off + rl * 5 + 3) (off + rl * 5 + 4) bd xa xc))
   (first | exact HK.out _ (by assumption) | exact HK.out _ (Fr.alloc (by assumption) _))
   ((first
   | (go_at_call 154; with_reducible refine (one_x (⟨#[98,101]⟩ : BA) _).mono ?_; rintro e wx ⟨r3,rfl,ho3,hfx⟩; have hs3 := OS.sl ho3; obtain ⟨g3,m3,k_3,rfl⟩ := own_form5' ho3; have hqx := Fr.trans hqd hfx; have hs2 := hs2.fr hfx)
   | (go_at_call 86; with_reducible refine (CX.out _ ?_).mono ?_; exact HF1.out.trans (by assumption); rintro e wx ⟨r4,rfl,ho4,hfx⟩; have hs4 := OS.sl ho4; obtain ⟨g4,m4,k_4,rfl⟩ := own_form5' ho4; have hqx := Fr.trans hqx hfx; have hs2 := hs2.fr hfx; have hs3 := hs3.fr hfx)
   | (go_at_call 79; refine (words_3 (.slice g2 m2 k_2) (.slice g3 m3 k_3) (.slice g4 m4 k_4) H [(⟨#[98,101]⟩ : BA)] B _ _ rfl hs2 hs3 hs4 ?_).mono ?_; (exact HSZ.out); rintro e wx ⟨r5,rfl,ho5,hfx⟩; have ho5 := ho5.low (B' := w1.heap.size) hqx.size; have hqx := Fr.trans hqx hfx)))
  all_goals
   have hfin : Fr w wx := HF1.out.trans hqx
   have hlo := ho5.low (B' := w.heap.size) HF1.out.size
   go_wp2_with fail
   go_ret
   exact ⟨_,rfl,hlo,hfin⟩
inductive DcK : Int → ByteArray → ByteArray → Prop
 | d60 : DcK 60 (⟨#[109,97,110,105,102,101,115,116]⟩ : BA) (⟨#[61]⟩ : BA)
 | d61 : DcK 61 (⟨#[115,116,97,116,105,99]⟩ : BA) (⟨#[61]⟩ : BA)
 | d62 : DcK 62 (⟨#[103,108,111,98,97,108]⟩ : BA) (⟨#[58]⟩ : BA)
theorem r_decl {o : Int} {ky sg : ByteArray} (hK : DcK o ky sg) (m : Nd) (tk : Nd → List ByteArray) (hop : m.op = o) (hd : ∀ x ∈ m.l,∃ e,x.l = [e] ∧ Rx 83 mk1 e (tk x)) (hlen : (joinT ⟨#[59]⟩ (m.l.map (fun x => [x.s,sg] ++ tk x))).length ≤ 1000000) : Rx 80 mk1 m ([ky] ++ ([⟨#[123]⟩] ++ joinT ⟨#[59]⟩ (m.l.map (fun x => [x.s,sg] ++ tk x)) ++ [⟨#[125]⟩])) := by
 obtain ⟨ky',hky⟩ : ∃ x,x = ky := ⟨_,rfl⟩
 obtain ⟨sg',hsg⟩ : ∃ x,x = sg := ⟨_,rfl⟩
 rw [← hky,← hsg]
 rw [← hsg] at hlen
 have HKY := h_ hky
 have HSG := h_ hsg
 clear hky hsg
 intro w lv hv
 show Calls prog 80 #[ndV m lv] w _
 obtain ⟨a,cap,rfl,hc,hm,_⟩ := hv.form
 rw [ndV_eq,hop]
 obtain ⟨l,hl⟩ : ∃ l,l = m.l := ⟨_,rfl⟩
 rw [← hl] at hv hd hlen hc ⊢
 obtain ⟨n,hn⟩ : ∃ n,n = l.length := ⟨_,rfl⟩
 have HN := h_ hn
 rw [← hn] at hc hv ⊢
 obtain ⟨R,hR⟩ : ∃ R,R = ([ky'] ++ ([⟨#[123]⟩] ++ joinT ⟨#[59]⟩ (l.map (fun x => [x.s,sg'] ++ tk x)) ++ [⟨#[125]⟩])) := ⟨_,rfl⟩
 rw [← hR]
 have HRR := h_ hR
 clear hR
 obtain ⟨wz,hwz⟩ : ∃ wz,wz = w.alloc (.cells #[.int .i64 o,.int .i64 m.n,.string m.s,.slice a n cap,.int .i64 m.a] 32) := ⟨_,rfl⟩
 have HFA : Hid (Fr w wz) := h_ (by rw [hwz]; exact (Fr.refl w).alloc _)
 have HNB : Hid (Nb wz w.heap.size (.int .i64 o) (.int .i64 m.n) (.string m.s) (.slice a n cap) (.int .i64 m.a)) := h_ (by rw [hwz]; exact Nb.new w _ _ _ _ _)
 have HWZ := h_ hwz
 have HV := h_ (hv.fr HFA.out)
 have HD : Hid (∀ x ∈ l,∃ e,x.l = [e] ∧ Rx 83 mk1 e (tk x)) := h_ hd
 have HLE := h_ hlen
 unfold maxLen at hm
 obtain ⟨z0,z1,z2,z3,z4⟩ := HNB.out.cells
 rw [hwz] at z0 z1 z2 z3 z4
 clear hn hv hd hlen hl hwz hop
 cases hK
 all_goals
  go_enter func80,ntmps80
  go_wp2_with fail
  rw [← HWZ.out]
  try rw [← HKY.out]
  try rw [← HSG.out]
  clear z0 z1 z2 z3 z4
  go_loopw [7,8] (fun o i wr => ∃ j : Nat,j ≤ n ∧ i = .int .i64 j ∧ OS wr wz.heap.size o (joinT ⟨#[59]⟩ ((l.map (fun x => [x.s,sg'] ++ tk x)).take j)) ∧ Fr wz wr) (fun _ i _ => n - (intOf i).toNat)
  case atStart => exact ⟨0,Nat.zero_le _,rfl,World.ownsRow_nil _ _ _ _,Fr.refl _⟩
  case round =>
   obtain ⟨j,hj,rfl,hown,hfr⟩ := hrel
   obtain ⟨xs,hxs⟩ : ∃ xs,xs = joinT ⟨#[59]⟩ ((l.map (fun x => [x.s,sg'] ++ tk x)).take j) := ⟨_,rfl⟩
   rw [← hxs] at hown
   have HXS := h_ hxs
   obtain ⟨ay,cy,rfl⟩ := own_formS hown
   have HO := h_ hown
   have HFW := h_ hfr
   obtain ⟨k0,k1,k2,k3,k4⟩ := (HNB.out.fr hfr).cells
   obtain ⟨ny,hny⟩ : ∃ k,k = xs.length := ⟨_,rfl⟩
   rw [← hny] at HO ⊢
   have HNY := h_ hny
   clear hown hxs hny
   by_cases hlt : j < n
   ·obtain ⟨t,ht⟩ : ∃ t,l[j]? = some t := ⟨_,List.getElem?_eq_getElem (by rw [← HN.out]; exact hlt)⟩
    have hlx : xs.length ≤ 1000000 := by rw [HXS.out]; exact Nat.le_trans (joinT_len_mono _ (l.map (fun x => [x.s,sg'] ++ tk x)) (l.length - j) j (by rw [List.length_map]; have := HN.out; omega)) HLE.out
    obtain ⟨b,off,lv,rfl,hc5,hln,_⟩ := HV.out.at_ ht
    obtain ⟨x0,x1,x2,x3,x4⟩ := hc5.fr hfr
    obtain ⟨la,lc,rfl,_,_,_⟩ := hln.form
    obtain ⟨e,hel,hre⟩ := HD.out t (List.mem_of_getElem? ht)
    obtain ⟨b2,off2,lve,rfl,hce,hle,_⟩ := hln.at_ (i := 0) (t := e) (by rw [hel]; rfl)
    obtain ⟨ea,ec,rfl,_,_,_⟩ := hle.form
    simp only [Nat.zero_mul,Nat.add_zero] at hce
    have HCE := h_ hce
    rw [show t.l.length = 1 from by rw [hel]; rfl] at x3 hc5
    have HC5 := h_ hc5
    have HC : Hid (∀ W,Fr wz W → Calls prog 83 #[.agg #[.int .i64 e.op,.int .i64 e.n,.string e.s,.slice ea e.l.length ec,.int .i64 e.a]] W fun e w' => ∃ v,e = .returned v ∧ OS w' W.heap.size v (tk t) ∧ Fr W w') := h_ (fun W h => hre W _ (hle.fr h))
    have hj1 : (l.map (fun x => [x.s,sg'] ++ tk x))[j]? = some ([t.s,sg'] ++ tk t) := by rw [List.getElem?_map,ht]; rfl
    have hst := joinT_step2 ⟨#[59]⟩ (l.map (fun x => [x.s,sg'] ++ tk x)) j ([t.s,sg'] ++ tk t) hj1
    obtain ⟨Y,hY⟩ : ∃ Y,Y = joinT ⟨#[59]⟩ ((l.map (fun x => [x.s,sg'] ++ tk x)).take (j + 1)) := ⟨_,rfl⟩
    have HY := h_ hY
    have htl : (joinT ⟨#[59]⟩ ((l.map (fun x => [x.s,sg'] ++ tk x)).take (j + 1))).length ≤ 1000000 := Nat.le_trans (joinT_len_mono _ (l.map (fun x => [x.s,sg'] ++ tk x)) (l.length - (j + 1)) (j + 1) (by rw [List.length_map]; have := HN.out; omega)) HLE.out
    rw [← hY] at htl hst
    have HTL := h_ htl
    have HLT := h_ hlt
    clear hln ht hj1 htl hfr hc5 hY hre hle hce hel
    by_cases h0 : j = 0
    ·have HST : Hid (xs ++ ([t.s,sg'] ++ tk t) = Y) := h_ (by rw [if_pos h0,← HXS.out] at hst; exact hst)
     clear hst
     subst h0
     have z0 : decide ((0 : Int) < ((0 : Nat) : Int)) = false := rfl
     simp only [Nat.zero_mul,Nat.add_zero] at x0 x1 x2 x3 x4
     have HKR : Hid (∀ W',Fr wr W' → W'.cell? ⟨w.heap.size,3,none⟩ = some (.slice (some ⟨b,off,none⟩) n cap) ∧ W'.cell? ⟨b,off + 2,none⟩ = some (.string t.s) ∧ W'.cell? ⟨b,off + 3,none⟩ = some (.slice (some ⟨b2,off2,none⟩) 1 lc) ∧ dQ W' b2 off2 (off2 + 1) (off2 + 2) (off2 + 3) (off2 + 4) e ea ec) := h_ (fun W' h => by
      obtain ⟨q0,q1,q2,q3,q4⟩ := (HNB.out.fr (HFW.out.trans h)).cells
      obtain ⟨u0,u1,u2,u3,u4⟩ := HC5.out.fr (HFW.out.trans h)
      obtain ⟨v0,v1,v2,v3,v4⟩ := HCE.out.fr (HFW.out.trans h)
      simp only [Nat.zero_mul,Nat.add_zero] at u0 u1 u2 u3 u4
      exact ⟨q3,u2,u3,v0,v1,v2,v3,v4⟩)
     have pj1 : (0 : Int) ≤ ((0 : Nat) : Int) := Int.natCast_nonneg _
     have pj2 : ((0 : Nat) : Int) < (n : Int) := Int.ofNat_lt.2 HLT.out
     have hq0 : Fr wr wr.drew := (Fr.refl _).drew
     have hq1 : Fr wr wr := Fr.refl _
     go_wp2_with fail
     go_region_held3 (fun W' => W'.cell? ⟨w.heap.size,3,none⟩ = some (.slice (some ⟨b,off,none⟩) n cap) ∧ W'.cell? ⟨b,off + 2,none⟩ = some (.string t.s) ∧ W'.cell? ⟨b,off + 3,none⟩ = some (.slice (some ⟨b2,off2,none⟩) 1 lc) ∧ dQ W' b2 off2 (off2 + 1) (off2 + 2) (off2 + 3) (off2 + 4) e ea ec)
      (first | exact HKR.out _ (by assumption) | exact HKR.out _ (Fr.drew (Fr.alloc hq1 _)) | exact HKR.out _ (Fr.alloc (by assumption) _) | exact HKR.out _ (Fr.alloc (Fr.alloc (by assumption) _) _))
      ((first
      | (go_at_call 83; refine (HC.out _ ?_).mono ?_; with_reducible exact HFW.out.trans (Fr.drew (Fr.alloc hq1 _)); rintro e wx ⟨r0,rfl,ho8,hfx⟩; have hs0 := OS.sl ho8; obtain ⟨g8,m8,k8,rfl⟩ := own_form5' ho8; have hsl := ((OS.sl (own_twoS wr t.s sg')).fr (Fr.drew (Fr.refl _))).fr hfx; have hso := ((OS.sl HO.out).fr (Fr.drew (Fr.alloc hq1 _))).fr hfx; have hqx := Fr.trans (Fr.drew (Fr.alloc hq1 _)) hfx)
      | (go_at_call 83; refine (HC.out _ ?_).mono ?_; with_reducible exact HFW.out.trans hq0; rintro e wx ⟨r0,rfl,ho8,hfx⟩; have hs0 := OS.sl ho8; obtain ⟨g8,m8,k8,rfl⟩ := own_form5' ho8; have hso := ((OS.sl HO.out).fr hq0).fr hfx; have hqx := Fr.trans hq0 hfx)
      | (go_at_call 79; refine (words_3 (.slice ay ny cy) _ (.slice g8 m8 k8) xs [t.s,sg'] (tk t) _ _ rfl hso hsl hs0 ?_).mono ?_; (have hz := HTL.out; rw [← HST.out] at hz; simp at hz ⊢; omega); rintro e wx ⟨r1,rfl,ho9,hfx⟩; have ho9 := ho9.low (B' := wr.heap.size) hqx.size; have hqx := Fr.trans hqx hfx)
      | (go_at_call 79; refine (words_3 (.slice ay ny cy) _ (.slice g8 m8 k8) xs [t.s,sg'] (tk t) _ (wx.alloc _) ?_ ?_ ?_ ?_ ?_).mono ?_; (rw [size_alloc']); (with_reducible exact hso.fr ((Fr.refl _).alloc _)); (with_reducible exact OS.sl (own_twoS wx t.s sg')); (with_reducible exact hs0.fr ((Fr.refl _).alloc _)); (have hz := HTL.out; rw [← HST.out] at hz; simp at hz ⊢; omega); rintro e wx ⟨r1,rfl,ho9,hfx⟩; have ho9 := ho9.low (B' := wr.heap.size) (hqx.alloc _).size; have hqx := Fr.trans (Fr.alloc hqx _) hfx)))
     all_goals
      have HO2 : Hid (OS wx wz.heap.size r1 Y) := h_ (by
       rw [← HST.out]
       have h := ho9.low (B' := wz.heap.size) HFW.out.size
       simpa using h)
      have HF2 := h_ (HFW.out.trans hqx)
      clear ho9 hqx hfx
      go_wp2_with fail
      go_roundw
      case rel => exact ⟨1,by omega,by go_num,by have h := HY.out; rw [Nat.zero_add] at h; rw [← h]; exact HO2.out,HF2.out⟩
      case measure => simp [intOf]; omega
    ·have HST : Hid ((xs ++ [⟨#[59]⟩]) ++ ([t.s,sg'] ++ tk t) = Y) := h_ (by rw [if_neg h0,← HXS.out] at hst; exact hst)
     clear hst
     have z0 : decide ((0 : Int) < (j : Int)) = true := decide_eq_true (by omega)
     go_wp2_with (with_reducible refine stop_append_s ?_)
     unfold StopS
     refine wpS_append (.tmp 65) (.tmp 66) rfl rfl _ _ xs [⟨#[59]⟩] (by rfl) (by rfl) (HO.out.fr ((Fr.refl wr).alloc _)) (OS.sl (own_oneS wr ⟨#[59]⟩)) (HFW.out.alloc _) (by simp; omega) fun v0 w0 ho0 hf0 hg0 => ?_
     obtain ⟨a0,c0,rfl⟩ := own_formS ho0
     have HO0 := h_ ho0
     have HF0 := h_ hf0
     obtain ⟨m0,hm0⟩ : ∃ k,k = (xs ++ [(⟨#[59]⟩ : BA)]).length := ⟨_,rfl⟩
     have HM0 := h_ hm0
     rw [← hm0] at HO0 ⊢
     obtain ⟨q0,q1,q2,q3,q4⟩ := HC5.out.fr hf0
     obtain ⟨p0,p1,p2,p3,p4⟩ := (HNB.out.fr hf0).cells
     clear ho0 hf0 hg0 hm0 x0 x1 x2 x3 x4
     have HKR : Hid (∀ W',Fr w0 W' → W'.cell? ⟨w.heap.size,3,none⟩ = some (.slice (some ⟨b,off,none⟩) n cap) ∧ W'.cell? ⟨b,off + j * 5 + 2,none⟩ = some (.string t.s) ∧ W'.cell? ⟨b,off + j * 5 + 3,none⟩ = some (.slice (some ⟨b2,off2,none⟩) 1 lc) ∧ dQ W' b2 off2 (off2 + 1) (off2 + 2) (off2 + 3) (off2 + 4) e ea ec) := h_ (fun W' h => by
      obtain ⟨q0,q1,q2,q3,q4⟩ := (HNB.out.fr (HF0.out.trans h)).cells
      obtain ⟨u0,u1,u2,u3,u4⟩ := HC5.out.fr (HF0.out.trans h)
      obtain ⟨v0,v1,v2,v3,v4⟩ := HCE.out.fr (HF0.out.trans h)
      skip
      exact ⟨q3,u2,u3,v0,v1,v2,v3,v4⟩)
     have pj1 : (0 : Int) ≤ (j : Int) := Int.natCast_nonneg _
     have pj2 : (j : Int) < (n : Int) := Int.ofNat_lt.2 HLT.out
     have hq0 : Fr w0 w0.drew := (Fr.refl _).drew
     have hq1 : Fr w0 w0 := Fr.refl _
     go_wp2_with fail
     go_region_held3 (fun W' => W'.cell? ⟨w.heap.size,3,none⟩ = some (.slice (some ⟨b,off,none⟩) n cap) ∧ W'.cell? ⟨b,off + j * 5 + 2,none⟩ = some (.string t.s) ∧ W'.cell? ⟨b,off + j * 5 + 3,none⟩ = some (.slice (some ⟨b2,off2,none⟩) 1 lc) ∧ dQ W' b2 off2 (off2 + 1) (off2 + 2) (off2 + 3) (off2 + 4) e ea ec)
      (first | exact HKR.out _ (by assumption) | exact HKR.out _ (Fr.drew (Fr.alloc hq1 _)) | exact HKR.out _ (Fr.alloc (by assumption) _) | exact HKR.out _ (Fr.alloc (Fr.alloc (by assumption) _) _))
      ((first
      | (go_at_call 83; refine (HC.out _ ?_).mono ?_; with_reducible exact HF0.out.trans (Fr.drew (Fr.alloc hq1 _)); rintro e wx ⟨r0,rfl,ho8,hfx⟩; have hs0 := OS.sl ho8; obtain ⟨g8,m8,k8,rfl⟩ := own_form5' ho8; have hsl := ((OS.sl (own_twoS w0 t.s sg')).fr (Fr.drew (Fr.refl _))).fr hfx; have hso := ((OS.sl HO0.out).fr (Fr.drew (Fr.alloc hq1 _))).fr hfx; have hqx := Fr.trans (Fr.drew (Fr.alloc hq1 _)) hfx)
      | (go_at_call 83; refine (HC.out _ ?_).mono ?_; with_reducible exact HF0.out.trans hq0; rintro e wx ⟨r0,rfl,ho8,hfx⟩; have hs0 := OS.sl ho8; obtain ⟨g8,m8,k8,rfl⟩ := own_form5' ho8; have hso := ((OS.sl HO0.out).fr hq0).fr hfx; have hqx := Fr.trans hq0 hfx)
      | (go_at_call 79; refine (words_3 (.slice a0 m0 c0) _ (.slice g8 m8 k8) (xs ++ [(⟨#[59]⟩ : BA)]) [t.s,sg'] (tk t) _ _ rfl hso hsl hs0 ?_).mono ?_; (have hz := HTL.out; rw [← HST.out] at hz; simp at hz ⊢; omega); rintro e wx ⟨r1,rfl,ho9,hfx⟩; have ho9 := ho9.low (B' := w0.heap.size) hqx.size; have hqx := Fr.trans hqx hfx)
      | (go_at_call 79; refine (words_3 (.slice a0 m0 c0) _ (.slice g8 m8 k8) (xs ++ [(⟨#[59]⟩ : BA)]) [t.s,sg'] (tk t) _ (wx.alloc _) ?_ ?_ ?_ ?_ ?_).mono ?_; (rw [size_alloc']); (with_reducible exact hso.fr ((Fr.refl _).alloc _)); (with_reducible exact OS.sl (own_twoS wx t.s sg')); (with_reducible exact hs0.fr ((Fr.refl _).alloc _)); (have hz := HTL.out; rw [← HST.out] at hz; simp at hz ⊢; omega); rintro e wx ⟨r1,rfl,ho9,hfx⟩; have ho9 := ho9.low (B' := w0.heap.size) (hqx.alloc _).size; have hqx := Fr.trans (Fr.alloc hqx _) hfx)))
     all_goals
      have HO2 : Hid (OS wx wz.heap.size r1 Y) := h_ (by
       rw [← HST.out]
       have h := ho9.low (B' := wz.heap.size) HF0.out.size
       simpa using h)
      have HF2 := h_ (HF0.out.trans hqx)
      clear ho9 hqx hfx
      go_wp2_with fail
      go_roundw
      case rel => exact ⟨j + 1,by omega,by go_num,by rw [← HY.out]; exact HO2.out,HF2.out⟩
      case measure => simp [intOf]; omega
   ·obtain rfl : j = n := by omega
    have HRT : Hid (xs = joinT ⟨#[59]⟩ (l.map (fun x => [x.s,sg'] ++ tk x))) := h_ (by rw [HXS.out,List.take_of_length_le (by rw [List.length_map,← HN.out]; exact Nat.le_refl _)])
    have HXL : Hid (xs.length ≤ 2000000) := h_ (by rw [HRT.out]; have := HLE.out; omega)
    have HK1 : Hid (OS (wr.alloc (.cells #[.string ky'] 9)) w.heap.size (.slice (some ⟨wr.heap.size,0,none⟩) 1 1) [ky']) := h_ ((own_oneS wr ky').low (Nat.le_trans HFA.out.size HFW.out.size))
    have HS0 := h_ ((OS.sl HO.out).fr ((Fr.refl wr).alloc (.cells #[.string ky'] 9)))
    have HFK : Hid (Fr w (wr.alloc (.cells #[.string ky'] 9))) := h_ ((HFA.out.trans HFW.out).alloc _)
    go_wp2_with fail
    refine (wrap_x ⟨#[123]⟩ ⟨#[125]⟩ _ xs _ HS0.out HXL.out).mono ?_
    rintro e w3 ⟨r3,rfl,ho3,hf3⟩
    have HS3 := h_ (OS.sl ho3)
    have HK3 := h_ (HK1.out.fr hf3)
    have HF3 := h_ (HFK.out.trans hf3)
    clear ho3 hf3
    go_wp2_with (with_reducible refine stop_append_s ?_)
    unfold StopS
    refine wpS_append (.tmp 89) (.tmp 91) rfl rfl _ _ [ky'] ([(⟨#[123]⟩ : BA)] ++ xs ++ [(⟨#[125]⟩ : BA)]) (by rfl) (by rfl) HK3.out HS3.out HF3.out (by have := HXL.out; simp; omega) fun v5 w5 ho5 hf5 hg5 => ?_
    obtain ⟨a5,d5,rfl⟩ := own_formS ho5
    obtain ⟨n5,hn5⟩ : ∃ k,k = ([ky'] ++ ([(⟨#[123]⟩ : BA)] ++ xs ++ [(⟨#[125]⟩ : BA)])).length := ⟨_,rfl⟩
    rw [← hn5] at ho5 ⊢
    have HO5 := h_ ho5
    have HF5 := h_ hf5
    clear ho5 hf5 hg5 hn5
    go_wp2_with fail
    go_ret
    exact ⟨_,rfl,by rw [HRR.out,← HRT.out]; exact HO5.out,HF5.out⟩
theorem lineB_mono (L : List ByteArray) : ∀ j i,i + j = L.length → (lineB (L.take i)).size ≤ (lineB L).size := by
 intro j
 induction j with
 | zero => intro i e; rw [List.take_of_length_le (by omega)]; exact Nat.le_refl _
 | succ j ih =>
  intro i e
  refine Nat.le_trans ?_ (ih (i + 1) (by omega))
  obtain ⟨x,hx⟩ : ∃ x,L[i]? = some x := ⟨_,List.getElem?_eq_getElem (by omega)⟩
  rw [← lineB_step L i x hx]
  split <;> simp only [ByteArray.size_append] <;> omega
theorem line_x (v : Value) (A : List ByteArray) (w : World) (hv : SL w v A) (hlen : A.length ≤ 1000000) (hne : ∀ s ∈ A,0 < s.size ∧ s.size ≤ 1000000) (hz : (lineB A).size ≤ 100000000) :
 Calls prog 78 #[v] w fun e w' => e = .returned (.string (lineB A)) ∧ Fr w w' := by
 obtain ⟨i0,hi0,hz0,hz1,hz2⟩ := info_parts Tryz.infoU8
 have HI := h_ (And.intro hi0 (And.intro hz0 (And.intro hz1 hz2)))
 obtain ⟨a,c,rfl,hc,hm,hrow⟩ := hv
 have HR := h_ hrow
 have HNE := h_ hne
 have HZ := h_ hz
 obtain ⟨n,hn⟩ : ∃ n,n = A.length := ⟨_,rfl⟩
 have HN := h_ hn
 rw [← hn] at hlen hc ⊢
 clear hi0 hz0 hz1 hz2 hrow hne hz hn
 go_enter func78,ntmps78
 go_wp2_with fail
 go_loopw [3,4] (fun o i wr => ∃ j : Nat,j ≤ n ∧ i = .int .i64 j ∧ World.ownsRow wr w.heap.size 5 1 o (lineB (A.take j)).size (Lib.strCells (lineB (A.take j))) ∧ Fr w wr) (fun _ i _ => n - (intOf i).toNat)
 case atStart => exact ⟨0,Nat.zero_le _,rfl,World.ownsRow_nil _ _ _ _,Fr.refl _⟩
 case round =>
  obtain ⟨j,hj,rfl,hown,hfr⟩ := hrel
  obtain ⟨t,ht⟩ : ∃ t,t = lineB (A.take j) := ⟨_,rfl⟩
  rw [← ht] at hown
  have HT := h_ ht
  have HZT : Hid (t.size ≤ 100000000) := h_ (by rw [ht]; exact Nat.le_trans (lineB_mono A (A.length - j) j (by have := HN.out; omega)) HZ.out)
  have HO := h_ hown
  have HFW := h_ hfr
  by_cases hlt : j < n
  ·obtain ⟨s,hs⟩ : ∃ s,A[j]? = some s := ⟨_,List.getElem?_eq_getElem (by rw [← HN.out]; exact hlt)⟩
   have HSS := h_ (HNE.out s (List.mem_of_getElem? hs))
   obtain ⟨b,off,rfl,hcell⟩ := HR.out (by rw [← HN.out]; omega)
   have x0 := hfr.cell (hcell j s hs)
   have HX := h_ (hcell j s hs)
   have hst := lineB_step A j s hs
   obtain ⟨ay,ny,cy,rfl⟩ := own_form5' hown
   by_cases h0 : j = 0
   ·have HST : Hid (t ++ s = lineB (A.take 1)) := h_ (by subst h0; rw [if_pos rfl,← ht] at hst; exact hst)
    have HZS : Hid (t.size ≤ 100000000) := HZT
    subst h0
    simp only [Nat.add_zero] at x0
    clear hst ht hown hfr hcell hs
    go_wp2_with (with_reducible refine stop_append_n ?_)
    unfold StopN
    refine wpList_plain rfl fun K hK => ?_
    refine wp_append_text_where (.tmp 16) (.tmp 20) 54 9 rfl w.heap.size 5 i0 underlying54 underlying9 HI.out.1 HI.out.2.1 HI.out.2.2.1 HI.out.2.2.2 (.slice ay ny cy) (t).size (Lib.strCells (t)) (by rfl) HO.out s (by rfl) HSS.out.1 (by have := HSS.out.2; have := HZS.out; unfold maxLen; omega) (by have := HSS.out.2; have := HZS.out; omega) HFW.out.size fun v2 w2 hown hg hwh => hK _ _ ?_
    have HO2 : Hid (World.ownsRow w2 w.heap.size 5 1 v2 (lineB (A.take 1)).size (Lib.strCells (lineB (A.take 1)))) := h_ (by rw [← HST.out,ByteArray.size_append,strCells_append]; exact hown)
    have HF2 := h_ (own_fr5 HFW.out HO.out hg)
    clear hown hg hwh hK
    go_wp2_with fail
    go_roundw
    case rel => exact ⟨1,by omega,by go_num,HO2.out,HF2.out⟩
    case measure => simp [intOf]; omega
   ·have HST : Hid ((t ++ (⟨#[32]⟩ : BA)) ++ s = lineB (A.take (j + 1))) := h_ (by rw [if_neg h0,← ht] at hst; exact hst)
    have z0 : decide ((0 : Int) < (j : Int)) = true := decide_eq_true (by omega)
    have H1 : Hid (World.ownsRow (wr.alloc (.cells #[.int .u8 32] 5)) w.heap.size 5 1 (.slice ay ny cy) (t).size (Lib.strCells (t))) := h_ (hown.kept (nfr_grow ((Fr.refl wr).alloc _) none) (by cases Value.ownBlock _ <;> simp))
    have HF1 := h_ (hfr.alloc (.cells #[.int .u8 32] 5))
    clear hst ht hown hfr hcell hs
    go_wp2_with (with_reducible refine stop_append_n ?_)
    unfold StopN
    refine wpList_plain rfl fun K hK => ?_
    refine wp_append_where (.tmp 13) (.tmp 14) 54 rfl w.heap.size 5 i0 (.int .u8 0) 1 1 underlying54 HI.out.1 HI.out.2.1 HI.out.2.2.1 HI.out.2.2.2 rfl (by omega) (.slice ay ny cy) t.size (Lib.strCells t) (by rfl) H1.out ⟨wr.heap.size,0,none⟩ 1 1 [.int .u8 32] (by rfl) (by rfl) (byte_at wr 32) (by intro u hu; simp at hu; subst hu; rfl) (by omega) (by unfold maxLen; have := HZT.out; omega) (by have := HZT.out; omega) HF1.out.size fun v1 w1 hown hg hwh => hK _ _ ?_
    obtain ⟨u,hu⟩ : ∃ u,u = t ++ (⟨#[32]⟩ : BA) := ⟨_,rfl⟩
    have HO1 : Hid (World.ownsRow w1 w.heap.size 5 1 v1 (u).size (Lib.strCells (u))) := h_ (by rw [hu,ByteArray.size_append,strCells_append]; exact hown)
    have HFX := h_ (own_fr5 HF1.out H1.out hg)
    have HU := h_ hu
    have HZS : Hid (u.size ≤ 100000001) := h_ (by rw [hu,ByteArray.size_append]; have := HZT.out; show t.size + 1 ≤ _; omega)
    obtain ⟨az,nz,cz,rfl⟩ := own_form5' hown
    have x1 := HFX.out.cell HX.out
    clear hown hg hwh hK hu x0
    go_wp2_with (with_reducible refine stop_append_n ?_)
    unfold StopN
    refine wpList_plain rfl fun K hK => ?_
    refine wp_append_text_where (.tmp 16) (.tmp 20) 54 9 rfl w.heap.size 5 i0 underlying54 underlying9 HI.out.1 HI.out.2.1 HI.out.2.2.1 HI.out.2.2.2 (.slice az nz cz) (u).size (Lib.strCells (u)) (by rfl) HO1.out s (by rfl) HSS.out.1 (by have := HSS.out.2; have := HZS.out; unfold maxLen; omega) (by have := HSS.out.2; have := HZS.out; omega) HFX.out.size fun v2 w2 hown hg hwh => hK _ _ ?_
    have HO2 : Hid (World.ownsRow w2 w.heap.size 5 1 v2 (lineB (A.take (j + 1))).size (Lib.strCells (lineB (A.take (j + 1))))) := h_ (by rw [← HST.out,← HU.out,ByteArray.size_append,strCells_append]; exact hown)
    have HF2 := h_ (own_fr5 HFX.out HO1.out hg)
    clear hown hg hwh hK
    go_wp2_with fail
    go_roundw
    case rel => exact ⟨j + 1,by omega,by go_num,HO2.out,HF2.out⟩
    case measure => simp [intOf]; omega
  ·obtain rfl : j = n := by omega
   have HRT : Hid (t = lineB A) := h_ (by rw [ht,List.take_of_length_le (by rw [← HN.out]; exact Nat.le_refl _)])
   have hcv := conv_text hown
   obtain ⟨ay,ny,cy,rfl⟩ := own_form5' hown
   clear hown hfr ht
   go_wp2_with fail
   go_ret
   exact ⟨by rw [← HRT.out]; rfl,HFW.out⟩
theorem limited_x (s : ByteArray) (hs : s.size ≤ 100000000) (w : World) : Calls prog 81 #[.string s] w fun e w' => e = .returned (if 40000 < s.size then .tuple #[.string ⟨#[]⟩,.int .i64 2] else .tuple #[.string s,.int .i64 0]) ∧ Fr w w' := by
 by_cases h : 40000 < s.size
 ·have hd : decide ((40000 : Int) < (s.size : Int)) = true := decide_eq_true (by omega)
  rw [if_pos h]
  clear h
  go_enter func81,ntmps81
  go_wp2_with fail
  go_ret2
  exact ⟨rfl,Fr.refl _⟩
 ·have hd : decide ((40000 : Int) < (s.size : Int)) = false := decide_eq_false (by omega)
  rw [if_neg h]
  clear h
  go_enter func81,ntmps81
  go_wp2_with fail
  go_ret2
  exact ⟨rfl,Fr.refl _⟩
theorem RPrintExpr_ok (n : Nd) (lv : Value) (A : List ByteArray) (w : World) (hl : LN w lv n.l) (hck : ∀ W,Fr w W → Calls prog 25 #[ndV n lv] W fun e w' => e = .returned (.int .i64 0) ∧ Fr W w') (hd : Rx 83 mk1 n A) (hA : A.length ≤ 1000000) (hne : ∀ s ∈ A,0 < s.size ∧ s.size ≤ 1000000) (hz : (lineB A).size ≤ 100000000) :
 Calls prog 29 #[ndV n lv] w fun e w' => e = .returned (if 40000 < (lineB A).size then .tuple #[.string ⟨#[]⟩,.int .i64 2] else .tuple #[.string (lineB A),.int .i64 0]) ∧ Fr w w' := by
 have CX := h_ (fun W (h : Fr w W) => hd W _ (hl.fr h))
 have CK := h_ hck
 obtain ⟨la,lc,rfl,hlc,hlm,_⟩ := hl.form
 rw [ndV_eq] at CX CK ⊢
 unfold mk1 at CX
 obtain ⟨R,hR⟩ : ∃ R : Value,R = (if 40000 < (lineB A).size then .tuple #[.string ⟨#[]⟩,.int .i64 2] else .tuple #[.string (lineB A),.int .i64 0]) := ⟨_,rfl⟩
 obtain ⟨p,q,hpq⟩ : ∃ p q,R = .tuple #[p,q] := by
  rw [hR]; split
  ·exact ⟨_,_,rfl⟩
  ·exact ⟨_,_,rfl⟩
 rw [← hR]
 have CM := h_ (fun W => limited_x (lineB A) hz W)
 rw [← hR,hpq] at CM
 rw [hpq]
 have HA := h_ hA
 have HNE := h_ hne
 have HZ := h_ hz
 have HFA := h_ (fa_ n w la lc)
 have HN := h_ (nn_ n w la lc)
 obtain ⟨z0,z1,z2,z3,z4⟩ := HN.out.cells
 clear hl hck hd hA hz hR hpq hne
 go_enter func29,ntmps29
 go_wp2_with fail
 refine (CK.out _ HFA.out).mono ?_
 rintro e w1 ⟨rfl,hf1⟩
 obtain ⟨y0,y1,y2,y3,y4⟩ := (HN.out.fr hf1).cells
 have HF1 := h_ (HFA.out.trans hf1)
 clear z0 z1 z2 z3 z4 hf1
 go_wp2_with fail
 refine (CX.out _ HF1.out).mono ?_
 rintro e w2 ⟨r0,rfl,ho,hf2⟩
 have HS := h_ (OS.sl ho)
 have HF2 := h_ (HF1.out.trans hf2)
 clear ho hf2
 go_wp2_with fail
 refine (line_x r0 A _ HS.out HA.out HNE.out HZ.out).mono ?_
 rintro e w3 ⟨rfl,hf3⟩
 have HF3 := h_ (HF2.out.trans hf3)
 clear hf3
 go_wp2_with fail
 refine (CM.out _).mono ?_
 rintro e w4 ⟨rfl,hf4⟩
 have HF4 := h_ (HF3.out.trans hf4)
 clear hf4
 go_wp2_with fail
 first | go_ret2 | go_ret
 exact ⟨rfl,HF4.out⟩
theorem RPrintCommand_ok (n : Nd) (lv : Value) (A : List ByteArray) (w : World) (hl : LN w lv n.l) (hck : ∀ W,Fr w W → Calls prog 43 #[ndV n lv] W fun e w' => e = .returned (.int .i64 0) ∧ Fr W w') (hd : Rx 86 mk1 n A) (hA : A.length ≤ 1000000) (hne : ∀ s ∈ A,0 < s.size ∧ s.size ≤ 1000000) (hz : (lineB A).size ≤ 100000000) :
 Calls prog 31 #[ndV n lv] w fun e w' => e = .returned (if 40000 < (lineB A).size then .tuple #[.string ⟨#[]⟩,.int .i64 2] else .tuple #[.string (lineB A),.int .i64 0]) ∧ Fr w w' := by
 have CX := h_ (fun W (h : Fr w W) => hd W _ (hl.fr h))
 have CK := h_ hck
 obtain ⟨la,lc,rfl,hlc,hlm,_⟩ := hl.form
 rw [ndV_eq] at CX CK ⊢
 unfold mk1 at CX
 obtain ⟨R,hR⟩ : ∃ R : Value,R = (if 40000 < (lineB A).size then .tuple #[.string ⟨#[]⟩,.int .i64 2] else .tuple #[.string (lineB A),.int .i64 0]) := ⟨_,rfl⟩
 obtain ⟨p,q,hpq⟩ : ∃ p q,R = .tuple #[p,q] := by
  rw [hR]; split
  ·exact ⟨_,_,rfl⟩
  ·exact ⟨_,_,rfl⟩
 rw [← hR]
 have CM := h_ (fun W => limited_x (lineB A) hz W)
 rw [← hR,hpq] at CM
 rw [hpq]
 have HA := h_ hA
 have HNE := h_ hne
 have HZ := h_ hz
 have HFA := h_ (fa_ n w la lc)
 have HN := h_ (nn_ n w la lc)
 obtain ⟨z0,z1,z2,z3,z4⟩ := HN.out.cells
 clear hl hck hd hA hz hR hpq hne
 go_enter func31,ntmps31
 go_wp2_with fail
 refine (CK.out _ HFA.out).mono ?_
 rintro e w1 ⟨rfl,hf1⟩
 obtain ⟨y0,y1,y2,y3,y4⟩ := (HN.out.fr hf1).cells
 have HF1 := h_ (HFA.out.trans hf1)
 clear z0 z1 z2 z3 z4 hf1
 go_wp2_with fail
 refine (CX.out _ HF1.out).mono ?_
 rintro e w2 ⟨r0,rfl,ho,hf2⟩
 have HS := h_ (OS.sl ho)
 have HF2 := h_ (HF1.out.trans hf2)
 clear ho hf2
 go_wp2_with fail
 refine (line_x r0 A _ HS.out HA.out HNE.out HZ.out).mono ?_
 rintro e w3 ⟨rfl,hf3⟩
 have HF3 := h_ (HF2.out.trans hf3)
 clear hf3
 go_wp2_with fail
 refine (CM.out _).mono ?_
 rintro e w4 ⟨rfl,hf4⟩
 have HF4 := h_ (HF3.out.trans hf4)
 clear hf4
 go_wp2_with fail
 first | go_ret2 | go_ret
 exact ⟨rfl,HF4.out⟩
theorem wp_append_text {P : Program} {o : Oper} {a : Act} {w : World} {K : Act → World → Prop} {Q : Exit → Act → World → Prop} (sl x : Operand) (t u : TypeId)
 (ho : o.op = .call { callee := .builtin .append,args := #[sl,x],argTypes := #[t,u] })
 (base : Nat) (e : TypeId) (i : TypeInfo) (ht : P.underlying t = some (.slice e)) (hu : P.underlying u = some .string) (hi : P.info? e = some i) (hz : i.zero = some (.int .u8 0))
 (hsize : i.size = 1) (hby : i.bytes = 1) (v : Value) (n : Nat) (xs : List Value) (hs : a.eval sl = v) (hown : w.ownsRow base e 1 v n xs) (s : ByteArray) (hx : a.eval x = .string s) (h63 : n + s.size ≤ maxLen) (hbytes : n + s.size ≤ 140737488355328) (hbase : base ≤ w.heap.size)
 (h : ∀ v' w',w'.ownsRow base e 1 v' (n + s.size) (xs ++ Lib.strCells s) → w.grownBy w' v.ownBlock → K (a.put o.dst v') w') : o.wp P a w K Q := by
 obtain ⟨v',w',hr,h2,h3,h4⟩ := Lib.run_append_own_string (P := P) w base t u o.type e i ht hu hi hz hsize hby v n xs hown s h63 hbytes hbase
 unfold Oper.wp execOp
 simp only [ho,resolve,invoke,builtin,Sem.run_bind,Sem.run_pure,Result.andThen_ok,List.map_toArray,List.map_cons,List.map_nil,hs,hx,hr]
 exact h v' w' h2 h3
theorem RPrint_none (l : List Nd) (tk : Nd → List ByteArray) (T : Nat → ByteArray) (w : World) (a : Option Addr) (c : Nat) (hlen : l.length ≤ 1000000) (hl : LN w (.slice a l.length c) l) 
 (hck : ∀ W,Fr w W → Calls prog 23 #[.agg #[.string (⟨#[]⟩ : BA),.slice a l.length c]] W fun e w' => e = .returned (.int .i64 0) ∧ Fr W w')
 (hd : ∀ x ∈ l,Rx 80 mk1 x (tk x) ∧ (tk x).length ≤ 999000 ∧ ∀ y ∈ tk x,0 < y.size ∧ y.size ≤ 1000000) (hFo : ∀ y ∈ ([] : List ByteArray),0 < y.size ∧ y.size ≤ 1000000)
 (hT0 : T 0 = ⟨#[]⟩) (hT1 : ∀ n,l[0]? = some n → T 1 = lineB (([] : List ByteArray) ++ tk n)) (hTs : ∀ j n,0 < j → l[j]? = some n → T (j + 1) = T j ++ (⟨#[10]⟩ : BA) ++ lineB (tk n)) (hz : ∀ j,j ≤ l.length → (T j).size ≤ 90000000) :
 Calls prog 27 #[.agg #[.string (⟨#[]⟩ : BA),.slice a l.length c]] w fun e w' => e = .returned (if 40000 < ((if l.length = 0 then lineB ([] : List ByteArray) else T l.length) ++ (⟨#[10]⟩ : BA)).size then .tuple #[.string ⟨#[]⟩,.int .i64 2] else .tuple #[.string ((if l.length = 0 then lineB ([] : List ByteArray) else T l.length) ++ (⟨#[10]⟩ : BA)),.int .i64 0]) ∧ Fr w w' := by
 obtain ⟨i0,hi0,hz0,hz1,hz2⟩ := info_parts Tryz.infoU8
 have HI := h_ (And.intro hi0 (And.intro hz0 (And.intro hz1 hz2)))
 obtain ⟨RF,hRF⟩ : ∃ x : ByteArray,x = (if l.length = 0 then lineB ([] : List ByteArray) else T l.length) := ⟨_,rfl⟩
 obtain ⟨R,hR⟩ : ∃ R : Value,R = (if 40000 < (RF ++ (⟨#[10]⟩ : BA)).size then .tuple #[.string ⟨#[]⟩,.int .i64 2] else .tuple #[.string (RF ++ (⟨#[10]⟩ : BA)),.int .i64 0]) := ⟨_,rfl⟩
 obtain ⟨p,q,hpq⟩ : ∃ p q,R = .tuple #[p,q] := by
  rw [hR]; split
  ·exact ⟨_,_,rfl⟩
  ·exact ⟨_,_,rfl⟩
 rw [← hRF,← hR,hpq]
 have HRR := h_ (hpq.symm.trans hR)
 have HRF := h_ hRF
 have HV := h_ hl
 have HD := h_ hd
 have HCK := h_ hck
 have HT := h_ (And.intro hT0 (And.intro hT1 hTs))
 have HZ := h_ hz
 have HFO := h_ hFo
 obtain ⟨n,hn⟩ : ∃ n,n = l.length := ⟨_,rfl⟩
 have HN := h_ hn
 have hn6 : n ≤ 1000000 := by rw [hn]; exact hlen
 rw [← hn] at HCK HV ⊢
 have HB := h_ (SecB.new w (.string (⟨#[]⟩ : BA)) (.slice a n c))
 have HF0 : Hid (Fr w (w.alloc (.cells #[.string (⟨#[]⟩ : BA),.slice a n c] 24))) := h_ ((Fr.refl w).alloc _)
 clear hi0 hz0 hz1 hz2 hR hpq hRF hl hd hck hT0 hT1 hTs hz hFo hn hlen
 go_enter func27,ntmps27
 go_wp2_with fail
 refine (HCK.out _ HF0.out).mono ?_
 rintro e w0 ⟨rfl,hf1⟩
 have HF1 : Hid (Fr w w0) := h_ (HF0.out.trans hf1)
 have HB1 := h_ (HB.out.fr hf1)
 obtain ⟨s0,s1⟩ := HB1.out.cells
 clear hf1
 go_wp2_with fail
 have HFB : Hid (Fr w w0) := HF1
 have HBB := HB1
 have HFS : Hid (SL w0 (.slice none 0 0) ([] : List ByteArray)) := h_ ⟨none,0,rfl,Nat.le_refl _,Nat.zero_le _,fun h => absurd h (Nat.lt_irrefl 0)⟩
 go_loopw [8,9] (fun o i wr => ∃ j : Nat,j ≤ n ∧ i = .int .i64 j ∧ World.ownsRow wr w0.heap.size 5 1 o (T j).size (Lib.strCells (T j)) ∧ Fr w wr ∧ Fr w0 wr) (fun _ i _ => n - (intOf i).toNat)
 case atStart => exact ⟨0,Nat.zero_le _,rfl,by rw [HT.out.1]; exact World.ownsRow_nil _ _ _ _,HFB.out,Fr.refl _⟩
 case round =>
  obtain ⟨j,hj,rfl,hown,hfr,hfb⟩ := hrel
  obtain ⟨t,ht⟩ : ∃ t,t = T j := ⟨_,rfl⟩
  rw [← ht] at hown
  have HTJ := h_ ht
  have HZT : Hid (t.size ≤ 90000000) := h_ (by rw [ht]; exact HZ.out j (by rw [← HN.out]; exact hj))
  have HO := h_ hown
  have HFW := h_ hfr
  have HFX := h_ hfb
  obtain ⟨k0,k1⟩ := (HBB.out.fr hfb).cells
  obtain ⟨ay,ny,cy,rfl⟩ := own_form5' hown
  by_cases hlt : j < n
  ·obtain ⟨x,hx⟩ : ∃ x,l[j]? = some x := ⟨_,List.getElem?_eq_getElem (by rw [← HN.out]; exact hlt)⟩
   have hmem := List.mem_of_getElem? hx
   obtain ⟨b,off,lv,rfl,hc5,hln,_⟩ := HV.out.at_ hx
   obtain ⟨y0,y1,y2,y3,y4⟩ := hc5.fr hfr
   obtain ⟨la,lc,rfl,_,_,_⟩ := hln.form
   have HL := h_ hln
   have HC5 := h_ hc5
   have HX := h_ (HD.out x hmem).2
   have HC : Hid (∀ W,Fr w W → Calls prog 80 #[.agg #[.int .i64 x.op,.int .i64 x.n,.string x.s,.slice la x.l.length lc,.int .i64 x.a]] W fun e w' => ∃ v,e = .returned v ∧ OS w' W.heap.size v (tk x) ∧ Fr W w') := h_ (fun W h => (HD.out x hmem).1 W _ (HL.out.fr h))
   by_cases h0 : j = 0
   ·have hst : T 1 = lineB (([] : List ByteArray) ++ tk x) := HT.out.2.1 x (by subst h0; exact hx)
    have HLS : Hid ((lineB (([] : List ByteArray) ++ tk x)).size ≤ 90000000) := h_ (by rw [← hst]; exact HZ.out 1 (by rw [← HN.out]; omega))
    have HST : Hid (T 1 = t ++ lineB (([] : List ByteArray) ++ tk x)) := h_ (by rw [hst,HTJ.out,h0,HT.out.1]; apply ByteArray.ext; simp)
    have HTK : Hid ((([] : List ByteArray) ++ tk x).length ≤ 1000000 ∧ ∀ y ∈ (([] : List ByteArray) ++ tk x),0 < y.size ∧ y.size ≤ 1000000) := h_ ⟨by have := HX.out.1; simp; omega,fun y hy => by
     rcases List.mem_append.1 hy with h | h
     ·exact HFO.out y h
     ·exact HX.out.2 y h⟩
    subst h0
    simp only [Nat.zero_mul,Nat.add_zero] at y0 y1 y2 y3 y4
    clear hst ht hown hfr hfb hmem hx hc5 hln
    go_wp2_with fail
    refine (HC.out _ HFW.out).mono ?_
    rintro e w1 ⟨r1,rfl,ho1,hf1⟩
    have HS1 := h_ (OS.sl ho1)
    obtain ⟨g1,m1,k_1,rfl⟩ := own_form5' ho1
    have HFX1 := h_ (HFX.out.trans hf1)
    have HFW1 := h_ (HFW.out.trans hf1)
    have HGR1 := h_ hf1
    have HS0 := h_ (HFS.out.fr HFX1.out)
    clear ho1 hf1
    go_wp2_with fail
    refine (words_2 (.slice none 0 0) (.slice g1 m1 k_1) ([] : List ByteArray) (tk x) _ _ rfl HS0.out HS1.out ?_).mono ?_
    ·have := HTK.out.1; simp at this ⊢; omega
    rintro e w2 ⟨r2,rfl,ho2,hf2⟩
    rw [show ([([] : List ByteArray),tk x] : List (List ByteArray)).flatten = ([] : List ByteArray) ++ tk x from by simp] at ho2
    have HS2 := h_ (OS.sl ho2)
    have HFX2 := h_ (HFX1.out.trans hf2)
    have HFW2 := h_ (HFW1.out.trans hf2)
    have HGR2 := h_ (HGR1.out.trans hf2)
    clear ho2 hf2
    go_wp2_with fail
    refine (line_x r2 (([] : List ByteArray) ++ tk x) _ HS2.out HTK.out.1 HTK.out.2 (by have := HLS.out; omega)).mono ?_
    rintro e w3 ⟨rfl,hf3⟩
    have HFX3 := h_ (HFX2.out.trans hf3)
    have HFW3 := h_ (HFW2.out.trans hf3)
    have HO3 : Hid (World.ownsRow w3 w0.heap.size 5 1 (.slice ay ny cy) (t).size (Lib.strCells (t))) := h_ (HO.out.kept (nfr_grow (HGR2.out.trans hf3) none) (by cases Value.ownBlock _ <;> simp))
    have HBD : Hid (t.size + (lineB (([] : List ByteArray) ++ tk x)).size ≤ 200000000) := h_ (by have := HLS.out; have := HZT.out; omega)
    clear hf3
    go_wp2_with (with_reducible refine stop_append_n ?_)
    unfold StopN
    refine wpList_plain rfl fun K hK => ?_
    refine wp_append_text (.tmp 35) (.tmp 44) 54 9 rfl w0.heap.size 5 i0 underlying54 underlying9 HI.out.1 HI.out.2.1 HI.out.2.2.1 HI.out.2.2.2 (.slice ay ny cy) (t).size (Lib.strCells (t)) (by rfl) HO3.out (lineB (([] : List ByteArray) ++ tk x)) (by rfl) (by have := HBD.out; unfold maxLen; omega) (by have := HBD.out; omega) HFX3.out.size fun v2 w2 hown hg => hK _ _ ?_
    have HO4 : Hid (World.ownsRow w2 w0.heap.size 5 1 v2 (T 1).size (Lib.strCells (T 1))) := h_ (by rw [HST.out,ByteArray.size_append,strCells_append]; exact hown)
    have HB4 := h_ (own_fr5 HFX3.out HO3.out hg)
    have HF4 := h_ (HFB.out.trans HB4.out)
    clear hown hg hK
    go_wp2_with fail
    go_roundw
    case rel => exact ⟨1,by omega,by go_num,HO4.out,HF4.out,HB4.out⟩
    case measure => simp [intOf]; omega
   ·have hst : T (j + 1) = (t ++ (⟨#[10]⟩ : BA)) ++ lineB (tk x) := by rw [HT.out.2.2 j x (by omega) hx,← ht]
    have HST := h_ hst
    have HLS : Hid ((lineB (tk x)).size ≤ 90000000) := h_ (by have h := HZ.out (j + 1) (by rw [← HN.out]; omega); rw [hst,ByteArray.size_append] at h; omega)
    have z0 : ((j : Int) == 0) = false := by rw [beq_eq_false_iff_ne]; omega
    have H1 : Hid (World.ownsRow (wr.alloc (.cells #[.int .u8 10] 5)) w0.heap.size 5 1 (.slice ay ny cy) (t).size (Lib.strCells (t))) := h_ (hown.kept (nfr_grow ((Fr.refl wr).alloc _) none) (by cases Value.ownBlock _ <;> simp))
    have HF1b := h_ (hfb.alloc (.cells #[.int .u8 10] 5))
    clear hst ht hown hfr hfb hmem hx hc5 hln
    go_wp2_with (with_reducible refine stop_append_n ?_)
    unfold StopN
    refine wpList_plain rfl fun K hK => ?_
    refine wp_append_where (.tmp 46) (.tmp 47) 54 rfl w0.heap.size 5 i0 (.int .u8 0) 1 1 underlying54 HI.out.1 HI.out.2.1 HI.out.2.2.1 HI.out.2.2.2 rfl (by omega) (.slice ay ny cy) (t).size (Lib.strCells (t)) (by rfl) H1.out ⟨wr.heap.size,0,none⟩ 1 1 [.int .u8 10] (by rfl) (by rfl) (byte_at wr 10) (by intro u hu; simp at hu; subst hu; rfl) (by omega) (by unfold maxLen; have := HZT.out; omega) (by have := HZT.out; omega) HF1b.out.size fun v1 w1 hown hg hwh => hK _ _ ?_
    obtain ⟨u,hu⟩ : ∃ u,u = t ++ (⟨#[10]⟩ : BA) := ⟨_,rfl⟩
    have HO1 : Hid (World.ownsRow w1 w0.heap.size 5 1 v1 (u).size (Lib.strCells (u))) := h_ (by rw [hu,ByteArray.size_append,strCells_append]; exact hown)
    have HFX1 := h_ (own_fr5 HF1b.out H1.out hg)
    have HFW1 := h_ (HFB.out.trans HFX1.out)
    have HU := h_ hu
    have HZU : Hid (u.size ≤ 90000001) := h_ (by rw [hu,ByteArray.size_append]; have := HZT.out; show t.size + 1 ≤ _; omega)
    obtain ⟨az,nz,cz,rfl⟩ := own_form5' hown
    clear hown hg hwh hK hu y0 y1 y2 y3 y4 k0 k1
    obtain ⟨k0,k1⟩ := (HBB.out.fr HFX1.out).cells
    obtain ⟨y0,y1,y2,y3,y4⟩ := HC5.out.fr HFW1.out
    go_wp2_with fail
    refine (HC.out _ HFW1.out).mono ?_
    rintro e w2 ⟨r1,rfl,ho2,hf2⟩
    have HS2 := h_ (OS.sl ho2)
    have HGR := h_ hf2
    have HFX2 := h_ (HFX1.out.trans hf2)
    clear ho2 hf2
    go_wp2_with fail
    refine (line_x r1 (tk x) _ HS2.out (by have := HX.out.1; omega) HX.out.2 (by have := HLS.out; omega)).mono ?_
    rintro e w3 ⟨rfl,hf3⟩
    have HFX3 := h_ (HFX2.out.trans hf3)
    have HO3 : Hid (World.ownsRow w3 w0.heap.size 5 1 (.slice az nz cz) (u).size (Lib.strCells (u))) := h_ (HO1.out.kept (nfr_grow (HGR.out.trans hf3) none) (by cases Value.ownBlock _ <;> simp))
    have HBD : Hid (u.size + (lineB (tk x)).size ≤ 200000000) := h_ (by have := HLS.out; have := HZU.out; omega)
    clear hf3
    go_wp2_with (with_reducible refine stop_append_n ?_)
    unfold StopN
    refine wpList_plain rfl fun K hK => ?_
    refine wp_append_text (.tmp 49) (.tmp 56) 54 9 rfl w0.heap.size 5 i0 underlying54 underlying9 HI.out.1 HI.out.2.1 HI.out.2.2.1 HI.out.2.2.2 (.slice az nz cz) (u).size (Lib.strCells (u)) (by rfl) HO3.out (lineB (tk x)) (by rfl) (by have := HBD.out; unfold maxLen; omega) (by have := HBD.out; omega) HFX3.out.size fun v2 w2 hown hg => hK _ _ ?_
    have HO4 : Hid (World.ownsRow w2 w0.heap.size 5 1 v2 (T (j + 1)).size (Lib.strCells (T (j + 1)))) := h_ (by rw [HST.out,← HU.out,ByteArray.size_append,strCells_append]; exact hown)
    have HB4 := h_ (own_fr5 HFX3.out HO3.out hg)
    have HF4 := h_ (HFB.out.trans HB4.out)
    clear hown hg hK
    go_wp2_with fail
    go_roundw
    case rel => exact ⟨j + 1,by omega,by go_num,HO4.out,HF4.out,HB4.out⟩
    case measure => simp [intOf]; omega
  ·obtain rfl : j = n := by omega
   by_cases h0 : j = 0
   ·have HF0x : Hid (RF = t ++ lineB ([] : List ByteArray)) := h_ (by rw [HRF.out,if_pos (by rw [← HN.out]; exact h0),ht,h0,HT.out.1]; apply ByteArray.ext; simp)
    have HLS : Hid ((lineB ([] : List ByteArray)).size ≤ 3000000) := h_ (by show 0 ≤ _; omega)
    subst h0
    clear hown hfr hfb
    have HSF := h_ (HFS.out.fr HFX.out)
    go_wp2_with fail
    refine (line_x (.slice none 0 0) ([] : List ByteArray) _ HSF.out (by simp) HFO.out (by have := HLS.out; omega)).mono ?_
    rintro e w3 ⟨rfl,hf3⟩
    have HFX3 := h_ (HFX.out.trans hf3)
    have HO3 : Hid (World.ownsRow w3 w0.heap.size 5 1 (.slice ay ny cy) (t).size (Lib.strCells (t))) := h_ (HO.out.kept (nfr_grow hf3 none) (by cases Value.ownBlock _ <;> simp))
    have HBD : Hid (t.size + (lineB ([] : List ByteArray)).size ≤ 200000000) := h_ (by have := HLS.out; have := HZT.out; omega)
    clear hf3 ht
    go_wp2_with (with_reducible refine stop_append_n ?_)
    unfold StopN
    refine wpList_plain rfl fun K hK => ?_
    refine wp_append_text (.tmp 62) (.tmp 64) 54 9 rfl w0.heap.size 5 i0 underlying54 underlying9 HI.out.1 HI.out.2.1 HI.out.2.2.1 HI.out.2.2.2 (.slice ay ny cy) (t).size (Lib.strCells (t)) (by rfl) HO3.out (lineB ([] : List ByteArray)) (by rfl) (by have := HBD.out; unfold maxLen; omega) (by have := HBD.out; omega) HFX3.out.size fun v2 w2 hown hg => hK _ _ ?_
    have HOR : Hid (World.ownsRow w2 w0.heap.size 5 1 v2 (RF).size (Lib.strCells (RF))) := h_ (by rw [HF0x.out,ByteArray.size_append,strCells_append]; exact hown)
    have HFR := h_ (own_fr5 HFX3.out HO3.out hg)
    have HZR : Hid (RF.size ≤ 99999999) := h_ (by rw [HF0x.out,ByteArray.size_append]; have := HLS.out; have := HZT.out; omega)
    obtain ⟨az,nz,cz,rfl⟩ := own_form5' hown
    clear hown hg hK
    have H5 : Hid (World.ownsRow (w2.alloc (.cells #[.int .u8 10] 5)) w0.heap.size 5 1 (.slice az nz cz) (RF).size (Lib.strCells (RF))) := h_ (HOR.out.kept (nfr_grow ((Fr.refl w2).alloc _) none) (by cases Value.ownBlock _ <;> simp))
    have HF5 := h_ (HFR.out.alloc (.cells #[.int .u8 10] 5))
    go_wp2_with (with_reducible refine stop_append_n ?_)
    unfold StopN
    refine wpList_plain rfl fun K hK => ?_
    refine wp_append_where (.tmp 66) (.tmp 67) 54 rfl w0.heap.size 5 i0 (.int .u8 0) 1 1 underlying54 HI.out.1 HI.out.2.1 HI.out.2.2.1 HI.out.2.2.2 rfl (by omega) (.slice az nz cz) (RF).size (Lib.strCells (RF)) (by rfl) H5.out ⟨w2.heap.size,0,none⟩ 1 1 [.int .u8 10] (by rfl) (by rfl) (byte_at w2 10) (by intro u hu; simp at hu; subst hu; rfl) (by omega) (by unfold maxLen; have := HZR.out; omega) (by have := HZR.out; omega) HF5.out.size fun v1 w1 hown hg hwh => hK _ _ ?_
    obtain ⟨u,hu⟩ : ∃ u,u = RF ++ (⟨#[10]⟩ : BA) := ⟨_,rfl⟩
    have HO6 : Hid (World.ownsRow w1 w0.heap.size 5 1 v1 (u).size (Lib.strCells (u))) := h_ (by rw [hu,ByteArray.size_append,strCells_append]; exact hown)
    have HF6 := h_ (own_fr5 HF5.out H5.out hg)
    have hzu : u.size ≤ 100000000 := by rw [hu,ByteArray.size_append]; have := HZR.out; show RF.size + 1 ≤ _; omega
    have hlim := fun W => limited_x u hzu W
    have hrr := HRR.out
    rw [← hu] at hrr
    rw [← hrr] at hlim
    have HLIM := h_ hlim
    obtain ⟨a6,n6,c6,rfl⟩ := own_form5' hown
    have hcv := conv_text HO6.out
    clear hown hg hwh hK hu hzu hlim hrr
    go_wp2_with fail
    refine (HLIM.out _).mono ?_
    rintro e w4 ⟨rfl,hf4⟩
    have HF7 : Hid (Fr w w4) := h_ ((HFB.out.trans HF6.out).trans hf4)
    clear hf4
    go_wp2_with fail
    go_ret2
    exact ⟨rfl,HF7.out⟩
   ·have hnz : ((j : Int) == 0) = false := by rw [beq_eq_false_iff_ne]; omega
    have htr : RF = t := by rw [HRF.out,if_neg (by rw [← HN.out]; exact h0),ht,← HN.out]
    subst htr
    have HOR : Hid (World.ownsRow wr w0.heap.size 5 1 (.slice ay ny cy) (RF).size (Lib.strCells (RF))) := HO
    have HFR := HFX
    have HZR : Hid (RF.size ≤ 99999999) := h_ (by have := HZT.out; omega)
    clear hown hfr hfb ht
    have H5 : Hid (World.ownsRow (wr.alloc (.cells #[.int .u8 10] 5)) w0.heap.size 5 1 (.slice ay ny cy) (RF).size (Lib.strCells (RF))) := h_ (HOR.out.kept (nfr_grow ((Fr.refl wr).alloc _) none) (by cases Value.ownBlock _ <;> simp))
    have HF5 := h_ (HFR.out.alloc (.cells #[.int .u8 10] 5))
    go_wp2_with (with_reducible refine stop_append_n ?_)
    unfold StopN
    refine wpList_plain rfl fun K hK => ?_
    refine wp_append_where (.tmp 66) (.tmp 67) 54 rfl w0.heap.size 5 i0 (.int .u8 0) 1 1 underlying54 HI.out.1 HI.out.2.1 HI.out.2.2.1 HI.out.2.2.2 rfl (by omega) (.slice ay ny cy) (RF).size (Lib.strCells (RF)) (by rfl) H5.out ⟨wr.heap.size,0,none⟩ 1 1 [.int .u8 10] (by rfl) (by rfl) (byte_at wr 10) (by intro u hu; simp at hu; subst hu; rfl) (by omega) (by unfold maxLen; have := HZR.out; omega) (by have := HZR.out; omega) HF5.out.size fun v1 w1 hown hg hwh => hK _ _ ?_
    obtain ⟨u,hu⟩ : ∃ u,u = RF ++ (⟨#[10]⟩ : BA) := ⟨_,rfl⟩
    have HO6 : Hid (World.ownsRow w1 w0.heap.size 5 1 v1 (u).size (Lib.strCells (u))) := h_ (by rw [hu,ByteArray.size_append,strCells_append]; exact hown)
    have HF6 := h_ (own_fr5 HF5.out H5.out hg)
    have hzu : u.size ≤ 100000000 := by rw [hu,ByteArray.size_append]; have := HZR.out; show RF.size + 1 ≤ _; omega
    have hlim := fun W => limited_x u hzu W
    have hrr := HRR.out
    rw [← hu] at hrr
    rw [← hrr] at hlim
    have HLIM := h_ hlim
    obtain ⟨a6,n6,c6,rfl⟩ := own_form5' hown
    have hcv := conv_text HO6.out
    clear hown hg hwh hK hu hzu hlim hrr
    go_wp2_with fail
    refine (HLIM.out _).mono ?_
    rintro e w4 ⟨rfl,hf4⟩
    have HF7 : Hid (Fr w w4) := h_ ((HFB.out.trans HF6.out).trans hf4)
    clear hf4
    go_wp2_with fail
    go_ret2
    exact ⟨rfl,HF7.out⟩
theorem RPrint_named (s : ByteArray) (l : List Nd) (tk : Nd → List ByteArray) (T : Nat → ByteArray) (w : World) (a : Option Addr) (c : Nat) (hlen : l.length ≤ 1000000) (hl : LN w (.slice a l.length c) l) (hs0 : ¬ s = ⟨#[]⟩) (hs1 : s.size ≤ 2000000) 
 (hck : ∀ W,Fr w W → Calls prog 23 #[.agg #[.string s,.slice a l.length c]] W fun e w' => e = .returned (.int .i64 0) ∧ Fr W w')
 (hd : ∀ x ∈ l,Rx 80 mk1 x (tk x) ∧ (tk x).length ≤ 999000 ∧ ∀ y ∈ tk x,0 < y.size ∧ y.size ≤ 1000000) (hFo : ∀ y ∈ [(⟨#[115,101,99,116,105,111,110]⟩ : BA),(quo s).t],0 < y.size ∧ y.size ≤ 1000000)
 (hT0 : T 0 = ⟨#[]⟩) (hT1 : ∀ n,l[0]? = some n → T 1 = lineB ([(⟨#[115,101,99,116,105,111,110]⟩ : BA),(quo s).t] ++ tk n)) (hTs : ∀ j n,0 < j → l[j]? = some n → T (j + 1) = T j ++ (⟨#[10]⟩ : BA) ++ lineB (tk n)) (hz : ∀ j,j ≤ l.length → (T j).size ≤ 90000000) :
 Calls prog 27 #[.agg #[.string s,.slice a l.length c]] w fun e w' => e = .returned (if 40000 < ((if l.length = 0 then lineB [(⟨#[115,101,99,116,105,111,110]⟩ : BA),(quo s).t] else T l.length) ++ (⟨#[10]⟩ : BA)).size then .tuple #[.string ⟨#[]⟩,.int .i64 2] else .tuple #[.string ((if l.length = 0 then lineB [(⟨#[115,101,99,116,105,111,110]⟩ : BA),(quo s).t] else T l.length) ++ (⟨#[10]⟩ : BA)),.int .i64 0]) ∧ Fr w w' := by
 obtain ⟨i0,hi0,hz0,hz1,hz2⟩ := info_parts Tryz.infoU8
 have HI := h_ (And.intro hi0 (And.intro hz0 (And.intro hz1 hz2)))
 obtain ⟨RF,hRF⟩ : ∃ x : ByteArray,x = (if l.length = 0 then lineB [(⟨#[115,101,99,116,105,111,110]⟩ : BA),(quo s).t] else T l.length) := ⟨_,rfl⟩
 obtain ⟨R,hR⟩ : ∃ R : Value,R = (if 40000 < (RF ++ (⟨#[10]⟩ : BA)).size then .tuple #[.string ⟨#[]⟩,.int .i64 2] else .tuple #[.string (RF ++ (⟨#[10]⟩ : BA)),.int .i64 0]) := ⟨_,rfl⟩
 obtain ⟨p,q,hpq⟩ : ∃ p q,R = .tuple #[p,q] := by
  rw [hR]; split
  ·exact ⟨_,_,rfl⟩
  ·exact ⟨_,_,rfl⟩
 rw [← hRF,← hR,hpq]
 have HRR := h_ (hpq.symm.trans hR)
 have HRF := h_ hRF
 have HV := h_ hl
 have HD := h_ hd
 have HCK := h_ hck
 have HT := h_ (And.intro hT0 (And.intro hT1 hTs))
 have HZ := h_ hz
 have HFO := h_ hFo
 obtain ⟨n,hn⟩ : ∃ n,n = l.length := ⟨_,rfl⟩
 have HN := h_ hn
 have hn6 : n ≤ 1000000 := by rw [hn]; exact hlen
 rw [← hn] at HCK HV ⊢
 have HB := h_ (SecB.new w (.string s) (.slice a n c))
 have HF0 : Hid (Fr w (w.alloc (.cells #[.string s,.slice a n c] 24))) := h_ ((Fr.refl w).alloc _)
 clear hi0 hz0 hz1 hz2 hR hpq hRF hl hd hck hT0 hT1 hTs hz hFo hn hlen
 have hse : s.toList.isEmpty = false := by
  have h := s_no hs0
  simpa using h
 go_enter func27,ntmps27
 go_wp2_with fail
 refine (HCK.out _ HF0.out).mono ?_
 rintro e w0 ⟨rfl,hf1⟩
 have HF1 : Hid (Fr w w0) := h_ (HF0.out.trans hf1)
 have HB1 := h_ (HB.out.fr hf1)
 obtain ⟨s0,s1⟩ := HB1.out.cells
 clear hf1
 go_wp2_with fail
 refine (RQuote_any s hs1 _).mono ?_
 rintro e wq ⟨rfl,hfq⟩
 have HFB : Hid (Fr w (wq.alloc (.cells #[.string (⟨#[115,101,99,116,105,111,110]⟩ : BA),.string (quo s).t] 9))) := h_ ((HF1.out.trans hfq).alloc _)
 have HBB := h_ ((HB1.out.fr hfq).fr ((Fr.refl wq).alloc (.cells #[.string (⟨#[115,101,99,116,105,111,110]⟩ : BA),.string (quo s).t] 9)))
 have HFS : Hid (SL (wq.alloc (.cells #[.string (⟨#[115,101,99,116,105,111,110]⟩ : BA),.string (quo s).t] 9)) (.slice (some ⟨wq.heap.size,0,none⟩) 2 2) [(⟨#[115,101,99,116,105,111,110]⟩ : BA),(quo s).t]) := h_ (OS.sl (own_twoS wq (⟨#[115,101,99,116,105,111,110]⟩ : BA) (quo s).t))
 clear hfq s0 s1
 obtain ⟨s0,s1⟩ := HBB.out.cells
 go_wp2_with fail
 go_loopw [8,9] (fun o i wr => ∃ j : Nat,j ≤ n ∧ i = .int .i64 j ∧ World.ownsRow wr (wq.alloc (.cells #[.string (⟨#[115,101,99,116,105,111,110]⟩ : BA),.string (quo s).t] 9)).heap.size 5 1 o (T j).size (Lib.strCells (T j)) ∧ Fr w wr ∧ Fr (wq.alloc (.cells #[.string (⟨#[115,101,99,116,105,111,110]⟩ : BA),.string (quo s).t] 9)) wr) (fun _ i _ => n - (intOf i).toNat)
 case atStart => exact ⟨0,Nat.zero_le _,rfl,by rw [HT.out.1]; exact World.ownsRow_nil _ _ _ _,HFB.out,Fr.refl _⟩
 case round =>
  obtain ⟨j,hj,rfl,hown,hfr,hfb⟩ := hrel
  obtain ⟨t,ht⟩ : ∃ t,t = T j := ⟨_,rfl⟩
  rw [← ht] at hown
  have HTJ := h_ ht
  have HZT : Hid (t.size ≤ 90000000) := h_ (by rw [ht]; exact HZ.out j (by rw [← HN.out]; exact hj))
  have HO := h_ hown
  have HFW := h_ hfr
  have HFX := h_ hfb
  obtain ⟨k0,k1⟩ := (HBB.out.fr hfb).cells
  obtain ⟨ay,ny,cy,rfl⟩ := own_form5' hown
  by_cases hlt : j < n
  ·obtain ⟨x,hx⟩ : ∃ x,l[j]? = some x := ⟨_,List.getElem?_eq_getElem (by rw [← HN.out]; exact hlt)⟩
   have hmem := List.mem_of_getElem? hx
   obtain ⟨b,off,lv,rfl,hc5,hln,_⟩ := HV.out.at_ hx
   obtain ⟨y0,y1,y2,y3,y4⟩ := hc5.fr hfr
   obtain ⟨la,lc,rfl,_,_,_⟩ := hln.form
   have HL := h_ hln
   have HC5 := h_ hc5
   have HX := h_ (HD.out x hmem).2
   have HC : Hid (∀ W,Fr w W → Calls prog 80 #[.agg #[.int .i64 x.op,.int .i64 x.n,.string x.s,.slice la x.l.length lc,.int .i64 x.a]] W fun e w' => ∃ v,e = .returned v ∧ OS w' W.heap.size v (tk x) ∧ Fr W w') := h_ (fun W h => (HD.out x hmem).1 W _ (HL.out.fr h))
   by_cases h0 : j = 0
   ·have hst : T 1 = lineB ([(⟨#[115,101,99,116,105,111,110]⟩ : BA),(quo s).t] ++ tk x) := HT.out.2.1 x (by subst h0; exact hx)
    have HLS : Hid ((lineB ([(⟨#[115,101,99,116,105,111,110]⟩ : BA),(quo s).t] ++ tk x)).size ≤ 90000000) := h_ (by rw [← hst]; exact HZ.out 1 (by rw [← HN.out]; omega))
    have HST : Hid (T 1 = t ++ lineB ([(⟨#[115,101,99,116,105,111,110]⟩ : BA),(quo s).t] ++ tk x)) := h_ (by rw [hst,HTJ.out,h0,HT.out.1]; apply ByteArray.ext; simp)
    have HTK : Hid (([(⟨#[115,101,99,116,105,111,110]⟩ : BA),(quo s).t] ++ tk x).length ≤ 1000000 ∧ ∀ y ∈ ([(⟨#[115,101,99,116,105,111,110]⟩ : BA),(quo s).t] ++ tk x),0 < y.size ∧ y.size ≤ 1000000) := h_ ⟨by have := HX.out.1; simp; omega,fun y hy => by
     rcases List.mem_append.1 hy with h | h
     ·exact HFO.out y h
     ·exact HX.out.2 y h⟩
    subst h0
    simp only [Nat.zero_mul,Nat.add_zero] at y0 y1 y2 y3 y4
    clear hst ht hown hfr hfb hmem hx hc5 hln
    go_wp2_with fail
    refine (HC.out _ HFW.out).mono ?_
    rintro e w1 ⟨r1,rfl,ho1,hf1⟩
    have HS1 := h_ (OS.sl ho1)
    obtain ⟨g1,m1,k_1,rfl⟩ := own_form5' ho1
    have HFX1 := h_ (HFX.out.trans hf1)
    have HFW1 := h_ (HFW.out.trans hf1)
    have HGR1 := h_ hf1
    have HS0 := h_ (HFS.out.fr HFX1.out)
    clear ho1 hf1
    go_wp2_with fail
    refine (words_2 (.slice (some ⟨wq.heap.size,0,none⟩) 2 2) (.slice g1 m1 k_1) [(⟨#[115,101,99,116,105,111,110]⟩ : BA),(quo s).t] (tk x) _ _ rfl HS0.out HS1.out ?_).mono ?_
    ·have := HTK.out.1; simp at this ⊢; omega
    rintro e w2 ⟨r2,rfl,ho2,hf2⟩
    rw [show ([[(⟨#[115,101,99,116,105,111,110]⟩ : BA),(quo s).t],tk x] : List (List ByteArray)).flatten = [(⟨#[115,101,99,116,105,111,110]⟩ : BA),(quo s).t] ++ tk x from by simp] at ho2
    have HS2 := h_ (OS.sl ho2)
    have HFX2 := h_ (HFX1.out.trans hf2)
    have HFW2 := h_ (HFW1.out.trans hf2)
    have HGR2 := h_ (HGR1.out.trans hf2)
    clear ho2 hf2
    go_wp2_with fail
    refine (line_x r2 ([(⟨#[115,101,99,116,105,111,110]⟩ : BA),(quo s).t] ++ tk x) _ HS2.out HTK.out.1 HTK.out.2 (by have := HLS.out; omega)).mono ?_
    rintro e w3 ⟨rfl,hf3⟩
    have HFX3 := h_ (HFX2.out.trans hf3)
    have HFW3 := h_ (HFW2.out.trans hf3)
    have HO3 : Hid (World.ownsRow w3 (wq.alloc (.cells #[.string (⟨#[115,101,99,116,105,111,110]⟩ : BA),.string (quo s).t] 9)).heap.size 5 1 (.slice ay ny cy) (t).size (Lib.strCells (t))) := h_ (HO.out.kept (nfr_grow (HGR2.out.trans hf3) none) (by cases Value.ownBlock _ <;> simp))
    have HBD : Hid (t.size + (lineB ([(⟨#[115,101,99,116,105,111,110]⟩ : BA),(quo s).t] ++ tk x)).size ≤ 200000000) := h_ (by have := HLS.out; have := HZT.out; omega)
    clear hf3
    go_wp2_with (with_reducible refine stop_append_n ?_)
    unfold StopN
    refine wpList_plain rfl fun K hK => ?_
    refine wp_append_text (.tmp 35) (.tmp 44) 54 9 rfl (wq.alloc (.cells #[.string (⟨#[115,101,99,116,105,111,110]⟩ : BA),.string (quo s).t] 9)).heap.size 5 i0 underlying54 underlying9 HI.out.1 HI.out.2.1 HI.out.2.2.1 HI.out.2.2.2 (.slice ay ny cy) (t).size (Lib.strCells (t)) (by rfl) HO3.out (lineB ([(⟨#[115,101,99,116,105,111,110]⟩ : BA),(quo s).t] ++ tk x)) (by rfl) (by have := HBD.out; unfold maxLen; omega) (by have := HBD.out; omega) HFX3.out.size fun v2 w2 hown hg => hK _ _ ?_
    have HO4 : Hid (World.ownsRow w2 (wq.alloc (.cells #[.string (⟨#[115,101,99,116,105,111,110]⟩ : BA),.string (quo s).t] 9)).heap.size 5 1 v2 (T 1).size (Lib.strCells (T 1))) := h_ (by rw [HST.out,ByteArray.size_append,strCells_append]; exact hown)
    have HB4 := h_ (own_fr5 HFX3.out HO3.out hg)
    have HF4 := h_ (HFB.out.trans HB4.out)
    clear hown hg hK
    go_wp2_with fail
    go_roundw
    case rel => exact ⟨1,by omega,by go_num,HO4.out,HF4.out,HB4.out⟩
    case measure => simp [intOf]; omega
   ·have hst : T (j + 1) = (t ++ (⟨#[10]⟩ : BA)) ++ lineB (tk x) := by rw [HT.out.2.2 j x (by omega) hx,← ht]
    have HST := h_ hst
    have HLS : Hid ((lineB (tk x)).size ≤ 90000000) := h_ (by have h := HZ.out (j + 1) (by rw [← HN.out]; omega); rw [hst,ByteArray.size_append] at h; omega)
    have z0 : ((j : Int) == 0) = false := by rw [beq_eq_false_iff_ne]; omega
    have H1 : Hid (World.ownsRow (wr.alloc (.cells #[.int .u8 10] 5)) (wq.alloc (.cells #[.string (⟨#[115,101,99,116,105,111,110]⟩ : BA),.string (quo s).t] 9)).heap.size 5 1 (.slice ay ny cy) (t).size (Lib.strCells (t))) := h_ (hown.kept (nfr_grow ((Fr.refl wr).alloc _) none) (by cases Value.ownBlock _ <;> simp))
    have HF1b := h_ (hfb.alloc (.cells #[.int .u8 10] 5))
    clear hst ht hown hfr hfb hmem hx hc5 hln
    go_wp2_with (with_reducible refine stop_append_n ?_)
    unfold StopN
    refine wpList_plain rfl fun K hK => ?_
    refine wp_append_where (.tmp 46) (.tmp 47) 54 rfl (wq.alloc (.cells #[.string (⟨#[115,101,99,116,105,111,110]⟩ : BA),.string (quo s).t] 9)).heap.size 5 i0 (.int .u8 0) 1 1 underlying54 HI.out.1 HI.out.2.1 HI.out.2.2.1 HI.out.2.2.2 rfl (by omega) (.slice ay ny cy) (t).size (Lib.strCells (t)) (by rfl) H1.out ⟨wr.heap.size,0,none⟩ 1 1 [.int .u8 10] (by rfl) (by rfl) (byte_at wr 10) (by intro u hu; simp at hu; subst hu; rfl) (by omega) (by unfold maxLen; have := HZT.out; omega) (by have := HZT.out; omega) HF1b.out.size fun v1 w1 hown hg hwh => hK _ _ ?_
    obtain ⟨u,hu⟩ : ∃ u,u = t ++ (⟨#[10]⟩ : BA) := ⟨_,rfl⟩
    have HO1 : Hid (World.ownsRow w1 (wq.alloc (.cells #[.string (⟨#[115,101,99,116,105,111,110]⟩ : BA),.string (quo s).t] 9)).heap.size 5 1 v1 (u).size (Lib.strCells (u))) := h_ (by rw [hu,ByteArray.size_append,strCells_append]; exact hown)
    have HFX1 := h_ (own_fr5 HF1b.out H1.out hg)
    have HFW1 := h_ (HFB.out.trans HFX1.out)
    have HU := h_ hu
    have HZU : Hid (u.size ≤ 90000001) := h_ (by rw [hu,ByteArray.size_append]; have := HZT.out; show t.size + 1 ≤ _; omega)
    obtain ⟨az,nz,cz,rfl⟩ := own_form5' hown
    clear hown hg hwh hK hu y0 y1 y2 y3 y4 k0 k1
    obtain ⟨k0,k1⟩ := (HBB.out.fr HFX1.out).cells
    obtain ⟨y0,y1,y2,y3,y4⟩ := HC5.out.fr HFW1.out
    go_wp2_with fail
    refine (HC.out _ HFW1.out).mono ?_
    rintro e w2 ⟨r1,rfl,ho2,hf2⟩
    have HS2 := h_ (OS.sl ho2)
    have HGR := h_ hf2
    have HFX2 := h_ (HFX1.out.trans hf2)
    clear ho2 hf2
    go_wp2_with fail
    refine (line_x r1 (tk x) _ HS2.out (by have := HX.out.1; omega) HX.out.2 (by have := HLS.out; omega)).mono ?_
    rintro e w3 ⟨rfl,hf3⟩
    have HFX3 := h_ (HFX2.out.trans hf3)
    have HO3 : Hid (World.ownsRow w3 (wq.alloc (.cells #[.string (⟨#[115,101,99,116,105,111,110]⟩ : BA),.string (quo s).t] 9)).heap.size 5 1 (.slice az nz cz) (u).size (Lib.strCells (u))) := h_ (HO1.out.kept (nfr_grow (HGR.out.trans hf3) none) (by cases Value.ownBlock _ <;> simp))
    have HBD : Hid (u.size + (lineB (tk x)).size ≤ 200000000) := h_ (by have := HLS.out; have := HZU.out; omega)
    clear hf3
    go_wp2_with (with_reducible refine stop_append_n ?_)
    unfold StopN
    refine wpList_plain rfl fun K hK => ?_
    refine wp_append_text (.tmp 49) (.tmp 56) 54 9 rfl (wq.alloc (.cells #[.string (⟨#[115,101,99,116,105,111,110]⟩ : BA),.string (quo s).t] 9)).heap.size 5 i0 underlying54 underlying9 HI.out.1 HI.out.2.1 HI.out.2.2.1 HI.out.2.2.2 (.slice az nz cz) (u).size (Lib.strCells (u)) (by rfl) HO3.out (lineB (tk x)) (by rfl) (by have := HBD.out; unfold maxLen; omega) (by have := HBD.out; omega) HFX3.out.size fun v2 w2 hown hg => hK _ _ ?_
    have HO4 : Hid (World.ownsRow w2 (wq.alloc (.cells #[.string (⟨#[115,101,99,116,105,111,110]⟩ : BA),.string (quo s).t] 9)).heap.size 5 1 v2 (T (j + 1)).size (Lib.strCells (T (j + 1)))) := h_ (by rw [HST.out,← HU.out,ByteArray.size_append,strCells_append]; exact hown)
    have HB4 := h_ (own_fr5 HFX3.out HO3.out hg)
    have HF4 := h_ (HFB.out.trans HB4.out)
    clear hown hg hK
    go_wp2_with fail
    go_roundw
    case rel => exact ⟨j + 1,by omega,by go_num,HO4.out,HF4.out,HB4.out⟩
    case measure => simp [intOf]; omega
  ·obtain rfl : j = n := by omega
   by_cases h0 : j = 0
   ·have HF0x : Hid (RF = t ++ lineB [(⟨#[115,101,99,116,105,111,110]⟩ : BA),(quo s).t]) := h_ (by rw [HRF.out,if_pos (by rw [← HN.out]; exact h0),ht,h0,HT.out.1]; apply ByteArray.ext; simp)
    have HLS : Hid ((lineB [(⟨#[115,101,99,116,105,111,110]⟩ : BA),(quo s).t]).size ≤ 3000000) := h_ (by have h1 := (HFO.out _ (List.mem_cons_self)).2; have h2 := (HFO.out (quo s).t (by simp)).2; simp only [lineB,List.foldl_cons,List.foldl_nil,ByteArray.size_append]; show _ + 1 + _ ≤ _; omega)
    subst h0
    clear hown hfr hfb
    have HSF := h_ (HFS.out.fr HFX.out)
    go_wp2_with fail
    refine (line_x (.slice (some ⟨wq.heap.size,0,none⟩) 2 2) [(⟨#[115,101,99,116,105,111,110]⟩ : BA),(quo s).t] _ HSF.out (by simp) HFO.out (by have := HLS.out; omega)).mono ?_
    rintro e w3 ⟨rfl,hf3⟩
    have HFX3 := h_ (HFX.out.trans hf3)
    have HO3 : Hid (World.ownsRow w3 (wq.alloc (.cells #[.string (⟨#[115,101,99,116,105,111,110]⟩ : BA),.string (quo s).t] 9)).heap.size 5 1 (.slice ay ny cy) (t).size (Lib.strCells (t))) := h_ (HO.out.kept (nfr_grow hf3 none) (by cases Value.ownBlock _ <;> simp))
    have HBD : Hid (t.size + (lineB [(⟨#[115,101,99,116,105,111,110]⟩ : BA),(quo s).t]).size ≤ 200000000) := h_ (by have := HLS.out; have := HZT.out; omega)
    clear hf3 ht
    go_wp2_with (with_reducible refine stop_append_n ?_)
    unfold StopN
    refine wpList_plain rfl fun K hK => ?_
    refine wp_append_text (.tmp 62) (.tmp 64) 54 9 rfl (wq.alloc (.cells #[.string (⟨#[115,101,99,116,105,111,110]⟩ : BA),.string (quo s).t] 9)).heap.size 5 i0 underlying54 underlying9 HI.out.1 HI.out.2.1 HI.out.2.2.1 HI.out.2.2.2 (.slice ay ny cy) (t).size (Lib.strCells (t)) (by rfl) HO3.out (lineB [(⟨#[115,101,99,116,105,111,110]⟩ : BA),(quo s).t]) (by rfl) (by have := HBD.out; unfold maxLen; omega) (by have := HBD.out; omega) HFX3.out.size fun v2 w2 hown hg => hK _ _ ?_
    have HOR : Hid (World.ownsRow w2 (wq.alloc (.cells #[.string (⟨#[115,101,99,116,105,111,110]⟩ : BA),.string (quo s).t] 9)).heap.size 5 1 v2 (RF).size (Lib.strCells (RF))) := h_ (by rw [HF0x.out,ByteArray.size_append,strCells_append]; exact hown)
    have HFR := h_ (own_fr5 HFX3.out HO3.out hg)
    have HZR : Hid (RF.size ≤ 99999999) := h_ (by rw [HF0x.out,ByteArray.size_append]; have := HLS.out; have := HZT.out; omega)
    obtain ⟨az,nz,cz,rfl⟩ := own_form5' hown
    clear hown hg hK
    have H5 : Hid (World.ownsRow (w2.alloc (.cells #[.int .u8 10] 5)) (wq.alloc (.cells #[.string (⟨#[115,101,99,116,105,111,110]⟩ : BA),.string (quo s).t] 9)).heap.size 5 1 (.slice az nz cz) (RF).size (Lib.strCells (RF))) := h_ (HOR.out.kept (nfr_grow ((Fr.refl w2).alloc _) none) (by cases Value.ownBlock _ <;> simp))
    have HF5 := h_ (HFR.out.alloc (.cells #[.int .u8 10] 5))
    go_wp2_with (with_reducible refine stop_append_n ?_)
    unfold StopN
    refine wpList_plain rfl fun K hK => ?_
    refine wp_append_where (.tmp 66) (.tmp 67) 54 rfl (wq.alloc (.cells #[.string (⟨#[115,101,99,116,105,111,110]⟩ : BA),.string (quo s).t] 9)).heap.size 5 i0 (.int .u8 0) 1 1 underlying54 HI.out.1 HI.out.2.1 HI.out.2.2.1 HI.out.2.2.2 rfl (by omega) (.slice az nz cz) (RF).size (Lib.strCells (RF)) (by rfl) H5.out ⟨w2.heap.size,0,none⟩ 1 1 [.int .u8 10] (by rfl) (by rfl) (byte_at w2 10) (by intro u hu; simp at hu; subst hu; rfl) (by omega) (by unfold maxLen; have := HZR.out; omega) (by have := HZR.out; omega) HF5.out.size fun v1 w1 hown hg hwh => hK _ _ ?_
    obtain ⟨u,hu⟩ : ∃ u,u = RF ++ (⟨#[10]⟩ : BA) := ⟨_,rfl⟩
    have HO6 : Hid (World.ownsRow w1 (wq.alloc (.cells #[.string (⟨#[115,101,99,116,105,111,110]⟩ : BA),.string (quo s).t] 9)).heap.size 5 1 v1 (u).size (Lib.strCells (u))) := h_ (by rw [hu,ByteArray.size_append,strCells_append]; exact hown)
    have HF6 := h_ (own_fr5 HF5.out H5.out hg)
    have hzu : u.size ≤ 100000000 := by rw [hu,ByteArray.size_append]; have := HZR.out; show RF.size + 1 ≤ _; omega
    have hlim := fun W => limited_x u hzu W
    have hrr := HRR.out
    rw [← hu] at hrr
    rw [← hrr] at hlim
    have HLIM := h_ hlim
    obtain ⟨a6,n6,c6,rfl⟩ := own_form5' hown
    have hcv := conv_text HO6.out
    clear hown hg hwh hK hu hzu hlim hrr
    go_wp2_with fail
    refine (HLIM.out _).mono ?_
    rintro e w4 ⟨rfl,hf4⟩
    have HF7 : Hid (Fr w w4) := h_ ((HFB.out.trans HF6.out).trans hf4)
    clear hf4
    go_wp2_with fail
    go_ret2
    exact ⟨rfl,HF7.out⟩
   ·have hnz : ((j : Int) == 0) = false := by rw [beq_eq_false_iff_ne]; omega
    have htr : RF = t := by rw [HRF.out,if_neg (by rw [← HN.out]; exact h0),ht,← HN.out]
    subst htr
    have HOR : Hid (World.ownsRow wr (wq.alloc (.cells #[.string (⟨#[115,101,99,116,105,111,110]⟩ : BA),.string (quo s).t] 9)).heap.size 5 1 (.slice ay ny cy) (RF).size (Lib.strCells (RF))) := HO
    have HFR := HFX
    have HZR : Hid (RF.size ≤ 99999999) := h_ (by have := HZT.out; omega)
    clear hown hfr hfb ht
    have H5 : Hid (World.ownsRow (wr.alloc (.cells #[.int .u8 10] 5)) (wq.alloc (.cells #[.string (⟨#[115,101,99,116,105,111,110]⟩ : BA),.string (quo s).t] 9)).heap.size 5 1 (.slice ay ny cy) (RF).size (Lib.strCells (RF))) := h_ (HOR.out.kept (nfr_grow ((Fr.refl wr).alloc _) none) (by cases Value.ownBlock _ <;> simp))
    have HF5 := h_ (HFR.out.alloc (.cells #[.int .u8 10] 5))
    go_wp2_with (with_reducible refine stop_append_n ?_)
    unfold StopN
    refine wpList_plain rfl fun K hK => ?_
    refine wp_append_where (.tmp 66) (.tmp 67) 54 rfl (wq.alloc (.cells #[.string (⟨#[115,101,99,116,105,111,110]⟩ : BA),.string (quo s).t] 9)).heap.size 5 i0 (.int .u8 0) 1 1 underlying54 HI.out.1 HI.out.2.1 HI.out.2.2.1 HI.out.2.2.2 rfl (by omega) (.slice ay ny cy) (RF).size (Lib.strCells (RF)) (by rfl) H5.out ⟨wr.heap.size,0,none⟩ 1 1 [.int .u8 10] (by rfl) (by rfl) (byte_at wr 10) (by intro u hu; simp at hu; subst hu; rfl) (by omega) (by unfold maxLen; have := HZR.out; omega) (by have := HZR.out; omega) HF5.out.size fun v1 w1 hown hg hwh => hK _ _ ?_
    obtain ⟨u,hu⟩ : ∃ u,u = RF ++ (⟨#[10]⟩ : BA) := ⟨_,rfl⟩
    have HO6 : Hid (World.ownsRow w1 (wq.alloc (.cells #[.string (⟨#[115,101,99,116,105,111,110]⟩ : BA),.string (quo s).t] 9)).heap.size 5 1 v1 (u).size (Lib.strCells (u))) := h_ (by rw [hu,ByteArray.size_append,strCells_append]; exact hown)
    have HF6 := h_ (own_fr5 HF5.out H5.out hg)
    have hzu : u.size ≤ 100000000 := by rw [hu,ByteArray.size_append]; have := HZR.out; show RF.size + 1 ≤ _; omega
    have hlim := fun W => limited_x u hzu W
    have hrr := HRR.out
    rw [← hu] at hrr
    rw [← hrr] at hlim
    have HLIM := h_ hlim
    obtain ⟨a6,n6,c6,rfl⟩ := own_form5' hown
    have hcv := conv_text HO6.out
    clear hown hg hwh hK hu hzu hlim hrr
    go_wp2_with fail
    refine (HLIM.out _).mono ?_
    rintro e w4 ⟨rfl,hf4⟩
    have HF7 : Hid (Fr w w4) := h_ ((HFB.out.trans HF6.out).trans hf4)
    clear hf4
    go_wp2_with fail
    go_ret2
    exact ⟨rfl,HF7.out⟩
end Go.Proofs.YtbaelbafhdjlnaaGreatDoor
