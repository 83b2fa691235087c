/- A part of the proof that the law ParsePrints holds for every input. -/
import Derived.Test.YtbaelbafhdjlnaaGreatDoorY1
namespace Go.Proofs.YtbaelbafhdjlnaaGreatDoor
open Go.RowKit _root_.Go.Proofs.Tryz
set_option linter.unusedVariables false
set_option linter.unusedSimpArgs false
set_option maxRecDepth 100000
set_option maxHeartbeats 8000000
inductive GdK : Int → ByteArray → Prop
 | gif : GdK 32 (⟨#[105,102]⟩ : BA)
 | gunless : GdK 33 (⟨#[117,110,108,101,115,115]⟩ : BA)
 | gwhile : GdK 35 (⟨#[119,104,105,108,101]⟩ : BA)
 | guntil : GdK 36 (⟨#[117,110,116,105,108]⟩ : BA)
inductive RpK : Int → ByteArray → Prop
 | rwhile : RpK 38 (⟨#[114,101,112,101,97,116,119,104,105,108,101]⟩ : BA)
 | runtil : RpK 39 (⟨#[114,101,112,101,97,116,117,110,116,105,108]⟩ : BA)
theorem r_guard (n c0 c1 : Nd) (A1 A3 : List ByteArray) {o : Int} {T : ByteArray} (hK : GdK o T) (hop : n.op = o) (hnl : n.l = [c0,c1]) (h1 : Rx 83 mk1 c0 A1) (h3 : Rx 86 mk1 c1 A3) (hsz : (([[T],A1,[(⟨#[100,111]⟩ : BA)],A3] : List (List ByteArray)).flatten).length ≤ 1000000) : Rx 86 mk1 n (([[T],A1,[(⟨#[100,111]⟩ : BA)],A3] : List (List ByteArray)).flatten) := by
 intro w lv hl
 show Calls prog 86 #[ndV n lv] w _
 obtain ⟨b,off,lc,a0,k0,a1,k1,rfl,HNC0,hl0,HNC1,hl1,hlc,hlm⟩ := kid2 hl hnl
 rw [ndV_eq,hop]
 have C1 := h_ (fun W (h : Fr w W) => h1 W _ (hl0.fr h))
 rw [ndV_eq] at C1
 unfold mk1 at C1
 have C3 := h_ (fun W (h : Fr w W) => h3 W _ (hl1.fr h))
 rw [ndV_eq] at C3
 unfold mk1 at C3
 have HSZ := h_ hsz
 obtain ⟨w1,hw1⟩ : ∃ w1,w1 = w.alloc (.cells #[.int .i64 o,.int .i64 n.n,.string n.s,.slice (some ⟨b,off,none⟩) 2 lc,.int .i64 n.a] 32) := ⟨_,rfl⟩
 have HF1 : Hid (Fr w w1) := h_ (by rw [hw1]; exact (Fr.refl w).alloc _)
 have HNB : Hid (Nb w1 w.heap.size (.int .i64 o) (.int .i64 n.n) (.string n.s) (.slice (some ⟨b,off,none⟩) 2 lc) (.int .i64 n.a)) := h_ (by rw [hw1]; exact Nb.new w _ _ _ _ _)
 have HW1 := h_ hw1
 have HK : Hid (∀ W',Fr w1 W' → W'.cell? ⟨w.heap.size,1,none⟩ = some (.int .i64 n.n) ∧ W'.cell? ⟨w.heap.size,2,none⟩ = some (.string n.s) ∧ W'.cell? ⟨w.heap.size,3,none⟩ = some (.slice (some ⟨b,off,none⟩) 2 lc) ∧ cQ W' b off (off + 1) (off + 2) (off + 3) (off + 4) c0 a0 k0 (dQ W' b (off + 5) (off + 6) (off + 7) (off + 8) (off + 9) c1 a1 k1)) := h_ (fun W' h => by
  obtain ⟨q0,q1,q2,q3,q4⟩ := (HNB.out.fr h).cells
  obtain ⟨y00,y01,y02,y03,y04⟩ := HNC0.out.fr (HF1.out.trans h)
  obtain ⟨y10,y11,y12,y13,y14⟩ := HNC1.out.fr (HF1.out.trans h)
  exact ⟨q1,q2,q3,y00,y01,y02,y03,y04,y10,y11,y12,y13,y14⟩)
 have CT := h_ (fun W => one_x T W)
 have hq0 : Fr w1 w1.drew := (Fr.refl _).drew
 have hq1 : Fr w1 w1 := Fr.refl _
 clear hl hop hnl hsz hw1 hl0 hl1 h1 h3 hlm
 have z0 := HNB.out.cells.1
 obtain ⟨z1,z2,z3,x0,x1,x2,x3,x4,x5,x6,x7,x8,x9⟩ := HK.out w1 (Fr.refl _)
 rw [HW1.out] at z0
 clear z1 z2 z3 x0 x1 x2 x3 x4 x5 x6 x7 x8 x9
 cases hK
 all_goals
  go_enter func86,ntmps86
  go_wp2_with fail
  rw [← HW1.out]
  clear z0
  go_region_held3 (fun W' => W'.cell? ⟨w.heap.size,1,none⟩ = some (.int .i64 n.n) ∧ W'.cell? ⟨w.heap.size,2,none⟩ = some (.string n.s) ∧ W'.cell? ⟨w.heap.size,3,none⟩ = some (.slice (some ⟨b,off,none⟩) 2 lc) ∧ cQ W' b off (off + 1) (off + 2) (off + 3) (off + 4) c0 a0 k0 (dQ W' b (off + 5) (off + 6) (off + 7) (off + 8) (off + 9) c1 a1 k1))
   (first | exact HK.out _ (by assumption) | exact HK.out _ (Fr.alloc (by assumption) _))
   ((first
   | (go_at_call 154; with_reducible refine (CT.out _).mono ?_; rintro e wx ⟨r0,rfl,ho0,hfx⟩; have hs0 := OS.sl ho0; obtain ⟨g0,m0,k_0,rfl⟩ := own_form5' ho0; have hqx := Fr.trans (by assumption : Fr w1 _) hfx)
   | (go_at_call 83; with_reducible refine (C1.out _ ?_).mono ?_; exact HF1.out.trans (by assumption); rintro e wx ⟨r1,rfl,ho1,hfx⟩; have hs1 := OS.sl ho1; obtain ⟨g1,m1,k_1,rfl⟩ := own_form5' ho1; have hqx := Fr.trans (by assumption : Fr w1 _) hfx; have hs0 := hs0.fr hfx)
   | (go_at_call 154; with_reducible refine (one_x (⟨#[100,111]⟩ : BA) _).mono ?_; rintro e wx ⟨r2,rfl,ho2,hfx⟩; have hs2 := OS.sl ho2; obtain ⟨g2,m2,k_2,rfl⟩ := own_form5' ho2; have hqx := Fr.trans (by assumption : Fr w1 _) hfx; have hs0 := hs0.fr hfx; have hs1 := hs1.fr hfx)
   | (go_at_call 86; with_reducible refine (C3.out _ ?_).mono ?_; exact HF1.out.trans (by assumption); rintro e wx ⟨r3,rfl,ho3,hfx⟩; have hs3 := OS.sl ho3; obtain ⟨g3,m3,k_3,rfl⟩ := own_form5' ho3; have hqx := Fr.trans (by assumption : Fr w1 _) hfx; have hs0 := hs0.fr hfx; have hs1 := hs1.fr hfx; have hs2 := hs2.fr hfx)
   | (go_at_call 79; refine (words_4 (.slice g0 m0 k_0) (.slice g1 m1 k_1) (.slice g2 m2 k_2) (.slice g3 m3 k_3) _ A1 [(⟨#[100,111]⟩ : BA)] A3 _ _ rfl hs0 hs1 hs2 hs3 ?_).mono ?_; (have hz := HSZ.out; exact hz); rintro e wx ⟨r4,rfl,ho4,hfx⟩; have hqx := Fr.trans (by assumption : Fr w1 _) hfx)))
  have hfin : Fr w wx := HF1.out.trans hqx
  have hlo := ho4.low (B' := w.heap.size) (Nat.le_trans HF1.out.size (by first | exact Fr.size (by assumption) | exact Below.size (by assumption)))
  go_wp2_with fail
  go_ret
  exact ⟨_,rfl,hlo,hfin⟩
theorem r_test (n c0 c1 c2 : Nd) (A1 A3 A5 : List ByteArray) (hop : n.op = 34) (hnl : n.l = [c0,c1,c2]) (h1 : Rx 83 mk1 c0 A1) (h3 : Rx 86 mk1 c1 A3) (h5 : Rx 86 mk1 c2 A5) (hsz : (([[(⟨#[116,101,115,116]⟩ : BA)],A1,[(⟨#[116,104,101,110]⟩ : BA)],A3,[(⟨#[101,108,115,101]⟩ : BA)],A5] : List (List ByteArray)).flatten).length ≤ 1000000) : Rx 86 mk1 n (([[(⟨#[116,101,115,116]⟩ : BA)],A1,[(⟨#[116,104,101,110]⟩ : BA)],A3,[(⟨#[101,108,115,101]⟩ : BA)],A5] : List (List ByteArray)).flatten) := by
 intro w lv hl
 show Calls prog 86 #[ndV n lv] w _
 obtain ⟨b,off,lc,a0,k0,a1,k1,a2,k2,rfl,HNC0,hl0,HNC1,hl1,HNC2,hl2,hlc,hlm⟩ := kid3 hl hnl
 rw [ndV_eq,hop]
 have C1 := h_ (fun W (h : Fr w W) => h1 W _ (hl0.fr h))
 rw [ndV_eq] at C1
 unfold mk1 at C1
 have C3 := h_ (fun W (h : Fr w W) => h3 W _ (hl1.fr h))
 rw [ndV_eq] at C3
 unfold mk1 at C3
 have C5 := h_ (fun W (h : Fr w W) => h5 W _ (hl2.fr h))
 rw [ndV_eq] at C5
 unfold mk1 at C5
 have HSZ := h_ hsz
 obtain ⟨w1,HW1,HF1,HNB⟩ := al1 w (.int .i64 34) (.int .i64 n.n) (.string n.s) (.slice (some ⟨b,off,none⟩) 3 lc) (.int .i64 n.a)
 have HK := h_ (fun W' (h : Fr w1 W') => hk3 HNB.out HF1.out HNC0.out HNC1.out HNC2.out h)
 have hq0 : Fr w1 w1.drew := (Fr.refl _).drew
 have hq1 : Fr w1 w1 := Fr.refl _
 clear hl hop hnl hsz hl0 hl1 hl2 h1 h3 h5 hlm
 obtain ⟨z0,z1,z2,z3,x0,x1,x2,x3,x4,x5,x6,x7,x8,x9,x10,x11,x12,x13,x14⟩ := HK.out w1 (Fr.refl _)
 rw [HW1.out] at z0
 clear z1 z2 z3 x0 x1 x2 x3 x4 x5 x6 x7 x8 x9 x10 x11 x12 x13 x14
 go_enter func86,ntmps86
 go_wp2_with fail
 rw [← HW1.out]
 clear z0
 go_region_held3 (fun W' => nQ w W' (.int .i64 34) (.int .i64 n.n) (.string n.s) (.slice (some ⟨b,off,none⟩) 3 lc) (cQ W' b off (off + 1) (off + 2) (off + 3) (off + 4) c0 a0 k0 (cQ W' b (off + 5) (off + 6) (off + 7) (off + 8) (off + 9) c1 a1 k1 (dQ W' b (off + 10) (off + 11) (off + 12) (off + 13) (off + 14) c2 a2 k2))))
  (first | exact HK.out _ (by assumption) | exact HK.out _ (Fr.alloc (by assumption) _))
  ((first
  | (go_at_call 154; with_reducible refine (one_x (⟨#[116,101,115,116]⟩ : BA) _).mono ?_; rintro e wx ⟨r0,rfl,ho0,hfx⟩; have hs0 := OS.sl ho0; obtain ⟨g0,m0,k_0,rfl⟩ := own_form5' ho0; have hqx := Fr.trans (by assumption : Fr w1 _) hfx)
  | (go_at_call 83; with_reducible refine (C1.out _ ?_).mono ?_; exact HF1.out.trans (by assumption); rintro e wx ⟨r1,rfl,ho1,hfx⟩; have hs1 := OS.sl ho1; obtain ⟨g1,m1,k_1,rfl⟩ := own_form5' ho1; have hqx := Fr.trans (by assumption : Fr w1 _) hfx; have hs0 := hs0.fr hfx)
  | (go_at_call 154; with_reducible refine (one_x (⟨#[116,104,101,110]⟩ : BA) _).mono ?_; rintro e wx ⟨r2,rfl,ho2,hfx⟩; have hs2 := OS.sl ho2; obtain ⟨g2,m2,k_2,rfl⟩ := own_form5' ho2; have hqx := Fr.trans (by assumption : Fr w1 _) hfx; have hs0 := hs0.fr hfx; have hs1 := hs1.fr hfx)
  | (go_at_call 86; with_reducible refine (C3.out _ ?_).mono ?_; exact HF1.out.trans (by assumption); rintro e wx ⟨r3,rfl,ho3,hfx⟩; have hs3 := OS.sl ho3; obtain ⟨g3,m3,k_3,rfl⟩ := own_form5' ho3; have hqx := Fr.trans (by assumption : Fr w1 _) hfx; have hs0 := hs0.fr hfx; have hs1 := hs1.fr hfx; have hs2 := hs2.fr hfx)
  | (go_at_call 154; with_reducible refine (one_x (⟨#[101,108,115,101]⟩ : BA) _).mono ?_; rintro e wx ⟨r4,rfl,ho4,hfx⟩; have hs4 := OS.sl ho4; obtain ⟨g4,m4,k_4,rfl⟩ := own_form5' ho4; have hqx := Fr.trans (by assumption : Fr w1 _) hfx; have hs0 := hs0.fr hfx; have hs1 := hs1.fr hfx; have hs2 := hs2.fr hfx; have hs3 := hs3.fr hfx)
  | (go_at_call 86; with_reducible refine (C5.out _ ?_).mono ?_; exact HF1.out.trans (by assumption); rintro e wx ⟨r5,rfl,ho5,hfx⟩; have hs5 := OS.sl ho5; obtain ⟨g5,m5,k_5,rfl⟩ := own_form5' ho5; have hqx := Fr.trans (by assumption : Fr w1 _) hfx; have hs0 := hs0.fr hfx; have hs1 := hs1.fr hfx; have hs2 := hs2.fr hfx; have hs3 := hs3.fr hfx; have hs4 := hs4.fr hfx)
  | (go_at_call 79; refine (words_6 (.slice g0 m0 k_0) (.slice g1 m1 k_1) (.slice g2 m2 k_2) (.slice g3 m3 k_3) (.slice g4 m4 k_4) (.slice g5 m5 k_5) [(⟨#[116,101,115,116]⟩ : BA)] A1 [(⟨#[116,104,101,110]⟩ : BA)] A3 [(⟨#[101,108,115,101]⟩ : BA)] A5 _ _ rfl hs0 hs1 hs2 hs3 hs4 hs5 ?_).mono ?_; (have hz := HSZ.out; exact hz); rintro e wx ⟨r6,rfl,ho6,hfx⟩; have hqx := Fr.trans (by assumption : Fr w1 _) hfx)))
 have hfin : Fr w wx := HF1.out.trans hqx
 have hlo := ho6.low (B' := w.heap.size) (Nat.le_trans HF1.out.size (by first | exact Fr.size (by assumption) | exact Below.size (by assumption)))
 go_wp2_with fail
 go_ret
 exact ⟨_,rfl,hlo,hfin⟩
theorem r_rep2 (n c0 c1 : Nd) (A0 A2 : List ByteArray) {o : Int} {T : ByteArray} (hK : RpK o T) (hop : n.op = o) (hnl : n.l = [c0,c1]) (h0 : Rx 86 mk1 c0 A0) (h2 : Rx 83 mk1 c1 A2) (hsz : (([A0,[T],A2] : List (List ByteArray)).flatten).length ≤ 1000000) : Rx 86 mk1 n (([A0,[T],A2] : List (List ByteArray)).flatten) := by
 intro w lv hl
 show Calls prog 86 #[ndV n lv] w _
 obtain ⟨b,off,lc,a0,k0,a1,k1,rfl,HNC0,hl0,HNC1,hl1,hlc,hlm⟩ := kid2 hl hnl
 rw [ndV_eq,hop]
 have C0 := h_ (fun W (h : Fr w W) => h0 W _ (hl0.fr h))
 rw [ndV_eq] at C0
 unfold mk1 at C0
 have C2 := h_ (fun W (h : Fr w W) => h2 W _ (hl1.fr h))
 rw [ndV_eq] at C2
 unfold mk1 at C2
 have HSZ := h_ hsz
 obtain ⟨w1,hw1⟩ : ∃ w1,w1 = w.alloc (.cells #[.int .i64 o,.int .i64 n.n,.string n.s,.slice (some ⟨b,off,none⟩) 2 lc,.int .i64 n.a] 32) := ⟨_,rfl⟩
 have HF1 : Hid (Fr w w1) := h_ (by rw [hw1]; exact (Fr.refl w).alloc _)
 have HNB : Hid (Nb w1 w.heap.size (.int .i64 o) (.int .i64 n.n) (.string n.s) (.slice (some ⟨b,off,none⟩) 2 lc) (.int .i64 n.a)) := h_ (by rw [hw1]; exact Nb.new w _ _ _ _ _)
 have HW1 := h_ hw1
 have HK : Hid (∀ W',Fr w1 W' → W'.cell? ⟨w.heap.size,1,none⟩ = some (.int .i64 n.n) ∧ W'.cell? ⟨w.heap.size,2,none⟩ = some (.string n.s) ∧ W'.cell? ⟨w.heap.size,3,none⟩ = some (.slice (some ⟨b,off,none⟩) 2 lc) ∧ cQ W' b off (off + 1) (off + 2) (off + 3) (off + 4) c0 a0 k0 (dQ W' b (off + 5) (off + 6) (off + 7) (off + 8) (off + 9) c1 a1 k1)) := h_ (fun W' h => by
  obtain ⟨q0,q1,q2,q3,q4⟩ := (HNB.out.fr h).cells
  obtain ⟨y00,y01,y02,y03,y04⟩ := HNC0.out.fr (HF1.out.trans h)
  obtain ⟨y10,y11,y12,y13,y14⟩ := HNC1.out.fr (HF1.out.trans h)
  exact ⟨q1,q2,q3,y00,y01,y02,y03,y04,y10,y11,y12,y13,y14⟩)
 have CT := h_ (fun W => one_x T W)
 have hq0 : Fr w1 w1.drew := (Fr.refl _).drew
 have hq1 : Fr w1 w1 := Fr.refl _
 clear hl hop hnl hsz hw1 hl0 hl1 h0 h2 hlm
 have z0 := HNB.out.cells.1
 obtain ⟨z1,z2,z3,x0,x1,x2,x3,x4,x5,x6,x7,x8,x9⟩ := HK.out w1 (Fr.refl _)
 rw [HW1.out] at z0
 clear z1 z2 z3 x0 x1 x2 x3 x4 x5 x6 x7 x8 x9
 cases hK
 all_goals
  go_enter func86,ntmps86
  go_wp2_with fail
  rw [← HW1.out]
  clear z0
  go_region_held3 (fun W' => W'.cell? ⟨w.heap.size,1,none⟩ = some (.int .i64 n.n) ∧ W'.cell? ⟨w.heap.size,2,none⟩ = some (.string n.s) ∧ W'.cell? ⟨w.heap.size,3,none⟩ = some (.slice (some ⟨b,off,none⟩) 2 lc) ∧ cQ W' b off (off + 1) (off + 2) (off + 3) (off + 4) c0 a0 k0 (dQ W' b (off + 5) (off + 6) (off + 7) (off + 8) (off + 9) c1 a1 k1))
   (first | exact HK.out _ (by assumption) | exact HK.out _ (Fr.alloc (by assumption) _))
   ((first
   | (go_at_call 86; with_reducible refine (C0.out _ ?_).mono ?_; exact HF1.out.trans (by assumption); rintro e wx ⟨r0,rfl,ho0,hfx⟩; have hs0 := OS.sl ho0; obtain ⟨g0,m0,k_0,rfl⟩ := own_form5' ho0; have hqx := Fr.trans (by assumption : Fr w1 _) hfx)
   | (go_at_call 154; with_reducible refine (CT.out _).mono ?_; rintro e wx ⟨r1,rfl,ho1,hfx⟩; have hs1 := OS.sl ho1; obtain ⟨g1,m1,k_1,rfl⟩ := own_form5' ho1; have hqx := Fr.trans (by assumption : Fr w1 _) hfx; have hs0 := hs0.fr hfx)
   | (go_at_call 83; with_reducible refine (C2.out _ ?_).mono ?_; exact HF1.out.trans (by assumption); rintro e wx ⟨r2,rfl,ho2,hfx⟩; have hs2 := OS.sl ho2; obtain ⟨g2,m2,k_2,rfl⟩ := own_form5' ho2; have hqx := Fr.trans (by assumption : Fr w1 _) hfx; have hs0 := hs0.fr hfx; have hs1 := hs1.fr hfx)
   | (go_at_call 79; refine (words_3 (.slice g0 m0 k_0) (.slice g1 m1 k_1) (.slice g2 m2 k_2) A0 _ A2 _ _ rfl hs0 hs1 hs2 ?_).mono ?_; (have hz := HSZ.out; exact hz); rintro e wx ⟨r3,rfl,ho3,hfx⟩; have hqx := Fr.trans (by assumption : Fr w1 _) hfx)))
  have hfin : Fr w wx := HF1.out.trans hqx
  have hlo := ho3.low (B' := w.heap.size) (Nat.le_trans HF1.out.size (by first | exact Fr.size (by assumption) | exact Below.size (by assumption)))
  go_wp2_with fail
  go_ret
  exact ⟨_,rfl,hlo,hfin⟩
theorem r_switch (n c0 c1 : Nd) (A1 A3 : List ByteArray) (hop : n.op = 41) (hnl : n.l = [c0,c1]) (h1 : Rx 83 mk1 c0 A1) (h3 : Rx 86 mk1 c1 A3) (hsz : (([[(⟨#[115,119,105,116,99,104,111,110]⟩ : BA)],A1,[(⟨#[105,110,116,111]⟩ : BA)],A3] : List (List ByteArray)).flatten).length ≤ 1000000) : Rx 86 mk1 n (([[(⟨#[115,119,105,116,99,104,111,110]⟩ : BA)],A1,[(⟨#[105,110,116,111]⟩ : BA)],A3] : List (List ByteArray)).flatten) := by
 intro w lv hl
 show Calls prog 86 #[ndV n lv] w _
 obtain ⟨b,off,lc,a0,k0,a1,k1,rfl,HNC0,hl0,HNC1,hl1,hlc,hlm⟩ := kid2 hl hnl
 rw [ndV_eq,hop]
 have C1 := h_ (fun W (h : Fr w W) => h1 W _ (hl0.fr h))
 rw [ndV_eq] at C1
 unfold mk1 at C1
 have C3 := h_ (fun W (h : Fr w W) => h3 W _ (hl1.fr h))
 rw [ndV_eq] at C3
 unfold mk1 at C3
 have HSZ := h_ hsz
 obtain ⟨w1,HW1,HF1,HNB⟩ := al1 w (.int .i64 41) (.int .i64 n.n) (.string n.s) (.slice (some ⟨b,off,none⟩) 2 lc) (.int .i64 n.a)
 have HK := h_ (fun W' (h : Fr w1 W') => hk2 HNB.out HF1.out HNC0.out HNC1.out h)
 have hq0 : Fr w1 w1.drew := (Fr.refl _).drew
 have hq1 : Fr w1 w1 := Fr.refl _
 clear hl hop hnl hsz hl0 hl1 h1 h3 hlm
 obtain ⟨z0,z1,z2,z3,x0,x1,x2,x3,x4,x5,x6,x7,x8,x9⟩ := HK.out w1 (Fr.refl _)
 rw [HW1.out] at z0
 clear z1 z2 z3 x0 x1 x2 x3 x4 x5 x6 x7 x8 x9
 go_enter func86,ntmps86
 go_wp2_with fail
 rw [← HW1.out]
 clear z0
 go_region_held3 (fun W' => nQ w W' (.int .i64 41) (.int .i64 n.n) (.string n.s) (.slice (some ⟨b,off,none⟩) 2 lc) (cQ W' b off (off + 1) (off + 2) (off + 3) (off + 4) c0 a0 k0 (dQ W' b (off + 5) (off + 6) (off + 7) (off + 8) (off + 9) c1 a1 k1)))
  (first | exact HK.out _ (by assumption) | exact HK.out _ (Fr.alloc (by assumption) _))
  ((first
  | (go_at_call 154; with_reducible refine (one_x (⟨#[115,119,105,116,99,104,111,110]⟩ : BA) _).mono ?_; rintro e wx ⟨r0,rfl,ho0,hfx⟩; have hs0 := OS.sl ho0; obtain ⟨g0,m0,k_0,rfl⟩ := own_form5' ho0; have hqx := Fr.trans (by assumption : Fr w1 _) hfx)
  | (go_at_call 83; with_reducible refine (C1.out _ ?_).mono ?_; exact HF1.out.trans (by assumption); rintro e wx ⟨r1,rfl,ho1,hfx⟩; have hs1 := OS.sl ho1; obtain ⟨g1,m1,k_1,rfl⟩ := own_form5' ho1; have hqx := Fr.trans (by assumption : Fr w1 _) hfx; have hs0 := hs0.fr hfx)
  | (go_at_call 154; with_reducible refine (one_x (⟨#[105,110,116,111]⟩ : BA) _).mono ?_; rintro e wx ⟨r2,rfl,ho2,hfx⟩; have hs2 := OS.sl ho2; obtain ⟨g2,m2,k_2,rfl⟩ := own_form5' ho2; have hqx := Fr.trans (by assumption : Fr w1 _) hfx; have hs0 := hs0.fr hfx; have hs1 := hs1.fr hfx)
  | (go_at_call 86; with_reducible refine (C3.out _ ?_).mono ?_; exact HF1.out.trans (by assumption); rintro e wx ⟨r3,rfl,ho3,hfx⟩; have hs3 := OS.sl ho3; obtain ⟨g3,m3,k_3,rfl⟩ := own_form5' ho3; have hqx := Fr.trans (by assumption : Fr w1 _) hfx; have hs0 := hs0.fr hfx; have hs1 := hs1.fr hfx; have hs2 := hs2.fr hfx)
  | (go_at_call 79; refine (words_4 (.slice g0 m0 k_0) (.slice g1 m1 k_1) (.slice g2 m2 k_2) (.slice g3 m3 k_3) [(⟨#[115,119,105,116,99,104,111,110]⟩ : BA)] A1 [(⟨#[105,110,116,111]⟩ : BA)] A3 _ _ rfl hs0 hs1 hs2 hs3 ?_).mono ?_; (have hz := HSZ.out; exact hz); rintro e wx ⟨r4,rfl,ho4,hfx⟩; have hqx := Fr.trans (by assumption : Fr w1 _) hfx)))
 have hfin : Fr w wx := HF1.out.trans hqx
 have hlo := ho4.low (B' := w.heap.size) (Nat.le_trans HF1.out.size (by first | exact Fr.size (by assumption) | exact Below.size (by assumption)))
 go_wp2_with fail
 go_ret
 exact ⟨_,rfl,hlo,hfin⟩
theorem r_case (n c0 c1 : Nd) (A1 A3 : List ByteArray) (hop : n.op = 42) (hnl : n.l = [c0,c1]) (h1 : Rx 83 mk1 c0 A1) (h3 : Rx 86 mk1 c1 A3) (hsz : (([[(⟨#[99,97,115,101]⟩ : BA)],A1,[(⟨#[58]⟩ : BA)],A3] : List (List ByteArray)).flatten).length ≤ 1000000) : Rx 86 mk1 n (([[(⟨#[99,97,115,101]⟩ : BA)],A1,[(⟨#[58]⟩ : BA)],A3] : List (List ByteArray)).flatten) := by
 intro w lv hl
 show Calls prog 86 #[ndV n lv] w _
 obtain ⟨b,off,lc,a0,k0,a1,k1,rfl,HNC0,hl0,HNC1,hl1,hlc,hlm⟩ := kid2 hl hnl
 rw [ndV_eq,hop]
 have C1 := h_ (fun W (h : Fr w W) => h1 W _ (hl0.fr h))
 rw [ndV_eq] at C1
 unfold mk1 at C1
 have C3 := h_ (fun W (h : Fr w W) => h3 W _ (hl1.fr h))
 rw [ndV_eq] at C3
 unfold mk1 at C3
 have HSZ := h_ hsz
 obtain ⟨w1,HW1,HF1,HNB⟩ := al1 w (.int .i64 42) (.int .i64 n.n) (.string n.s) (.slice (some ⟨b,off,none⟩) 2 lc) (.int .i64 n.a)
 have HK := h_ (fun W' (h : Fr w1 W') => hk2 HNB.out HF1.out HNC0.out HNC1.out h)
 have hq0 : Fr w1 w1.drew := (Fr.refl _).drew
 have hq1 : Fr w1 w1 := Fr.refl _
 clear hl hop hnl hsz hl0 hl1 h1 h3 hlm
 obtain ⟨z0,z1,z2,z3,x0,x1,x2,x3,x4,x5,x6,x7,x8,x9⟩ := HK.out w1 (Fr.refl _)
 rw [HW1.out] at z0
 clear z1 z2 z3 x0 x1 x2 x3 x4 x5 x6 x7 x8 x9
 go_enter func86,ntmps86
 go_wp2_with fail
 rw [← HW1.out]
 clear z0
 go_region_held3 (fun W' => nQ w W' (.int .i64 42) (.int .i64 n.n) (.string n.s) (.slice (some ⟨b,off,none⟩) 2 lc) (cQ W' b off (off + 1) (off + 2) (off + 3) (off + 4) c0 a0 k0 (dQ W' b (off + 5) (off + 6) (off + 7) (off + 8) (off + 9) c1 a1 k1)))
  (first | exact HK.out _ (by assumption) | exact HK.out _ (Fr.alloc (by assumption) _))
  ((first
  | (go_at_call 154; with_reducible refine (one_x (⟨#[99,97,115,101]⟩ : BA) _).mono ?_; rintro e wx ⟨r0,rfl,ho0,hfx⟩; have hs0 := OS.sl ho0; obtain ⟨g0,m0,k_0,rfl⟩ := own_form5' ho0; have hqx := Fr.trans (by assumption : Fr w1 _) hfx)
  | (go_at_call 83; with_reducible refine (C1.out _ ?_).mono ?_; exact HF1.out.trans (by assumption); rintro e wx ⟨r1,rfl,ho1,hfx⟩; have hs1 := OS.sl ho1; obtain ⟨g1,m1,k_1,rfl⟩ := own_form5' ho1; have hqx := Fr.trans (by assumption : Fr w1 _) hfx; have hs0 := hs0.fr hfx)
  | (go_at_call 154; with_reducible refine (one_x (⟨#[58]⟩ : BA) _).mono ?_; rintro e wx ⟨r2,rfl,ho2,hfx⟩; have hs2 := OS.sl ho2; obtain ⟨g2,m2,k_2,rfl⟩ := own_form5' ho2; have hqx := Fr.trans (by assumption : Fr w1 _) hfx; have hs0 := hs0.fr hfx; have hs1 := hs1.fr hfx)
  | (go_at_call 86; with_reducible refine (C3.out _ ?_).mono ?_; exact HF1.out.trans (by assumption); rintro e wx ⟨r3,rfl,ho3,hfx⟩; have hs3 := OS.sl ho3; obtain ⟨g3,m3,k_3,rfl⟩ := own_form5' ho3; have hqx := Fr.trans (by assumption : Fr w1 _) hfx; have hs0 := hs0.fr hfx; have hs1 := hs1.fr hfx; have hs2 := hs2.fr hfx)
  | (go_at_call 79; refine (words_4 (.slice g0 m0 k_0) (.slice g1 m1 k_1) (.slice g2 m2 k_2) (.slice g3 m3 k_3) [(⟨#[99,97,115,101]⟩ : BA)] A1 [(⟨#[58]⟩ : BA)] A3 _ _ rfl hs0 hs1 hs2 hs3 ?_).mono ?_; (have hz := HSZ.out; exact hz); rintro e wx ⟨r4,rfl,ho4,hfx⟩; have hqx := Fr.trans (by assumption : Fr w1 _) hfx)))
 have hfin : Fr w wx := HF1.out.trans hqx
 have hlo := ho4.low (B' := w.heap.size) (Nat.le_trans HF1.out.size (by first | exact Fr.size (by assumption) | exact Below.size (by assumption)))
 go_wp2_with fail
 go_ret
 exact ⟨_,rfl,hlo,hfin⟩
theorem r_default (n c0 : Nd) (A2 : List ByteArray) (hop : n.op = 43) (hnl : n.l = [c0]) (h2 : Rx 86 mk1 c0 A2) (hsz : (([[(⟨#[100,101,102,97,117,108,116]⟩ : BA)],[(⟨#[58]⟩ : BA)],A2] : List (List ByteArray)).flatten).length ≤ 1000000) : Rx 86 mk1 n (([[(⟨#[100,101,102,97,117,108,116]⟩ : BA)],[(⟨#[58]⟩ : BA)],A2] : List (List ByteArray)).flatten) := by
 intro w lv hl
 show Calls prog 86 #[ndV n lv] w _
 obtain ⟨b,off,lc,a0,k0,rfl,HNC0,hl0,hlc,hlm⟩ := kid1 hl hnl
 rw [ndV_eq,hop]
 have C2 := h_ (fun W (h : Fr w W) => h2 W _ (hl0.fr h))
 rw [ndV_eq] at C2
 unfold mk1 at C2
 have HSZ := h_ hsz
 obtain ⟨w1,HW1,HF1,HNB⟩ := al1 w (.int .i64 43) (.int .i64 n.n) (.string n.s) (.slice (some ⟨b,off,none⟩) 1 lc) (.int .i64 n.a)
 have HK := h_ (fun W' (h : Fr w1 W') => hk1 HNB.out HF1.out HNC0.out h)
 have hq0 : Fr w1 w1.drew := (Fr.refl _).drew
 have hq1 : Fr w1 w1 := Fr.refl _
 clear hl hop hnl hsz hl0 h2 hlm
 obtain ⟨z0,z1,z2,z3,x0,x1,x2,x3,x4⟩ := HK.out w1 (Fr.refl _)
 rw [HW1.out] at z0
 clear z1 z2 z3 x0 x1 x2 x3 x4
 go_enter func86,ntmps86
 go_wp2_with fail
 rw [← HW1.out]
 clear z0
 go_region_held3 (fun W' => nQ w W' (.int .i64 43) (.int .i64 n.n) (.string n.s) (.slice (some ⟨b,off,none⟩) 1 lc) (dQ W' b off (off + 1) (off + 2) (off + 3) (off + 4) c0 a0 k0))
  (first | exact HK.out _ (by assumption) | exact HK.out _ (Fr.alloc (by assumption) _))
  ((first
  | (go_at_call 154; with_reducible refine (one_x (⟨#[100,101,102,97,117,108,116]⟩ : BA) _).mono ?_; rintro e wx ⟨r0,rfl,ho0,hfx⟩; have hs0 := OS.sl ho0; obtain ⟨g0,m0,k_0,rfl⟩ := own_form5' ho0; have hqx := Fr.trans (by assumption : Fr w1 _) hfx)
  | (go_at_call 154; with_reducible refine (one_x (⟨#[58]⟩ : BA) _).mono ?_; rintro e wx ⟨r1,rfl,ho1,hfx⟩; have hs1 := OS.sl ho1; obtain ⟨g1,m1,k_1,rfl⟩ := own_form5' ho1; have hqx := Fr.trans (by assumption : Fr w1 _) hfx; have hs0 := hs0.fr hfx)
  | (go_at_call 86; with_reducible refine (C2.out _ ?_).mono ?_; exact HF1.out.trans (by assumption); rintro e wx ⟨r2,rfl,ho2,hfx⟩; have hs2 := OS.sl ho2; obtain ⟨g2,m2,k_2,rfl⟩ := own_form5' ho2; have hqx := Fr.trans (by assumption : Fr w1 _) hfx; have hs0 := hs0.fr hfx; have hs1 := hs1.fr hfx)
  | (go_at_call 79; refine (words_3 (.slice g0 m0 k_0) (.slice g1 m1 k_1) (.slice g2 m2 k_2) [(⟨#[100,101,102,97,117,108,116]⟩ : BA)] [(⟨#[58]⟩ : BA)] A2 _ _ rfl hs0 hs1 hs2 ?_).mono ?_; (have hz := HSZ.out; exact hz); rintro e wx ⟨r3,rfl,ho3,hfx⟩; have hqx := Fr.trans (by assumption : Fr w1 _) hfx)))
 have hfin : Fr w wx := HF1.out.trans hqx
 have hlo := ho3.low (B' := w.heap.size) (Nat.le_trans HF1.out.size (by first | exact Fr.size (by assumption) | exact Below.size (by assumption)))
 go_wp2_with fail
 go_ret
 exact ⟨_,rfl,hlo,hfin⟩
theorem r_result (n c0 : Nd) (A1 : List ByteArray) (hop : n.op = 48) (hnl : n.l = [c0]) (h1 : Rx 83 mk1 c0 A1) (hsz : (([[(⟨#[114,101,115,117,108,116,105,115]⟩ : BA)],A1] : List (List ByteArray)).flatten).length ≤ 1000000) : Rx 86 mk1 n (([[(⟨#[114,101,115,117,108,116,105,115]⟩ : BA)],A1] : List (List ByteArray)).flatten) := by
 intro w lv hl
 show Calls prog 86 #[ndV n lv] w _
 obtain ⟨b,off,lc,a0,k0,rfl,HNC0,hl0,hlc,hlm⟩ := kid1 hl hnl
 rw [ndV_eq,hop]
 have C1 := h_ (fun W (h : Fr w W) => h1 W _ (hl0.fr h))
 rw [ndV_eq] at C1
 unfold mk1 at C1
 have HSZ := h_ hsz
 obtain ⟨w1,HW1,HF1,HNB⟩ := al1 w (.int .i64 48) (.int .i64 n.n) (.string n.s) (.slice (some ⟨b,off,none⟩) 1 lc) (.int .i64 n.a)
 have HK := h_ (fun W' (h : Fr w1 W') => hk1 HNB.out HF1.out HNC0.out h)
 have hq0 : Fr w1 w1.drew := (Fr.refl _).drew
 have hq1 : Fr w1 w1 := Fr.refl _
 clear hl hop hnl hsz hl0 h1 hlm
 obtain ⟨z0,z1,z2,z3,x0,x1,x2,x3,x4⟩ := HK.out w1 (Fr.refl _)
 rw [HW1.out] at z0
 clear z1 z2 z3 x0 x1 x2 x3 x4
 go_enter func86,ntmps86
 go_wp2_with fail
 rw [← HW1.out]
 clear z0
 go_region_held3 (fun W' => nQ w W' (.int .i64 48) (.int .i64 n.n) (.string n.s) (.slice (some ⟨b,off,none⟩) 1 lc) (dQ W' b off (off + 1) (off + 2) (off + 3) (off + 4) c0 a0 k0))
  (first | exact HK.out _ (by assumption) | exact HK.out _ (Fr.alloc (by assumption) _))
  ((first
  | (go_at_call 154; with_reducible refine (one_x (⟨#[114,101,115,117,108,116,105,115]⟩ : BA) _).mono ?_; rintro e wx ⟨r0,rfl,ho0,hfx⟩; have hs0 := OS.sl ho0; obtain ⟨g0,m0,k_0,rfl⟩ := own_form5' ho0; have hqx := Fr.trans (by assumption : Fr w1 _) hfx)
  | (go_at_call 83; with_reducible refine (C1.out _ ?_).mono ?_; exact HF1.out.trans (by assumption); rintro e wx ⟨r1,rfl,ho1,hfx⟩; have hs1 := OS.sl ho1; obtain ⟨g1,m1,k_1,rfl⟩ := own_form5' ho1; have hqx := Fr.trans (by assumption : Fr w1 _) hfx; have hs0 := hs0.fr hfx)
  | (go_at_call 79; refine (words_2 (.slice g0 m0 k_0) (.slice g1 m1 k_1) [(⟨#[114,101,115,117,108,116,105,115]⟩ : BA)] A1 _ _ rfl hs0 hs1 ?_).mono ?_; (have hz := HSZ.out; exact hz); rintro e wx ⟨r2,rfl,ho2,hfx⟩; have hqx := Fr.trans (by assumption : Fr w1 _) hfx)))
 have hfin : Fr w wx := HF1.out.trans hqx
 have hlo := ho2.low (B' := w.heap.size) (Nat.le_trans HF1.out.size (by first | exact Fr.size (by assumption) | exact Below.size (by assumption)))
 go_wp2_with fail
 go_ret
 exact ⟨_,rfl,hlo,hfin⟩
theorem own_twoS (w : World) (s t : ByteArray) : OS (w.alloc (.cells #[.string s,.string t] 9)) w.heap.size (.slice (some ⟨w.heap.size,0,none⟩) 2 2) [s,t] :=
 ⟨rfl,.inr ⟨w.heap.size,2,#[.string s,.string t],rfl,Nat.le_refl _,by simp only [World.alloc,Array.getElem?_push_size],Nat.le_refl _,by unfold maxLen; omega,rfl,rfl⟩⟩
theorem r_load (n c0 : Nd) (A0 : List ByteArray) (hop : n.op = 10) (hnl : n.l = [c0]) (h0 : Rx 158 (mkL 10) c0 A0) (hsz : A0.length ≤ 1000000) : Rx 83 mk1 n ([(⟨#[33]⟩ : BA)] ++ A0) := by
 intro w lv hl
 show Calls prog 83 #[ndV n lv] w _
 obtain ⟨la,lc,rfl,hlc,hlm,_⟩ := hl.form
 rw [ndV_eq]
 obtain ⟨b,off,lv0,rfl,hc0,hl0,_⟩ := hl.at_ (i := 0) (t := c0) (by rw [hnl]; rfl)
 obtain ⟨a0,k0,rfl,_,_,_⟩ := hl0.form
 simp only [Nat.zero_mul,Nat.add_zero] at hc0
 have HNC0 := h_ hc0
 rw [show n.l.length = 1 from by rw [hnl]; rfl] at hlc ⊢
 rw [hop]
 have C0 := h_ (fun W (h : Fr w W) => h0 W _ (hl0.fr h))
 rw [ndV_eq] at C0
 unfold mkL at C0
 have HSZ := h_ hsz
 have HFA : Hid (Fr w (w.alloc (.cells #[.int .i64 10,.int .i64 n.n,.string n.s,.slice (some ⟨b,off,none⟩) 1 lc,.int .i64 n.a] 32))) := h_ ((Fr.refl w).alloc _)
 have HN := h_ (Nb.new w (.int .i64 10) (.int .i64 n.n) (.string n.s) (.slice (some ⟨b,off,none⟩) 1 lc) (.int .i64 n.a))
 obtain ⟨z0,z1,z2,z3,z4⟩ := HN.out.cells
 have HO : Hid (OS ((w.alloc (.cells #[.int .i64 10,.int .i64 n.n,.string n.s,.slice (some ⟨b,off,none⟩) 1 lc,.int .i64 n.a] 32)).alloc (.cells #[.string (⟨#[33]⟩ : BA)] 9)) w.heap.size (.slice (some ⟨w.heap.size + 1,0,none⟩) 1 1) [(⟨#[33]⟩ : BA)]) := h_ (by
  have h := (own_oneS (w.alloc (.cells #[.int .i64 10,.int .i64 n.n,.string n.s,.slice (some ⟨b,off,none⟩) 1 lc,.int .i64 n.a] 32)) (⟨#[33]⟩ : BA)).low (B' := w.heap.size) (by rw [size_alloc']; omega)
  rw [size_alloc'] at h
  exact h)
 have HF2 := h_ (HFA.out.alloc (.cells #[.string (⟨#[33]⟩ : BA)] 9))
 obtain ⟨y0,y1,y2,y3,y4⟩ := HNC0.out.fr HF2.out
 clear hl hop hnl hl0 hc0 h0 hsz
 go_enter func83,ntmps83
 go_wp2_with fail
 refine (C0.out _ HF2.out).mono ?_
 rintro e w2 ⟨r0,rfl,ho0,hf0⟩
 have HO1 := h_ (HO.out.fr hf0)
 have HFF := h_ (HF2.out.trans hf0)
 have HS0 := h_ (OS.sl ho0)
 clear hf0 ho0 z0 z1 z2 z3 z4 y0 y1 y2 y3 y4
 go_wp2_with (with_reducible refine stop_append_s ?_)
 unfold StopS
 refine wpS_append (.tmp 112) (.tmp 117) rfl rfl _ _ [(⟨#[33]⟩ : BA)] A0 (by rfl) (by rfl) HO1.out HS0.out HFF.out (by have := HSZ.out; simp at this ⊢; omega) fun v3 x3 ho3 hf3 hg3 => ?_
 obtain ⟨a3,d3,rfl⟩ := own_formS ho3
 obtain ⟨n3,hn3⟩ : ∃ k,k = ([(⟨#[33]⟩ : BA)] ++ A0).length := ⟨_,rfl⟩
 rw [← hn3] at ho3 ⊢
 have HO3 := h_ ho3
 have HF3 := h_ hf3
 clear ho3 hf3 hg3 hn3
 go_wp2_with fail
 go_ret
 exact ⟨_,rfl,HO3.out,HF3.out⟩
theorem r_addr (n c0 : Nd) (A0 : List ByteArray) (hop : n.op = 11) (hnl : n.l = [c0]) (h0 : Rx 158 (mkL 10) c0 A0) (hsz : A0.length ≤ 1000000) : Rx 83 mk1 n ([(⟨#[64]⟩ : BA)] ++ A0) := by
 intro w lv hl
 show Calls prog 83 #[ndV n lv] w _
 obtain ⟨la,lc,rfl,hlc,hlm,_⟩ := hl.form
 rw [ndV_eq]
 obtain ⟨b,off,lv0,rfl,hc0,hl0,_⟩ := hl.at_ (i := 0) (t := c0) (by rw [hnl]; rfl)
 obtain ⟨a0,k0,rfl,_,_,_⟩ := hl0.form
 simp only [Nat.zero_mul,Nat.add_zero] at hc0
 have HNC0 := h_ hc0
 rw [show n.l.length = 1 from by rw [hnl]; rfl] at hlc ⊢
 rw [hop]
 have C0 := h_ (fun W (h : Fr w W) => h0 W _ (hl0.fr h))
 rw [ndV_eq] at C0
 unfold mkL at C0
 have HSZ := h_ hsz
 have HFA : Hid (Fr w (w.alloc (.cells #[.int .i64 11,.int .i64 n.n,.string n.s,.slice (some ⟨b,off,none⟩) 1 lc,.int .i64 n.a] 32))) := h_ ((Fr.refl w).alloc _)
 have HN := h_ (Nb.new w (.int .i64 11) (.int .i64 n.n) (.string n.s) (.slice (some ⟨b,off,none⟩) 1 lc) (.int .i64 n.a))
 obtain ⟨z0,z1,z2,z3,z4⟩ := HN.out.cells
 have HO : Hid (OS ((w.alloc (.cells #[.int .i64 11,.int .i64 n.n,.string n.s,.slice (some ⟨b,off,none⟩) 1 lc,.int .i64 n.a] 32)).alloc (.cells #[.string (⟨#[64]⟩ : BA)] 9)) w.heap.size (.slice (some ⟨w.heap.size + 1,0,none⟩) 1 1) [(⟨#[64]⟩ : BA)]) := h_ (by
  have h := (own_oneS (w.alloc (.cells #[.int .i64 11,.int .i64 n.n,.string n.s,.slice (some ⟨b,off,none⟩) 1 lc,.int .i64 n.a] 32)) (⟨#[64]⟩ : BA)).low (B' := w.heap.size) (by rw [size_alloc']; omega)
  rw [size_alloc'] at h
  exact h)
 have HF2 := h_ (HFA.out.alloc (.cells #[.string (⟨#[64]⟩ : BA)] 9))
 obtain ⟨y0,y1,y2,y3,y4⟩ := HNC0.out.fr HF2.out
 clear hl hop hnl hl0 hc0 h0 hsz
 go_enter func83,ntmps83
 go_wp2_with fail
 refine (C0.out _ HF2.out).mono ?_
 rintro e w2 ⟨r0,rfl,ho0,hf0⟩
 have HO1 := h_ (HO.out.fr hf0)
 have HFF := h_ (HF2.out.trans hf0)
 have HS0 := h_ (OS.sl ho0)
 clear hf0 ho0 z0 z1 z2 z3 z4 y0 y1 y2 y3 y4
 go_wp2_with (with_reducible refine stop_append_s ?_)
 unfold StopS
 refine wpS_append (.tmp 121) (.tmp 126) rfl rfl _ _ [(⟨#[64]⟩ : BA)] A0 (by rfl) (by rfl) HO1.out HS0.out HFF.out (by have := HSZ.out; simp at this ⊢; omega) fun v3 x3 ho3 hf3 hg3 => ?_
 obtain ⟨a3,d3,rfl⟩ := own_formS ho3
 obtain ⟨n3,hn3⟩ : ∃ k,k = ([(⟨#[64]⟩ : BA)] ++ A0).length := ⟨_,rfl⟩
 rw [← hn3] at ho3 ⊢
 have HO3 := h_ ho3
 have HF3 := h_ hf3
 clear ho3 hf3 hg3 hn3
 go_wp2_with fail
 go_ret
 exact ⟨_,rfl,HO3.out,HF3.out⟩
theorem r_not (n c0 : Nd) (A0 : List ByteArray) (hop : n.op = 13) (hn1 : n.n = 19) (hnl : n.l = [c0]) (h0 : Rx 158 (mkL 4) c0 A0) (hsz : A0.length ≤ 1000000) : Rx 83 mk1 n ([(⟨#[126]⟩ : BA)] ++ A0) := by
 intro w lv hl
 show Calls prog 83 #[ndV n lv] w _
 obtain ⟨la,lc,rfl,hlc,hlm,_⟩ := hl.form
 rw [ndV_eq]
 obtain ⟨b,off,lv0,rfl,hc0,hl0,_⟩ := hl.at_ (i := 0) (t := c0) (by rw [hnl]; rfl)
 obtain ⟨a0,k0,rfl,_,_,_⟩ := hl0.form
 simp only [Nat.zero_mul,Nat.add_zero] at hc0
 have HNC0 := h_ hc0
 rw [show n.l.length = 1 from by rw [hnl]; rfl] at hlc ⊢
 rw [hop]
 rw [hn1]
 have C0 := h_ (fun W (h : Fr w W) => h0 W _ (hl0.fr h))
 rw [ndV_eq] at C0
 unfold mkL at C0
 have HSZ := h_ hsz
 have HFA : Hid (Fr w (w.alloc (.cells #[.int .i64 13,.int .i64 19,.string n.s,.slice (some ⟨b,off,none⟩) 1 lc,.int .i64 n.a] 32))) := h_ ((Fr.refl w).alloc _)
 have HN := h_ (Nb.new w (.int .i64 13) (.int .i64 19) (.string n.s) (.slice (some ⟨b,off,none⟩) 1 lc) (.int .i64 n.a))
 obtain ⟨z0,z1,z2,z3,z4⟩ := HN.out.cells
 have HO : Hid (OS ((w.alloc (.cells #[.int .i64 13,.int .i64 19,.string n.s,.slice (some ⟨b,off,none⟩) 1 lc,.int .i64 n.a] 32)).alloc (.cells #[.string (⟨#[126]⟩ : BA)] 9)) w.heap.size (.slice (some ⟨w.heap.size + 1,0,none⟩) 1 1) [(⟨#[126]⟩ : BA)]) := h_ (by
  have h := (own_oneS (w.alloc (.cells #[.int .i64 13,.int .i64 19,.string n.s,.slice (some ⟨b,off,none⟩) 1 lc,.int .i64 n.a] 32)) (⟨#[126]⟩ : BA)).low (B' := w.heap.size) (by rw [size_alloc']; omega)
  rw [size_alloc'] at h
  exact h)
 have HF2 := h_ (HFA.out.alloc (.cells #[.string (⟨#[126]⟩ : BA)] 9))
 obtain ⟨y0,y1,y2,y3,y4⟩ := HNC0.out.fr HF2.out
 clear hl hop hnl hl0 hc0 h0 hsz hn1
 go_enter func83,ntmps83
 go_wp2_with fail
 refine (C0.out _ HF2.out).mono ?_
 rintro e w2 ⟨r0,rfl,ho0,hf0⟩
 have HO1 := h_ (HO.out.fr hf0)
 have HFF := h_ (HF2.out.trans hf0)
 have HS0 := h_ (OS.sl ho0)
 clear hf0 ho0 z0 z1 z2 z3 z4 y0 y1 y2 y3 y4
 go_wp2_with (with_reducible refine stop_append_s ?_)
 unfold StopS
 refine wpS_append (.tmp 157) (.tmp 162) rfl rfl _ _ [(⟨#[126]⟩ : BA)] A0 (by rfl) (by rfl) HO1.out HS0.out HFF.out (by have := HSZ.out; simp at this ⊢; omega) fun v3 x3 ho3 hf3 hg3 => ?_
 obtain ⟨a3,d3,rfl⟩ := own_formS ho3
 obtain ⟨n3,hn3⟩ : ∃ k,k = ([(⟨#[126]⟩ : BA)] ++ A0).length := ⟨_,rfl⟩
 rw [← hn3] at ho3 ⊢
 have HO3 := h_ ho3
 have HF3 := h_ hf3
 clear ho3 hf3 hg3 hn3
 go_wp2_with fail
 go_ret
 exact ⟨_,rfl,HO3.out,HF3.out⟩
theorem r_neg (n c0 : Nd) (A0 : List ByteArray) (hop : n.op = 13) (hn1 : n.n = 18) (hnl : n.l = [c0]) (h0 : Rx 158 (mkL 8) c0 A0) (hsz : A0.length ≤ 1000000) : Rx 83 mk1 n ([(⟨#[45]⟩ : BA)] ++ A0) := by
 intro w lv hl
 show Calls prog 83 #[ndV n lv] w _
 obtain ⟨la,lc,rfl,hlc,hlm,_⟩ := hl.form
 rw [ndV_eq]
 obtain ⟨b,off,lv0,rfl,hc0,hl0,_⟩ := hl.at_ (i := 0) (t := c0) (by rw [hnl]; rfl)
 obtain ⟨a0,k0,rfl,_,_,_⟩ := hl0.form
 simp only [Nat.zero_mul,Nat.add_zero] at hc0
 have HNC0 := h_ hc0
 rw [show n.l.length = 1 from by rw [hnl]; rfl] at hlc ⊢
 rw [hop]
 rw [hn1]
 have C0 := h_ (fun W (h : Fr w W) => h0 W _ (hl0.fr h))
 rw [ndV_eq] at C0
 unfold mkL at C0
 have HSZ := h_ hsz
 have HFA : Hid (Fr w (w.alloc (.cells #[.int .i64 13,.int .i64 18,.string n.s,.slice (some ⟨b,off,none⟩) 1 lc,.int .i64 n.a] 32))) := h_ ((Fr.refl w).alloc _)
 have HN := h_ (Nb.new w (.int .i64 13) (.int .i64 18) (.string n.s) (.slice (some ⟨b,off,none⟩) 1 lc) (.int .i64 n.a))
 obtain ⟨z0,z1,z2,z3,z4⟩ := HN.out.cells
 have HO : Hid (OS ((w.alloc (.cells #[.int .i64 13,.int .i64 18,.string n.s,.slice (some ⟨b,off,none⟩) 1 lc,.int .i64 n.a] 32)).alloc (.cells #[.string (⟨#[45]⟩ : BA)] 9)) w.heap.size (.slice (some ⟨w.heap.size + 1,0,none⟩) 1 1) [(⟨#[45]⟩ : BA)]) := h_ (by
  have h := (own_oneS (w.alloc (.cells #[.int .i64 13,.int .i64 18,.string n.s,.slice (some ⟨b,off,none⟩) 1 lc,.int .i64 n.a] 32)) (⟨#[45]⟩ : BA)).low (B' := w.heap.size) (by rw [size_alloc']; omega)
  rw [size_alloc'] at h
  exact h)
 have HF2 := h_ (HFA.out.alloc (.cells #[.string (⟨#[45]⟩ : BA)] 9))
 obtain ⟨y0,y1,y2,y3,y4⟩ := HNC0.out.fr HF2.out
 clear hl hop hnl hl0 hc0 h0 hsz hn1
 go_enter func83,ntmps83
 go_wp2_with fail
 refine (C0.out _ HF2.out).mono ?_
 rintro e w2 ⟨r0,rfl,ho0,hf0⟩
 have HO1 := h_ (HO.out.fr hf0)
 have HFF := h_ (HF2.out.trans hf0)
 have HS0 := h_ (OS.sl ho0)
 clear hf0 ho0 z0 z1 z2 z3 z4 y0 y1 y2 y3 y4
 go_wp2_with (with_reducible refine stop_append_s ?_)
 unfold StopS
 refine wpS_append (.tmp 164) (.tmp 169) rfl rfl _ _ [(⟨#[45]⟩ : BA)] A0 (by rfl) (by rfl) HO1.out HS0.out HFF.out (by have := HSZ.out; simp at this ⊢; omega) fun v3 x3 ho3 hf3 hg3 => ?_
 obtain ⟨a3,d3,rfl⟩ := own_formS ho3
 obtain ⟨n3,hn3⟩ : ∃ k,k = ([(⟨#[45]⟩ : BA)] ++ A0).length := ⟨_,rfl⟩
 rw [← hn3] at ho3 ⊢
 have HO3 := h_ ho3
 have HF3 := h_ hf3
 clear ho3 hf3 hg3 hn3
 go_wp2_with fail
 go_ret
 exact ⟨_,rfl,HO3.out,HF3.out⟩
theorem r_valof (n c0 : Nd) (A0 : List ByteArray) (hop : n.op = 15) (hnl : n.l = [c0]) (h0 : Rx 86 mk1 c0 A0) (hsz : A0.length ≤ 1000000) : Rx 83 mk1 n ([(⟨#[118,97,108,111,102]⟩ : BA)] ++ A0) := by
 intro w lv hl
 show Calls prog 83 #[ndV n lv] w _
 obtain ⟨la,lc,rfl,hlc,hlm,_⟩ := hl.form
 rw [ndV_eq]
 obtain ⟨b,off,lv0,rfl,hc0,hl0,_⟩ := hl.at_ (i := 0) (t := c0) (by rw [hnl]; rfl)
 obtain ⟨a0,k0,rfl,_,_,_⟩ := hl0.form
 simp only [Nat.zero_mul,Nat.add_zero] at hc0
 have HNC0 := h_ hc0
 rw [show n.l.length = 1 from by rw [hnl]; rfl] at hlc ⊢
 rw [hop]
 have C0 := h_ (fun W (h : Fr w W) => h0 W _ (hl0.fr h))
 rw [ndV_eq] at C0
 unfold mk1 at C0
 have HSZ := h_ hsz
 have HFA : Hid (Fr w (w.alloc (.cells #[.int .i64 15,.int .i64 n.n,.string n.s,.slice (some ⟨b,off,none⟩) 1 lc,.int .i64 n.a] 32))) := h_ ((Fr.refl w).alloc _)
 have HN := h_ (Nb.new w (.int .i64 15) (.int .i64 n.n) (.string n.s) (.slice (some ⟨b,off,none⟩) 1 lc) (.int .i64 n.a))
 obtain ⟨z0,z1,z2,z3,z4⟩ := HN.out.cells
 have HO : Hid (OS ((w.alloc (.cells #[.int .i64 15,.int .i64 n.n,.string n.s,.slice (some ⟨b,off,none⟩) 1 lc,.int .i64 n.a] 32)).alloc (.cells #[.string (⟨#[118,97,108,111,102]⟩ : BA)] 9)) w.heap.size (.slice (some ⟨w.heap.size + 1,0,none⟩) 1 1) [(⟨#[118,97,108,111,102]⟩ : BA)]) := h_ (by
  have h := (own_oneS (w.alloc (.cells #[.int .i64 15,.int .i64 n.n,.string n.s,.slice (some ⟨b,off,none⟩) 1 lc,.int .i64 n.a] 32)) (⟨#[118,97,108,111,102]⟩ : BA)).low (B' := w.heap.size) (by rw [size_alloc']; omega)
  rw [size_alloc'] at h
  exact h)
 have HF2 := h_ (HFA.out.alloc (.cells #[.string (⟨#[118,97,108,111,102]⟩ : BA)] 9))
 obtain ⟨y0,y1,y2,y3,y4⟩ := HNC0.out.fr HF2.out
 clear hl hop hnl hl0 hc0 h0 hsz
 go_enter func83,ntmps83
 go_wp2_with fail
 refine (C0.out _ HF2.out).mono ?_
 rintro e w2 ⟨r0,rfl,ho0,hf0⟩
 have HO1 := h_ (HO.out.fr hf0)
 have HFF := h_ (HF2.out.trans hf0)
 have HS0 := h_ (OS.sl ho0)
 clear hf0 ho0 z0 z1 z2 z3 z4 y0 y1 y2 y3 y4
 go_wp2_with (with_reducible refine stop_append_s ?_)
 unfold StopS
 refine wpS_append (.tmp 192) (.tmp 197) rfl rfl _ _ [(⟨#[118,97,108,111,102]⟩ : BA)] A0 (by rfl) (by rfl) HO1.out HS0.out HFF.out (by have := HSZ.out; simp at this ⊢; omega) fun v3 x3 ho3 hf3 hg3 => ?_
 obtain ⟨a3,d3,rfl⟩ := own_formS ho3
 obtain ⟨n3,hn3⟩ : ∃ k,k = ([(⟨#[118,97,108,111,102]⟩ : BA)] ++ A0).length := ⟨_,rfl⟩
 rw [← hn3] at ho3 ⊢
 have HO3 := h_ ho3
 have HF3 := h_ hf3
 clear ho3 hf3 hg3 hn3
 go_wp2_with fail
 go_ret
 exact ⟨_,rfl,HO3.out,HF3.out⟩
theorem r_table (n : Nd) (tk : Nd → List ByteArray) (hop : n.op = 16) (hd : ∀ x ∈ n.l,Rx 83 mk1 x (tk x)) (hsz : (joinT ⟨#[44]⟩ (n.l.map tk)).length ≤ 1000000) : Rx 83 mk1 n ([(⟨#[116,97,98,108,101]⟩ : BA)] ++ ([⟨#[40]⟩] ++ joinT ⟨#[44]⟩ (n.l.map tk) ++ [⟨#[41]⟩])) := by
 intro w lv hl
 show Calls prog 83 #[ndV n lv] w _
 obtain ⟨la,lc,rfl,hlc,hlm,_⟩ := hl.form
 rw [ndV_eq]
 have C0 := h_ (fun W (h : Fr w W) => rlisted_x n.l tk _ W (hl.fr h) hd hsz)
 rw [hop]
 obtain ⟨J,hJ⟩ : ∃ J,J = joinT ⟨#[44]⟩ (n.l.map tk) := ⟨_,rfl⟩
 rw [← hJ] at C0 hsz ⊢
 have HSZ := h_ hsz
 have HFA : Hid (Fr w (w.alloc (.cells #[.int .i64 16,.int .i64 n.n,.string n.s,.slice la n.l.length lc,.int .i64 n.a] 32))) := h_ ((Fr.refl w).alloc _)
 have HN := h_ (Nb.new w (.int .i64 16) (.int .i64 n.n) (.string n.s) (.slice la n.l.length lc) (.int .i64 n.a))
 obtain ⟨z0,z1,z2,z3,z4⟩ := HN.out.cells
 have HO : Hid (OS ((w.alloc (.cells #[.int .i64 16,.int .i64 n.n,.string n.s,.slice la n.l.length lc,.int .i64 n.a] 32)).alloc (.cells #[.string (⟨#[116,97,98,108,101]⟩ : BA)] 9)) w.heap.size (.slice (some ⟨w.heap.size + 1,0,none⟩) 1 1) [(⟨#[116,97,98,108,101]⟩ : BA)]) := h_ (by
  have h := (own_oneS (w.alloc (.cells #[.int .i64 16,.int .i64 n.n,.string n.s,.slice la n.l.length lc,.int .i64 n.a] 32)) (⟨#[116,97,98,108,101]⟩ : BA)).low (B' := w.heap.size) (by rw [size_alloc']; omega)
  rw [size_alloc'] at h
  exact h)
 have HF2 := h_ (HFA.out.alloc (.cells #[.string (⟨#[116,97,98,108,101]⟩ : BA)] 9))
 clear hl hop hd hsz hJ
 go_enter func83,ntmps83
 go_wp2_with fail
 refine (C0.out _ HF2.out).mono ?_
 rintro e w2 ⟨r0,rfl,ho0,hf0⟩
 have HO1 := h_ (HO.out.fr hf0)
 have HFF := h_ (HF2.out.trans hf0)
 have HS0 := h_ (OS.sl ho0)
 clear hf0 ho0 z0 z1 z2 z3 z4
 go_wp2_with fail
 refine (wrap_x ⟨#[40]⟩ ⟨#[41]⟩ r0 J _ HS0.out (by have := HSZ.out; omega)).mono ?_
 rintro e w3 ⟨r1,rfl,ho1,hf1⟩
 have HO2 := h_ (HO1.out.fr hf1)
 have HFG := h_ (HFF.out.trans hf1)
 have HS1 := h_ (OS.sl ho1)
 clear hf1 ho1
 go_wp2_with (with_reducible refine stop_append_s ?_)
 unfold StopS
 refine wpS_append (.tmp 201) (.tmp 205) rfl rfl _ _ [(⟨#[116,97,98,108,101]⟩ : BA)] ([(⟨#[40]⟩ : BA)] ++ J ++ [(⟨#[41]⟩ : BA)]) (by rfl) (by rfl) HO2.out HS1.out HFG.out (by have := HSZ.out; simp at this ⊢; omega) fun v3 x3 ho3 hf3 hg3 => ?_
 obtain ⟨a3,d3,rfl⟩ := own_formS ho3
 obtain ⟨n3,hn3⟩ : ∃ k,k = ([(⟨#[116,97,98,108,101]⟩ : BA)] ++ ([(⟨#[40]⟩ : BA)] ++ J ++ [(⟨#[41]⟩ : BA)])).length := ⟨_,rfl⟩
 rw [← hn3] at ho3 ⊢
 have HO3 := h_ ho3
 have HF3 := h_ hf3
 clear ho3 hf3 hg3 hn3
 go_wp2_with fail
 go_ret
 exact ⟨_,rfl,HO3.out,HF3.out⟩
theorem r_true (n : Nd) (hop : n.op = 3) : Rx 83 mk1 n (([(⟨#[116,114,117,101]⟩ : BA)] : List ByteArray)) := by
 intro w lv hl
 show Calls prog 83 #[ndV n lv] w _
 obtain ⟨la,lc,rfl,hlc,hlm,_⟩ := hl.form
 rw [ndV_eq]
 rw [hop]
 have HFA : Hid (Fr w (w.alloc (.cells #[.int .i64 3,.int .i64 n.n,.string n.s,.slice la n.l.length lc,.int .i64 n.a] 32))) := h_ ((Fr.refl w).alloc _)
 have HN := h_ (Nb.new w (.int .i64 3) (.int .i64 n.n) (.string n.s) (.slice la n.l.length lc) (.int .i64 n.a))
 obtain ⟨z0,z1,z2,z3,z4⟩ := HN.out.cells
 have HO : Hid (OS ((w.alloc (.cells #[.int .i64 3,.int .i64 n.n,.string n.s,.slice la n.l.length lc,.int .i64 n.a] 32)).alloc (.cells #[.string (⟨#[116,114,117,101]⟩ : BA)] 9)) w.heap.size (.slice (some ⟨w.heap.size + 1,0,none⟩) 1 1) [(⟨#[116,114,117,101]⟩ : BA)]) := h_ (by
  have h := (own_oneS (w.alloc (.cells #[.int .i64 3,.int .i64 n.n,.string n.s,.slice la n.l.length lc,.int .i64 n.a] 32)) (⟨#[116,114,117,101]⟩ : BA)).low (B' := w.heap.size) (by rw [size_alloc']; omega)
  rw [size_alloc'] at h
  exact h)
 have HF2 := h_ (HFA.out.alloc (.cells #[.string (⟨#[116,114,117,101]⟩ : BA)] 9))
 clear hl hop
 go_enter func83,ntmps83
 go_wp2_with fail
 go_ret
 exact ⟨_,rfl,HO.out,HF2.out⟩
theorem r_false (n : Nd) (hop : n.op = 4) : Rx 83 mk1 n (([(⟨#[102,97,108,115,101]⟩ : BA)] : List ByteArray)) := by
 intro w lv hl
 show Calls prog 83 #[ndV n lv] w _
 obtain ⟨la,lc,rfl,hlc,hlm,_⟩ := hl.form
 rw [ndV_eq]
 rw [hop]
 have HFA : Hid (Fr w (w.alloc (.cells #[.int .i64 4,.int .i64 n.n,.string n.s,.slice la n.l.length lc,.int .i64 n.a] 32))) := h_ ((Fr.refl w).alloc _)
 have HN := h_ (Nb.new w (.int .i64 4) (.int .i64 n.n) (.string n.s) (.slice la n.l.length lc) (.int .i64 n.a))
 obtain ⟨z0,z1,z2,z3,z4⟩ := HN.out.cells
 have HO : Hid (OS ((w.alloc (.cells #[.int .i64 4,.int .i64 n.n,.string n.s,.slice la n.l.length lc,.int .i64 n.a] 32)).alloc (.cells #[.string (⟨#[102,97,108,115,101]⟩ : BA)] 9)) w.heap.size (.slice (some ⟨w.heap.size + 1,0,none⟩) 1 1) [(⟨#[102,97,108,115,101]⟩ : BA)]) := h_ (by
  have h := (own_oneS (w.alloc (.cells #[.int .i64 4,.int .i64 n.n,.string n.s,.slice la n.l.length lc,.int .i64 n.a] 32)) (⟨#[102,97,108,115,101]⟩ : BA)).low (B' := w.heap.size) (by rw [size_alloc']; omega)
  rw [size_alloc'] at h
  exact h)
 have HF2 := h_ (HFA.out.alloc (.cells #[.string (⟨#[102,97,108,115,101]⟩ : BA)] 9))
 clear hl hop
 go_enter func83,ntmps83
 go_wp2_with fail
 go_ret
 exact ⟨_,rfl,HO.out,HF2.out⟩
theorem r_any (n : Nd) (hop : n.op = 5) : Rx 83 mk1 n (([(⟨#[63]⟩ : BA)] : List ByteArray)) := by
 intro w lv hl
 show Calls prog 83 #[ndV n lv] w _
 obtain ⟨la,lc,rfl,hlc,hlm,_⟩ := hl.form
 rw [ndV_eq]
 rw [hop]
 have HFA : Hid (Fr w (w.alloc (.cells #[.int .i64 5,.int .i64 n.n,.string n.s,.slice la n.l.length lc,.int .i64 n.a] 32))) := h_ ((Fr.refl w).alloc _)
 have HN := h_ (Nb.new w (.int .i64 5) (.int .i64 n.n) (.string n.s) (.slice la n.l.length lc) (.int .i64 n.a))
 obtain ⟨z0,z1,z2,z3,z4⟩ := HN.out.cells
 have HO : Hid (OS ((w.alloc (.cells #[.int .i64 5,.int .i64 n.n,.string n.s,.slice la n.l.length lc,.int .i64 n.a] 32)).alloc (.cells #[.string (⟨#[63]⟩ : BA)] 9)) w.heap.size (.slice (some ⟨w.heap.size + 1,0,none⟩) 1 1) [(⟨#[63]⟩ : BA)]) := h_ (by
  have h := (own_oneS (w.alloc (.cells #[.int .i64 5,.int .i64 n.n,.string n.s,.slice la n.l.length lc,.int .i64 n.a] 32)) (⟨#[63]⟩ : BA)).low (B' := w.heap.size) (by rw [size_alloc']; omega)
  rw [size_alloc'] at h
  exact h)
 have HF2 := h_ (HFA.out.alloc (.cells #[.string (⟨#[63]⟩ : BA)] 9))
 clear hl hop
 go_enter func83,ntmps83
 go_wp2_with fail
 go_ret
 exact ⟨_,rfl,HO.out,HF2.out⟩
theorem r_name (n : Nd) (hop : n.op = 6) : Rx 83 mk1 n (([n.s] : List ByteArray)) := by
 intro w lv hl
 show Calls prog 83 #[ndV n lv] w _
 obtain ⟨la,lc,rfl,hlc,hlm,_⟩ := hl.form
 rw [ndV_eq]
 rw [hop]
 have HFA : Hid (Fr w (w.alloc (.cells #[.int .i64 6,.int .i64 n.n,.string n.s,.slice la n.l.length lc,.int .i64 n.a] 32))) := h_ ((Fr.refl w).alloc _)
 have HN := h_ (Nb.new w (.int .i64 6) (.int .i64 n.n) (.string n.s) (.slice la n.l.length lc) (.int .i64 n.a))
 obtain ⟨z0,z1,z2,z3,z4⟩ := HN.out.cells
 have HO : Hid (OS ((w.alloc (.cells #[.int .i64 6,.int .i64 n.n,.string n.s,.slice la n.l.length lc,.int .i64 n.a] 32)).alloc (.cells #[.string n.s] 9)) w.heap.size (.slice (some ⟨w.heap.size + 1,0,none⟩) 1 1) [n.s]) := h_ (by
  have h := (own_oneS (w.alloc (.cells #[.int .i64 6,.int .i64 n.n,.string n.s,.slice la n.l.length lc,.int .i64 n.a] 32)) n.s).low (B' := w.heap.size) (by rw [size_alloc']; omega)
  rw [size_alloc'] at h
  exact h)
 have HF2 := h_ (HFA.out.alloc (.cells #[.string n.s] 9))
 clear hl hop
 go_enter func83,ntmps83
 go_wp2_with fail
 go_ret
 exact ⟨_,rfl,HO.out,HF2.out⟩
theorem r_break (n : Nd) (hop : n.op = 44) : Rx 86 mk1 n (([(⟨#[98,114,101,97,107]⟩ : BA)] : List ByteArray)) := by
 intro w lv hl
 show Calls prog 86 #[ndV n lv] w _
 obtain ⟨la,lc,rfl,hlc,hlm,_⟩ := hl.form
 rw [ndV_eq]
 rw [hop]
 have HFA : Hid (Fr w (w.alloc (.cells #[.int .i64 44,.int .i64 n.n,.string n.s,.slice la n.l.length lc,.int .i64 n.a] 32))) := h_ ((Fr.refl w).alloc _)
 have HN := h_ (Nb.new w (.int .i64 44) (.int .i64 n.n) (.string n.s) (.slice la n.l.length lc) (.int .i64 n.a))
 obtain ⟨z0,z1,z2,z3,z4⟩ := HN.out.cells
 clear hl hop
 go_enter func86,ntmps86
 go_wp2_with fail
 refine (one_x (⟨#[98,114,101,97,107]⟩ : BA) _).mono ?_
 rintro e w2 ⟨r0,rfl,ho0,hf0⟩
 have HO := h_ (ho0.low (B' := w.heap.size) HFA.out.size)
 have HF2 := h_ (HFA.out.trans hf0)
 clear ho0 hf0 z0 z1 z2 z3 z4
 go_wp2_with fail
 go_ret
 exact ⟨_,rfl,HO.out,HF2.out⟩
theorem r_loop (n : Nd) (hop : n.op = 45) : Rx 86 mk1 n (([(⟨#[108,111,111,112]⟩ : BA)] : List ByteArray)) := by
 intro w lv hl
 show Calls prog 86 #[ndV n lv] w _
 obtain ⟨la,lc,rfl,hlc,hlm,_⟩ := hl.form
 rw [ndV_eq]
 rw [hop]
 have HFA : Hid (Fr w (w.alloc (.cells #[.int .i64 45,.int .i64 n.n,.string n.s,.slice la n.l.length lc,.int .i64 n.a] 32))) := h_ ((Fr.refl w).alloc _)
 have HN := h_ (Nb.new w (.int .i64 45) (.int .i64 n.n) (.string n.s) (.slice la n.l.length lc) (.int .i64 n.a))
 obtain ⟨z0,z1,z2,z3,z4⟩ := HN.out.cells
 clear hl hop
 go_enter func86,ntmps86
 go_wp2_with fail
 refine (one_x (⟨#[108,111,111,112]⟩ : BA) _).mono ?_
 rintro e w2 ⟨r0,rfl,ho0,hf0⟩
 have HO := h_ (ho0.low (B' := w.heap.size) HFA.out.size)
 have HF2 := h_ (HFA.out.trans hf0)
 clear ho0 hf0 z0 z1 z2 z3 z4
 go_wp2_with fail
 go_ret
 exact ⟨_,rfl,HO.out,HF2.out⟩
theorem r_endcase (n : Nd) (hop : n.op = 46) : Rx 86 mk1 n (([(⟨#[101,110,100,99,97,115,101]⟩ : BA)] : List ByteArray)) := by
 intro w lv hl
 show Calls prog 86 #[ndV n lv] w _
 obtain ⟨la,lc,rfl,hlc,hlm,_⟩ := hl.form
 rw [ndV_eq]
 rw [hop]
 have HFA : Hid (Fr w (w.alloc (.cells #[.int .i64 46,.int .i64 n.n,.string n.s,.slice la n.l.length lc,.int .i64 n.a] 32))) := h_ ((Fr.refl w).alloc _)
 have HN := h_ (Nb.new w (.int .i64 46) (.int .i64 n.n) (.string n.s) (.slice la n.l.length lc) (.int .i64 n.a))
 obtain ⟨z0,z1,z2,z3,z4⟩ := HN.out.cells
 clear hl hop
 go_enter func86,ntmps86
 go_wp2_with fail
 refine (one_x (⟨#[101,110,100,99,97,115,101]⟩ : BA) _).mono ?_
 rintro e w2 ⟨r0,rfl,ho0,hf0⟩
 have HO := h_ (ho0.low (B' := w.heap.size) HFA.out.size)
 have HF2 := h_ (HFA.out.trans hf0)
 clear ho0 hf0 z0 z1 z2 z3 z4
 go_wp2_with fail
 go_ret
 exact ⟨_,rfl,HO.out,HF2.out⟩
theorem r_return (n : Nd) (hop : n.op = 47) : Rx 86 mk1 n (([(⟨#[114,101,116,117,114,110]⟩ : BA)] : List ByteArray)) := by
 intro w lv hl
 show Calls prog 86 #[ndV n lv] w _
 obtain ⟨la,lc,rfl,hlc,hlm,_⟩ := hl.form
 rw [ndV_eq]
 rw [hop]
 have HFA : Hid (Fr w (w.alloc (.cells #[.int .i64 47,.int .i64 n.n,.string n.s,.slice la n.l.length lc,.int .i64 n.a] 32))) := h_ ((Fr.refl w).alloc _)
 have HN := h_ (Nb.new w (.int .i64 47) (.int .i64 n.n) (.string n.s) (.slice la n.l.length lc) (.int .i64 n.a))
 obtain ⟨z0,z1,z2,z3,z4⟩ := HN.out.cells
 clear hl hop
 go_enter func86,ntmps86
 go_wp2_with fail
 refine (one_x (⟨#[114,101,116,117,114,110]⟩ : BA) _).mono ?_
 rintro e w2 ⟨r0,rfl,ho0,hf0⟩
 have HO := h_ (ho0.low (B' := w.heap.size) HFA.out.size)
 have HF2 := h_ (HFA.out.trans hf0)
 clear ho0 hf0 z0 z1 z2 z3 z4
 go_wp2_with fail
 go_ret
 exact ⟨_,rfl,HO.out,HF2.out⟩
theorem r_finish (n : Nd) (hop : n.op = 51) : Rx 86 mk1 n (([(⟨#[102,105,110,105,115,104]⟩ : BA)] : List ByteArray)) := by
 intro w lv hl
 show Calls prog 86 #[ndV n lv] w _
 obtain ⟨la,lc,rfl,hlc,hlm,_⟩ := hl.form
 rw [ndV_eq]
 rw [hop]
 have HFA : Hid (Fr w (w.alloc (.cells #[.int .i64 51,.int .i64 n.n,.string n.s,.slice la n.l.length lc,.int .i64 n.a] 32))) := h_ ((Fr.refl w).alloc _)
 have HN := h_ (Nb.new w (.int .i64 51) (.int .i64 n.n) (.string n.s) (.slice la n.l.length lc) (.int .i64 n.a))
 obtain ⟨z0,z1,z2,z3,z4⟩ := HN.out.cells
 clear hl hop
 go_enter func86,ntmps86
 go_wp2_with fail
 refine (one_x (⟨#[102,105,110,105,115,104]⟩ : BA) _).mono ?_
 rintro e w2 ⟨r0,rfl,ho0,hf0⟩
 have HO := h_ (ho0.low (B' := w.heap.size) HFA.out.size)
 have HF2 := h_ (HFA.out.trans hf0)
 clear ho0 hf0 z0 z1 z2 z3 z4
 go_wp2_with fail
 go_ret
 exact ⟨_,rfl,HO.out,HF2.out⟩
theorem r_goto (n : Nd) (hop : n.op = 49) : Rx 86 mk1 n (([(⟨#[103,111,116,111]⟩ : BA),n.s] : List ByteArray)) := by
 intro w lv hl
 show Calls prog 86 #[ndV n lv] w _
 obtain ⟨la,lc,rfl,hlc,hlm,_⟩ := hl.form
 rw [ndV_eq]
 rw [hop]
 have HFA : Hid (Fr w (w.alloc (.cells #[.int .i64 49,.int .i64 n.n,.string n.s,.slice la n.l.length lc,.int .i64 n.a] 32))) := h_ ((Fr.refl w).alloc _)
 have HN := h_ (Nb.new w (.int .i64 49) (.int .i64 n.n) (.string n.s) (.slice la n.l.length lc) (.int .i64 n.a))
 obtain ⟨z0,z1,z2,z3,z4⟩ := HN.out.cells
 have HO : Hid (OS ((w.alloc (.cells #[.int .i64 49,.int .i64 n.n,.string n.s,.slice la n.l.length lc,.int .i64 n.a] 32)).alloc (.cells #[.string (⟨#[103,111,116,111]⟩ : BA),.string n.s] 9)) w.heap.size (.slice (some ⟨w.heap.size + 1,0,none⟩) 2 2) [(⟨#[103,111,116,111]⟩ : BA),n.s]) := h_ (by
  have h := (own_twoS (w.alloc (.cells #[.int .i64 49,.int .i64 n.n,.string n.s,.slice la n.l.length lc,.int .i64 n.a] 32)) (⟨#[103,111,116,111]⟩ : BA) n.s).low (B' := w.heap.size) (by rw [size_alloc']; omega)
  rw [size_alloc'] at h
  exact h)
 have HF2 := h_ (HFA.out.alloc (.cells #[.string (⟨#[103,111,116,111]⟩ : BA),.string n.s] 9))
 clear hl hop
 go_enter func86,ntmps86
 go_wp2_with fail
 go_ret
 exact ⟨_,rfl,HO.out,HF2.out⟩
theorem r_ccall (n c0 : Nd) (A0 : List ByteArray) (hop : n.op = 31) (hnl : n.l = [c0]) (h0 : Rx 83 mk1 c0 A0) : Rx 86 mk1 n (A0) := by
 intro w lv hl
 show Calls prog 86 #[ndV n lv] w _
 obtain ⟨la,lc,rfl,hlc,hlm,_⟩ := hl.form
 rw [ndV_eq]
 obtain ⟨b,off,lv0,rfl,hc0,hl0,_⟩ := hl.at_ (i := 0) (t := c0) (by rw [hnl]; rfl)
 obtain ⟨a0,k0,rfl,_,_,_⟩ := hl0.form
 simp only [Nat.zero_mul,Nat.add_zero] at hc0
 have HNC0 := h_ hc0
 rw [show n.l.length = 1 from by rw [hnl]; rfl] at hlc ⊢
 rw [hop]
 have C0 := h_ (fun W (h : Fr w W) => h0 W _ (hl0.fr h))
 rw [ndV_eq] at C0
 unfold mk1 at C0
 have HFA : Hid (Fr w (w.alloc (.cells #[.int .i64 31,.int .i64 n.n,.string n.s,.slice (some ⟨b,off,none⟩) 1 lc,.int .i64 n.a] 32))) := h_ ((Fr.refl w).alloc _)
 have HN := h_ (Nb.new w (.int .i64 31) (.int .i64 n.n) (.string n.s) (.slice (some ⟨b,off,none⟩) 1 lc) (.int .i64 n.a))
 obtain ⟨z0,z1,z2,z3,z4⟩ := HN.out.cells
 obtain ⟨y0,y1,y2,y3,y4⟩ := HNC0.out.fr HFA.out
 clear hl hop hnl hl0 hc0 h0
 go_enter func86,ntmps86
 go_wp2_with fail
 refine (C0.out _ HFA.out).mono ?_
 rintro e w2 ⟨r0,rfl,ho0,hf0⟩
 have HO := h_ (ho0.low (B' := w.heap.size) HFA.out.size)
 have HF2 := h_ (HFA.out.trans hf0)
 clear ho0 hf0 z0 z1 z2 z3 z4 y0 y1 y2 y3 y4
 go_wp2_with fail
 go_ret
 exact ⟨_,rfl,HO.out,HF2.out⟩
theorem r_repeat (n c0 : Nd) (A0 : List ByteArray) (hop : n.op = 37) (hnl : n.l = [c0]) (h0 : Rx 86 mk1 c0 A0) (hsz : A0.length ≤ 1000000) : Rx 86 mk1 n (A0 ++ [(⟨#[114,101,112,101,97,116]⟩ : BA)]) := by
 intro w lv hl
 show Calls prog 86 #[ndV n lv] w _
 obtain ⟨la,lc,rfl,hlc,hlm,_⟩ := hl.form
 rw [ndV_eq]
 obtain ⟨b,off,lv0,rfl,hc0,hl0,_⟩ := hl.at_ (i := 0) (t := c0) (by rw [hnl]; rfl)
 obtain ⟨a0,k0,rfl,_,_,_⟩ := hl0.form
 simp only [Nat.zero_mul,Nat.add_zero] at hc0
 have HNC0 := h_ hc0
 rw [show n.l.length = 1 from by rw [hnl]; rfl] at hlc ⊢
 rw [hop]
 have C0 := h_ (fun W (h : Fr w W) => h0 W _ (hl0.fr h))
 rw [ndV_eq] at C0
 unfold mk1 at C0
 have HSZ := h_ hsz
 have HFA : Hid (Fr w (w.alloc (.cells #[.int .i64 37,.int .i64 n.n,.string n.s,.slice (some ⟨b,off,none⟩) 1 lc,.int .i64 n.a] 32))) := h_ ((Fr.refl w).alloc _)
 have HN := h_ (Nb.new w (.int .i64 37) (.int .i64 n.n) (.string n.s) (.slice (some ⟨b,off,none⟩) 1 lc) (.int .i64 n.a))
 obtain ⟨z0,z1,z2,z3,z4⟩ := HN.out.cells
 obtain ⟨y0,y1,y2,y3,y4⟩ := HNC0.out.fr HFA.out
 clear hl hop hnl hl0 hc0 h0 hsz
 go_enter func86,ntmps86
 go_wp2_with fail
 refine (C0.out _ HFA.out).mono ?_
 rintro e w2 ⟨r0,rfl,ho0,hf0⟩
 have HO := h_ ((ho0.low (B' := w.heap.size) HFA.out.size).fr ((Fr.refl w2).alloc (.cells #[.string (⟨#[114,101,112,101,97,116]⟩ : BA)] 9)))
 have HF2 := h_ ((HFA.out.trans hf0).alloc (.cells #[.string (⟨#[114,101,112,101,97,116]⟩ : BA)] 9))
 have HS0 := h_ (OS.sl (own_oneS w2 (⟨#[114,101,112,101,97,116]⟩ : BA)))
 clear ho0 hf0 z0 z1 z2 z3 z4 y0 y1 y2 y3 y4
 go_wp2_with (with_reducible refine stop_append_s ?_)
 unfold StopS
 refine wpS_append (.tmp 122) (.tmp 123) rfl rfl _ _ A0 [(⟨#[114,101,112,101,97,116]⟩ : BA)] (by rfl) (by rfl) HO.out HS0.out HF2.out (by have := HSZ.out; simp at this ⊢; omega) fun v3 x3 ho3 hf3 hg3 => ?_
 obtain ⟨a3,d3,rfl⟩ := own_formS ho3
 obtain ⟨n3,hn3⟩ : ∃ k,k = (A0 ++ [(⟨#[114,101,112,101,97,116]⟩ : BA)]).length := ⟨_,rfl⟩
 rw [← hn3] at ho3 ⊢
 have HO3 := h_ ho3
 have HF3 := h_ hf3
 clear ho3 hf3 hg3 hn3
 go_wp2_with fail
 go_ret
 exact ⟨_,rfl,HO3.out,HF3.out⟩
theorem r_slct (n : Nd) (tk : Nd → List ByteArray) (hop : n.op = 18) (hd : ∀ x ∈ n.l,Rx 83 mk1 x (tk x)) (hsz : (joinT ⟨#[44]⟩ (n.l.map tk)).length ≤ 1000000) : Rx 83 mk1 n ([(⟨#[115,108,99,116]⟩ : BA)] ++ ([⟨#[40]⟩] ++ joinT ⟨#[44]⟩ (n.l.map tk) ++ [⟨#[41]⟩])) := by
 intro w lv hl
 show Calls prog 83 #[ndV n lv] w _
 obtain ⟨la,lc,rfl,hlc,hlm,_⟩ := hl.form
 rw [ndV_eq]
 have C0 := h_ (fun W (h : Fr w W) => rlisted_x n.l tk _ W (hl.fr h) hd hsz)
 rw [hop]
 obtain ⟨J,hJ⟩ : ∃ J,J = joinT ⟨#[44]⟩ (n.l.map tk) := ⟨_,rfl⟩
 rw [← hJ] at C0 hsz ⊢
 have HSZ := h_ hsz
 have HFA : Hid (Fr w (w.alloc (.cells #[.int .i64 18,.int .i64 n.n,.string n.s,.slice la n.l.length lc,.int .i64 n.a] 32))) := h_ ((Fr.refl w).alloc _)
 have HN := h_ (Nb.new w (.int .i64 18) (.int .i64 n.n) (.string n.s) (.slice la n.l.length lc) (.int .i64 n.a))
 obtain ⟨z0,z1,z2,z3,z4⟩ := HN.out.cells
 have HO : Hid (OS ((w.alloc (.cells #[.int .i64 18,.int .i64 n.n,.string n.s,.slice la n.l.length lc,.int .i64 n.a] 32)).alloc (.cells #[.string (⟨#[115,108,99,116]⟩ : BA)] 9)) w.heap.size (.slice (some ⟨w.heap.size + 1,0,none⟩) 1 1) [(⟨#[115,108,99,116]⟩ : BA)]) := h_ (by
  have h := (own_oneS (w.alloc (.cells #[.int .i64 18,.int .i64 n.n,.string n.s,.slice la n.l.length lc,.int .i64 n.a] 32)) (⟨#[115,108,99,116]⟩ : BA)).low (B' := w.heap.size) (by rw [size_alloc']; omega)
  rw [size_alloc'] at h
  exact h)
 have HF2 := h_ (HFA.out.alloc (.cells #[.string (⟨#[115,108,99,116]⟩ : BA)] 9))
 clear hl hop hd hsz hJ
 go_enter func83,ntmps83
 go_wp2_with fail
 refine (C0.out _ HF2.out).mono ?_
 rintro e w2 ⟨r0,rfl,ho0,hf0⟩
 have HO1 := h_ (HO.out.fr hf0)
 have HFF := h_ (HF2.out.trans hf0)
 have HS0 := h_ (OS.sl ho0)
 clear hf0 ho0 z0 z1 z2 z3 z4
 go_wp2_with fail
 refine (wrap_x ⟨#[40]⟩ ⟨#[41]⟩ r0 J _ HS0.out (by have := HSZ.out; omega)).mono ?_
 rintro e w3 ⟨r1,rfl,ho1,hf1⟩
 have HO2 := h_ (HO1.out.fr hf1)
 have HFG := h_ (HFF.out.trans hf1)
 have HS1 := h_ (OS.sl ho1)
 clear hf1 ho1
 go_wp2_with (with_reducible refine stop_append_s ?_)
 unfold StopS
 refine wpS_append (.tmp 207) (.tmp 211) rfl rfl _ _ [(⟨#[115,108,99,116]⟩ : BA)] ([(⟨#[40]⟩ : BA)] ++ J ++ [(⟨#[41]⟩ : BA)]) (by rfl) (by rfl) HO2.out HS1.out HFG.out (by have := HSZ.out; simp at this ⊢; omega) fun v3 x3 ho3 hf3 hg3 => ?_
 obtain ⟨a3,d3,rfl⟩ := own_formS ho3
 obtain ⟨n3,hn3⟩ : ∃ k,k = ([(⟨#[115,108,99,116]⟩ : BA)] ++ ([(⟨#[40]⟩ : BA)] ++ J ++ [(⟨#[41]⟩ : BA)])).length := ⟨_,rfl⟩
 rw [← hn3] at ho3 ⊢
 have HO3 := h_ ho3
 have HF3 := h_ hf3
 clear ho3 hf3 hg3 hn3
 go_wp2_with fail
 go_ret
 exact ⟨_,rfl,HO3.out,HF3.out⟩
theorem r_null (n : Nd) (hop : n.op = 53) : Rx 86 mk1 n (([] : List ByteArray)) := by
 intro w lv hl
 show Calls prog 86 #[ndV n lv] w _
 obtain ⟨la,lc,rfl,hlc,hlm,_⟩ := hl.form
 rw [ndV_eq]
 rw [hop]
 have HFA : Hid (Fr w (w.alloc (.cells #[.int .i64 53,.int .i64 n.n,.string n.s,.slice la n.l.length lc,.int .i64 n.a] 32))) := h_ ((Fr.refl w).alloc _)
 have HN := h_ (Nb.new w (.int .i64 53) (.int .i64 n.n) (.string n.s) (.slice la n.l.length lc) (.int .i64 n.a))
 obtain ⟨z0,z1,z2,z3,z4⟩ := HN.out.cells
 have HO : Hid (OS (w.alloc (.cells #[.int .i64 53,.int .i64 n.n,.string n.s,.slice la n.l.length lc,.int .i64 n.a] 32)) w.heap.size (.slice none 0 0) []) := h_ (World.ownsRow_nil _ _ _ _)
 clear hl hop
 go_enter func86,ntmps86
 go_wp2_with fail
 go_ret
 exact ⟨_,rfl,HO.out,HFA.out⟩
end Go.Proofs.YtbaelbafhdjlnaaGreatDoor
