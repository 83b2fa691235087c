/- The machine: a procedure is entered; the first step. -/
import Derived.Test.YtdnckbcknahakaaGreatSC
import Derived.Deep.RegionHeld3
namespace Go.Proofs.YtdnckbcknahakaaGreat
open Go.RowKit
set_option linter.unusedVariables false
set_option linter.unusedSimpArgs false

/-- The blocks that a call of a procedure writes to. -/
def Kc (b mb cb : Nat) (k : Nat) : Prop := k = b ∨ k = mb ∨ k = cb
theorem MaR.fr {w w' : World} {b : Nat} {s : Sm} (h : MaR w b s) (k : Fr w w') : MaR w' b s := Blk.fr h k
theorem MaR.ex {X : Nat → Prop} {w w' : World} {b : Nat} {s : Sm} (h : MaR w b s) (k : Ex X w w') (hx : ¬ X b) : MaR w' b s := Blk.ex h k hx
theorem MaR.far {w : World} {b : Nat} {s : Sm} (h : MaR w b s) {p : Addr} (hp : b ≠ p.block) (v : Value) : MaR (w.setCell p v) b s := Blk.far h hp v
set_option maxRecDepth 100000 in
set_option maxHeartbeats 4000000 in
theorem enter_first (pb eb L ec qb NR rc : Nat) (bv arv opv pav : Value) (s : Sm) (b rb cb NC p A R : Nat) (P0 : Int) (last : Int) (cov firstv fv uv x0 x1 x2 parv : Value) (fq fe fc f : Nat → Value) (w : World) (hp : Blk w pb 92 #[.int .i64 16, bv, arv, opv, pav, .slice (some ⟨eb, 0, none⟩) L ec, .slice (some ⟨qb, 0, none⟩) NR rc]) (hm : MaR w b s) (hpb : s.pb = pb) (hrb : s.rb = rb) (hcd : s.cd = .slice (some ⟨cb, 0, none⟩) NC NC) (hr : Blk w rb 98 #[cov, firstv, .int .i64 last, fv, uv, x0, x1, x2, parv]) (hq : Arr w qb 3 rc fq) (hR : fq p = .int .i64 (R : Int)) (he : Arr w eb 3 ec fe) (hE : fe p = .int .i64 P0) (hc : Arr w cb 4 NC fc) (hf : Arr w s.mb 88 32000 f)
    (h0 : p < NR) (h1 : NR ≤ rc) (h2 : R ≤ 100000) (h3 : A + 1 < 32000) (h4 : (A : Int) + R - 1 ≤ last) (h5 : p ≤ 100000) (h6 : p < L) (h7 : L ≤ ec) (h8 : 1 ≤ p) (h9 : p ≤ NC) (d1 : b ≠ s.mb) (d2 : b ≠ cb) (d3 : s.mb ≠ cb) (d4 : pb ≠ s.mb) (d5 : pb ≠ b) (d6 : eb ≠ s.mb) (d7 : eb ≠ b) :
    Calls Tryz.prog 94 #[.pointer (some ⟨b, 0, none⟩), .int .i64 (p : Int), .int .i64 (A : Int), .int .i64 (A : Int), .int .i64 (-1)] w fun e w' => e = .returned (.int .i64 0) ∧ MaR w' b { s with fr := (A : Int), dp := 0, pl := P0 } ∧ Arr w' s.mb 88 32000 (upd (upd f A (.int .i64 (A : Int))) (A + 1) (.int .i64 (-1))) ∧ Arr w' cb 4 NC (upd fc (p - 1) (.bool true)) ∧ Ex (Kc b s.mb cb) w w' := by
  obtain ⟨pb', fr, dp, pl, mb, hp', gv, rb', rt, kp, inp, oa, ob, st, en, r0, r1, r2, r3, r4, bg, cd⟩ := s
  simp only at hpb hrb hcd d1 d3 d4 d6 hf
  subst hpb hrb hcd
  have CF := Lib.hid (fits_yes pb' eb L ec qb NR rc bv arv opv pav _ b rb' p A R last cov firstv fv uv x0 x1 x2 parv fq w hp hm rfl hr hq hR h0 h1 h2 (by omega) h4 h5)
  have CN := Lib.hid (fun W (h : Fr w W) => pnorm_m1 pb' eb L ec qb NR rc bv arv opv pav W (hp.fr h))
  obtain ⟨k0, k1, k2, k3, k4, k5, k6, k7⟩ := hm.cells
  simp only at k0 k1 k2 k3 k4 k5 k6 k7
  have HM := Lib.hid hm
  have HP := Lib.hid hp
  have HF := Lib.hid hf
  have HC := Lib.hid hc
  have HE := Lib.hid he
  have HPE := Lib.hid hE
  have HB : Hid (A + 1 < 32000 ∧ p < L ∧ L ≤ ec ∧ 1 ≤ p ∧ p ≤ NC ∧ p ≤ 100000) := Lib.hid ⟨h3, h6, h7, h8, h9, h5⟩
  clear hm hp hr hq hR he hE hc hf h0 h1 h2 h3 h4 h5 h6 h7 h8 h9
  go_enter Tryz.func94, Tryz.ntmps94
  go_wp2_with fail
  refine (CF.out).mono ?_
  rintro e w1 ⟨rfl, m1, rfl⟩
  have HF1 : Hid (Fr w (w.drewN m1)) := Lib.hid ((Fr.refl w).drewN m1)
  go_wp2_with fail
  obtain ⟨w1, hw1⟩ : ∃ y, y = w.drewN m1 := ⟨_, rfl⟩
  rw [← hw1] at HF1 ⊢
  have HW1 := Lib.hid hw1
  clear hw1 k0 k1 k2 k3 k4 k5 k6 k7
  obtain ⟨k0, k1, k2, k3, k4, k5, k6, k7⟩ := (HM.out.fr (HF1.out.trans (Fr.refl w1).drew)).cells
  simp only at k0 k1 k2 k3 k4 k5 k6 k7
  have a0 := (HF.out.fr (HF1.out.trans (Fr.refl w1).drew)).cell (show A < 32000 by have := HB.out; omega)
  have a1 := (HF.out.fr (HF1.out.trans (Fr.refl w1).drew)).cell (show A + 1 < 32000 by have := HB.out; omega)
  have f0 := (HF.out.fr (HF1.out.trans (Fr.refl w1).drew)).free A
  have f1 := (HF.out.fr (HF1.out.trans (Fr.refl w1).drew)).free (A + 1)
  have Z1 : Hid (IntKind.i64.wrap ((A : Int) + 1) = (A : Int) + 1) := Lib.hid (wr rfl (by have := HB.out; omega) (by have := HB.out; omega))
  have z2 : (0 : Int) ≤ (A : Int) := by omega
  have z3 : (A : Int) < 32000 := by have := HB.out; omega
  have z4 : (A : Int) + 1 < 32000 := by have := HB.out; omega
  have z5 : (0 : Int) ≤ (A : Int) + 1 := by omega
  have z6 : ((A : Int) + 1).toNat = A + 1 := by omega
  have z1 := Z1.out
  refine wp_region_held_drew (S := fun W' => W'.cell? ⟨b, 0, none⟩ = some (.pointer (some ⟨pb', 0, none⟩)) ∧ W'.cell? ⟨b, 4, none⟩ = some (.pointer (some ⟨mb, 0, none⟩))) (by kernel_rfl) ⟨k0, k4⟩ (fun hHeld => ?_)
  refine wpAnyH_take (i := 0) (v := ?_) rfl (by kernel_rfl) (by kernel_rfl) (by kernel_rfl) (fun _ _ _ h => h) (Or.inl ⟨by rfl, ?_⟩) (by assumption) ?_
  rotate_left
  · intro W' hSw
    obtain ⟨s0, s1⟩ := hSw
    go_simp
    try with_reducible rfl
  try simp only [Act.put, List.getElem_toArray, List.getElem_cons_zero, List.getElem_cons_succ, List.setIfInBounds_toArray, List.set_cons_zero, List.set_cons_succ]
  refine wpAnyH_take (i := 1) (v := ?_) rfl (by kernel_rfl) (by kernel_rfl) (by kernel_rfl) (fun _ _ _ h => h) (Or.inl ⟨by rfl, ?_⟩) (by assumption) ?_
  rotate_left
  · intro W' hSw
    obtain ⟨s0, s1⟩ := hSw
    go_simp
    try with_reducible rfl
  try simp only [Act.put, List.getElem_toArray, List.getElem_cons_zero, List.getElem_cons_succ, List.setIfInBounds_toArray, List.set_cons_zero, List.set_cons_succ]
  refine wpAnyH_take (i := 2) (v := ?_) rfl (by kernel_rfl) (by kernel_rfl) (by kernel_rfl) (fun _ _ _ h => h) (Or.inl ⟨by rfl, ?_⟩) (by assumption) ?_
  rotate_left
  · intro W' hSw
    obtain ⟨s0, s1⟩ := hSw
    go_simp
    try with_reducible rfl
  try simp only [Act.put, List.getElem_toArray, List.getElem_cons_zero, List.getElem_cons_succ, List.setIfInBounds_toArray, List.set_cons_zero, List.set_cons_succ]
  refine wpAnyH_take (i := 3) (v := ?_) rfl (by kernel_rfl) (by kernel_rfl) (by kernel_rfl) (fun _ _ _ h => h) (Or.inl ⟨by rfl, ?_⟩) (by assumption) ?_
  rotate_left
  · intro W' hSw
    obtain ⟨s0, s1⟩ := hSw
    go_simp
    try with_reducible rfl
  try simp only [Act.put, List.getElem_toArray, List.getElem_cons_zero, List.getElem_cons_succ, List.setIfInBounds_toArray, List.set_cons_zero, List.set_cons_succ]
  refine wpAnyH_take (i := 4) (v := ?_) rfl (by kernel_rfl) (by kernel_rfl) (by kernel_rfl) (fun _ _ _ h => h) (Or.inl ⟨by rfl, ?_⟩) (by assumption) ?_
  rotate_left
  · intro W' hSw
    obtain ⟨s0, s1⟩ := hSw
    go_simp
    try with_reducible rfl
  try simp only [Act.put, List.getElem_toArray, List.getElem_cons_zero, List.getElem_cons_succ, List.setIfInBounds_toArray, List.set_cons_zero, List.set_cons_succ]
  refine wpAnyH_take (i := 5) (v := ?_) rfl (by kernel_rfl) (by kernel_rfl) (by kernel_rfl) (fun _ _ _ h => h) (Or.inl ⟨by rfl, ?_⟩) (by assumption) ?_
  rotate_left
  · intro W' hSw
    obtain ⟨s0, s1⟩ := hSw
    go_simp
    try with_reducible rfl
  try simp only [Act.put, List.getElem_toArray, List.getElem_cons_zero, List.getElem_cons_succ, List.setIfInBounds_toArray, List.set_cons_zero, List.set_cons_succ]
  refine wpAnyH_take (i := 6) (v := ?_) rfl (by kernel_rfl) (by kernel_rfl) (by kernel_rfl) (fun _ _ _ h => h) (Or.inl ⟨by rfl, ?_⟩) (by assumption) ?_
  rotate_left
  · intro W' hSw
    obtain ⟨s0, s1⟩ := hSw
    go_simp
    try with_reducible rfl
  try simp only [Act.put, List.getElem_toArray, List.getElem_cons_zero, List.getElem_cons_succ, List.setIfInBounds_toArray, List.set_cons_zero, List.set_cons_succ]
  refine wpAnyH_take (i := 7) (v := ?_) rfl (by kernel_rfl) (by kernel_rfl) (by kernel_rfl) (fun _ _ _ h => h) (Or.inl ⟨by rfl, ?_⟩) (by assumption) ?_
  rotate_left
  · intro W' hSw
    obtain ⟨s0, s1⟩ := hSw
    go_simp
    try with_reducible rfl
  try simp only [Act.put, List.getElem_toArray, List.getElem_cons_zero, List.getElem_cons_succ, List.setIfInBounds_toArray, List.set_cons_zero, List.set_cons_succ]
  refine wpAnyH_take (i := 8) (v := ?_) rfl (by kernel_rfl) (by kernel_rfl) (by kernel_rfl) (fun _ _ _ h => h) (Or.inl ⟨by rfl, ?_⟩) (by assumption) ?_
  rotate_left
  · intro W' hSw
    obtain ⟨s0, s1⟩ := hSw
    go_simp
    try with_reducible rfl
  try simp only [Act.put, List.getElem_toArray, List.getElem_cons_zero, List.getElem_cons_succ, List.setIfInBounds_toArray, List.set_cons_zero, List.set_cons_succ]
  refine wpAnyH_take (i := 9) (v := ?_) rfl (by kernel_rfl) (by kernel_rfl) (by kernel_rfl) (fun _ _ _ h => h) (Or.inl ⟨by rfl, ?_⟩) (by assumption) ?_
  rotate_left
  · intro W' hSw
    obtain ⟨s0, s1⟩ := hSw
    go_simp
    try with_reducible rfl
  try simp only [Act.put, List.getElem_toArray, List.getElem_cons_zero, List.getElem_cons_succ, List.setIfInBounds_toArray, List.set_cons_zero, List.set_cons_succ]
  refine wpAnyH_take (i := 10) (v := ?_) rfl (by kernel_rfl) (by kernel_rfl) (by kernel_rfl) (fun _ _ _ h => h) (Or.inl ⟨by rfl, ?_⟩) (by assumption) ?_
  rotate_left
  · intro W' hSw
    obtain ⟨s0, s1⟩ := hSw
    go_simp
    try with_reducible rfl
  try simp only [Act.put, List.getElem_toArray, List.getElem_cons_zero, List.getElem_cons_succ, List.setIfInBounds_toArray, List.set_cons_zero, List.set_cons_succ]
  refine wpAnyH_take (i := 11) (v := ?_) rfl (by kernel_rfl) (by kernel_rfl) (by kernel_rfl) (fun _ _ _ h => h) (Or.inl ⟨by rfl, ?_⟩) (by assumption) ?_
  rotate_left
  · intro W' hSw
    obtain ⟨s0, s1⟩ := hSw
    go_simp
    try with_reducible rfl
  try simp only [Act.put, List.getElem_toArray, List.getElem_cons_zero, List.getElem_cons_succ, List.setIfInBounds_toArray, List.set_cons_zero, List.set_cons_succ]
  refine wpAnyH_take (i := 12) (v := ?_) rfl (by kernel_rfl) (by kernel_rfl) (by kernel_rfl) (fun _ _ _ h => h) (Or.inl ⟨by rfl, ?_⟩) (by assumption) ?_
  rotate_left
  · intro W' hSw
    obtain ⟨s0, s1⟩ := hSw
    go_simp
    try with_reducible rfl
  try simp only [Act.put, List.getElem_toArray, List.getElem_cons_zero, List.getElem_cons_succ, List.setIfInBounds_toArray, List.set_cons_zero, List.set_cons_succ]
  refine wpAnyH_take (i := 13) (v := ?_) rfl (by kernel_rfl) (by kernel_rfl) (by kernel_rfl) (fun _ _ _ h => h) (Or.inl ⟨by rfl, ?_⟩) (by assumption) ?_
  rotate_left
  · intro W' hSw
    obtain ⟨s0, s1⟩ := hSw
    go_simp
    try with_reducible rfl
  try simp only [Act.put, List.getElem_toArray, List.getElem_cons_zero, List.getElem_cons_succ, List.setIfInBounds_toArray, List.set_cons_zero, List.set_cons_succ]
  refine wpAnyH_take (i := 14) (v := ?_) rfl (by kernel_rfl) (by kernel_rfl) (by kernel_rfl) (fun _ _ _ h => h) (Or.inl ⟨by rfl, ?_⟩) (by assumption) ?_
  rotate_left
  · intro W' hSw
    obtain ⟨s0, s1⟩ := hSw
    go_simp
    try with_reducible rfl
  try simp only [Act.put, List.getElem_toArray, List.getElem_cons_zero, List.getElem_cons_succ, List.setIfInBounds_toArray, List.set_cons_zero, List.set_cons_succ]
  refine wpAnyH_take (i := 15) (v := ?_) rfl (by kernel_rfl) (by kernel_rfl) (by kernel_rfl) (fun _ _ _ h => h) (Or.inl ⟨by rfl, ?_⟩) (by assumption) ?_
  rotate_left
  · intro W' hSw
    obtain ⟨s0, s1⟩ := hSw
    go_simp
    try with_reducible rfl
  try simp only [Act.put, List.getElem_toArray, List.getElem_cons_zero, List.getElem_cons_succ, List.setIfInBounds_toArray, List.set_cons_zero, List.set_cons_succ]
  refine wpAnyH_take (i := 16) (v := ?_) rfl (by kernel_rfl) (by kernel_rfl) (by kernel_rfl) (fun _ _ _ h => h) (Or.inl ⟨by rfl, ?_⟩) (by assumption) ?_
  rotate_left
  · intro W' hSw
    obtain ⟨s0, s1⟩ := hSw
    go_simp
    try with_reducible rfl
  try simp only [Act.put, List.getElem_toArray, List.getElem_cons_zero, List.getElem_cons_succ, List.setIfInBounds_toArray, List.set_cons_zero, List.set_cons_succ]
  refine wpAnyH_take (i := 18) (v := ?_) rfl (by kernel_rfl) (by kernel_rfl) (by kernel_rfl) (fun _ _ _ h => h) (Or.inl ⟨by rfl, ?_⟩) (by assumption) ?_
  rotate_left
  · intro W' hSw
    obtain ⟨s0, s1⟩ := hSw
    go_simp
    try with_reducible rfl
  try simp only [Act.put, List.getElem_toArray, List.getElem_cons_zero, List.getElem_cons_succ, List.setIfInBounds_toArray, List.set_cons_zero, List.set_cons_succ]
  refine wpAnyH_take (i := 21) (v := ?_) rfl (by kernel_rfl) (by kernel_rfl) (by kernel_rfl) (fun _ _ _ h => h) (Or.inl ⟨by rfl, ?_⟩) (by assumption) ?_
  rotate_left
  · intro W' hSw
    obtain ⟨s0, s1⟩ := hSw
    go_simp
    try with_reducible rfl
  try simp only [Act.put, List.getElem_toArray, List.getElem_cons_zero, List.getElem_cons_succ, List.setIfInBounds_toArray, List.set_cons_zero, List.set_cons_succ]
  refine wpAnyH_ready (rs := [17]) (by kernel_rfl) (by simp) (AllReadyH.cons rfl (fun K hK => ?_) AllReadyH.nil)
  go_simp
  refine (CN.out _ (HF1.out.trans (Fr.refl w1).drew)).mono ?_
  rintro e w2 ⟨rfl, rfl⟩
  refine hK.out _ _ (⟨k0, k4⟩) (fun hHeld => ?_)
  clear hK K
  try simp only [Act.put, List.getElem_toArray, List.getElem_cons_zero, List.getElem_cons_succ, List.setIfInBounds_toArray, List.set_cons_zero, List.set_cons_succ]
  refine wpAnyH_take (i := 19) (v := ?_) rfl (by kernel_rfl) (by kernel_rfl) (by kernel_rfl) (fun _ _ _ h => h) (Or.inl ⟨by rfl, ?_⟩) (by assumption) ?_
  rotate_left
  · intro W' hSw
    obtain ⟨s0, s1⟩ := hSw
    go_simp
    try with_reducible rfl
  try simp only [Act.put, List.getElem_toArray, List.getElem_cons_zero, List.getElem_cons_succ, List.setIfInBounds_toArray, List.set_cons_zero, List.set_cons_succ]
  have HW2 : Hid (Fr w w1.drew) := Lib.hid (HF1.out.trans (Fr.refl w1).drew)
  obtain ⟨wa, hwa⟩ : ∃ y, y = w1.drew := ⟨_, rfl⟩
  have HM2 : Hid (MaR wa b _) := Lib.hid (by rw [hwa]; exact HM.out.fr HW2.out)
  have HF2 := Lib.hid (HF.out.fr HW2.out)
  have HC2 := Lib.hid (HC.out.fr HW2.out)
  rw [← hwa] at HF2 HC2 HW2 ⊢
  rw [← hwa] at k0 k1 k2 k3 k4 k5 k6 k7 a0 a1 f0 f1
  clear hwa
  refine wpAnyH_ready (rs := [20]) (by kernel_rfl) (by simp) (AllReadyH.cons rfl (fun K hK => ?_) AllReadyH.nil)
  go_simp
  refine hK.out _ _ (by constructor <;> first | exact MaR.cells (HM2.out.far d1 _) |>.1 | exact MaR.cells (HM2.out.far d1 _) |>.2.2.2.2.1) (fun hHeld => ?_)
  clear hK K
  try simp only [Act.put, List.getElem_toArray, List.getElem_cons_zero, List.getElem_cons_succ, List.setIfInBounds_toArray, List.set_cons_zero, List.set_cons_succ]
  refine wpAnyH_take (i := 22) (v := ?_) rfl (by kernel_rfl) (by kernel_rfl) (by kernel_rfl) (fun _ _ _ h => h) (Or.inl ⟨by rfl, ?_⟩) (by assumption) ?_
  rotate_left
  · intro W' hSw
    obtain ⟨s0, s1⟩ := hSw
    go_simp
    try with_reducible rfl
  try simp only [Act.put, List.getElem_toArray, List.getElem_cons_zero, List.getElem_cons_succ, List.setIfInBounds_toArray, List.set_cons_zero, List.set_cons_succ]
  obtain ⟨wb, hwb⟩ : ∃ y, y = wa.setCell ⟨mb, A, none⟩ (.int .i64 (A : Int)) := ⟨_, rfl⟩
  have HM3 : Hid (MaR wb b _) := Lib.hid (by rw [hwb]; exact HM2.out.far d1 _)
  have HF3 := Lib.hid (HF2.out.set (show A < 32000 by have := HB.out; omega) (.int .i64 (A : Int)))
  have HC3 : Hid (Arr wb cb _ _ _) := Lib.hid (by rw [hwb]; exact HC2.out.far (fun e => d3 e.symm) _)
  have HP3 : Hid (Blk wb pb' _ _) := Lib.hid (by rw [hwb]; exact (HP.out.fr HW2.out).far d4 _)
  have HE3 : Hid (Arr wb eb _ _ _) := Lib.hid (by rw [hwb]; exact (HE.out.fr HW2.out).far d6 _)
  have HX3 : Hid (Ex (Kc b mb cb) w wb) := Lib.hid (by rw [hwb]; exact (Fr.ex HW2.out).set (Or.inr (Or.inl rfl)) _)
  rw [← hwb] at HF3 ⊢
  clear hwb k0 k1 k2 k3 k4 k5 k6 k7 a0 a1 f0 f1
  have a1 := HF3.out.cell (show A + 1 < 32000 by have := HB.out; omega)
  have f1 := HF3.out.free (A + 1)
  refine wpAnyH_ready (rs := [23]) (by kernel_rfl) (by simp) (AllReadyH.cons rfl (fun K hK => ?_) AllReadyH.nil)
  go_simp
  refine hK.out _ _ (by constructor <;> first | exact MaR.cells (HM3.out.far d1 _) |>.1 | exact MaR.cells (HM3.out.far d1 _) |>.2.2.2.2.1) (fun hHeld => ?_)
  clear hK K
  try simp only [Act.put, List.getElem_toArray, List.getElem_cons_zero, List.getElem_cons_succ, List.setIfInBounds_toArray, List.set_cons_zero, List.set_cons_succ]
  refine wpAnyH_done (by kernel_rfl) ?_ _
  obtain ⟨wc, hwc⟩ : ∃ y, y = wb.setCell ⟨mb, A + 1, none⟩ (.int .i64 (-1)) := ⟨_, rfl⟩
  have HM4 : Hid (MaR wc b _) := Lib.hid (by rw [hwc]; exact HM3.out.far d1 _)
  have HF4 := Lib.hid (HF3.out.set (show A + 1 < 32000 by have := HB.out; omega) (.int .i64 (-1)))
  have HC4 : Hid (Arr wc cb _ _ _) := Lib.hid (by rw [hwc]; exact HC3.out.far (fun e => d3 e.symm) _)
  have HP4 : Hid (Blk wc pb' _ _) := Lib.hid (by rw [hwc]; exact HP3.out.far d4 _)
  have HE4 : Hid (Arr wc eb _ _ _) := Lib.hid (by rw [hwc]; exact HE3.out.far d6 _)
  have HX4 : Hid (Ex (Kc b mb cb) w wc) := Lib.hid (by rw [hwc]; exact HX3.out.set (Or.inr (Or.inl rfl)) _)
  rw [← hwc] at HF4 ⊢
  clear hwc a1 f1 z1 z2 z3 z4 z5 z6
  obtain ⟨k0, k1, k2, k3, k4, k5, k6, k7⟩ := HM4.out.cells
  simp only at k0 k1 k2 k3 k4 k5 k6 k7
  have k21 : wc.cell? ⟨b, 21, none⟩ = some (.slice (some ⟨cb, 0, none⟩) NC NC) := Blk.cell (i := 21) HM4.out rfl
  have g1 := Blk.free HM4.out 1
  have g2 := Blk.free HM4.out 2
  have g3 := Blk.free HM4.out 3
  have p5 := HP4.out.cell (i := 5) rfl
  have e1 := HE4.out.cell (show p < ec by have := HB.out; omega)
  rw [HPE.out] at e1
  have c1 := HC4.out.cell (show p - 1 < NC by have := HB.out; omega)
  have c2 := HC4.out.free (p - 1)
  have z1 : (0 : Int) ≤ (p : Int) := by omega
  have z2 : (p : Int) < (L : Int) := by have := HB.out; omega
  obtain ⟨q, hq⟩ : ∃ q : Nat, q = p - 1 := ⟨_, rfl⟩
  rw [← hq] at c1 c2
  have HQQ := Lib.hid hq
  have Z3 : Hid (IntKind.i64.wrap ((p : Int) - 1) = (q : Int)) := Lib.hid (wr (by have := HB.out; omega) (by omega) (by have := HB.out; omega))
  have z4 : (0 : Int) ≤ (q : Int) := by omega
  have z5 : (q : Int) < (NC : Int) := by have := HB.out; omega
  have HQ : Hid (q < NC) := Lib.hid (by have := HB.out; omega)
  have Z6 : Hid (wrap64 ((p : Int) - 1) = (q : Int)) := Lib.hid (wr64 (by have := HB.out; omega) (by omega) (by have := HB.out; omega))
  clear hq
  have z3 := Z3.out
  have z6 := Z6.out
  go_wp2_with fail
  go_ret
  refine ⟨rfl, ?_, ?_, ?_, ?_⟩
  · exact (Blk.set (Blk.set (Blk.set HM4.out 1 _ rfl) 2 _ rfl) 3 _ rfl).far d2 _
  · exact (((HF4.out.far (fun e => d1 e.symm) _).far (fun e => d1 e.symm) _).far (fun e => d1 e.symm) _).far d3 _
  · rw [← HQQ.out]
    exact (((HC4.out.far (fun e => d2 e.symm) _).far (fun e => d2 e.symm) _).far (fun e => d2 e.symm) _).set HQ.out _
  · exact (((HX4.out.set (Or.inl rfl) _).set (Or.inl rfl) _).set (Or.inl rfl) _).set (Or.inr (Or.inr rfl)) _
end Go.Proofs.YtdnckbcknahakaaGreat
