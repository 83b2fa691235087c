/- The given procedures; the new machine. -/
import Derived.Test.YtdnckbcknahakaaGreatSE
import Derived.Test.YtdnckbcknahakaaGreatIV
import Derived.Carry
import Derived.Laws.MakeOwn
namespace Go.Proofs.YtdnckbcknahakaaGreat
open Go.RowKit
set_option linter.unusedVariables false
set_option linter.unusedSimpArgs false

set_option maxRecDepth 100000 in
set_option maxHeartbeats 4000000 in
theorem given_any (w : World) : Calls Tryz.prog 41 #[] w fun e w' => e = .returned (.slice (some ⟨w.heap.size, 0, none⟩) 10 10) ∧ w' = w.alloc (.cells givC 124) := by
  go_enter Tryz.func41, Tryz.ntmps41
  go_wp2
  go_ret
  exact ⟨rfl, rfl⟩
/-- A new machine. -/
structure NewM (w w' : World) (pb mb : Nat) (b gb rb mp bg cb : Nat) : Prop where
  m : MaR w' b ⟨pb, 8000, 0, 0, mb, 16000, .slice (some ⟨gb, 0, none⟩) 10 10, rb, .map (some mp), 0, ⟨#[]⟩, .pointer none, .slice none 0 0, 0, false, ⟨#[]⟩, 0, 0, 0, 0, .slice (some ⟨bg, 0, none⟩) 7 7, .slice (some ⟨cb, 0, none⟩) 1 1⟩
  g : Blk w' gb 124 givC
  r : Blk w' rb 98 #[.int .i64 0, .int .i64 8000, .int .i64 15999, .int .i64 0, .bool false, .int .i64 0, .int .i64 0, .int .i64 0, .pointer none]
  mg : Arr w' bg 3 7 (fun _ => .int .i64 0)
  mc : Arr w' cb 4 1 (fun _ => .bool false)
  fr : Fr w w'
  lo : w.heap.size ≤ b ∧ w.heap.size ≤ gb ∧ w.heap.size ≤ rb ∧ w.heap.size ≤ bg ∧ w.heap.size ≤ cb
  ne : b ≠ gb ∧ b ≠ rb ∧ b ≠ bg ∧ b ≠ cb ∧ gb ≠ bg ∧ gb ≠ cb ∧ rb ≠ bg ∧ rb ≠ cb ∧ bg ≠ cb
theorem made_arr (w : World) (b : Nat) (T : TypeId) (x : Value) (n : Nat) (h : Blk w b T (madeCells #[x] n)) : Arr w b T n (fun _ => x) :=
  ⟨_, h, size_madeCells _ _, fun i hi => by simp [madeCells, hi, Nat.mod_one]⟩
theorem Blk.inj {w : World} {b b' : Nat} {T T' : TypeId} {c c' : Array Value} (h : Blk w b T c) (h' : Blk w b' T' c') (hT : T ≠ T') : b ≠ b' := by
  intro e
  subst e
  unfold Blk at h h'
  rw [h] at h'
  injection h' with h'
  injection h' with h1 h2
  exact hT h2
/-- What the machine is made of. -/
structure PtM (w0 w : World) (gb rb bg cb : Nat) : Prop where
  g : Blk w gb 124 givC
  r : Blk w rb 98 #[.int .i64 0, .int .i64 8000, .int .i64 15999, .int .i64 0, .bool false, .int .i64 0, .int .i64 0, .int .i64 0, .pointer none]
  mg : Blk w bg 3 (madeCells #[.int .i64 0] 7)
  mc : Blk w cb 4 (madeCells #[.bool false] 1)
  lo : w0.heap.size ≤ gb ∧ w0.heap.size ≤ rb ∧ w0.heap.size ≤ bg ∧ w0.heap.size ≤ cb
theorem PtM.fr {w0 w w' : World} {gb rb bg cb : Nat} (h : PtM w0 w gb rb bg cb) (k : Fr w w') : PtM w0 w' gb rb bg cb := ⟨h.g.fr k, h.r.fr k, h.mg.fr k, h.mc.fr k, h.lo⟩
def maV (pb mb gb rb mp bg cb : Nat) : Sm := ⟨pb, 8000, 0, 0, mb, 16000, .slice (some ⟨gb, 0, none⟩) 10 10, rb, .map (some mp), 0, ⟨#[]⟩, .pointer none, .slice none 0 0, 0, false, ⟨#[]⟩, 0, 0, 0, 0, .slice (some ⟨bg, 0, none⟩) 7 7, .slice (some ⟨cb, 0, none⟩) 1 1⟩
def NR (w0 : World) (pb mb opb oc eb : Nat) : Nat → Value → World → Prop
  | 0, v, _ => v = .pointer (some ⟨pb, 0, none⟩)
  | 1, v, _ => v = .agg #[.int .i64 8000, .int .i64 0, .int .i64 0]
  | 2, v, _ => v = .pointer (some ⟨mb, 0, none⟩)
  | 3, v, w => ∃ gb, w0.heap.size ≤ gb ∧ Blk w gb 124 givC ∧ v = .slice (some ⟨gb, 0, none⟩) 10 10
  | 4, v, _ => v = .agg #[.int .i64 0, .int .i64 8000, .int .i64 15999, .int .i64 0, .bool false, .int .i64 0, .int .i64 0, .int .i64 0, .pointer none]
  | 5, v, w => ∃ rb, w0.heap.size ≤ rb ∧ Blk w rb 98 #[.int .i64 0, .int .i64 8000, .int .i64 15999, .int .i64 0, .bool false, .int .i64 0, .int .i64 0, .int .i64 0, .pointer none] ∧ v = .pointer (some ⟨rb, 0, none⟩)
  | 6, v, _ => ∃ mp, v = .map (some mp)
  | 7, v, _ => v = .string ⟨#[]⟩
  | 8, v, _ => v = .pointer (some ⟨pb, 0, none⟩)
  | 9, v, _ => v = .pointer (some ⟨pb, 0, none⟩)
  | 10, v, _ => v = .pointer (some ⟨pb, 3, none⟩)
  | 11, v, _ => v = .slice (some ⟨opb, 0, none⟩) 7 oc
  | 12, v, _ => v = .int .i64 7
  | 13, v, w => ∃ bg, w0.heap.size ≤ bg ∧ Blk w bg 3 (madeCells #[.int .i64 0] 7) ∧ v = .slice (some ⟨bg, 0, none⟩) 7 7
  | 14, v, _ => v = .pointer (some ⟨pb, 0, none⟩)
  | 15, v, _ => v = .pointer (some ⟨pb, 0, none⟩)
  | 16, v, _ => v = .pointer (some ⟨pb, 5, none⟩)
  | 17, v, _ => v = .slice (some ⟨eb, 0, none⟩) 2 2
  | 18, v, _ => v = .int .i64 2
  | 19, v, _ => v = .int .i64 1
  | 20, v, w => ∃ cb, w0.heap.size ≤ cb ∧ Blk w cb 4 (madeCells #[.bool false] 1) ∧ v = .slice (some ⟨cb, 0, none⟩) 1 1
  | 21, v, w => ∃ gb rb mp bg cb, PtM w0 w gb rb bg cb ∧ v = .agg (maC (maV pb mb gb rb mp bg cb))
  | _, v, w => ∃ b gb rb mp bg cb, w0.heap.size ≤ b ∧ PtM w0 w gb rb bg cb ∧ MaR w b (maV pb mb gb rb mp bg cb) ∧ v = .pointer (some ⟨b, 0, none⟩)
theorem NR.fr {w0 : World} {pb mb opb oc eb : Nat} (i : Nat) (v : Value) (w w' : World) (h : NR w0 pb mb opb oc eb i v w) (k : Fr w w') : NR w0 pb mb opb oc eb i v w' := by
  unfold NR at h ⊢
  split at h <;> first
    | exact h
    | (obtain ⟨b, h1, h2, h3⟩ := h; exact ⟨b, h1, h2.fr k, h3⟩)
    | (obtain ⟨b, h1, h2, h3, h4, h5, h6⟩ := h; exact ⟨b, h1, h2, h3, h4, h5.fr k, h6⟩)
    | (obtain ⟨b, h1, h2, h3, h4, h5, h6, h7, h8, h9⟩ := h; exact ⟨b, h1, h2, h3, h4, h5, h6, h7.fr k, Blk.fr h8 k, h9⟩)
def nslot (i : Nat) : Nat := if i < 23 then 7 + i else 6
set_option maxRecDepth 100000 in
set_option maxHeartbeats 40000000 in
theorem newM_any (pb mb opb oc eb : Nat) (arv pav rv : Value) (w : World) (hp : Blk w pb 92 #[.int .i64 16, .bool false, arv, .slice (some ⟨opb, 0, none⟩) 7 oc, pav, .slice (some ⟨eb, 0, none⟩) 2 2, rv]) :
    Calls Tryz.prog 31 #[.pointer (some ⟨pb, 0, none⟩), .pointer (some ⟨mb, 0, none⟩), .string ⟨#[]⟩] w fun e w' => ∃ b gb rb mp bg cb, e = .returned (.pointer (some ⟨b, 0, none⟩)) ∧ NewM w w' pb mb b gb rb mp bg cb := by
  have HP := Lib.hid hp
  have hq0 : Fr w w.drew := (Fr.refl w).drew
  have z1 : IntKind.i64.wrap 1 = 1 := by decide
  have hmk : ∀ W, (Instr.makeMap 68 none).run Tryz.prog W = .ok (.map (some W.heap.size)) (W.alloc (.map #[] 0)) := fun W => run_makeMap _ W
  have hm7 : ∀ W, (Instr.makeSlice 22 (.int .i64 7) (.int .i64 7)).run Tryz.prog W = .ok (.slice (some ⟨W.heap.size, 0, none⟩) 7 7) (W.alloc (.cells (madeCells #[.int .i64 0] 7) 3)) := by
    intro W
    have h := run_makeSlice (P := Tryz.prog) W 22 3 _ _ rfl rfl rfl .i64 .i64 7 7 (by decide) (by decide)
    refine (h ?_ ?_ ?_).trans rfl <;> decide
  have hm1 : ∀ W, (Instr.makeSlice 56 (.int .i64 1) (.int .i64 1)).run Tryz.prog W = .ok (.slice (some ⟨W.heap.size, 0, none⟩) 1 1) (W.alloc (.cells (madeCells #[.bool false] 1) 4)) := by
    intro W
    have h := run_makeSlice (P := Tryz.prog) W 56 4 _ _ rfl rfl rfl .i64 .i64 1 1 (by decide) (by decide)
    refine (h ?_ ?_ ?_).trans rfl <;> decide
  have HMK := Lib.hid hmk
  have HM7 := Lib.hid hm7
  have HM1 := Lib.hid hm1
  clear hp hmk hm7 hm1
  go_enter Tryz.func31, Tryz.ntmps31
  go_wp2_with fail
  refine wp_region_any (by kernel_rfl) ?_
  change wpAny _ _ _ _ _ _ _ (World.drew _)
  refine wpAny_vals nslot (NR w pb mb opb oc eb) _ _ (fun i hi => ?_) (fun i j hi hj h => ?_) NR.fr (before_of (by kernel_rfl)) ?_ ?_
  · have : i < 24 := hi
    show nslot i < 30
    unfold nslot
    split <;> omega
  · have h1 : i < 24 := hi
    have h2 : j < 24 := hj
    unfold nslot at h
    split at h <;> split at h <;> omega
  · intro i hi a w1 hk hf hd
    have hi1 : i < 24 := hi
    have HQ := Lib.hid hq0
    have HF := Lib.hid hf
    have t3 : w1.cell? ⟨pb, 3, none⟩ = some (.slice (some ⟨opb, 0, none⟩) 7 oc) := (HP.out.fr (hq0.trans hf)).cell rfl
    have t5 : w1.cell? ⟨pb, 5, none⟩ = some (.slice (some ⟨eb, 0, none⟩) 2 2) := (HP.out.fr (hq0.trans hf)).cell rfl
    have HSZ : Hid (w.heap.size ≤ w1.heap.size) := Lib.hid (hq0.trans hf).size
    obtain ⟨⟨l0⟩, df⟩ := a
    have s0 : l0.length = 30 := hk.size
    have hdf : df = [] := hk.defers
    subst hdf
    obtain ⟨x0, l1, rfl, s1⟩ := cons_of s0
    obtain ⟨x1, l2, rfl, s2⟩ := cons_of s1
    obtain ⟨x2, l3, rfl, s3⟩ := cons_of s2
    obtain ⟨x3, l4, rfl, s4⟩ := cons_of s3
    obtain ⟨x4, l5, rfl, s5⟩ := cons_of s4
    obtain ⟨x5, l6, rfl, s6⟩ := cons_of s5
    obtain ⟨x6, l7, rfl, s7⟩ := cons_of s6
    obtain ⟨x7, l8, rfl, s8⟩ := cons_of s7
    obtain ⟨x8, l9, rfl, s9⟩ := cons_of s8
    obtain ⟨x9, l10, rfl, s10⟩ := cons_of s9
    obtain ⟨x10, l11, rfl, s11⟩ := cons_of s10
    obtain ⟨x11, l12, rfl, s12⟩ := cons_of s11
    obtain ⟨x12, l13, rfl, s13⟩ := cons_of s12
    obtain ⟨x13, l14, rfl, s14⟩ := cons_of s13
    obtain ⟨x14, l15, rfl, s15⟩ := cons_of s14
    obtain ⟨x15, l16, rfl, s16⟩ := cons_of s15
    obtain ⟨x16, l17, rfl, s17⟩ := cons_of s16
    obtain ⟨x17, l18, rfl, s18⟩ := cons_of s17
    obtain ⟨x18, l19, rfl, s19⟩ := cons_of s18
    obtain ⟨x19, l20, rfl, s20⟩ := cons_of s19
    obtain ⟨x20, l21, rfl, s21⟩ := cons_of s20
    obtain ⟨x21, l22, rfl, s22⟩ := cons_of s21
    obtain ⟨x22, l23, rfl, s23⟩ := cons_of s22
    obtain ⟨x23, l24, rfl, s24⟩ := cons_of s23
    obtain ⟨x24, l25, rfl, s25⟩ := cons_of s24
    obtain ⟨x25, l26, rfl, s26⟩ := cons_of s25
    obtain ⟨x26, l27, rfl, s27⟩ := cons_of s26
    obtain ⟨x27, l28, rfl, s28⟩ := cons_of s27
    obtain ⟨x28, l29, rfl, s29⟩ := cons_of s28
    obtain ⟨x29, l30, rfl, s30⟩ := cons_of s29
    obtain rfl := List.eq_nil_of_length_eq_zero s30
    obtain rfl : x0 = .pointer (some ⟨pb, 0, none⟩) := Option.some.inj (hk.else_ 0 (fun i hi => by unfold nslot; split <;> omega))
    obtain rfl : x1 = .pointer (some ⟨mb, 0, none⟩) := Option.some.inj (hk.else_ 1 (fun i hi => by unfold nslot; split <;> omega))
    obtain rfl : x2 = .string ⟨#[]⟩ := Option.some.inj (hk.else_ 2 (fun i hi => by unfold nslot; split <;> omega))
    clear hk hi hf hq0 s30
    match i, hi1, hd with
    | 0, _, hd =>
      clear hd
      refine wpOp_of rfl (fun K hK => ?_)
      go_simp
      refine hK _ _ _ (by simp only [Act.put, nslot, List.setIfInBounds_toArray, List.set_cons_zero, List.set_cons_succ, reduceIte, Nat.reduceLT, Nat.reduceAdd] <;> rfl) (Fr.refl _) rfl
    | 1, _, hd =>
      clear hd
      refine wpOp_of rfl (fun K hK => ?_)
      go_simp
      refine hK _ _ _ (by simp only [Act.put, nslot, List.setIfInBounds_toArray, List.set_cons_zero, List.set_cons_succ, reduceIte, Nat.reduceLT, Nat.reduceAdd] <;> rfl) (Fr.refl _) rfl
    | 2, _, hd =>
      clear hd
      refine wpOp_of rfl (fun K hK => ?_)
      go_simp
      refine hK _ _ _ (by simp only [Act.put, nslot, List.setIfInBounds_toArray, List.set_cons_zero, List.set_cons_succ, reduceIte, Nat.reduceLT, Nat.reduceAdd] <;> rfl) (Fr.refl _) rfl
    | 3, _, hd =>
      clear hd
      refine wpOp_of rfl (fun K hK => ?_)
      go_simp
      refine (given_any _).mono ?_
      rintro e w2 ⟨rfl, rfl⟩
      refine hK _ _ _ (by simp only [Act.put, nslot, List.setIfInBounds_toArray, List.set_cons_zero, List.set_cons_succ, reduceIte, Nat.reduceLT, Nat.reduceAdd] <;> rfl) ((Fr.refl _).alloc _) ⟨w1.heap.size, HSZ.out, Blk.new _ _ _, rfl⟩
    | 4, _, hd =>
      clear hd
      refine wpOp_of rfl (fun K hK => ?_)
      go_simp
      refine hK _ _ _ (by simp only [Act.put, nslot, List.setIfInBounds_toArray, List.set_cons_zero, List.set_cons_succ, reduceIte, Nat.reduceLT, Nat.reduceAdd] <;> rfl) (Fr.refl _) rfl
    | 5, _, hd =>
      obtain ⟨v, hv, hr⟩ := hd _ rfl ⟨4, .data⟩ (by simp) rfl
      obtain rfl : x11 = v := Option.some.inj hv
      obtain rfl := hr
      clear hv
      clear hd
      refine wpOp_of rfl (fun K hK => ?_)
      go_simp
      refine hK _ _ _ (by simp only [Act.put, nslot, List.setIfInBounds_toArray, List.set_cons_zero, List.set_cons_succ, reduceIte, Nat.reduceLT, Nat.reduceAdd] <;> rfl) ((Fr.refl _).alloc _) ⟨w1.heap.size, HSZ.out, Blk.new _ _ _, rfl⟩
    | 6, _, hd =>
      clear hd
      refine wpOp_of rfl (fun K hK => ?_)
      have hmk := HMK.out
      go_simp
      refine hK _ _ _ (by simp only [Act.put, nslot, List.setIfInBounds_toArray, List.set_cons_zero, List.set_cons_succ, reduceIte, Nat.reduceLT, Nat.reduceAdd] <;> rfl) ((Fr.refl _).alloc _) ⟨_, rfl⟩
    | 7, _, hd =>
      clear hd
      refine wpOp_of rfl (fun K hK => ?_)
      go_simp
      refine hK _ _ _ (by simp only [Act.put, nslot, List.setIfInBounds_toArray, List.set_cons_zero, List.set_cons_succ, reduceIte, Nat.reduceLT, Nat.reduceAdd] <;> rfl) (Fr.refl _) rfl
    | 8, _, hd =>
      clear hd
      refine wpOp_of rfl (fun K hK => ?_)
      go_simp
      refine hK _ _ _ (by simp only [Act.put, nslot, List.setIfInBounds_toArray, List.set_cons_zero, List.set_cons_succ, reduceIte, Nat.reduceLT, Nat.reduceAdd] <;> rfl) (Fr.refl _) rfl
    | 9, _, hd =>
      obtain ⟨v, hv, hr⟩ := hd _ rfl ⟨8, .data⟩ (by simp) rfl
      obtain rfl : x15 = v := Option.some.inj hv
      obtain rfl := hr
      clear hv
      clear hd
      refine wpOp_of rfl (fun K hK => ?_)
      go_simp
      refine hK _ _ _ (by simp only [Act.put, nslot, List.setIfInBounds_toArray, List.set_cons_zero, List.set_cons_succ, reduceIte, Nat.reduceLT, Nat.reduceAdd] <;> rfl) (Fr.refl _) rfl
    | 10, _, hd =>
      obtain ⟨v, hv, hr⟩ := hd _ rfl ⟨9, .data⟩ (by simp) rfl
      obtain rfl : x16 = v := Option.some.inj hv
      obtain rfl := hr
      clear hv
      clear hd
      refine wpOp_of rfl (fun K hK => ?_)
      go_simp
      refine hK _ _ _ (by simp only [Act.put, nslot, List.setIfInBounds_toArray, List.set_cons_zero, List.set_cons_succ, reduceIte, Nat.reduceLT, Nat.reduceAdd] <;> rfl) (Fr.refl _) rfl
    | 11, _, hd =>
      obtain ⟨v, hv, hr⟩ := hd _ rfl ⟨10, .data⟩ (by simp) rfl
      obtain rfl : x17 = v := Option.some.inj hv
      obtain rfl := hr
      clear hv
      clear hd
      refine wpOp_of rfl (fun K hK => ?_)
      go_simp
      refine hK _ _ _ (by simp only [Act.put, nslot, List.setIfInBounds_toArray, List.set_cons_zero, List.set_cons_succ, reduceIte, Nat.reduceLT, Nat.reduceAdd] <;> rfl) (Fr.refl _) rfl
    | 12, _, hd =>
      obtain ⟨v, hv, hr⟩ := hd _ rfl ⟨11, .data⟩ (by simp) rfl
      obtain rfl : x18 = v := Option.some.inj hv
      obtain rfl := hr
      clear hv
      clear hd
      refine wpOp_of rfl (fun K hK => ?_)
      go_simp
      refine hK _ _ _ (by simp only [Act.put, nslot, List.setIfInBounds_toArray, List.set_cons_zero, List.set_cons_succ, reduceIte, Nat.reduceLT, Nat.reduceAdd] <;> rfl) (Fr.refl _) rfl
    | 13, _, hd =>
      obtain ⟨v, hv, hr⟩ := hd _ rfl ⟨12, .data⟩ (by simp) rfl
      obtain rfl : x19 = v := Option.some.inj hv
      obtain rfl := hr
      clear hv
      clear hd
      refine wpOp_of rfl (fun K hK => ?_)
      have hm7 := HM7.out
      go_simp
      refine hK _ _ _ (by simp only [Act.put, nslot, List.setIfInBounds_toArray, List.set_cons_zero, List.set_cons_succ, reduceIte, Nat.reduceLT, Nat.reduceAdd] <;> rfl) ((Fr.refl _).alloc _) ⟨w1.heap.size, HSZ.out, Blk.new _ _ _, rfl⟩
    | 14, _, hd =>
      clear hd
      refine wpOp_of rfl (fun K hK => ?_)
      go_simp
      refine hK _ _ _ (by simp only [Act.put, nslot, List.setIfInBounds_toArray, List.set_cons_zero, List.set_cons_succ, reduceIte, Nat.reduceLT, Nat.reduceAdd] <;> rfl) (Fr.refl _) rfl
    | 15, _, hd =>
      obtain ⟨v, hv, hr⟩ := hd _ rfl ⟨14, .data⟩ (by simp) rfl
      obtain rfl : x21 = v := Option.some.inj hv
      obtain rfl := hr
      clear hv
      clear hd
      refine wpOp_of rfl (fun K hK => ?_)
      go_simp
      refine hK _ _ _ (by simp only [Act.put, nslot, List.setIfInBounds_toArray, List.set_cons_zero, List.set_cons_succ, reduceIte, Nat.reduceLT, Nat.reduceAdd] <;> rfl) (Fr.refl _) rfl
    | 16, _, hd =>
      obtain ⟨v, hv, hr⟩ := hd _ rfl ⟨15, .data⟩ (by simp) rfl
      obtain rfl : x22 = v := Option.some.inj hv
      obtain rfl := hr
      clear hv
      clear hd
      refine wpOp_of rfl (fun K hK => ?_)
      go_simp
      refine hK _ _ _ (by simp only [Act.put, nslot, List.setIfInBounds_toArray, List.set_cons_zero, List.set_cons_succ, reduceIte, Nat.reduceLT, Nat.reduceAdd] <;> rfl) (Fr.refl _) rfl
    | 17, _, hd =>
      obtain ⟨v, hv, hr⟩ := hd _ rfl ⟨16, .data⟩ (by simp) rfl
      obtain rfl : x23 = v := Option.some.inj hv
      obtain rfl := hr
      clear hv
      clear hd
      refine wpOp_of rfl (fun K hK => ?_)
      go_simp
      refine hK _ _ _ (by simp only [Act.put, nslot, List.setIfInBounds_toArray, List.set_cons_zero, List.set_cons_succ, reduceIte, Nat.reduceLT, Nat.reduceAdd] <;> rfl) (Fr.refl _) rfl
    | 18, _, hd =>
      obtain ⟨v, hv, hr⟩ := hd _ rfl ⟨17, .data⟩ (by simp) rfl
      obtain rfl : x24 = v := Option.some.inj hv
      obtain rfl := hr
      clear hv
      clear hd
      refine wpOp_of rfl (fun K hK => ?_)
      go_simp
      refine hK _ _ _ (by simp only [Act.put, nslot, List.setIfInBounds_toArray, List.set_cons_zero, List.set_cons_succ, reduceIte, Nat.reduceLT, Nat.reduceAdd] <;> rfl) (Fr.refl _) rfl
    | 19, _, hd =>
      obtain ⟨v, hv, hr⟩ := hd _ rfl ⟨18, .data⟩ (by simp) rfl
      obtain rfl : x25 = v := Option.some.inj hv
      obtain rfl := hr
      clear hv
      clear hd
      refine wpOp_of rfl (fun K hK => ?_)
      go_simp
      refine hK _ _ _ (by simp only [Act.put, nslot, List.setIfInBounds_toArray, List.set_cons_zero, List.set_cons_succ, reduceIte, Nat.reduceLT, Nat.reduceAdd] <;> rfl) (Fr.refl _) rfl
    | 20, _, hd =>
      obtain ⟨v, hv, hr⟩ := hd _ rfl ⟨19, .data⟩ (by simp) rfl
      obtain rfl : x26 = v := Option.some.inj hv
      obtain rfl := hr
      clear hv
      clear hd
      refine wpOp_of rfl (fun K hK => ?_)
      have hm1 := HM1.out
      go_simp
      refine hK _ _ _ (by simp only [Act.put, nslot, List.setIfInBounds_toArray, List.set_cons_zero, List.set_cons_succ, reduceIte, Nat.reduceLT, Nat.reduceAdd] <;> rfl) ((Fr.refl _).alloc _) ⟨w1.heap.size, HSZ.out, Blk.new _ _ _, rfl⟩
    | 21, _, hd =>
      obtain ⟨v, hv, hr⟩ := hd _ rfl ⟨0, .data⟩ (by simp) rfl
      obtain rfl : x7 = v := Option.some.inj hv
      obtain rfl := hr
      clear hv
      obtain ⟨v, hv, hr⟩ := hd _ rfl ⟨1, .data⟩ (by simp) rfl
      obtain rfl : x8 = v := Option.some.inj hv
      obtain rfl := hr
      clear hv
      obtain ⟨v, hv, hr⟩ := hd _ rfl ⟨2, .data⟩ (by simp) rfl
      obtain rfl : x9 = v := Option.some.inj hv
      obtain rfl := hr
      clear hv
      obtain ⟨v, hv, hr⟩ := hd _ rfl ⟨3, .data⟩ (by simp) rfl
      obtain rfl : x10 = v := Option.some.inj hv
      obtain ⟨gb, gl, gB, rfl⟩ := hr
      clear hv
      obtain ⟨v, hv, hr⟩ := hd _ rfl ⟨5, .data⟩ (by simp) rfl
      obtain rfl : x12 = v := Option.some.inj hv
      obtain ⟨rb, rl, rB, rfl⟩ := hr
      clear hv
      obtain ⟨v, hv, hr⟩ := hd _ rfl ⟨6, .data⟩ (by simp) rfl
      obtain rfl : x13 = v := Option.some.inj hv
      obtain ⟨mp, rfl⟩ := hr
      clear hv
      obtain ⟨v, hv, hr⟩ := hd _ rfl ⟨7, .data⟩ (by simp) rfl
      obtain rfl : x14 = v := Option.some.inj hv
      obtain rfl := hr
      clear hv
      obtain ⟨v, hv, hr⟩ := hd _ rfl ⟨13, .data⟩ (by simp) rfl
      obtain rfl : x20 = v := Option.some.inj hv
      obtain ⟨bg, bl, bB, rfl⟩ := hr
      clear hv
      obtain ⟨v, hv, hr⟩ := hd _ rfl ⟨20, .data⟩ (by simp) rfl
      obtain rfl : x27 = v := Option.some.inj hv
      obtain ⟨cb, cl, cB, rfl⟩ := hr
      clear hv
      clear hd
      refine wpOp_of rfl (fun K hK => ?_)
      go_simp
      refine hK _ _ _ (by simp only [Act.put, nslot, List.setIfInBounds_toArray, List.set_cons_zero, List.set_cons_succ, reduceIte, Nat.reduceLT, Nat.reduceAdd] <;> rfl) (Fr.refl _) ⟨gb, rb, mp, bg, cb, ⟨gB, rB, bB, cB, ⟨gl, rl, bl, cl⟩⟩, rfl⟩
    | 22, _, hd =>
      obtain ⟨v, hv, hr⟩ := hd _ rfl ⟨21, .data⟩ (by simp) rfl
      obtain rfl : x28 = v := Option.some.inj hv
      obtain ⟨gb, rb, mp, bg, cb, hP, rfl⟩ := hr
      clear hv
      clear hd
      refine wpOp_of rfl (fun K hK => ?_)
      unfold maC maV
      go_simp
      refine hK _ _ _ (by simp only [Act.put, nslot, List.setIfInBounds_toArray, List.set_cons_zero, List.set_cons_succ, reduceIte, Nat.reduceLT, Nat.reduceAdd] <;> rfl) ((Fr.refl _).alloc _) ⟨w1.heap.size, gb, rb, mp, bg, cb, HSZ.out, hP.fr ((Fr.refl _).alloc _), Blk.new _ _ _, rfl⟩
    | 23, _, hd =>
      obtain ⟨v, hv, hr⟩ := hd _ rfl ⟨22, .data⟩ (by simp) rfl
      obtain rfl : x29 = v := Option.some.inj hv
      obtain ⟨b, gb, rb, mp, bg, cb, hl, hP, hM, rfl⟩ := hr
      clear hv
      clear hd
      refine wpOp_of rfl (fun K hK => ?_)
      go_simp
      refine hK _ _ _ (by simp only [Act.put, nslot, List.setIfInBounds_toArray, List.set_cons_zero, List.set_cons_succ, reduceIte, Nat.reduceLT, Nat.reduceAdd] <;> rfl) (Fr.refl _) ⟨b, gb, rb, mp, bg, cb, hl, hP, hM, rfl⟩
    | (i + 24), hi1, hd => exact absurd hi1 (by omega)
  · intro a w1 hk hf hv
    obtain ⟨⟨l0⟩, df⟩ := a
    have s0 : l0.length = 30 := hk.size
    have hdf : df = [] := hk.defers
    subst hdf
    obtain ⟨x0, l1, rfl, s1⟩ := cons_of s0
    obtain ⟨x1, l2, rfl, s2⟩ := cons_of s1
    obtain ⟨x2, l3, rfl, s3⟩ := cons_of s2
    obtain ⟨x3, l4, rfl, s4⟩ := cons_of s3
    obtain ⟨x4, l5, rfl, s5⟩ := cons_of s4
    obtain ⟨x5, l6, rfl, s6⟩ := cons_of s5
    obtain ⟨x6, l7, rfl, s7⟩ := cons_of s6
    obtain ⟨x7, l8, rfl, s8⟩ := cons_of s7
    obtain ⟨x8, l9, rfl, s9⟩ := cons_of s8
    obtain ⟨x9, l10, rfl, s10⟩ := cons_of s9
    obtain ⟨x10, l11, rfl, s11⟩ := cons_of s10
    obtain ⟨x11, l12, rfl, s12⟩ := cons_of s11
    obtain ⟨x12, l13, rfl, s13⟩ := cons_of s12
    obtain ⟨x13, l14, rfl, s14⟩ := cons_of s13
    obtain ⟨x14, l15, rfl, s15⟩ := cons_of s14
    obtain ⟨x15, l16, rfl, s16⟩ := cons_of s15
    obtain ⟨x16, l17, rfl, s17⟩ := cons_of s16
    obtain ⟨x17, l18, rfl, s18⟩ := cons_of s17
    obtain ⟨x18, l19, rfl, s19⟩ := cons_of s18
    obtain ⟨x19, l20, rfl, s20⟩ := cons_of s19
    obtain ⟨x20, l21, rfl, s21⟩ := cons_of s20
    obtain ⟨x21, l22, rfl, s22⟩ := cons_of s21
    obtain ⟨x22, l23, rfl, s23⟩ := cons_of s22
    obtain ⟨x23, l24, rfl, s24⟩ := cons_of s23
    obtain ⟨x24, l25, rfl, s25⟩ := cons_of s24
    obtain ⟨x25, l26, rfl, s26⟩ := cons_of s25
    obtain ⟨x26, l27, rfl, s27⟩ := cons_of s26
    obtain ⟨x27, l28, rfl, s28⟩ := cons_of s27
    obtain ⟨x28, l29, rfl, s29⟩ := cons_of s28
    obtain ⟨x29, l30, rfl, s30⟩ := cons_of s29
    obtain rfl := List.eq_nil_of_length_eq_zero s30
    obtain ⟨v, hv, hr⟩ := hv 23 (by show 23 < 24; omega)
    obtain rfl : x6 = v := Option.some.inj hv
    obtain ⟨b, gb, rb, mp, bg, cb, hl, hP, hM, rfl⟩ := hr
    have HPM := Lib.hid hP
    have HMM := Lib.hid hM
    have HF := Lib.hid (hq0.trans hf)
    clear hv hk hf hP hM
    go_wp2_with fail
    go_ret
    refine ⟨b, rfl, gb, rb, mp, bg, cb, HMM.out, HPM.out.g, HPM.out.r, made_arr _ _ _ _ _ HPM.out.mg, made_arr _ _ _ _ _ HPM.out.mc, HF.out, ⟨hl, HPM.out.lo⟩, ?_⟩
    have h1 := HPM.out.g
    have h2 := HPM.out.r
    have h3 := HPM.out.mg
    have h4 := HPM.out.mc
    have h5 : Blk w1 b 74 _ := HMM.out
    exact ⟨h5.inj h1 (by decide), h5.inj h2 (by decide), h5.inj h3 (by decide), h5.inj h4 (by decide), h1.inj h3 (by decide), h1.inj h4 (by decide), h2.inj h3 (by decide), h2.inj h4 (by decide), h3.inj h4 (by decide)⟩
end Go.Proofs.YtdnckbcknahakaaGreat
