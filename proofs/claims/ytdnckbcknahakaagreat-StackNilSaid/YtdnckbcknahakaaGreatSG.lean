/- The small code's machine: its call of wrch. -/
import Derived.Test.YtdnckbcknahakaaGreatSF
namespace Go.Proofs.YtdnckbcknahakaaGreat
open Go.RowKit
set_option linter.unusedVariables false
set_option linter.unusedSimpArgs false

theorem own_base8 {w : World} {base base' : Nat} {T : TypeId} {z : Nat} {v : Value} {n : Nat} {xs : List Value} (h : w.ownsRow base T z v n xs) (hb : base' ≤ base) : w.ownsRow base' T z v n xs := by
  refine ⟨h.1, ?_⟩
  rcases h.2 with hn | ⟨g, cap, cur, e, hg, r⟩
  · exact .inl hn
  · exact .inr ⟨g, cap, cur, e, Nat.le_trans hb hg, r⟩
set_option maxRecDepth 100000 in
set_option maxHeartbeats 4000000 in
theorem wrch_d (L : Lay) (F D : Nat) (pl st : Int) (en : Bool) (f fc fb : Nat → Value) (w : World) (k : LayOk L) (h : Dyn w L (mkS L (F : Int) (D : Int) pl (.pointer none) (.slice none 0 0) st en) f fc fb) (a : Nat) (ha : F + D = a + 1) (hl : a < 32000) :
    Calls Tryz.prog 54 #[.pointer (some ⟨L.b, 0, none⟩), .agg #[.int .i64 65, .int .i64 0, .int .i64 0]] w fun e w' => e = .returned (.int .i64 0) ∧ (∃ ob, Dyn w' L (mkS L (F : Int) (D : Int) pl (.pointer (some ⟨L.b, 11, none⟩)) ob st en) (upd f a (.int .i64 0)) fc fb ∧ w'.ownsRow w.heap.size 5 1 ob 1 [.int .u8 65]) ∧ Ex (Kd L) w w' := by
  obtain ⟨w0, hw0⟩ : ∃ y, y = w.alloc (.cells #[.int .i64 65, .int .i64 0, .int .i64 0] 136) := ⟨_, rfl⟩
  have HF0 : Hid (Fr w w0) := Lib.hid (by rw [hw0]; exact (Fr.refl w).alloc _)
  have HA : Hid (Blk w0 w.heap.size 136 #[.int .i64 65, .int .i64 0, .int .i64 0]) := Lib.hid (by rw [hw0]; exact Blk.new _ _ _)
  have HD0 := Lib.hid (h.fr HF0.out)
  have HLW := Lib.hid h.m.lt
  have hne : w.heap.size ≠ L.b := by have := h.m.lt; omega
  have HNK : Hid (¬ Kd L w.heap.size) := Lib.hid (fun e => by
    have h1 := h.m.lt; have h2 := h.f.lt; have h3 := h.c.lt; have h4 := h.g.lt
    rcases e with e | e | e | e <;> omega)
  have HLK : Hid (∀ i, w.heap.size ≤ i → ¬ Kd L i) := Lib.hid (fun i hi e => by
    have h1 := h.m.lt; have h2 := h.f.lt; have h3 := h.c.lt; have h4 := h.g.lt
    rcases e with e | e | e | e <;> omega)
  have CL := Lib.hid (blen_nil L.b w0 (Blk.cell HD0.out.m rfl))
  have CW := Lib.hid (fun W (x : Fr w0 W) => wbyte_d L (F : Int) (D : Int) pl st en f fc fb W k (HD0.out.fr x))
  have K := Lib.hid k
  have HW0 := Lib.hid hw0
  have c0 : w0.cell? ⟨w.heap.size, 0, none⟩ = some (.int .i64 65) := HA.out.cell rfl
  rw [hw0] at c0
  have HAH := Lib.hid (And.intro ha hl)
  clear h k hw0 ha hl
  go_enter Tryz.func54, Tryz.ntmps54
  go_wp2_with fail
  rw [← HW0.out]
  clear c0
  refine (CL.out).mono ?_
  rintro e w1 ⟨rfl, h2⟩
  obtain rfl : w0 = w1 := h2.symm
  have c0 : w0.cell? ⟨w.heap.size, 0, none⟩ = some (.int .i64 65) := HA.out.cell rfl
  go_wp2_with fail
  go_still_tail 6, (by kernel_rfl)
  change wpList _ _ _ _ _ w0.drew
  have z8 : IntKind.u8.wrap 65 = 65 := by decide
  go_wp2_with (go_at_call 84; refine (CW.out _ ((Fr.refl _).drew)).mono ?_; rintro e w2 ⟨rfl, ⟨ob, hd, ho⟩, hx⟩)
  have HD2 := Lib.hid hd
  have HO2 := Lib.hid ho
  have HX2 : Hid (Ex (Kd L) w w2) := Lib.hid ((Fr.ex HF0.out.drew).trans hx)
  have HSZ : Hid (w.heap.size ≤ w0.drew.heap.size) := Lib.hid (HF0.out.drew).size
  clear hd ho hx z8 c0
  go_wp2_with fail
  refine (give_d L F D pl _ ob st en f fc fb 0 w2 K.out HD2.out a HAH.out.1 HAH.out.2).mono ?_
  rintro e w3 ⟨rfl, hd3, hx3⟩
  have HD3 := Lib.hid hd3
  have HX3 : Hid (Ex (Kd L) w w3) := Lib.hid (HX2.out.trans hx3)
  have HO3 : Hid (w3.ownsRow w.heap.size 5 1 ob 1 [.int .u8 65]) := Lib.hid (own_base8 (Ex.own hx3 (fun i hi e => HLK.out i (Nat.le_trans HSZ.out (HO2.out.lt i hi).1) e) HO2.out) HSZ.out)
  clear hd3 hx3
  go_wp2_with fail
  go_ret
  exact ⟨rfl, ⟨ob, HD3.out, HO3.out⟩, HX3.out⟩
set_option maxRecDepth 100000 in
set_option maxHeartbeats 4000000 in
theorem serve_d (L : Lay) (F D n : Nat) (pl st : Int) (en : Bool) (f fc fb : Nat → Value) (w : World) (k : LayOk L) (h : Dyn w L (mkS L (F : Int) (D : Int) pl (.pointer none) (.slice none 0 0) st en) f fc fb) (a c : Nat) (ha : F + n = a) (hcc : F + n + 2 = c) (hl : c < 32000) (hv : f c = .int .i64 65) :
    Calls Tryz.prog 143 #[.pointer (some ⟨L.b, 0, none⟩), .agg #[.int .i64 1, .func (.func 54) #[] #[]], .int .i64 (n : Int)] w fun e w' => e = .returned (.int .i64 0) ∧ (∃ ob, Dyn w' L (mkS L (F : Int) ((n : Int) + 1) pl (.pointer (some ⟨L.b, 11, none⟩)) ob st en) (upd f a (.int .i64 0)) fc fb ∧ w'.ownsRow w.heap.size 5 1 ob 1 [.int .u8 65]) ∧ Ex (Kd L) w w' := by
  obtain ⟨w0, hw0⟩ : ∃ y, y = w.alloc (.cells #[.int .i64 1, .func (.func 54) #[] #[]] 124) := ⟨_, rfl⟩
  have hz0 : w0.heap.size = w.heap.size + 1 := by rw [hw0]; exact size_al w _
  have HF0 : Hid (Fr w w0) := Lib.hid (by rw [hw0]; exact (Fr.refl w).alloc _)
  have HG0 : Hid (Blk w0 w.heap.size 124 #[.int .i64 1, .func (.func 54) #[] #[]]) := Lib.hid (by rw [hw0]; exact Blk.new _ _ _)
  obtain ⟨w1, hw1⟩ : ∃ y, y = w0.alloc (.cells #[.int .i64 0, .int .i64 0, .int .i64 0] 136) := ⟨_, rfl⟩
  have HF1 : Hid (Fr w0 w1) := Lib.hid (by rw [hw1]; exact (Fr.refl w0).alloc _)
  have HA1 : Hid (Blk w1 (w.heap.size + 1) 136 #[.int .i64 0, .int .i64 0, .int .i64 0]) := Lib.hid (by rw [hw1, ← hz0]; exact Blk.new _ _ _)
  have HG1 := Lib.hid (HG0.out.fr HF1.out)
  have HF01 : Hid (Fr w w1) := Lib.hid (HF0.out.trans HF1.out)
  have HDH := Lib.hid h
  have HLB := Lib.hid h.m.lt
  have HSZ : Hid (w1.heap.size = w.heap.size + 2) := Lib.hid (by rw [hw1, size_al, hz0])
  have HLK : Hid (∀ i, w.heap.size ≤ i → ¬ Kd L i) := Lib.hid (fun i hi e => by
    have h1 := h.m.lt; have h2 := h.f.lt; have h3 := h.c.lt; have h4 := h.g.lt
    rcases e with e | e | e | e <;> omega)
  have CL := Lib.hid (fun W (x : Fr w W) => mload_any L.mb c f W (h.f.fr x) hl)
  rw [hv] at CL
  have K := Lib.hid k
  have HW0 := Lib.hid hw0
  have HW1 := Lib.hid hw1
  have HB := Lib.hid (And.intro ha (And.intro hcc hl))
  have Z1 : Hid (IntKind.i64.wrap ((F : Int) + (n : Int)) = (F : Int) + (n : Int)) := Lib.hid (wr rfl (by omega) (by omega))
  have Z2 : Hid (IntKind.i64.wrap ((F : Int) + (n : Int) + 2) = (c : Int)) := Lib.hid (wr (by omega) (by omega) (by omega))
  have Z4 : Hid (IntKind.i64.wrap (c : Int) = (c : Int)) := Lib.hid (wr rfl (by omega) (by omega))
  have Z3 : Hid (IntKind.i64.wrap ((n : Int) + 1) = (n : Int) + 1) := Lib.hid (wr rfl (by omega) (by omega))
  have Z5 : Hid (wrap64 ((n : Int) + 1) = (n : Int) + 1) := Lib.hid (wr64 rfl (by omega) (by omega))
  have g0 : w1.cell? ⟨w.heap.size, 0, none⟩ = some (.int .i64 1) := HG1.out.cell rfl
  have g1 : w1.cell? ⟨w.heap.size, 1, none⟩ = some (.func (.func 54) #[] #[]) := HG1.out.cell rfl
  rw [hw1, hw0] at g0 g1
  clear h hv k hw0 hw1 hz0 ha hcc hl
  go_enter Tryz.func143, Tryz.ntmps143
  go_wp2_with fail
  rw [← HW0.out, ← HW1.out]
  clear g0 g1
  go_loopw [13] (fun i wr => ∃ j : Nat, j ≤ 1 ∧ i = .int .i64 j ∧ Hid (Blk wr (w.heap.size + 1) 136 #[.int .i64 (if j = 1 then 65 else 0), .int .i64 0, .int .i64 0]) ∧ Hid (Fr w wr) ∧ Hid (Blk wr w.heap.size 124 #[.int .i64 1, .func (.func 54) #[] #[]])) (fun i _ => 1 - (intOf i).toNat)
  case atStart => exact ⟨0, by omega, rfl, HA1, HF01, HG1⟩
  case round =>
    obtain ⟨j, hj, rfl, HA, HFR, HG⟩ := hrel
    obtain ⟨k0, k1, k2, k3, k4, k5, k6, k7⟩ := (HDH.out.fr HFR.out).m.cells
    simp only [mkS] at k0 k1 k2 k3 k4 k5 k6 k7
    by_cases hlt : j = 0
    · subst hlt
      have z1 := Z1.out
      have z2 := Z2.out
      have z4 := Z4.out
      go_wp2_with fail
      go_quiet ((go_at_call 20; exact Calls.quiet_of_same (CL.out _ ((HFR.out).drewN _))))
      rename_i nq
      have HFQ : Hid (Fr w (wr.drewN nq)) := Lib.hid (HFR.out.drewN nq)
      have HAQ : Hid (Blk (wr.drewN nq) (w.heap.size + 1) 136 #[.int .i64 (if 0 = 1 then 65 else 0), .int .i64 0, .int .i64 0]) := Lib.hid (HA.out.fr ((Fr.refl wr).drewN nq))
      have HGQ := Lib.hid (HG.out.fr ((Fr.refl wr).drewN nq))
      obtain ⟨wq, hwq⟩ : ∃ y, y = wr.drewN nq := ⟨_, rfl⟩
      rw [← hwq] at HFQ HAQ HGQ ⊢
      clear hwq k0 k1 k2 k3 k4 k5 k6 k7 z1 z2 z4
      have a0 : wq.cell? ⟨w.heap.size + 1, 0, none⟩ = some (.int .i64 (if 0 = 1 then 65 else 0)) := HAQ.out.cell rfl
      have af := HAQ.out.free 0
      go_wp2_with fail
      go_roundw
      case rel => exact ⟨1, by omega, by go_num, Lib.hid (HAQ.out.set 0 _ rfl), Lib.hid (HFQ.out.setCell (p := ⟨w.heap.size + 1, 0, none⟩) (Nat.le_succ _) _), Lib.hid (HGQ.out.far (p := ⟨w.heap.size + 1, 0, none⟩) (by simp) _)⟩
      case measure => simp [intOf]
    · obtain rfl : j = 1 := by omega
      obtain ⟨w2, hw2⟩ : ∃ y, y = wr.setCell ⟨L.b, 2, none⟩ (.int .i64 ((n : Int) + 1)) := ⟨_, rfl⟩
      have HDR := Lib.hid (HDH.out.fr HFR.out)
      have HD2 : Hid (Dyn w2 L (mkS L (F : Int) ((n : Int) + 1) pl (.pointer none) (.slice none 0 0) st en) f fc fb) := Lib.hid (by rw [hw2]; exact ⟨Blk.set HDR.out.m 2 _ rfl, HDR.out.f.far (fun e => K.out.b1 e.symm) _, HDR.out.c.far (fun e => K.out.b2 e.symm) _, HDR.out.g.far (fun e => K.out.b3 e.symm) _⟩)
      have HX2 : Hid (Ex (Kd L) w w2) := Lib.hid (by rw [hw2]; exact (Fr.ex HFR.out).set (Or.inl rfl) _)
      have hb1 : w.heap.size ≠ L.b := by have := HLB.out; omega
      have hb2 : w.heap.size + 1 ≠ L.b := by have := HLB.out; omega
      have HA2 : Hid (Blk w2 (w.heap.size + 1) 136 #[.int .i64 65, .int .i64 0, .int .i64 0]) := Lib.hid (by rw [hw2]; exact (HA.out.far hb2 _))
      have HG2 : Hid (Blk w2 w.heap.size 124 #[.int .i64 1, .func (.func 54) #[] #[]]) := Lib.hid (by rw [hw2]; exact (HG.out.far hb1 _))
      have HSZ2 : Hid (w.heap.size ≤ w2.heap.size) := Lib.hid HX2.out.size
      have CW := wrch_d L F (n + 1) pl st en f fc fb w2 K.out (by rw [show ((n + 1 : Nat) : Int) = (n : Int) + 1 by omega]; exact HD2.out) a (by have := HB.out; omega) (by have := HB.out; omega)
      rw [show ((n + 1 : Nat) : Int) = (n : Int) + 1 by omega] at CW
      have HCW := Lib.hid CW
      have g2 := Blk.free HDR.out.m 2
      have HW2 := Lib.hid hw2
      have a0 : w2.cell? ⟨w.heap.size + 1, 0, none⟩ = some (.int .i64 65) := HA2.out.cell rfl
      have a1 : w2.cell? ⟨w.heap.size + 1, 1, none⟩ = some (.int .i64 0) := HA2.out.cell rfl
      have a2 : w2.cell? ⟨w.heap.size + 1, 2, none⟩ = some (.int .i64 0) := HA2.out.cell rfl
      have g1 : w2.cell? ⟨w.heap.size, 1, none⟩ = some (.func (.func 54) #[] #[]) := HG2.out.cell rfl
      rw [hw2] at a0 a1 a2 g1
      clear CW hw2
      have z3 := Z3.out
      have z5 := Z5.out
      go_wp2_with fail
      rw [← HW2.out]
      refine (HCW.out).mono ?_
      rintro e w3 ⟨rfl, ⟨ob, hd3, ho3⟩, hx3⟩
      have HD3 := Lib.hid hd3
      have HO3 := Lib.hid (own_base8 ho3 HSZ2.out)
      have HX3 := Lib.hid (HX2.out.trans hx3)
      clear hd3 ho3 hx3 a0 a1 a2 g1 g2 k0 k1 k2 k3 k4 k5 k6 k7
      go_wp2_with fail
      go_ret
      exact ⟨rfl, ⟨ob, HD3.out, HO3.out⟩, HX3.out⟩
end Go.Proofs.YtdnckbcknahakaaGreat
