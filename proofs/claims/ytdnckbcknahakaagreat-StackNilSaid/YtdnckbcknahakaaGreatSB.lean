/- The machine's words: load, store, push, pop, give. -/
import Derived.Test.YtdnckbcknahakaaGreatSA
import Derived.Deep.QuietTactic
import Derived.Deep.RegionHeld3
import Derived.BigQuiet
import Derived.StillTailTactics
namespace Go.Proofs.YtdnckbcknahakaaGreat
open Go.RowKit
set_option linter.unusedVariables false
set_option linter.unusedSimpArgs false

theorem wr {x y : Int} (h : x = y) (h1 : -9000000000000000000 ≤ y) (h2 : y ≤ 9000000000000000000) : IntKind.i64.wrap x = y := by
  subst h; exact IntWalk.i64_in _ (by omega)
theorem wr64 {x y : Int} (h : x = y) (h1 : -9000000000000000000 ≤ y) (h2 : y ≤ 9000000000000000000) : wrap64 x = y := by
  subst h; exact IntWalk.wrap64_in _ (by omega)
set_option maxHeartbeats 2000000 in
theorem mload_any (mb k : Nat) (f : Nat → Value) (w : World) (hf : Arr w mb 88 32000 f) (hk : k < 32000) :
    Calls Tryz.prog 20 #[.pointer (some ⟨mb, 0, none⟩), .int .i64 (k : Int)] w fun e w' => e = .returned (.tuple #[f k, .int .i64 0]) ∧ w' = w := by
  have z1 : decide ((k : Int) < 0) = false := decide_eq_false (by omega)
  have z2 : decide ((32000 : Int) ≤ (k : Int)) = false := decide_eq_false (by omega)
  have z3 : (0 : Int) ≤ (k : Int) := by omega
  have z4 : (k : Int) < 32000 := by omega
  have hc := hf.cell hk
  clear hf
  go_enter Tryz.func20, Tryz.ntmps20
  go_wp2_with fail
  go_ret2
  exact ⟨rfl, rfl⟩
set_option maxHeartbeats 2000000 in
theorem mstore_any (mb k : Nat) (f : Nat → Value) (v : Int) (w : World) (hf : Arr w mb 88 32000 f) (hk : k < 32000) :
    Calls Tryz.prog 119 #[.pointer (some ⟨mb, 0, none⟩), .int .i64 (k : Int), .int .i64 v] w fun e w' => e = .returned (.int .i64 0) ∧ w' = w.setCell ⟨mb, k, none⟩ (.int .i64 v) := by
  have z1 : decide ((k : Int) < 0) = false := decide_eq_false (by omega)
  have z2 : decide ((32000 : Int) ≤ (k : Int)) = false := decide_eq_false (by omega)
  have z3 : (0 : Int) ≤ (k : Int) := by omega
  have z4 : (k : Int) < 32000 := by omega
  have hc := hf.cell hk
  have hz := hf.free k
  clear hf
  go_enter Tryz.func119, Tryz.ntmps119
  go_wp2_with fail
  go_ret
  exact ⟨rfl, rfl⟩
set_option maxRecDepth 100000 in
set_option maxHeartbeats 4000000 in
theorem push_any (s : Sm) (b F D : Nat) (f : Nat → Value) (v : Int) (w : World) (hm : MaR w b s) (hf : Arr w s.mb 88 32000 f) (hne : b ≠ s.mb) (hF : s.fr = (F : Int)) (hD : s.dp = (D : Int)) (k : Nat) (hkk : F + D = k) (hk : k < 32000) :
    Calls Tryz.prog 95 #[.pointer (some ⟨b, 0, none⟩), .int .i64 v] w fun e w' => e = .returned (.int .i64 0) ∧ MaR w' b { s with dp := (D : Int) + 1 } ∧ Arr w' s.mb 88 32000 (upd f k (.int .i64 v)) ∧ Ex (Kb b s.mb) w w' := by
  obtain ⟨pb, fr, dp, pl, mb, hp, gv, rb, rt, kp, inp, oa, ob, st, en, r0, r1, r2, r3, r4, bg, cd⟩ := s
  simp only at hF hD
  subst hF hD
  obtain ⟨k0, k1, k2, k3, k4, k5, k6, k7⟩ := hm.cells
  simp only at k0 k1 k2 k3 k4 k5 k6 k7
  have hfz := hm.free 2
  obtain ⟨w1, hw1⟩ : ∃ y, y = w.setCell ⟨b, 2, none⟩ (.int .i64 ((D : Int) + 1)) := ⟨_, rfl⟩
  have HM1 : Hid (MaR w1 b ⟨pb, (F : Int), (D : Int) + 1, pl, mb, hp, gv, rb, rt, kp, inp, oa, ob, st, en, r0, r1, r2, r3, r4, bg, cd⟩) := Lib.hid (by rw [hw1]; exact Blk.set hm 2 _ rfl)
  have HA1 : Hid (Arr w1 mb 88 32000 f) := Lib.hid (by rw [hw1]; exact hf.far (fun e => hne e.symm) _)
  have HE1 : Hid (Ex (Kb b mb) w w1) := Lib.hid (by rw [hw1]; exact (Ex.refl _ _).set (Or.inl rfl) _)
  have CS := Lib.hid (mstore_any mb k f v w1.drew (HA1.out.fr (Fr.refl _).drew) hk)
  have Z1 : Hid (IntKind.i64.wrap ((D : Int) + 1) = (D : Int) + 1) := Lib.hid (wr (by omega) (by omega) (by omega))
  have Z2 : Hid (IntKind.i64.wrap ((F : Int) + ((D : Int) + 1)) = (F : Int) + (D : Int) + 1) := Lib.hid (wr (by omega) (by omega) (by omega))
  have Z3 : Hid (IntKind.i64.wrap ((F : Int) + (D : Int)) = (k : Int)) := Lib.hid (wr (by omega) (by omega) (by omega))
  have HW1 := Lib.hid hw1
  have HK := Lib.hid hk
  clear hm hf hw1 hk hkk
  have z1 := Z1.out
  have z2 := Z2.out
  have z3 := Z3.out
  go_enter Tryz.func95, Tryz.ntmps95
  go_wp2_with fail
  rw [← HW1.out]
  clear k0 k1 k2 k3 k4 k5 k6 k7
  obtain ⟨j0, j1, j2, j3, j4, j5, j6, j7⟩ := HM1.out.cells
  simp only at j0 j1 j2 j3 j4 j5 j6 j7
  go_still_tail 17, (by kernel_rfl)
  change wpList _ _ _ _ _ w1.drew
  go_wp2_with (go_at_call 119; refine (CS.out).mono ?_; rintro e w2 ⟨rfl, rfl⟩)
  go_ret
  exact ⟨rfl, (Blk.fr HM1.out (Fr.refl _).drew).far hne _, (HA1.out.fr (Fr.refl _).drew).set HK.out _, (HE1.out.fr (Fr.refl _).drew).set (Or.inr rfl) _⟩
set_option maxRecDepth 100000 in
set_option maxHeartbeats 4000000 in
theorem give_any (s : Sm) (b F D : Nat) (f : Nat → Value) (v : Int) (w : World) (hm : MaR w b s) (hf : Arr w s.mb 88 32000 f) (hne : b ≠ s.mb) (hF : s.fr = (F : Int)) (hD : s.dp = (D : Int)) (k : Nat) (hkk : F + D = k + 1) (hk : k < 32000) :
    Calls Tryz.prog 82 #[.pointer (some ⟨b, 0, none⟩), .int .i64 v] w fun e w' => e = .returned (.int .i64 0) ∧ MaR w' b s ∧ Arr w' s.mb 88 32000 (upd f k (.int .i64 v)) ∧ Ex (Kb b s.mb) w w' := by
  obtain ⟨pb, fr, dp, pl, mb, hp, gv, rb, rt, kp, inp, oa, ob, st, en, r0, r1, r2, r3, r4, bg, cd⟩ := s
  simp only at hF hD
  subst hF hD
  obtain ⟨k0, k1, k2, k3, k4, k5, k6, k7⟩ := hm.cells
  simp only at k0 k1 k2 k3 k4 k5 k6 k7
  have HM1 := Lib.hid hm
  have HA1 := Lib.hid hf
  have CS := Lib.hid (mstore_any mb k f v w.drew (hf.fr (Fr.refl _).drew) hk)
  have Z2 : Hid (IntKind.i64.wrap ((F : Int) + (D : Int)) = (F : Int) + (D : Int)) := Lib.hid (wr (by omega) (by omega) (by omega))
  have Z3 : Hid (IntKind.i64.wrap ((F : Int) + (D : Int) - 1) = (k : Int)) := Lib.hid (wr (by omega) (by omega) (by omega))
  have HK := Lib.hid hk
  have HKK := Lib.hid hkk
  clear hm hf hk hkk
  have z2 := Z2.out
  have z3 := Z3.out
  go_enter Tryz.func82, Tryz.ntmps82
  go_wp2_with fail
  go_still_tail 17, (by kernel_rfl)
  change wpList _ _ _ _ _ w.drew
  go_wp2_with (go_at_call 119; refine (CS.out).mono ?_; rintro e w2 ⟨rfl, rfl⟩)
  go_ret
  exact ⟨rfl, (Blk.fr HM1.out (Fr.refl _).drew).far hne _, (HA1.out.fr (Fr.refl _).drew).set HK.out _, (Fr.ex (Fr.refl _).drew).set (Or.inr rfl) _⟩
set_option maxRecDepth 100000 in
set_option maxHeartbeats 4000000 in
theorem pop_any (s : Sm) (b F D : Nat) (f : Nat → Value) (w : World) (hm : MaR w b s) (hf : Arr w s.mb 88 32000 f) (hne : b ≠ s.mb) (hF : s.fr = (F : Int)) (hD : s.dp = (D : Int) + 1) (k : Nat) (hkk : F + D = k) (hk : k < 32000) :
    Calls Tryz.prog 124 #[.pointer (some ⟨b, 0, none⟩)] w fun e w' => e = .returned (.tuple #[f k, .int .i64 0]) ∧ MaR w' b { s with dp := (D : Int) } ∧ Arr w' s.mb 88 32000 f ∧ Ex (Kb b s.mb) w w' := by
  obtain ⟨pb, fr, dp, pl, mb, hp, gv, rb, rt, kp, inp, oa, ob, st, en, r0, r1, r2, r3, r4, bg, cd⟩ := s
  simp only at hF hD
  subst hF hD
  obtain ⟨k0, k1, k2, k3, k4, k5, k6, k7⟩ := hm.cells
  simp only at k0 k1 k2 k3 k4 k5 k6 k7
  have hfz := hm.free 2
  obtain ⟨w1, hw1⟩ : ∃ y, y = w.setCell ⟨b, 2, none⟩ (.int .i64 (D : Int)) := ⟨_, rfl⟩
  have HM1 : Hid (MaR w1 b ⟨pb, (F : Int), (D : Int), pl, mb, hp, gv, rb, rt, kp, inp, oa, ob, st, en, r0, r1, r2, r3, r4, bg, cd⟩) := Lib.hid (by rw [hw1]; exact Blk.set hm 2 _ rfl)
  have HA1 : Hid (Arr w1 mb 88 32000 f) := Lib.hid (by rw [hw1]; exact hf.far (fun e => hne e.symm) _)
  have HE1 : Hid (Ex (Kb b mb) w w1) := Lib.hid (by rw [hw1]; exact (Ex.refl _ _).set (Or.inl rfl) _)
  have CS := Lib.hid (fun W (h : Fr w1 W) => mload_any mb k f W (HA1.out.fr h) hk)
  have Z1 : Hid (IntKind.i64.wrap ((D : Int) + 1 - 1) = (D : Int)) := Lib.hid (wr (by omega) (by omega) (by omega))
  have Z2 : Hid (IntKind.i64.wrap ((F : Int) + (D : Int)) = (k : Int)) := Lib.hid (wr (by omega) (by omega) (by omega))
  have Z4 : Hid (wrap64 (D : Int) = (D : Int)) := Lib.hid (wr64 (by omega) (by omega) (by omega))
  have HW1 := Lib.hid hw1
  clear hm hf hw1 hk hkk
  have z1 := Z1.out
  have z2 := Z2.out
  have z4 := Z4.out
  go_enter Tryz.func124, Tryz.ntmps124
  go_wp2_with fail
  rw [← HW1.out]
  clear k0 k1 k2 k3 k4 k5 k6 k7
  obtain ⟨j0, j1, j2, j3, j4, j5, j6, j7⟩ := HM1.out.cells
  simp only at j0 j1 j2 j3 j4 j5 j6 j7
  go_quiet ((go_at_call 20; exact Calls.quiet_of_same (CS.out _ ((Fr.refl _).drewN _))))
  go_wp2_with fail
  go_ret2
  exact ⟨rfl, Blk.fr HM1.out ((Fr.refl _).drewN _), HA1.out.fr ((Fr.refl _).drewN _), HE1.out.fr ((Fr.refl _).drewN _)⟩
end Go.Proofs.YtdnckbcknahakaaGreat
