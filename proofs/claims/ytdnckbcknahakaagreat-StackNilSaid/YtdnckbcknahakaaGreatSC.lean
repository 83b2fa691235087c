/- The machine: procedures, their calls, the first step. -/
import Derived.Test.YtdnckbcknahakaaGreatSB
import Derived.Deep.RegionWith
namespace Go.Proofs.YtdnckbcknahakaaGreat
open Go.RowKit
set_option linter.unusedVariables false
set_option linter.unusedSimpArgs false

set_option maxRecDepth 100000 in
set_option maxHeartbeats 2000000 in
theorem wnorm_m1 (w : World) : Calls Tryz.prog 64 #[.int .i64 (-1), .int .i64 16] w fun e w' => e = .returned (.tuple #[.int .i64 (-1), .int .i64 0]) ∧ w' = w := by
  go_enter Tryz.func64, Tryz.ntmps64
  go_wp2
  go_ret2
  exact ⟨rfl, rfl⟩
set_option maxRecDepth 100000 in
set_option maxHeartbeats 2000000 in
theorem wnorm_65 (w : World) : Calls Tryz.prog 64 #[.int .i64 (65), .int .i64 16] w fun e w' => e = .returned (.tuple #[.int .i64 (65), .int .i64 0]) ∧ w' = w := by
  go_enter Tryz.func64, Tryz.ntmps64
  go_wp2
  go_ret2
  exact ⟨rfl, rfl⟩
set_option maxRecDepth 100000 in
set_option maxHeartbeats 2000000 in
theorem pnorm_m1 (pb eb L ec qb NR rc : Nat) (bv arv opv pav : Value) (w : World) (hp : Blk w pb 92 #[.int .i64 16, bv, arv, opv, pav, .slice (some ⟨eb, 0, none⟩) L ec, .slice (some ⟨qb, 0, none⟩) NR rc]) : Calls Tryz.prog 52 #[.pointer (some ⟨pb, 0, none⟩), .int .i64 (-1)] w fun e w' => e = .returned (.int .i64 (-1)) ∧ w' = w := by
  have p0 := hp.cell (i := 0) rfl
  have p2 := hp.cell (i := 2) rfl
  have p5 := hp.cell (i := 5) rfl
  have p6 := hp.cell (i := 6) rfl
  have CS := Lib.hid (wnorm_m1 w)
  clear hp
  go_enter Tryz.func52, Tryz.ntmps52
  go_wp2_with (go_at_call 64; refine (CS.out).mono ?_; rintro e w1 ⟨rfl, rfl⟩)
  go_ret
  exact ⟨rfl, rfl⟩
set_option maxRecDepth 100000 in
set_option maxHeartbeats 2000000 in
theorem pnorm_65 (pb eb L ec qb NR rc : Nat) (bv arv opv pav : Value) (w : World) (hp : Blk w pb 92 #[.int .i64 16, bv, arv, opv, pav, .slice (some ⟨eb, 0, none⟩) L ec, .slice (some ⟨qb, 0, none⟩) NR rc]) : Calls Tryz.prog 52 #[.pointer (some ⟨pb, 0, none⟩), .int .i64 (65)] w fun e w' => e = .returned (.int .i64 (65)) ∧ w' = w := by
  have p0 := hp.cell (i := 0) rfl
  have p2 := hp.cell (i := 2) rfl
  have p5 := hp.cell (i := 5) rfl
  have p6 := hp.cell (i := 6) rfl
  have CS := Lib.hid (wnorm_65 w)
  clear hp
  go_enter Tryz.func52, Tryz.ntmps52
  go_wp2_with (go_at_call 64; refine (CS.out).mono ?_; rintro e w1 ⟨rfl, rfl⟩)
  go_ret
  exact ⟨rfl, rfl⟩
set_option maxRecDepth 100000 in
set_option maxHeartbeats 2000000 in
theorem proc_yes (pb eb L ec qb NR rc : Nat) (bv arv opv pav : Value) (n : Nat) (w : World) (hp : Blk w pb 92 #[.int .i64 16, bv, arv, opv, pav, .slice (some ⟨eb, 0, none⟩) L ec, .slice (some ⟨qb, 0, none⟩) NR rc]) (h1 : 1 ≤ n) (h2 : n < L) (h3 : n ≤ 1000) : Calls Tryz.prog 93 #[.pointer (some ⟨pb, 0, none⟩), .int .i64 ((32000 + n : Nat) : Int)] w fun e w' => e = .returned (.tuple #[.int .i64 (n : Int), .bool true]) ∧ ∃ m, w' = w.drewN m := by
  have p0 := hp.cell (i := 0) rfl
  have p2 := hp.cell (i := 2) rfl
  have p5 := hp.cell (i := 5) rfl
  have p6 := hp.cell (i := 6) rfl
  have z1 : decide ((1 : Int) ≤ (n : Int)) = true := decide_eq_true (by omega)
  have z2 : decide ((n : Int) < (L : Int)) = true := decide_eq_true (by omega)
  have z3 : decide (n < L) = true := decide_eq_true (by omega)
  have z4 : decide (1 ≤ n) = true := decide_eq_true h1
  obtain ⟨v, hv⟩ : ∃ v : Nat, v = 32000 + n := ⟨_, rfl⟩
  have Z5 : Hid (IntKind.i64.wrap ((v : Int) - 32000) = (n : Int)) := Lib.hid (wr (by omega) (by omega) (by omega))
  have Z6 : Hid (wrap64 ((v : Int) - 32000) = (n : Int)) := Lib.hid (wr64 (by omega) (by omega) (by omega))
  rw [← hv]
  clear hp hv h1 h2 h3
  have z5 := Z5.out
  have z6 := Z6.out
  go_enter Tryz.func93, Tryz.ntmps93
  go_wp2_with fail
  go_quiet (fail)
  go_wp2_with fail
  go_ret2
  exact ⟨rfl, _, rfl⟩
set_option maxRecDepth 100000 in
set_option maxHeartbeats 2000000 in
theorem proc_no (pb eb L ec qb NR rc : Nat) (bv arv opv pav : Value) (n : Nat) (w : World) (hp : Blk w pb 92 #[.int .i64 16, bv, arv, opv, pav, .slice (some ⟨eb, 0, none⟩) L ec, .slice (some ⟨qb, 0, none⟩) NR rc]) (h1 : 1 ≤ n) (h2 : L ≤ n) (h3 : n ≤ 1000) : Calls Tryz.prog 93 #[.pointer (some ⟨pb, 0, none⟩), .int .i64 ((32000 + n : Nat) : Int)] w fun e w' => e = .returned (.tuple #[.int .i64 (n : Int), .bool false]) ∧ ∃ m, w' = w.drewN m := by
  have p0 := hp.cell (i := 0) rfl
  have p2 := hp.cell (i := 2) rfl
  have p5 := hp.cell (i := 5) rfl
  have p6 := hp.cell (i := 6) rfl
  have z1 : decide ((1 : Int) ≤ (n : Int)) = true := decide_eq_true (by omega)
  have z2 : decide ((n : Int) < (L : Int)) = false := decide_eq_false (by omega)
  have z3 : decide (n < L) = false := decide_eq_false (by omega)
  have z4 : decide (1 ≤ n) = true := decide_eq_true h1
  obtain ⟨v, hv⟩ : ∃ v : Nat, v = 32000 + n := ⟨_, rfl⟩
  have Z5 : Hid (IntKind.i64.wrap ((v : Int) - 32000) = (n : Int)) := Lib.hid (wr (by omega) (by omega) (by omega))
  have Z6 : Hid (wrap64 ((v : Int) - 32000) = (n : Int)) := Lib.hid (wr64 (by omega) (by omega) (by omega))
  rw [← hv]
  clear hp hv h1 h2 h3
  have z5 := Z5.out
  have z6 := Z6.out
  go_enter Tryz.func93, Tryz.ntmps93
  go_wp2_with fail
  go_quiet (fail)
  go_wp2_with fail
  go_ret2
  exact ⟨rfl, _, rfl⟩
set_option maxRecDepth 100000 in
set_option maxHeartbeats 2000000 in
theorem fits_yes (pb eb L ec qb NR rc : Nat) (bv arv opv pav : Value) (s : Sm) (b rb p at_ R : Nat) (last : Int) (cov firstv fv uv x0 x1 x2 parv : Value) (fq : Nat → Value) (w : World) (hp : Blk w pb 92 #[.int .i64 16, bv, arv, opv, pav, .slice (some ⟨eb, 0, none⟩) L ec, .slice (some ⟨qb, 0, none⟩) NR rc]) (hm : MaR w b s) (hpb : s.pb = pb) (hr : Blk w rb 98 #[cov, firstv, .int .i64 last, fv, uv, x0, x1, x2, parv]) (hq : Arr w qb 3 rc fq) (hR : fq p = .int .i64 (R : Int)) (h0 : p < NR) (h1 : NR ≤ rc) (h2 : R ≤ 100000) (h3 : at_ ≤ 100000) (h4 : (at_ : Int) + R - 1 ≤ last) (h5 : p ≤ 100000) : Calls Tryz.prog 121 #[.pointer (some ⟨b, 0, none⟩), .int .i64 (p : Int), .int .i64 (at_ : Int), .pointer (some ⟨rb, 0, none⟩)] w fun e w' => e = .returned (.bool true) ∧ ∃ m, w' = w.drewN m := by
  have p0 := hp.cell (i := 0) rfl
  have p2 := hp.cell (i := 2) rfl
  have p5 := hp.cell (i := 5) rfl
  have p6 := hp.cell (i := 6) rfl
  obtain ⟨k0, k1, k2, k3, k4, k5, k6, k7⟩ := hm.cells
  rw [hpb] at k0
  have r2 := hr.cell (i := 2) rfl
  have q1 := hq.cell (show p < rc by omega)
  rw [hR] at q1
  have z1 : (0 : Int) ≤ (p : Int) := by omega
  have z2 : (p : Int) < (NR : Int) := by omega
  have z7 : decide ((at_ : Int) + (R : Int) - 1 ≤ last) = true := decide_eq_true h4
  have Z5 : Hid (IntKind.i64.wrap ((at_ : Int) + (R : Int)) = (at_ : Int) + (R : Int)) := Lib.hid (wr (by omega) (by omega) (by omega))
  have Z6 : Hid (IntKind.i64.wrap ((at_ : Int) + (R : Int) - 1) = (at_ : Int) + (R : Int) - 1) := Lib.hid (wr (by omega) (by omega) (by omega))
  clear hp hm hr hq hR h1 h2 h3 h4 h5 hpb
  have z5 := Z5.out
  have z6 := Z6.out
  go_enter Tryz.func121, Tryz.ntmps121
  go_wp2_with fail
  go_quiet (fail)
  go_wp2_with fail
  go_ret
  exact ⟨rfl, _, rfl⟩
end Go.Proofs.YtdnckbcknahakaaGreat
