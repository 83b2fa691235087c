/- Words form a ring, and what is left of a division goes with it. Nothing here speaks of a program. -/
import Derived.Test.YtflkcelgbnojaaaB
namespace Go.Proofs.Ytflkcelgbnojaaa
open Go.RowKit
set_option linter.unusedVariables false

theorem nrm_mod {n : Int} (hn : OkB n) (v : Int) : nrm v n % pw n = v % pw n := by
  have hp := pw_bd hn
  unfold nrm; split
  · rw [Int.sub_emod_right, Int.emod_emod]
  · exact Int.emod_emod ..
theorem nrm_nrm {n : Int} (hn : OkB n) (v : Int) : nrm (nrm v n) n = nrm v n := by
  have h := nrm_mod hn v
  unfold nrm at h ⊢
  rw [h]
theorem add_c {x x' y y' p : Int} (h1 : x % p = x' % p) (h2 : y % p = y' % p) : (x + y) % p = (x' + y') % p := by rw [Int.add_emod, h1, h2, ← Int.add_emod]
theorem mul_c {x x' y y' p : Int} (h1 : x % p = x' % p) (h2 : y % p = y' % p) : (x * y) % p = (x' * y') % p := by rw [Int.mul_emod, h1, h2, ← Int.mul_emod]
theorem sub_c {x x' y y' p : Int} (h1 : x % p = x' % p) (h2 : y % p = y' % p) : (x - y) % p = (x' - y') % p := by rw [Int.sub_emod, h1, h2, ← Int.sub_emod]

theorem okB_of {n : Int} (hn : OkB n) : okB n = true := by simpa [okB] using hn
theorem av (k : Nat) {n : Int} (hn : OkB n) (a b : Int) (h1 : 1 ≤ (k : Int)) (h2 : (k : Int) ≤ 19) (hz : ¬(((k : Int) = 2 ∨ (k : Int) = 3) ∧ nrm b n = 0)) : appV (k : Int) a b n = nrm (opv k (nrm a n) (nrm b n) n) n := by
  have he : appE (k : Int) b n = 0 := by
    unfold appE
    rw [if_pos (okB_of hn), if_neg (show ¬((k : Int) < 1 ∨ 19 < (k : Int)) by omega), if_neg hz]
  unfold appV
  rw [if_pos he, Int.toNat_natCast]
theorem av_add {n : Int} (hn : OkB n) (a b : Int) : appV 4 a b n = nrm (nrm a n + nrm b n) n := av 4 hn a b (by decide) (by decide) (by omega)
theorem av_mul {n : Int} (hn : OkB n) (a b : Int) : appV 1 a b n = nrm (nrm a n * nrm b n) n := av 1 hn a b (by decide) (by decide) (by omega)
theorem av_sub {n : Int} (hn : OkB n) (a b : Int) : appV 5 a b n = nrm (nrm a n - nrm b n) n := av 5 hn a b (by decide) (by decide) (by omega)
theorem av_neg {n : Int} (hn : OkB n) (a b : Int) : appV 18 a b n = nrm (-nrm a n) n := av 18 hn a b (by decide) (by decide) (by omega)
theorem av_div {n : Int} (hn : OkB n) (a b : Int) (hz : nrm b n ≠ 0) : appV 2 a b n = nrm ((nrm a n).tdiv (nrm b n)) n := av 2 hn a b (by decide) (by decide) (fun h => hz h.2)
theorem av_rem {n : Int} (hn : OkB n) (a b : Int) (hz : nrm b n ≠ 0) : appV 3 a b n = nrm ((nrm a n).tmod (nrm b n)) n := av 3 hn a b (by decide) (by decide) (fun h => hz h.2)

variable {n : Int} (hn : OkB n) (x y z : Int)
include hn
theorem ring_add_comm : appV 4 x y n = appV 4 y x n := by rw [av_add hn, av_add hn, Int.add_comm]
theorem ring_mul_comm : appV 1 x y n = appV 1 y x n := by rw [av_mul hn, av_mul hn, Int.mul_comm]
theorem ring_add_sub : appV 5 (appV 4 x y n) y n = nrm x n := by
  rw [av_add hn, av_sub hn]
  refine nrm_congr ?_
  have h1 : nrm (nrm (nrm x n + nrm y n) n) n % pw n = (x + y) % pw n := by rw [nrm_mod hn, nrm_mod hn]; exact add_c (nrm_mod hn x) (nrm_mod hn y)
  rw [sub_c h1 (nrm_mod hn y), Int.add_sub_cancel]
theorem ring_add_assoc : appV 4 (appV 4 x y n) z n = appV 4 x (appV 4 y z n) n := by
  rw [av_add hn, av_add hn, av_add hn, av_add hn]
  refine nrm_congr ?_
  rw [nrm_nrm hn, nrm_nrm hn, add_c (nrm_mod hn _) rfl, add_c (x := nrm x n) rfl (nrm_mod hn _), Int.add_assoc]
theorem ring_mul_assoc : appV 1 (appV 1 x y n) z n = appV 1 x (appV 1 y z n) n := by
  rw [av_mul hn, av_mul hn, av_mul hn, av_mul hn]
  refine nrm_congr ?_
  rw [nrm_nrm hn, nrm_nrm hn, mul_c (nrm_mod hn _) rfl, mul_c (x := nrm x n) rfl (nrm_mod hn _), Int.mul_assoc]
theorem ring_distrib : appV 1 x (appV 4 y z n) n = appV 4 (appV 1 x y n) (appV 1 x z n) n := by
  rw [av_mul hn, av_mul hn, av_mul hn, av_add hn, av_add hn]
  refine nrm_congr ?_
  rw [nrm_nrm hn, nrm_nrm hn, nrm_nrm hn, mul_c (x := nrm x n) rfl (nrm_mod hn _), add_c (nrm_mod hn _) (nrm_mod hn _), Int.mul_add]
theorem ring_add_neg : appV 4 x (appV 18 x 0 n) n = 0 := by
  rw [av_neg hn, av_add hn, nrm_nrm hn]
  have h : nrm (nrm x n + nrm (-nrm x n) n) n = nrm 0 n := nrm_congr (by rw [add_c (x := nrm x n) rfl (nrm_mod hn _), Int.add_right_neg])
  rw [h]; rcases hn with rfl | rfl | rfl <;> rfl
theorem ring_div (hz : nrm y n ≠ 0) : appV 4 (appV 1 y (appV 2 x y n) n) (appV 3 x y n) n = nrm x n := by
  rw [av_div hn _ _ hz, av_rem hn _ _ hz, av_mul hn, av_add hn]
  have e : nrm y n * (nrm x n).tdiv (nrm y n) + (nrm x n).tmod (nrm y n) = nrm x n := Int.mul_tdiv_add_tmod ..
  rw [← nrm_nrm hn x]
  refine nrm_congr ?_
  rw [nrm_nrm hn, nrm_nrm hn, nrm_nrm hn]
  rw [add_c (nrm_mod hn _) rfl, add_c (mul_c (x := nrm y n) rfl (nrm_mod hn _)) (nrm_mod hn _), add_c (x := nrm y n * _) rfl (nrm_mod hn _), e]
end Go.Proofs.Ytflkcelgbnojaaa
