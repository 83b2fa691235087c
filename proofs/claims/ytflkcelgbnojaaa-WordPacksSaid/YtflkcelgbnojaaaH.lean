/- Bits of words obey the laws of sets. Nothing here speaks of a program. -/
import Derived.Test.YtflkcelgbnojaaaG
namespace Go.Proofs.Ytflkcelgbnojaaa
open Go.RowKit
set_option linter.unusedVariables false

theorem tab_one {t0 t1 t2 t3 : Nat} (h0 : t0 ≤ 1) (h1 : t1 ≤ 1) (h2 : t2 ≤ 1) (h3 : t3 ≤ 1) (x y : Nat) : tab t0 t1 t2 t3 x y ≤ 1 := tab_le x y h0 h1 h2 h3
theorem bw_odd {t0 t1 t2 t3 : Nat} (h0 : t0 ≤ 1) (h1 : t1 ≤ 1) (h2 : t2 ≤ 1) (h3 : t3 ≤ 1) (k a b : Nat) : bw t0 t1 t2 t3 (k + 1) a b % 2 = tab t0 t1 t2 t3 (a % 2) (b % 2) ∧ bw t0 t1 t2 t3 (k + 1) a b / 2 = bw t0 t1 t2 t3 k (a / 2) (b / 2) := by
  have := tab_one h0 h1 h2 h3 (a % 2) (b % 2)
  rw [bw]; omega
/-- Tables behind tables are a table. -/
theorem bw_comp {t0 t1 t2 t3 s0 s1 s2 s3 r0 r1 r2 r3 : Nat} (hs : s0 ≤ 1 ∧ s1 ≤ 1 ∧ s2 ≤ 1 ∧ s3 ≤ 1) (hr : r0 ≤ 1 ∧ r1 ≤ 1 ∧ r2 ≤ 1 ∧ r3 ≤ 1) (k : Nat) : ∀ a b,
    bw t0 t1 t2 t3 k (bw s0 s1 s2 s3 k a b) (bw r0 r1 r2 r3 k a b) = bw (tab t0 t1 t2 t3 s0 r0) (tab t0 t1 t2 t3 s1 r1) (tab t0 t1 t2 t3 s2 r2) (tab t0 t1 t2 t3 s3 r3) k a b := by
  induction k with
  | zero => intro a b; rfl
  | succ k ih =>
    intro a b
    obtain ⟨e1, e2⟩ := bw_odd hs.1 hs.2.1 hs.2.2.1 hs.2.2.2 k a b
    obtain ⟨e3, e4⟩ := bw_odd hr.1 hr.2.1 hr.2.2.1 hr.2.2.2 k a b
    rw [bw, e1, e2, e3, e4, ih, bw]
    congr 1
    rcases two_cases a with ha | ha <;> rcases two_cases b with hb | hb <;> rw [ha, hb] <;> rfl
theorem bw_fst (k : Nat) : ∀ a b, bw 0 0 1 1 k a b = a % 2 ^ k := by
  induction k with
  | zero => intro a b; simp [bw, Nat.mod_one]
  | succ k ih =>
    intro a b
    rw [bw, ih, mod_two_succ]
    rcases two_cases a with ha | ha <;> rcases two_cases b with hb | hb <;> rw [ha, hb] <;> rfl
theorem bw_snd (k : Nat) : ∀ a b, bw 0 1 0 1 k a b = b % 2 ^ k := by
  induction k with
  | zero => intro a b; simp [bw, Nat.mod_one]
  | succ k ih =>
    intro a b
    rw [bw, ih, mod_two_succ]
    rcases two_cases a with ha | ha <;> rcases two_cases b with hb | hb <;> rw [ha, hb] <;> rfl
theorem bw_not1 (k : Nat) : ∀ a b, bw 1 1 0 0 k a b + a % 2 ^ k + 1 = 2 ^ k := by
  induction k with
  | zero => intro a b; simp [bw, Nat.mod_one]
  | succ k ih =>
    intro a b
    have h := ih (a / 2) (b / 2)
    rw [bw, mod_two_succ, Nat.pow_succ]
    rcases two_cases a with ha | ha <;> rcases two_cases b with hb | hb <;> rw [ha, hb] <;> simp only [tab] <;> simp <;> omega
theorem bw_not2 (k : Nat) : ∀ a b, bw 1 0 1 0 k a b + b % 2 ^ k + 1 = 2 ^ k := by
  induction k with
  | zero => intro a b; simp [bw, Nat.mod_one]
  | succ k ih =>
    intro a b
    have h := ih (a / 2) (b / 2)
    rw [bw, mod_two_succ, Nat.pow_succ]
    rcases two_cases a with ha | ha <;> rcases two_cases b with hb | hb <;> rw [ha, hb] <;> simp only [tab] <;> simp <;> omega
theorem bw_sum (k : Nat) : ∀ a b, bw 0 0 0 1 k a b + bw 0 1 1 1 k a b = a % 2 ^ k + b % 2 ^ k := by
  induction k with
  | zero => intro a b; simp [bw, Nat.mod_one]
  | succ k ih =>
    intro a b
    have h := ih (a / 2) (b / 2)
    rw [bw, bw, mod_two_succ, mod_two_succ]
    rcases two_cases a with ha | ha <;> rcases two_cases b with hb | hb <;> rw [ha, hb] <;> simp only [tab] <;> simp <;> omega
/-- What a mask of m low bits clears. -/
theorem bw_clear (k : Nat) : ∀ X m, bw 0 0 1 0 k X (2 ^ m - 1) = X / 2 ^ m * 2 ^ m % 2 ^ k := by
  induction k with
  | zero => intro X m; simp [bw, Nat.mod_one]
  | succ k ih =>
    intro X m
    cases m with
    | zero =>
      have h := ih (X / 2) 0
      simp only [Nat.pow_zero, Nat.sub_self, Nat.div_one, Nat.mul_one] at h ⊢
      rw [bw, Nat.zero_div, h, mod_two_succ]
      rcases two_cases X with ha | ha <;> rw [ha] <;> rfl
    | succ m =>
      have h := ih (X / 2) m
      have hp : 0 < 2 ^ m := Nat.two_pow_pos m
      have e1 : (2 ^ (m + 1) - 1) % 2 = 1 := by rw [Nat.pow_succ]; omega
      have e2 : (2 ^ (m + 1) - 1) / 2 = 2 ^ m - 1 := by rw [Nat.pow_succ]; omega
      rw [bw, e1, e2, h]
      have e3 : tab 0 0 1 0 (X % 2) 1 = 0 := by rcases two_cases X with ha | ha <;> rw [ha] <;> rfl
      rw [e3, Nat.zero_add, Nat.pow_succ 2 m, Nat.mul_comm (2 ^ m) 2, ← Nat.div_div_eq_div_mul, Nat.pow_succ 2 k, Nat.mul_comm (2 ^ k) 2, ← Nat.mul_assoc, Nat.mul_comm (X / 2 / 2 ^ m) 2, Nat.mul_assoc, Nat.mul_mod_mul_left]

theorem nar_small {v n : Int} (hn : OkB n) (h0 : 0 ≤ v) (h1 : v ≤ 32767) : nrm v n = v := by
  unfold nrm pw; rcases hn with rfl | rfl | rfl <;> simp <;> omega
/-- The word without its sign, as a natural number. -/
def u (v n : Int) : Nat := (uns v n).toNat
variable {n : Int} (hn : OkB n)
include hn
theorem u_eq (v : Int) : (u v n : Int) = v % pw n := Int.toNat_of_nonneg (uns_bd hn).1
theorem u_lt (v : Int) : u v n < 2 ^ n.toNat := by
  have h := u_eq hn v
  have hp := pw_bd hn
  have := Int.emod_lt_of_pos v (b := pw n) (by omega)
  have e := pw_nat hn
  omega
theorem nrm_u (v : Int) : nrm (u v n) n = nrm v n := nrm_congr (by rw [u_eq hn, Int.emod_emod])
theorem u_nrm (v : Int) : u (nrm v n) n = u v n := by
  have h1 := u_eq hn (nrm v n)
  have h2 := u_eq hn v
  rw [nrm_mod hn] at h1
  omega
theorem u_nat {U : Nat} (h : U < 2 ^ n.toNat) : u (U : Int) n = U := by
  have h1 := u_eq hn (U : Int)
  have e := pw_nat hn
  rw [Int.emod_eq_of_lt (by omega) (by omega)] at h1
  omega
theorem u_nn {U : Nat} (h : U < 2 ^ n.toNat) : u (nrm (U : Int) n) n = U := by rw [u_nrm hn, u_nat hn h]
theorem uns_n (v : Int) : (uns (nrm v n) n).toNat = u v n := u_nrm hn v
theorem a8 (a b : Int) : appV 8 a b n = nrm (bw 0 0 0 1 n.toNat (u a n) (u b n) : Nat) n := by
  have h := nrm_and hn (nrm a n) (nrm b n)
  rw [uns_n hn, uns_n hn] at h
  rw [h]; exact av 8 hn a b (by decide) (by decide) (by omega)
theorem a9 (a b : Int) : appV 9 a b n = nrm (bw 0 1 1 1 n.toNat (u a n) (u b n) : Nat) n := by
  have h := nrm_or hn (nrm a n) (nrm b n)
  rw [uns_n hn, uns_n hn] at h
  rw [h]; exact av 9 hn a b (by decide) (by decide) (by omega)
theorem a10 (a b : Int) : appV 10 a b n = nrm (bw 0 1 1 0 n.toNat (u a n) (u b n) : Nat) n := by
  have h := nrm_xor hn (nrm a n) (nrm b n)
  rw [uns_n hn, uns_n hn] at h
  rw [h]; exact av 10 hn a b (by decide) (by decide) (by omega)
theorem a11 (a b : Int) : appV 11 a b n = nrm (bw 1 0 0 1 n.toNat (u a n) (u b n) : Nat) n := by
  have h := nrm_eqv hn (nrm a n) (nrm b n)
  rw [uns_n hn, uns_n hn] at h
  rw [h]; exact av 11 hn a b (by decide) (by decide) (by omega)
theorem a19 (a b c : Int) : appV 19 a c n = nrm (bw 1 1 0 0 n.toNat (u a n) (u b n) : Nat) n := by
  have h0 : appV 19 a c n = nrm (-nrm a n - 1) n := av 19 hn a c (by decide) (by decide) (by omega)
  rw [h0]
  refine nrm_congr ?_
  have h := bw_not1 n.toNat (u a n) (u b n)
  have hl := u_lt hn a
  rw [Nat.mod_eq_of_lt hl] at h
  have hu := u_eq hn a
  have e := pw_nat hn
  have e2 : ((bw 1 1 0 0 n.toNat (u a n) (u b n) : Nat) : Int) = -(a % pw n) - 1 + pw n := by omega
  rw [e2, Int.add_emod_right]
  refine sub_c ?_ rfl
  rw [Int.neg_emod_eq_sub_emod, Int.neg_emod_eq_sub_emod (a := a % pw n)]
  exact sub_c rfl (by rw [nrm_mod hn, Int.emod_emod])
theorem a19' (a b c : Int) : appV 19 a c n = nrm (bw 1 0 1 0 n.toNat (u b n) (u a n) : Nat) n := by
  rw [a19 hn a b c]
  have h1 := bw_not1 n.toNat (u a n) (u b n)
  have h2 := bw_not2 n.toNat (u b n) (u a n)
  rw [show bw 1 1 0 0 n.toNat (u a n) (u b n) = bw 1 0 1 0 n.toNat (u b n) (u a n) from by omega]
theorem ubw {t0 t1 t2 t3 : Nat} (h0 : t0 ≤ 1) (h1 : t1 ≤ 1) (h2 : t2 ≤ 1) (h3 : t3 ≤ 1) (a b : Nat) : u (nrm (bw t0 t1 t2 t3 n.toNat a b : Nat) n) n = bw t0 t1 t2 t3 n.toNat a b :=
  u_nn hn (bw_lt h0 h1 h2 h3 _ _ _)

theorem bit_de_morgan (x y : Int) : appV 8 x y n = appV 19 (appV 9 (appV 19 x 0 n) (appV 19 y 0 n) n) 0 n := by
  rw [a19 hn x y 0, a19' hn y x 0, a9 hn, ubw hn (by decide) (by decide) (by decide) (by decide), ubw hn (by decide) (by decide) (by decide) (by decide),
    bw_comp (by decide) (by decide), a19 hn _ (nrm (bw 0 0 0 0 n.toNat (u x n) (u y n) : Nat) n) 0, ubw hn (by decide) (by decide) (by decide) (by decide), ubw hn (by decide) (by decide) (by decide) (by decide),
    bw_comp (by decide) (by decide), a8 hn]
  rfl
theorem bit_eqv (x y : Int) : appV 11 x y n = appV 19 (appV 10 x y n) 0 n := by
  rw [a10 hn, a19 hn _ (nrm (bw 0 0 0 0 n.toNat (u x n) (u y n) : Nat) n) 0, ubw hn (by decide) (by decide) (by decide) (by decide), ubw hn (by decide) (by decide) (by decide) (by decide),
    bw_comp (by decide) (by decide), a11 hn]
  rfl
theorem bit_xor (x y : Int) : appV 10 (appV 10 x y n) y n = nrm x n := by
  rw [a10 hn x y, a10 hn, ubw hn (by decide) (by decide) (by decide) (by decide)]
  have hy : u y n = bw 0 1 0 1 n.toNat (u x n) (u y n) := by rw [bw_snd, Nat.mod_eq_of_lt (u_lt hn y)]
  have hc : bw 0 1 1 0 n.toNat (bw 0 1 1 0 n.toNat (u x n) (u y n)) (u y n) = u x n := by
    rw [show bw 0 1 1 0 n.toNat (bw 0 1 1 0 n.toNat (u x n) (u y n)) (u y n) = bw 0 1 1 0 n.toNat (bw 0 1 1 0 n.toNat (u x n) (u y n)) (bw 0 1 0 1 n.toNat (u x n) (u y n)) from by rw [← hy], bw_comp (by decide) (by decide)]
    exact (bw_fst _ _ _).trans (Nat.mod_eq_of_lt (u_lt hn x))
  rw [hc, nrm_u hn]
theorem bit_sum (x y : Int) : appV 4 (appV 8 x y n) (appV 9 x y n) n = appV 4 x y n := by
  rw [a8 hn, a9 hn, av_add hn, av_add hn, nrm_nrm hn, nrm_nrm hn]
  refine nrm_congr ?_
  have h := bw_sum n.toNat (u x n) (u y n)
  rw [Nat.mod_eq_of_lt (u_lt hn x), Nat.mod_eq_of_lt (u_lt hn y)] at h
  rw [add_c (nrm_mod hn _) (nrm_mod hn _), add_c (x := nrm x n) (nrm_mod hn _) (nrm_mod hn _)]
  have hx := u_eq hn x
  have hy := u_eq hn y
  rw [show ((bw 0 0 0 1 n.toNat (u x n) (u y n) : Nat) : Int) + (bw 0 1 1 1 n.toNat (u x n) (u y n) : Nat) = x % pw n + y % pw n from by omega]
  exact add_c (Int.emod_emod ..) (Int.emod_emod ..)
theorem bit_double (k : Nat) : appV 4 (nrm (2 ^ k) n) (nrm (2 ^ k) n) n = nrm (2 ^ (k + 1)) n := by
  rw [av_add hn, nrm_nrm hn]
  refine nrm_congr ?_
  rw [add_c (nrm_mod hn _) (nrm_mod hn _), Int.pow_succ]
  congr 1; omega
theorem nrm_m {m : Nat} (hm : (m : Int) < n) : nrm (m : Int) n = m := by
  have : n ≤ 32 := by rcases hn with rfl | rfl | rfl <;> decide
  refine nar_small hn (by omega) (by omega)
theorem a6 (x : Int) (m : Nat) (hm : (m : Int) < n) : appV 6 x m n = nrm (nrm x n * 2 ^ m) n := by
  have h : appV 6 x m n = nrm (opv 6 (nrm x n) (nrm m n) n) n := av 6 hn x m (by decide) (by decide) (by omega)
  have e : opv 6 (nrm x n) m n = nrm x n * 2 ^ m := by
    show (if (m : Int) < 0 ∨ n ≤ m then 0 else nrm x n * 2 ^ (m : Int).toNat) = _
    rw [if_neg (by omega), Int.toNat_natCast]
  rw [h, nrm_m hn hm, e]
theorem a7 (x : Int) (m : Nat) (hm : (m : Int) < n) : appV 7 x m n = nrm (u x n / 2 ^ m : Nat) n := by
  have h : appV 7 x m n = nrm (opv 7 (nrm x n) (nrm m n) n) n := av 7 hn x m (by decide) (by decide) (by omega)
  have e : opv 7 (nrm x n) m n = ((u x n / 2 ^ m : Nat) : Int) := by
    have e1 : opv 7 (nrm x n) m n = uns (nrm x n) n / 2 ^ m := by
      show (if (m : Int) < 0 ∨ n ≤ m then 0 else uns (nrm x n) n / 2 ^ (m : Int).toNat) = _
      rw [if_neg (by omega), Int.toNat_natCast]
    have e2 : uns (nrm x n) n = (u x n : Int) := by rw [u_eq hn]; exact nrm_mod hn x
    rw [e1, e2]; simp
  rw [h, nrm_m hn hm, e]
theorem bit_shl (x : Int) (m : Nat) (hm : (m : Int) < n) : appV 6 x m n = appV 1 x (nrm (2 ^ m) n) n := by
  rw [a6 hn x m hm, av_mul hn, nrm_nrm hn]
  exact nrm_congr (mul_c rfl (nrm_mod hn _).symm)
theorem low_mask (m : Nat) (hm : (m : Int) < n) : u (appV 5 (nrm (2 ^ m) n) 1 n) n = 2 ^ m - 1 := by
  have hlt : 2 ^ m < 2 ^ n.toNat := Nat.pow_lt_pow_right (by decide) (by omega)
  have hp : 0 < 2 ^ m := Nat.two_pow_pos m
  have e : appV 5 (nrm (2 ^ m) n) 1 n = nrm (2 ^ m - 1 : Nat) n := by
    rw [av_sub hn, nrm_nrm hn]
    refine nrm_congr ?_
    have e1 : ((2 ^ m - 1 : Nat) : Int) = 2 ^ m - 1 := by
      have : ((2 ^ m : Nat) : Int) = 2 ^ m := by simp
      omega
    rw [e1]; exact sub_c (nrm_mod hn _) (nrm_mod hn _)
  rw [e, u_nn hn (by omega)]
theorem bit_clear (x : Int) (m : Nat) (hm : (m : Int) < n) : appV 6 (appV 7 x m n) m n = appV 8 x (appV 19 (appV 5 (nrm (2 ^ m) n) 1 n) 0 n) n := by
  rw [a6 hn _ m hm, a7 hn x m hm, a19' hn _ x 0, a8 hn, ubw hn (by decide) (by decide) (by decide) (by decide), low_mask hn m hm, nrm_nrm hn]
  have hc : bw 0 0 0 1 n.toNat (u x n) (bw 1 0 1 0 n.toNat (u x n) (2 ^ m - 1)) = u x n / 2 ^ m * 2 ^ m % 2 ^ n.toNat := by
    have hx : u x n = bw 0 0 1 1 n.toNat (u x n) (2 ^ m - 1) := by rw [bw_fst, Nat.mod_eq_of_lt (u_lt hn x)]
    rw [← bw_clear, show bw 0 0 0 1 n.toNat (u x n) (bw 1 0 1 0 n.toNat (u x n) (2 ^ m - 1)) = bw 0 0 0 1 n.toNat (bw 0 0 1 1 n.toNat (u x n) (2 ^ m - 1)) (bw 1 0 1 0 n.toNat (u x n) (2 ^ m - 1)) from by rw [← hx], bw_comp (by decide) (by decide)]
    rfl
  rw [hc]
  refine nrm_congr ?_
  rw [mul_c (nrm_mod hn _) rfl, pw_nat hn, Int.natCast_emod, Int.emod_emod]
  simp
end Go.Proofs.Ytflkcelgbnojaaa
