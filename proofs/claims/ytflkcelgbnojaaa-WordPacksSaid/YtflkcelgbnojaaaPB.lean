/- A byte of a word changed. Nothing here speaks of a program. -/
import Derived.Test.YtflkcelgbnojaaaH
import Derived.Test.YtflkcelgbnojaaaV
namespace Go.Proofs.Ytflkcelgbnojaaa
open Go.RowKit
set_option linter.unusedVariables false

theorem bw_add (t0 t1 t2 t3 : Nat) (j : Nat) : ∀ (a X Y : Nat), bw t0 t1 t2 t3 (a + j) X Y = bw t0 t1 t2 t3 a X Y + 2 ^ a * bw t0 t1 t2 t3 j (X / 2 ^ a) (Y / 2 ^ a) := by
  intro a
  induction a with
  | zero => intro X Y; simp [bw]
  | succ a ih =>
    intro X Y
    rw [show a + 1 + j = (a + j) + 1 from by omega, bw, ih, bw, Nat.mul_add, Nat.pow_succ, Nat.mul_comm (2 ^ a) 2, ← Nat.div_div_eq_div_mul, ← Nat.div_div_eq_div_mul, Nat.mul_assoc]
    omega
theorem bw_cong (t0 t1 t2 t3 : Nat) (k : Nat) : ∀ X Y X' Y', X % 2 ^ k = X' % 2 ^ k → Y % 2 ^ k = Y' % 2 ^ k → bw t0 t1 t2 t3 k X Y = bw t0 t1 t2 t3 k X' Y' := by
  induction k with
  | zero => intro _ _ _ _ _ _; rfl
  | succ k ih =>
    intro X Y X' Y' h1 h2
    rw [mod_two_succ, mod_two_succ] at h1 h2
    have a1 : X % 2 = X' % 2 := by omega
    have a2 : X / 2 % 2 ^ k = X' / 2 % 2 ^ k := by omega
    have a3 : Y % 2 = Y' % 2 := by omega
    have a4 : Y / 2 % 2 ^ k = Y' / 2 % 2 ^ k := by omega
    rw [bw, bw, a1, a3, ih _ _ _ _ a2 a4]
/-- The eight bits above l of X cleared. -/
theorem bw_hole (l j X : Nat) : bw 0 0 1 0 (l + j) X (255 * 2 ^ l) = X % 2 ^ l + 2 ^ l * (X / 2 ^ l / 256 * 256 % 2 ^ j) := by
  have hp : 0 < 2 ^ l := Nat.two_pow_pos l
  rw [bw_add, Nat.mul_div_cancel _ hp, show (255 : Nat) = 2 ^ 8 - 1 from rfl, bw_clear]
  have h0 : bw 0 0 1 0 l X ((2 ^ 8 - 1) * 2 ^ l) = X % 2 ^ l := by
    rw [bw_cong 0 0 1 0 l X ((2 ^ 8 - 1) * 2 ^ l) X (2 ^ 0 - 1) rfl (by simp), bw_clear]
    simp
  rw [h0]
/-- Eight bits laid where there are none. -/
theorem bw_lay (l j A c : Nat) (hc : c < 256) (hA : A / 2 ^ l % 256 = 0) : bw 0 1 1 1 (l + j) A (c * 2 ^ l) = A % 2 ^ l + 2 ^ l * ((A / 2 ^ l + c) % 2 ^ j) := by
  have hp : 0 < 2 ^ l := Nat.two_pow_pos l
  rw [bw_add, Nat.mul_div_cancel _ hp]
  have h0 : bw 0 1 1 1 l A (c * 2 ^ l) = A % 2 ^ l := by
    rw [bw_or, Nat.or_mod_two_pow, Nat.mul_mod_left, Nat.or_zero]
  have h1 : bw 0 1 1 1 j (A / 2 ^ l) c = (A / 2 ^ l + c) % 2 ^ j := by
    rw [bw_or]
    have e : A / 2 ^ l = 2 ^ 8 * (A / 2 ^ l / 256) := by omega
    rw [e, ← Nat.two_pow_add_eq_or_of_lt (i := 8) (by omega)]
  rw [h0, h1]

theorem andNot_cut {k : Nat} (hk : k = 16 ∨ k = 24 ∨ k = 32) (a b : Int) : bits .andNot .i64 a b % ((2 ^ k : Nat) : Int) = (bw 0 0 1 0 k (a % ((2 ^ k : Nat) : Int)).toNat (b % ((2 ^ k : Nat) : Int)).toNat : Nat) := by
  have h := bits_cut .andNot (fun a b => a &&& (18446744073709551615 - b % 18446744073709551616)) (fun a b => by
    rw [BitVec.toNat_and, BitVec.toNat_not, Nat.mod_eq_of_lt (a := b.toNat) b.isLt]) k (by omega) (fun a b => by
      rw [Nat.and_mod_two_pow, Nat.and_mod_two_pow (a := a % 2 ^ k), Nat.mod_mod]
      have e : (18446744073709551615 - b % 18446744073709551616) % 2 ^ k = (18446744073709551615 - b % 2 ^ k % 18446744073709551616) % 2 ^ k := by
        rcases hk with rfl | rfl | rfl <;> simp <;> omega
      rw [e]) a b
  rw [h]
  have hb1 := Int.emod_nonneg b (b := ((2 ^ k : Nat) : Int)) (by rcases hk with rfl | rfl | rfl <;> decide)
  have hb2 := Int.emod_lt_of_pos b (b := ((2 ^ k : Nat) : Int)) (by rcases hk with rfl | rfl | rfl <;> decide)
  obtain ⟨B, hB⟩ := Int.eq_ofNat_of_zero_le hb1
  rw [hB] at hb2 ⊢
  rw [Int.toNat_natCast]
  generalize (a % ((2 ^ k : Nat) : Int)).toNat = A
  have hBk : B < 2 ^ k := by omega
  have hc := bw_comp (t0 := 0) (t1 := 0) (t2 := 0) (t3 := 1) (s0 := 0) (s1 := 0) (s2 := 1) (s3 := 1) (r0 := 1) (r1 := 0) (r2 := 1) (r3 := 0) (by decide) (by decide) k A B
  have hn := bw_not2 k A B
  rw [Nat.mod_eq_of_lt hBk] at hn
  have e : bw 0 0 1 0 k A B = (A &&& (18446744073709551615 - B % 18446744073709551616)) % 2 ^ k := by
    rw [show bw 0 0 1 0 k A B = bw 0 0 0 1 k (bw 0 0 1 1 k A B) (bw 1 0 1 0 k A B) from hc.symm, bw_and, bw_fst, Nat.and_mod_two_pow, Nat.mod_mod, ← Nat.and_mod_two_pow, Nat.and_mod_two_pow, Nat.and_mod_two_pow (b := 18446744073709551615 - B % 18446744073709551616)]
    congr 1
    rcases hk with rfl | rfl | rfl <;> simp at hBk hn ⊢ <;> omega
  rw [e]

/-- The word with the eight bits above l set to c. -/
def pb (x c : Int) (l : Nat) : Int := bits .or .i64 (bits .andNot .i64 x (255 * 2 ^ l)) (c * 2 ^ l)
theorem pb_mod {n : Int} (hn : OkB n) (x : Int) (c : Nat) (hc : c < 256) (l : Nat) (hl : l = 0 ∨ l = 8 ∨ l = 16 ∨ l = 24) (hln : (l : Int) + 8 ≤ n) :
    pb x c l % pw n = x % pw n - (x % pw n / 2 ^ l % 256) * 2 ^ l + c * 2 ^ l := by
  have hk : n.toNat = 16 ∨ n.toNat = 24 ∨ n.toNat = 32 := by rcases hn with rfl | rfl | rfl <;> decide
  obtain ⟨j, hj⟩ : ∃ j, n.toNat = l + j := ⟨n.toNat - l, by omega⟩
  have hj8 : 8 ≤ j := by omega
  have h1 := andNot_cut hk x (255 * 2 ^ l)
  have h2 := bits_cut .or (· ||| ·) (fun a b => BitVec.toNat_or a b) n.toNat (okB_le hn) (fun a b => by simp only [Nat.or_mod_two_pow, Nat.mod_mod]) (bits .andNot .i64 x (255 * 2 ^ l)) (c * 2 ^ l)
  rw [← pw_nat hn] at h1 h2
  unfold pb
  rw [h2, h1]
  have hX0 := Int.emod_nonneg x (b := pw n) (by have := pw_bd hn; omega)
  obtain ⟨X, hX⟩ := Int.eq_ofNat_of_zero_le hX0
  rw [hX, Int.toNat_natCast, Int.toNat_natCast]
  have hp2 : 2 ^ l * 256 ≤ 2 ^ n.toNat := by
    rw [show (256 : Nat) = 2 ^ 8 from by decide, ← Nat.pow_add]; exact Nat.pow_le_pow_right (by decide) (by omega)
  have hsmall : ∀ d : Nat, d < 256 → (((d : Int) * 2 ^ l) % pw n).toNat = d * 2 ^ l := fun d hd => by
    have e : (d : Int) * 2 ^ l = ((d * 2 ^ l : Nat) : Int) := by simp
    have hlt : d * 2 ^ l < 2 ^ n.toNat := by
      have h3 : d * 2 ^ l ≤ 255 * 2 ^ l := Nat.mul_le_mul_right _ (by omega)
      have h4 : 0 < 2 ^ l := Nat.two_pow_pos l
      omega
    rw [e, pw_nat hn, ← Int.natCast_emod, Int.toNat_natCast, Nat.mod_eq_of_lt hlt]
  have hC := hsmall 255 (by decide)
  have hD := hsmall c hc
  rw [show (((255 : Nat) : Int)) = 255 from rfl] at hC
  rw [hC, hD, ← bw_or, hj, bw_hole]
  have hXlt : X < 2 ^ (l + j) := by
    have hp := pw_bd hn
    have h3 := Int.emod_lt_of_pos x (b := pw n) (by omega)
    rw [hX, pw_nat hn, hj] at h3; omega
  clear h1 h2 hC hD hsmall hX hX0 hp2
  have hp : 0 < 2 ^ l := Nat.two_pow_pos l
  have hcast : ((2 : Int) ^ l) = ((2 ^ l : Nat) : Int) := by simp
  rw [hcast]
  have hj2 : 2 ^ j = 256 * 2 ^ (j - 8) := by
    rw [show (256 : Nat) = 2 ^ 8 from by decide, ← Nat.pow_add, show 8 + (j - 8) = j from by omega]
  have hY : X / 2 ^ l < 2 ^ j := by
    rw [Nat.pow_add] at hXlt; exact (Nat.div_lt_iff_lt_mul hp).2 (by rw [Nat.mul_comm]; exact hXlt)
  have hdm := Nat.div_add_mod X (2 ^ l)
  have hml : X % 2 ^ l < 2 ^ l := Nat.mod_lt _ hp
  have hint : ((X : Int) / ((2 ^ l : Nat) : Int)) = ((X / 2 ^ l : Nat) : Int) := (Int.natCast_ediv ..).symm
  rw [hint]
  generalize X / 2 ^ l = Y at *
  generalize X % 2 ^ l = M at *
  generalize 2 ^ (j - 8) = Q at *
  have hZ : Y / 256 * 256 + 255 < 2 ^ j := by omega
  rw [Nat.mod_eq_of_lt (Nat.lt_of_le_of_lt (Nat.le_add_right _ 255) hZ)]
  have hA1 : (M + 2 ^ l * (Y / 256 * 256)) / 2 ^ l = Y / 256 * 256 := by rw [Nat.add_mul_div_left _ _ hp, Nat.div_eq_of_lt hml, Nat.zero_add]
  have hA2 : (M + 2 ^ l * (Y / 256 * 256)) % 2 ^ l = M := by rw [Nat.add_mul_mod_self_left, Nat.mod_eq_of_lt hml]
  rw [bw_lay l j _ c hc (by rw [hA1]; omega), hA1, hA2, Nat.mod_eq_of_lt (Nat.lt_of_le_of_lt (Nat.add_le_add_left (by omega) _) hZ), Nat.mul_add]
  have hR : 2 ^ l * Y = 2 ^ l * (Y / 256 * 256) + 2 ^ l * (Y % 256) := by rw [← Nat.mul_add]; congr 1; omega
  have e1 : ((Y : Int) % 256) * ((2 ^ l : Nat) : Int) = ((2 ^ l * (Y % 256) : Nat) : Int) := by rw [Int.natCast_mul, Int.mul_comm]; rfl
  have e2 : (c : Int) * ((2 ^ l : Nat) : Int) = ((2 ^ l * c : Nat) : Int) := by rw [Int.natCast_mul, Int.mul_comm]
  rw [e1, e2]
  omega
end Go.Proofs.Ytflkcelgbnojaaa
