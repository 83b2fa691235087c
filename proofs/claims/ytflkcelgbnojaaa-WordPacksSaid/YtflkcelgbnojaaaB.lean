/- Bits of words, one by one: what a table of two bits makes of them is what the operators give. Nothing here speaks of a program. -/
import Derived.Test.YtflkcelgbnojaaaM
namespace Go.Proofs.Ytflkcelgbnojaaa
open Go.RowKit

def tab (t0 t1 t2 t3 x y : Nat) : Nat := if x = 0 then (if y = 0 then t0 else t1) else (if y = 0 then t2 else t3)
/-- The lowest k bits that the table makes of two numbers. -/
def bw (t0 t1 t2 t3 : Nat) : Nat → Nat → Nat → Nat
  | 0, _, _ => 0
  | k + 1, a, b => tab t0 t1 t2 t3 (a % 2) (b % 2) + 2 * bw t0 t1 t2 t3 k (a / 2) (b / 2)

theorem tab_le {t0 t1 t2 t3 : Nat} (x y : Nat) (h0 : t0 ≤ 1) (h1 : t1 ≤ 1) (h2 : t2 ≤ 1) (h3 : t3 ≤ 1) : tab t0 t1 t2 t3 x y ≤ 1 := by
  unfold tab; split <;> split <;> assumption
theorem bw_lt {t0 t1 t2 t3 : Nat} (h0 : t0 ≤ 1) (h1 : t1 ≤ 1) (h2 : t2 ≤ 1) (h3 : t3 ≤ 1) (k : Nat) : ∀ a b, bw t0 t1 t2 t3 k a b < 2 ^ k := by
  induction k with
  | zero => intro a b; simp [bw]
  | succ k ih =>
    intro a b
    have := ih (a / 2) (b / 2)
    have ht := tab_le (a % 2) (b % 2) h0 h1 h2 h3
    rw [bw, Nat.pow_succ]
    omega

theorem two_cases (a : Nat) : a % 2 = 0 ∨ a % 2 = 1 := by omega
theorem and_bit (a b : Nat) : (a &&& b) % 2 = tab 0 0 0 1 (a % 2) (b % 2) := by
  have h := Nat.and_mod_two_pow (a := a) (b := b) (n := 1)
  rw [show (2 : Nat) ^ 1 = 2 from rfl] at h
  rw [h]; rcases two_cases a with ha | ha <;> rcases two_cases b with hb | hb <;> rw [ha, hb] <;> rfl
theorem or_bit (a b : Nat) : (a ||| b) % 2 = tab 0 1 1 1 (a % 2) (b % 2) := by
  have h := Nat.or_mod_two_pow (a := a) (b := b) (n := 1)
  rw [show (2 : Nat) ^ 1 = 2 from rfl] at h
  rw [h]; rcases two_cases a with ha | ha <;> rcases two_cases b with hb | hb <;> rw [ha, hb] <;> rfl
theorem xor_bit (a b : Nat) : (a ^^^ b) % 2 = tab 0 1 1 0 (a % 2) (b % 2) := by
  have h := Nat.xor_mod_two_pow (a := a) (b := b) (n := 1)
  rw [show (2 : Nat) ^ 1 = 2 from rfl] at h
  rw [h]; rcases two_cases a with ha | ha <;> rcases two_cases b with hb | hb <;> rw [ha, hb] <;> rfl

theorem mod_two_succ (x k : Nat) : x % 2 ^ (k + 1) = x % 2 + 2 * (x / 2 % 2 ^ k) := by
  rw [Nat.pow_succ, Nat.mul_comm, Nat.mod_mul]
theorem bw_and (k : Nat) : ∀ a b, bw 0 0 0 1 k a b = (a &&& b) % 2 ^ k := by
  induction k with
  | zero => intro a b; simp [bw, Nat.mod_one]
  | succ k ih => intro a b; rw [bw, ih, mod_two_succ, and_bit, Nat.and_div_two]
theorem bw_or (k : Nat) : ∀ a b, bw 0 1 1 1 k a b = (a ||| b) % 2 ^ k := by
  induction k with
  | zero => intro a b; simp [bw, Nat.mod_one]
  | succ k ih => intro a b; rw [bw, ih, mod_two_succ, or_bit, Nat.or_div_two]
theorem bw_xor (k : Nat) : ∀ a b, bw 0 1 1 0 k a b = (a ^^^ b) % 2 ^ k := by
  induction k with
  | zero => intro a b; simp [bw, Nat.mod_one]
  | succ k ih => intro a b; rw [bw, ih, mod_two_succ, xor_bit, Nat.xor_div_two]
theorem bw_eqv (k : Nat) : ∀ a b, bw 1 0 0 1 k a b + bw 0 1 1 0 k a b + 1 = 2 ^ k := by
  induction k with
  | zero => intro a b; rfl
  | succ k ih =>
    intro a b
    have := ih (a / 2) (b / 2)
    have ht : tab 1 0 0 1 (a % 2) (b % 2) + tab 0 1 1 0 (a % 2) (b % 2) = 1 := by
      rcases two_cases a with ha | ha <;> rcases two_cases b with hb | hb <;> rw [ha, hb] <;> rfl
    rw [bw, bw, Nat.pow_succ]
    omega

/-- Whole bits of 64, cut to k. -/
theorem bits_cut (op : BinOp) (f : Nat → Nat → Nat) (hf : ∀ a b : BitVec 64, (match op with | .and => a &&& b | .or => a ||| b | .xor => a ^^^ b | _ => a &&& ~~~b).toNat = f a.toNat b.toNat)
    (k : Nat) (hk : k ≤ 64) (hc : ∀ a b : Nat, f a b % 2 ^ k = f (a % 2 ^ k) (b % 2 ^ k) % 2 ^ k) (a b : Int) :
    bits op .i64 a b % ((2 ^ k : Nat) : Int) = ((f (a % ((2 ^ k : Nat) : Int)).toNat (b % ((2 ^ k : Nat) : Int)).toNat % 2 ^ k : Nat) : Int) := by
  have hd : ((2 ^ k : Nat) : Int) ∣ 18446744073709551616 := ⟨((2 ^ (64 - k) : Nat) : Int), by
    rw [← Int.natCast_mul, ← Nat.pow_add, show k + (64 - k) = 64 from by omega]; rfl⟩
  have hw : ∀ x : Int, IntKind.i64.wrap x % ((2 ^ k : Nat) : Int) = x % ((2 ^ k : Nat) : Int) := fun x => by
    rw [IntKind.wrap_i64]
    have h1 : (x + 9223372036854775808) % 18446744073709551616 - 9223372036854775808 = x - 18446744073709551616 * ((x + 9223372036854775808) / 18446744073709551616) := by omega
    rw [h1]
    obtain ⟨c, hc⟩ := hd
    rw [hc, Int.mul_assoc, Int.sub_mul_emod_self_left]
  have hn : ∀ x : Int, (BitVec.ofInt 64 x).toNat % 2 ^ k = (x % ((2 ^ k : Nat) : Int)).toNat := fun x => by
    rw [BitVec.toNat_ofInt]
    have h1 : (((x % ((2 ^ 64 : Nat) : Int)).toNat % 2 ^ k : Nat) : Int) = x % ((2 ^ k : Nat) : Int) := by
      rw [Int.natCast_emod, Int.toNat_of_nonneg (Int.emod_nonneg _ (by decide))]
      exact Int.emod_emod_of_dvd _ hd
    omega
  show IntKind.i64.wrap ((match op with | .and => BitVec.ofInt 64 a &&& BitVec.ofInt 64 b | .or => BitVec.ofInt 64 a ||| BitVec.ofInt 64 b | .xor => BitVec.ofInt 64 a ^^^ BitVec.ofInt 64 b | _ => BitVec.ofInt 64 a &&& ~~~ (BitVec.ofInt 64 b)).toNat : Nat) % ((2 ^ k : Nat) : Int) = _
  rw [hw, hf, ← Int.natCast_emod, hc, hn, hn]

theorem nrm_congr {x y n : Int} (h : x % pw n = y % pw n) : nrm x n = nrm y n := by unfold nrm; rw [h]
theorem pw_nat {n : Int} (hn : OkB n) : pw n = ((2 ^ n.toNat : Nat) : Int) := by
  rcases hn with rfl | rfl | rfl <;> rfl
theorem okB_le {n : Int} (hn : OkB n) : n.toNat ≤ 64 := by
  rcases hn with rfl | rfl | rfl <;> decide
theorem nrm_and {n : Int} (hn : OkB n) (a b : Int) : nrm (bw 0 0 0 1 n.toNat (uns a n).toNat (uns b n).toNat : Nat) n = nrm (opv 8 a b n) n := by
  refine nrm_congr ?_
  have h := bits_cut .and (· &&& ·) (fun a b => BitVec.toNat_and a b) n.toNat (okB_le hn) (fun a b => by simp only [Nat.and_mod_two_pow, Nat.mod_mod]) a b
  rw [show opv 8 a b n = bits .and .i64 a b from rfl, bw_and, pw_nat hn, h, ← Int.natCast_emod, Nat.mod_mod]
  unfold uns; rw [pw_nat hn]
theorem nrm_or {n : Int} (hn : OkB n) (a b : Int) : nrm (bw 0 1 1 1 n.toNat (uns a n).toNat (uns b n).toNat : Nat) n = nrm (opv 9 a b n) n := by
  refine nrm_congr ?_
  have h := bits_cut .or (· ||| ·) (fun a b => BitVec.toNat_or a b) n.toNat (okB_le hn) (fun a b => by simp only [Nat.or_mod_two_pow, Nat.mod_mod]) a b
  rw [show opv 9 a b n = bits .or .i64 a b from rfl, bw_or, pw_nat hn, h, ← Int.natCast_emod, Nat.mod_mod]
  unfold uns; rw [pw_nat hn]
theorem xor_cut {n : Int} (hn : OkB n) (a b : Int) : (bw 0 1 1 0 n.toNat (uns a n).toNat (uns b n).toNat : Int) = bits .xor .i64 a b % pw n := by
  have h := bits_cut .xor (· ^^^ ·) (fun a b => BitVec.toNat_xor a b) n.toNat (okB_le hn) (fun a b => by simp only [Nat.xor_mod_two_pow, Nat.mod_mod]) a b
  rw [bw_xor, pw_nat hn, h]
  unfold uns; rw [pw_nat hn]
theorem nrm_xor {n : Int} (hn : OkB n) (a b : Int) : nrm (bw 0 1 1 0 n.toNat (uns a n).toNat (uns b n).toNat : Nat) n = nrm (opv 10 a b n) n := by
  refine nrm_congr ?_
  rw [xor_cut hn, show opv 10 a b n = bits .xor .i64 a b from rfl, Int.emod_emod]
theorem nrm_eqv {n : Int} (hn : OkB n) (a b : Int) : nrm (bw 1 0 0 1 n.toNat (uns a n).toNat (uns b n).toNat : Nat) n = nrm (opv 11 a b n) n := by
  refine nrm_congr ?_
  have h := bw_eqv n.toNat (uns a n).toNat (uns b n).toNat
  have hx := xor_cut hn a b
  have hp := pw_nat hn
  rw [show opv 11 a b n = -(bits .xor .i64 a b) - 1 from rfl]
  generalize bits .xor .i64 a b = X at *
  have h2 : ((bw 1 0 0 1 n.toNat (uns a n).toNat (uns b n).toNat : Nat) : Int) = pw n - X % pw n - 1 := by rw [← hx, hp]; omega
  rw [h2]
  have h3 : pw n - X % pw n - 1 = -X - 1 + pw n * (1 + X / pw n) := by
    have := Int.mul_ediv_add_emod X (pw n)
    rw [Int.mul_add]
    omega
  rw [h3, Int.add_mul_emod_self_left]

theorem okB_yes {b : Int} (h : okB b = true) : OkB b := by simpa [okB] using h
def appE (op b bits : Int) : Int := if okB bits then (if op < 1 ∨ 19 < op then 1 else if (op = 2 ∨ op = 3) ∧ nrm b bits = 0 then 10 else 0) else 3

/-- What applying an operator answers: the word, or nought with the error. -/
def appV (op a b n : Int) : Int := if appE op b n = 0 then nrm (opv op.toNat (nrm a n) (nrm b n) n) n else 0
def appR (op a b n : Int) : Value := .tuple #[.int .i64 (appV op a b n), .int .i64 (appE op b n)]
theorem appE_ok {op b n : Int} (h : appE op b n = 0) : OkB n ∧ 1 ≤ op ∧ op ≤ 19 ∧ ((op = 2 ∨ op = 3) → nrm b n ≠ 0) := by
  unfold appE at h
  by_cases h1 : okB n = true
  · rw [if_pos h1] at h
    by_cases h2 : op < 1 ∨ 19 < op
    · rw [if_pos h2] at h; omega
    · rw [if_neg h2] at h
      refine ⟨okB_yes h1, by omega, by omega, fun h3 h4 => ?_⟩
      rw [if_pos ⟨h3, h4⟩] at h; omega
  · rw [if_neg h1] at h; omega
/-- The walk stands where this is met. -/
def Stop (p : Prop) : Prop := p
end Go.Proofs.Ytflkcelgbnojaaa
