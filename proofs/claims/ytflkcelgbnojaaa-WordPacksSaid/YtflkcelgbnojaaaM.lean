/- The plain numbers behind the words: norming by a length, and what the operators give. Nothing here speaks of a program. -/
import Derived.Below
import Derived.RowKit3
import Derived.Deep.Draws
import Derived.IntWalk
namespace Go.Proofs.Ytflkcelgbnojaaa
open Go.RowKit

/-- Lengths of words. -/
def OkB (b : Int) : Prop := b = 16 ∨ b = 24 ∨ b = 32
instance (b : Int) : Decidable (OkB b) := by unfold OkB; infer_instance
def okB (b : Int) : Bool := decide (OkB b)
def pw (b : Int) : Int := if b = 16 then 65536 else if b = 24 then 16777216 else 4294967296
def nrm (v b : Int) : Int := if pw b ≤ 2 * (v % pw b) then v % pw b - pw b else v % pw b
def uns (v b : Int) : Int := v % pw b

/-- What is new lies behind all that was there; of what was there nothing turns. -/
def Fr (a b : World) : Prop := Below a.heap.size a b
theorem Fr.refl (a : World) : Fr a a := Below.refl _ _
theorem Fr.trans {a b c : World} (h : Fr a b) (k : Fr b c) : Fr a c := Below.trans h (Below.mono k h.size)
theorem Fr.alloc {a b : World} (h : Fr a b) (o : Obj) : Fr a (b.alloc o) := Below.alloc h h.size o
theorem Fr.drewN {a b : World} (h : Fr a b) (n : Nat) : Fr a (b.drewN n) := ⟨h.os, h.tape, h.output, h.size, h.block⟩
theorem Fr.drew {a b : World} (h : Fr a b) : Fr a b.drew := ⟨h.os, h.tape, h.output, h.size, h.block⟩

theorem nrm_bd {v b : Int} (hb : OkB b) : -2147483648 ≤ nrm v b ∧ nrm v b ≤ 2147483647 := by
  unfold nrm pw; rcases hb with rfl | rfl | rfl <;> simp <;> omega
theorem uns_bd {v b : Int} (hb : OkB b) : 0 ≤ uns v b ∧ uns v b ≤ 4294967295 := by
  unfold uns pw; rcases hb with rfl | rfl | rfl <;> simp <;> omega

theorem nrm16_sh (v : Int) : wrap64 (v * 281474976710656) / 281474976710656 = nrm v 16 := by
  unfold wrap64 nrm pw; simp; split <;> omega
theorem nrm24_sh (v : Int) : wrap64 (v * 1099511627776) / 1099511627776 = nrm v 24 := by
  unfold wrap64 nrm pw; simp; split <;> omega
theorem nrm32_sh (v : Int) : wrap64 (v * 4294967296) / 4294967296 = nrm v 32 := by
  unfold wrap64 nrm pw; simp; split <;> omega

theorem bits_i64_and (n : Int) (j : Nat) (hj : j ≤ 62) : bits .and .i64 n (2 ^ j - 1) = n % 2 ^ j := by
  have hpos : (1 : Int) ≤ 2 ^ j := Int.pow_pos (by decide)
  have hle : (2 : Int) ^ j ≤ 2 ^ 62 := by
    have h := Nat.pow_le_pow_right (n := 2) (by decide) hj
    have h2 : ((2 ^ j : Nat) : Int) ≤ ((2 ^ 62 : Nat) : Int) := by omega
    simpa using h2
  have e1 : (BitVec.ofInt 64 (2 ^ j - 1)).toNat = 2 ^ j - 1 := by
    rw [BitVec.toNat_ofInt]
    have : ((2 : Int) ^ j) = ((2 ^ j : Nat) : Int) := by simp
    have h3 : ((2 ^ j : Nat) : Int) ≤ 2 ^ 62 := by rw [← this]; exact hle
    rw [this]
    omega
  have key : (BitVec.ofInt 64 n &&& BitVec.ofInt 64 (2 ^ j - 1)).toNat = (n % ((2 ^ 64 : Nat) : Int)).toNat % 2 ^ j := by
    rw [BitVec.toNat_and, BitVec.toNat_ofInt, e1, Nat.and_two_pow_sub_one_eq_mod]
  show IntKind.i64.wrap ((BitVec.ofInt 64 n &&& BitVec.ofInt 64 (2 ^ j - 1)).toNat : Nat) = n % 2 ^ j
  rw [key]
  have h64 : ((2 ^ 64 : Nat) : Int) = 2 ^ j * 2 ^ (64 - j) := by
    rw [← Int.pow_add, show j + (64 - j) = 64 from by omega]; rfl
  have hm : (((n % ((2 ^ 64 : Nat) : Int)).toNat % 2 ^ j : Nat) : Int) = n % 2 ^ j := by
    rw [Int.natCast_emod, Int.toNat_of_nonneg (Int.emod_nonneg _ (by decide)), h64]
    have : ((2 ^ j : Nat) : Int) = 2 ^ j := by simp
    rw [this, Int.emod_emod_of_dvd _ ⟨_, rfl⟩]
  rw [hm]
  have hb1 := Int.emod_nonneg n (b := 2 ^ j) (by omega)
  have hb2 := Int.emod_lt_of_pos n (b := 2 ^ j) (by omega)
  exact IntWalk.i64_in _ ⟨by omega, by omega⟩
theorem uns16_and (v : Int) : bits .and .i64 v 65535 = uns v 16 := (bits_i64_and v 16 (by decide)).trans rfl
theorem uns24_and (v : Int) : bits .and .i64 v 16777215 = uns v 24 := (bits_i64_and v 24 (by decide)).trans rfl
theorem uns32_and (v : Int) : bits .and .i64 v 4294967295 = uns v 32 := (bits_i64_and v 32 (by decide)).trans rfl

/-- What is left of a division rounded to nought, by a number above nought: near nought, and alike but for whole dividends. -/
theorem tmod_alike (v p : Int) (hp : 0 < p) : -p < v.tmod p ∧ v.tmod p < p ∧ (v.tmod p) % p = v % p := by
  refine ⟨Int.lt_tmod_of_pos _ hp, Int.tmod_lt_of_pos _ hp, ?_⟩
  rw [Int.tmod_def, Int.sub_mul_emod_self_left]
theorem nrm16_t (v : Int) : nrm v 16 = if v.tmod 65536 < -32768 then v.tmod 65536 + 65536 else if 32768 ≤ v.tmod 65536 then v.tmod 65536 - 65536 else v.tmod 65536 := by
  obtain ⟨h1, h2, h3⟩ := tmod_alike v 65536 (by decide)
  unfold nrm pw; simp only [if_pos]; split <;> split <;> (try split) <;> omega
theorem nrm24_t (v : Int) : nrm v 24 = if v.tmod 16777216 < -8388608 then v.tmod 16777216 + 16777216 else if 8388608 ≤ v.tmod 16777216 then v.tmod 16777216 - 16777216 else v.tmod 16777216 := by
  obtain ⟨h1, h2, h3⟩ := tmod_alike v 16777216 (by decide)
  unfold nrm pw; simp only [if_pos, show ¬ ((24 : Int) = 16) from by decide, if_false]; split <;> split <;> (try split) <;> omega
theorem nrm32_t (v : Int) : nrm v 32 = if v.tmod 4294967296 < -2147483648 then v.tmod 4294967296 + 4294967296 else if 2147483648 ≤ v.tmod 4294967296 then v.tmod 4294967296 - 4294967296 else v.tmod 4294967296 := by
  obtain ⟨h1, h2, h3⟩ := tmod_alike v 4294967296 (by decide)
  unfold nrm pw; simp only [show ¬ ((32 : Int) = 16) from by decide, show ¬ ((32 : Int) = 24) from by decide, if_false]; split <;> split <;> (try split) <;> omega

theorem pw_bd {b : Int} (hb : OkB b) : 65536 ≤ pw b ∧ pw b ≤ 4294967296 := by
  unfold pw; rcases hb with rfl | rfl | rfl <;> simp
theorem uns_nrm {v b : Int} (hb : OkB b) : uns v b = if nrm v b < 0 then nrm v b + pw b else nrm v b := by
  have hp := pw_bd hb
  have h0 := Int.emod_nonneg v (b := pw b) (by omega)
  have h1 := Int.emod_lt_of_pos v (b := pw b) (by omega)
  unfold uns nrm; split <;> split <;> omega

/-- -1 for true, 0 for false. -/
def tru (c : Bool) : Int := if c then -1 else 0
/-- What operator k gives for two words of n bits, as whole numbers: before it is normed. -/
def opv (k : Nat) (a b n : Int) : Int :=
  match k with
  | 1 => a * b
  | 2 => a.tdiv b
  | 3 => a.tmod b
  | 4 => a + b
  | 5 => a - b
  | 6 => if b < 0 ∨ n ≤ b then 0 else a * 2 ^ b.toNat
  | 7 => if b < 0 ∨ n ≤ b then 0 else uns a n / 2 ^ b.toNat
  | 8 => bits .and .i64 a b
  | 9 => bits .or .i64 a b
  | 10 => bits .xor .i64 a b
  | 11 => -(bits .xor .i64 a b) - 1
  | 12 => tru (a == b)
  | 13 => tru (a != b)
  | 14 => tru (decide (a < b))
  | 15 => tru (decide (a ≤ b))
  | 16 => tru (decide (b < a))
  | 17 => tru (decide (b ≤ a))
  | 18 => -a
  | 19 => -a - 1
  | _ => 0
theorem tdiv_bd (a b : Int) (h1 : -2147483648 ≤ a) (h2 : a ≤ 2147483647) : -2147483648 ≤ a.tdiv b ∧ a.tdiv b ≤ 2147483648 := by
  have h : (a.tdiv b).natAbs ≤ a.natAbs := by rw [Int.natAbs_tdiv]; exact Nat.div_le_self _ _
  generalize a.tdiv b = q at *
  omega

theorem mul_bd (a b : Int) (a1 : -2147483648 ≤ a) (a2 : a ≤ 2147483647) (b1 : -2147483648 ≤ b) (b2 : b ≤ 2147483647) : -4611686018427387904 ≤ a * b ∧ a * b ≤ 4611686018427387904 := by
  have h : (a * b).natAbs ≤ 2147483648 * 2147483648 := by rw [Int.natAbs_mul]; exact Nat.mul_le_mul (by omega) (by omega)
  generalize a * b = q at *
  omega
theorem not_i64 (a : Int) (a1 : -9223372036854775808 ≤ a) (a2 : a ≤ 9223372036854775807) : bits .xor .i64 (-1) a = -a - 1 := by
  show IntKind.i64.wrap ((BitVec.ofInt 64 (-1) ^^^ BitVec.ofInt 64 a).toNat : Nat) = -a - 1
  have e : BitVec.ofInt 64 (-1) ^^^ BitVec.ofInt 64 a = ~~~ BitVec.ofInt 64 a := by
    rw [show BitVec.ofInt 64 (-1) = BitVec.allOnes 64 from by decide, BitVec.allOnes_xor]
  rw [e, BitVec.toNat_not, BitVec.toNat_ofInt, IntKind.wrap_i64]
  omega
theorem bits_bd (op : BinOp) (a b : Int) : -9223372036854775808 ≤ bits op .i64 a b ∧ bits op .i64 a b ≤ 9223372036854775807 := by
  unfold bits
  simp only [IntKind.wrap_i64]
  constructor <;> omega

theorem pow_bd (b : Int) (h0 : 0 ≤ b) (h1 : b < 32) : 1 ≤ (2 : Int) ^ b.toNat ∧ (2 : Int) ^ b.toNat ≤ 2147483648 := by
  refine ⟨Int.pow_pos (by decide), ?_⟩
  have h := Nat.pow_le_pow_right (n := 2) (by decide) (show b.toNat ≤ 31 by omega)
  have h2 : ((2 ^ b.toNat : Nat) : Int) ≤ ((2 ^ 31 : Nat) : Int) := by omega
  simpa using h2
theorem shl_bd (a b : Int) (a1 : -2147483648 ≤ a) (a2 : a ≤ 2147483647) (h0 : 0 ≤ b) (h1 : b < 32) : -4611686018427387904 ≤ a * 2 ^ b.toNat ∧ a * 2 ^ b.toNat ≤ 4611686018427387904 := by
  obtain ⟨p1, p2⟩ := pow_bd b h0 h1
  have h : (a * 2 ^ b.toNat).natAbs ≤ 2147483648 * 2147483648 := by rw [Int.natAbs_mul]; exact Nat.mul_le_mul (by omega) (by omega)
  generalize a * 2 ^ b.toNat = q at *
  omega
end Go.Proofs.Ytflkcelgbnojaaa
