/- Words out of bytes, byte by byte. Nothing here speaks of a program. -/
import Derived.Test.YtflkcelgbnojaaaQ
namespace Go.Proofs.Ytflkcelgbnojaaa
open Go.RowKit
set_option linter.unusedVariables false

/-- How many bytes make a word. -/
def szI (n : Int) : Int := n / 8
theorem szI_bd {n : Int} (hn : OkB n) : 2 ≤ szI n ∧ szI n ≤ 4 := by unfold szI; rcases hn with rfl | rfl | rfl <;> decide
/-- How many bits lie below byte i. -/
def blw (i n : Int) (big : Bool) : Int := 8 * (if big then szI n - 1 - i % szI n else i % szI n)
theorem blw_bd {n : Int} (hn : OkB n) (i : Int) (h0 : 0 ≤ i) (big : Bool) : 0 ≤ blw i n big ∧ blw i n big ≤ 24 := by
  unfold blw szI; rcases hn with rfl | rfl | rfl <;> cases big <;> simp <;> omega

def part (β : Nat → Nat) (k i : Nat) (c : Int) : Int := if i < k then β i * c else 0
/-- What the first k bytes give to word j. -/
def wv (β : Nat → Nat) (n : Int) (big : Bool) (k j : Nat) : Int :=
  if n = 16 then (if big then part β k (2 * j) 256 + part β k (2 * j + 1) 1 else part β k (2 * j) 1 + part β k (2 * j + 1) 256)
  else if n = 24 then (if big then part β k (3 * j) 65536 + part β k (3 * j + 1) 256 + part β k (3 * j + 2) 1 else part β k (3 * j) 1 + part β k (3 * j + 1) 256 + part β k (3 * j + 2) 65536)
  else (if big then part β k (4 * j) 16777216 + part β k (4 * j + 1) 65536 + part β k (4 * j + 2) 256 + part β k (4 * j + 3) 1 else part β k (4 * j) 1 + part β k (4 * j + 1) 256 + part β k (4 * j + 2) 65536 + part β k (4 * j + 3) 16777216)

theorem or_hi (x y : Int) (i : Nat) (hx0 : 0 ≤ x) (hx : x % 2 ^ i = 0) (hx1 : x < 4294967296) (hy0 : 0 ≤ y) (hy : y < 2 ^ i) (hy1 : y < 4294967296) : bits .or .i64 x y = x + y :=
  bits_join .i64 32 (by decide) (fun n h0 h1 => IntWalk.i64_in _ (by omega)) i x y hx0 hx (by omega) hy0 hy (by omega)
theorem or_comm64 (x y : Int) : bits .or .i64 x y = bits .or .i64 y x := by simp only [bits, BitVec.or_comm]
theorem or_lo (x y : Int) (i : Nat) (hx0 : 0 ≤ x) (hx : x % 2 ^ i = 0) (hx1 : x < 4294967296) (hy0 : 0 ≤ y) (hy : y < 2 ^ i) (hy1 : y < 4294967296) : bits .or .i64 y x = y + x := by
  rw [or_comm64, or_hi x y i hx0 hx hx1 hy0 hy hy1, Int.add_comm]
theorem wrap_in {x : Int} (h0 : 0 ≤ x) (h1 : x ≤ 4294967296) : wrap64 x = x := IntWalk.wrap64_in _ (by omega)
theorem part_no {β : Nat → Nat} {k i : Nat} {c : Int} (h : k ≤ i) : part β k i c = 0 := by unfold part; rw [if_neg (by omega)]
theorem part_yes {β : Nat → Nat} {k i : Nat} {c : Int} (h : i < k) : part β k i c = β i * c := by unfold part; rw [if_pos h]
theorem wv_0 (β : Nat → Nat) (n : Int) (big : Bool) (j : Nat) : wv β n big 0 j = 0 := by
  unfold wv; simp only [part_no (Nat.zero_le _)]; split <;> (try split) <;> (try split) <;> rfl
theorem wv_other {β : Nat → Nat} {n : Int} (hn : OkB n) {big : Bool} {k j : Nat} (h : (k : Int) / szI n ≠ j) : wv β n big (k + 1) j = wv β n big k j := by
  have hp : ∀ i c, i ≠ k → part β (k + 1) i c = part β k i c := fun i c hi => by
    unfold part
    by_cases h1 : i < k
    · rw [if_pos h1, if_pos (by omega)]
    · rw [if_neg h1, if_neg (by omega)]
  rcases hn with rfl | rfl | rfl
  · have : (k : Int) / 2 ≠ j := h
    cases big
    · show part β (k + 1) (2 * j) 1 + part β (k + 1) (2 * j + 1) 256 = part β k (2 * j) 1 + part β k (2 * j + 1) 256
      rw [hp _ _ (by omega), hp _ _ (by omega)]
    · show part β (k + 1) (2 * j) 256 + part β (k + 1) (2 * j + 1) 1 = part β k (2 * j) 256 + part β k (2 * j + 1) 1
      rw [hp _ _ (by omega), hp _ _ (by omega)]
  · have : (k : Int) / 3 ≠ j := h
    cases big
    · show part β (k + 1) (3 * j) 1 + part β (k + 1) (3 * j + 1) 256 + part β (k + 1) (3 * j + 2) 65536 = part β k (3 * j) 1 + part β k (3 * j + 1) 256 + part β k (3 * j + 2) 65536
      rw [hp _ _ (by omega), hp _ _ (by omega), hp _ _ (by omega)]
    · show part β (k + 1) (3 * j) 65536 + part β (k + 1) (3 * j + 1) 256 + part β (k + 1) (3 * j + 2) 1 = part β k (3 * j) 65536 + part β k (3 * j + 1) 256 + part β k (3 * j + 2) 1
      rw [hp _ _ (by omega), hp _ _ (by omega), hp _ _ (by omega)]
  · have : (k : Int) / 4 ≠ j := h
    cases big
    · show part β (k + 1) (4 * j) 1 + part β (k + 1) (4 * j + 1) 256 + part β (k + 1) (4 * j + 2) 65536 + part β (k + 1) (4 * j + 3) 16777216 = part β k (4 * j) 1 + part β k (4 * j + 1) 256 + part β k (4 * j + 2) 65536 + part β k (4 * j + 3) 16777216
      rw [hp _ _ (by omega), hp _ _ (by omega), hp _ _ (by omega), hp _ _ (by omega)]
    · show part β (k + 1) (4 * j) 16777216 + part β (k + 1) (4 * j + 1) 65536 + part β (k + 1) (4 * j + 2) 256 + part β (k + 1) (4 * j + 3) 1 = part β k (4 * j) 16777216 + part β k (4 * j + 1) 65536 + part β k (4 * j + 2) 256 + part β k (4 * j + 3) 1
      rw [hp _ _ (by omega), hp _ _ (by omega), hp _ _ (by omega), hp _ _ (by omega)]
theorem wv_16_true_0 (β : Nat → Nat) (q : Nat) (hβ : ∀ i, i ≤ 2 * q + 0 → β i < 256) :
    bits .or .i64 (wv β 16 true (2 * q) q) (wrap64 (wrap64 (β (2 * q)) * 2 ^ (blw ((2 * q) : Nat) 16 true).toNat)) = wv β 16 true ((2 * q) + 1) q := by
  have h0 := hβ (2 * q) (by omega)
  have hb : (blw ((2 * q) : Nat) 16 true).toNat = 8 := by
    have h : blw ((2 * q) : Nat) 16 true = 8 * (2 - 1 - (((2 * q) : Nat) : Int) % 2) := rfl
    omega
  rw [hb, wrap_in (x := (β (2 * q) : Int)) (by omega) (by omega), show (2 : Int) ^ 8 = 256 from by decide, wrap_in (by omega) (by omega)]
  have ew : ∀ k j, wv β 16 true k j = part β k (2 * j) 256 + part β k (2 * j + 1) 1 := fun k j => rfl
  rw [ew, ew]
  rw [show part β (2 * q) (2 * q) 256 = 0 from part_no (by omega), show part β ((2 * q) + 1) (2 * q) 256 = β (2 * q) * 256 from part_yes (by omega)]
  rw [show part β (2 * q) (2 * q + 1) 1 = 0 from part_no (by omega), show part β ((2 * q) + 1) (2 * q + 1) 1 = 0 from part_no (by omega)]
  rw [or_hi _ _ 32 (by omega) (by omega) (by omega) (by omega) (by omega) (by omega)]; omega
theorem wv_16_true_1 (β : Nat → Nat) (q : Nat) (hβ : ∀ i, i ≤ 2 * q + 1 → β i < 256) :
    bits .or .i64 (wv β 16 true (2 * q + 1) q) (wrap64 (wrap64 (β (2 * q + 1)) * 2 ^ (blw ((2 * q + 1) : Nat) 16 true).toNat)) = wv β 16 true ((2 * q + 1) + 1) q := by
  have h0 := hβ (2 * q) (by omega)
  have h1 := hβ (2 * q + 1) (by omega)
  have hb : (blw ((2 * q + 1) : Nat) 16 true).toNat = 0 := by
    have h : blw ((2 * q + 1) : Nat) 16 true = 8 * (2 - 1 - (((2 * q + 1) : Nat) : Int) % 2) := rfl
    omega
  rw [hb, wrap_in (x := (β (2 * q + 1) : Int)) (by omega) (by omega), show (2 : Int) ^ 0 = 1 from by decide, wrap_in (by omega) (by omega)]
  have ew : ∀ k j, wv β 16 true k j = part β k (2 * j) 256 + part β k (2 * j + 1) 1 := fun k j => rfl
  rw [ew, ew]
  rw [show part β (2 * q + 1) (2 * q) 256 = β (2 * q) * 256 from part_yes (by omega), show part β ((2 * q + 1) + 1) (2 * q) 256 = β (2 * q) * 256 from part_yes (by omega)]
  rw [show part β (2 * q + 1) (2 * q + 1) 1 = 0 from part_no (by omega), show part β ((2 * q + 1) + 1) (2 * q + 1) 1 = β (2 * q + 1) * 1 from part_yes (by omega)]
  rw [or_hi _ _ 8 (by omega) (by omega) (by omega) (by omega) (by omega) (by omega)]; omega
theorem wv_16_false_0 (β : Nat → Nat) (q : Nat) (hβ : ∀ i, i ≤ 2 * q + 0 → β i < 256) :
    bits .or .i64 (wv β 16 false (2 * q) q) (wrap64 (wrap64 (β (2 * q)) * 2 ^ (blw ((2 * q) : Nat) 16 false).toNat)) = wv β 16 false ((2 * q) + 1) q := by
  have h0 := hβ (2 * q) (by omega)
  have hb : (blw ((2 * q) : Nat) 16 false).toNat = 0 := by
    have h : blw ((2 * q) : Nat) 16 false = 8 * ((((2 * q) : Nat) : Int) % 2) := rfl
    omega
  rw [hb, wrap_in (x := (β (2 * q) : Int)) (by omega) (by omega), show (2 : Int) ^ 0 = 1 from by decide, wrap_in (by omega) (by omega)]
  have ew : ∀ k j, wv β 16 false k j = part β k (2 * j) 1 + part β k (2 * j + 1) 256 := fun k j => rfl
  rw [ew, ew]
  rw [show part β (2 * q) (2 * q) 1 = 0 from part_no (by omega), show part β ((2 * q) + 1) (2 * q) 1 = β (2 * q) * 1 from part_yes (by omega)]
  rw [show part β (2 * q) (2 * q + 1) 256 = 0 from part_no (by omega), show part β ((2 * q) + 1) (2 * q + 1) 256 = 0 from part_no (by omega)]
  rw [or_hi _ _ 32 (by omega) (by omega) (by omega) (by omega) (by omega) (by omega)]; omega
theorem wv_16_false_1 (β : Nat → Nat) (q : Nat) (hβ : ∀ i, i ≤ 2 * q + 1 → β i < 256) :
    bits .or .i64 (wv β 16 false (2 * q + 1) q) (wrap64 (wrap64 (β (2 * q + 1)) * 2 ^ (blw ((2 * q + 1) : Nat) 16 false).toNat)) = wv β 16 false ((2 * q + 1) + 1) q := by
  have h0 := hβ (2 * q) (by omega)
  have h1 := hβ (2 * q + 1) (by omega)
  have hb : (blw ((2 * q + 1) : Nat) 16 false).toNat = 8 := by
    have h : blw ((2 * q + 1) : Nat) 16 false = 8 * ((((2 * q + 1) : Nat) : Int) % 2) := rfl
    omega
  rw [hb, wrap_in (x := (β (2 * q + 1) : Int)) (by omega) (by omega), show (2 : Int) ^ 8 = 256 from by decide, wrap_in (by omega) (by omega)]
  have ew : ∀ k j, wv β 16 false k j = part β k (2 * j) 1 + part β k (2 * j + 1) 256 := fun k j => rfl
  rw [ew, ew]
  rw [show part β (2 * q + 1) (2 * q) 1 = β (2 * q) * 1 from part_yes (by omega), show part β ((2 * q + 1) + 1) (2 * q) 1 = β (2 * q) * 1 from part_yes (by omega)]
  rw [show part β (2 * q + 1) (2 * q + 1) 256 = 0 from part_no (by omega), show part β ((2 * q + 1) + 1) (2 * q + 1) 256 = β (2 * q + 1) * 256 from part_yes (by omega)]
  rw [or_lo _ _ 8 (by omega) (by omega) (by omega) (by omega) (by omega) (by omega)]; omega
theorem wv_24_true_0 (β : Nat → Nat) (q : Nat) (hβ : ∀ i, i ≤ 3 * q + 0 → β i < 256) :
    bits .or .i64 (wv β 24 true (3 * q) q) (wrap64 (wrap64 (β (3 * q)) * 2 ^ (blw ((3 * q) : Nat) 24 true).toNat)) = wv β 24 true ((3 * q) + 1) q := by
  have h0 := hβ (3 * q) (by omega)
  have hb : (blw ((3 * q) : Nat) 24 true).toNat = 16 := by
    have h : blw ((3 * q) : Nat) 24 true = 8 * (3 - 1 - (((3 * q) : Nat) : Int) % 3) := rfl
    omega
  rw [hb, wrap_in (x := (β (3 * q) : Int)) (by omega) (by omega), show (2 : Int) ^ 16 = 65536 from by decide, wrap_in (by omega) (by omega)]
  have ew : ∀ k j, wv β 24 true k j = part β k (3 * j) 65536 + part β k (3 * j + 1) 256 + part β k (3 * j + 2) 1 := fun k j => rfl
  rw [ew, ew]
  rw [show part β (3 * q) (3 * q) 65536 = 0 from part_no (by omega), show part β ((3 * q) + 1) (3 * q) 65536 = β (3 * q) * 65536 from part_yes (by omega)]
  rw [show part β (3 * q) (3 * q + 1) 256 = 0 from part_no (by omega), show part β ((3 * q) + 1) (3 * q + 1) 256 = 0 from part_no (by omega)]
  rw [show part β (3 * q) (3 * q + 2) 1 = 0 from part_no (by omega), show part β ((3 * q) + 1) (3 * q + 2) 1 = 0 from part_no (by omega)]
  rw [or_hi _ _ 32 (by omega) (by omega) (by omega) (by omega) (by omega) (by omega)]; omega
theorem wv_24_true_1 (β : Nat → Nat) (q : Nat) (hβ : ∀ i, i ≤ 3 * q + 1 → β i < 256) :
    bits .or .i64 (wv β 24 true (3 * q + 1) q) (wrap64 (wrap64 (β (3 * q + 1)) * 2 ^ (blw ((3 * q + 1) : Nat) 24 true).toNat)) = wv β 24 true ((3 * q + 1) + 1) q := by
  have h0 := hβ (3 * q) (by omega)
  have h1 := hβ (3 * q + 1) (by omega)
  have hb : (blw ((3 * q + 1) : Nat) 24 true).toNat = 8 := by
    have h : blw ((3 * q + 1) : Nat) 24 true = 8 * (3 - 1 - (((3 * q + 1) : Nat) : Int) % 3) := rfl
    omega
  rw [hb, wrap_in (x := (β (3 * q + 1) : Int)) (by omega) (by omega), show (2 : Int) ^ 8 = 256 from by decide, wrap_in (by omega) (by omega)]
  have ew : ∀ k j, wv β 24 true k j = part β k (3 * j) 65536 + part β k (3 * j + 1) 256 + part β k (3 * j + 2) 1 := fun k j => rfl
  rw [ew, ew]
  rw [show part β (3 * q + 1) (3 * q) 65536 = β (3 * q) * 65536 from part_yes (by omega), show part β ((3 * q + 1) + 1) (3 * q) 65536 = β (3 * q) * 65536 from part_yes (by omega)]
  rw [show part β (3 * q + 1) (3 * q + 1) 256 = 0 from part_no (by omega), show part β ((3 * q + 1) + 1) (3 * q + 1) 256 = β (3 * q + 1) * 256 from part_yes (by omega)]
  rw [show part β (3 * q + 1) (3 * q + 2) 1 = 0 from part_no (by omega), show part β ((3 * q + 1) + 1) (3 * q + 2) 1 = 0 from part_no (by omega)]
  rw [or_hi _ _ 16 (by omega) (by omega) (by omega) (by omega) (by omega) (by omega)]; omega
theorem wv_24_true_2 (β : Nat → Nat) (q : Nat) (hβ : ∀ i, i ≤ 3 * q + 2 → β i < 256) :
    bits .or .i64 (wv β 24 true (3 * q + 2) q) (wrap64 (wrap64 (β (3 * q + 2)) * 2 ^ (blw ((3 * q + 2) : Nat) 24 true).toNat)) = wv β 24 true ((3 * q + 2) + 1) q := by
  have h0 := hβ (3 * q) (by omega)
  have h1 := hβ (3 * q + 1) (by omega)
  have h2 := hβ (3 * q + 2) (by omega)
  have hb : (blw ((3 * q + 2) : Nat) 24 true).toNat = 0 := by
    have h : blw ((3 * q + 2) : Nat) 24 true = 8 * (3 - 1 - (((3 * q + 2) : Nat) : Int) % 3) := rfl
    omega
  rw [hb, wrap_in (x := (β (3 * q + 2) : Int)) (by omega) (by omega), show (2 : Int) ^ 0 = 1 from by decide, wrap_in (by omega) (by omega)]
  have ew : ∀ k j, wv β 24 true k j = part β k (3 * j) 65536 + part β k (3 * j + 1) 256 + part β k (3 * j + 2) 1 := fun k j => rfl
  rw [ew, ew]
  rw [show part β (3 * q + 2) (3 * q) 65536 = β (3 * q) * 65536 from part_yes (by omega), show part β ((3 * q + 2) + 1) (3 * q) 65536 = β (3 * q) * 65536 from part_yes (by omega)]
  rw [show part β (3 * q + 2) (3 * q + 1) 256 = β (3 * q + 1) * 256 from part_yes (by omega), show part β ((3 * q + 2) + 1) (3 * q + 1) 256 = β (3 * q + 1) * 256 from part_yes (by omega)]
  rw [show part β (3 * q + 2) (3 * q + 2) 1 = 0 from part_no (by omega), show part β ((3 * q + 2) + 1) (3 * q + 2) 1 = β (3 * q + 2) * 1 from part_yes (by omega)]
  rw [or_hi _ _ 8 (by omega) (by omega) (by omega) (by omega) (by omega) (by omega)]; omega
theorem wv_24_false_0 (β : Nat → Nat) (q : Nat) (hβ : ∀ i, i ≤ 3 * q + 0 → β i < 256) :
    bits .or .i64 (wv β 24 false (3 * q) q) (wrap64 (wrap64 (β (3 * q)) * 2 ^ (blw ((3 * q) : Nat) 24 false).toNat)) = wv β 24 false ((3 * q) + 1) q := by
  have h0 := hβ (3 * q) (by omega)
  have hb : (blw ((3 * q) : Nat) 24 false).toNat = 0 := by
    have h : blw ((3 * q) : Nat) 24 false = 8 * ((((3 * q) : Nat) : Int) % 3) := rfl
    omega
  rw [hb, wrap_in (x := (β (3 * q) : Int)) (by omega) (by omega), show (2 : Int) ^ 0 = 1 from by decide, wrap_in (by omega) (by omega)]
  have ew : ∀ k j, wv β 24 false k j = part β k (3 * j) 1 + part β k (3 * j + 1) 256 + part β k (3 * j + 2) 65536 := fun k j => rfl
  rw [ew, ew]
  rw [show part β (3 * q) (3 * q) 1 = 0 from part_no (by omega), show part β ((3 * q) + 1) (3 * q) 1 = β (3 * q) * 1 from part_yes (by omega)]
  rw [show part β (3 * q) (3 * q + 1) 256 = 0 from part_no (by omega), show part β ((3 * q) + 1) (3 * q + 1) 256 = 0 from part_no (by omega)]
  rw [show part β (3 * q) (3 * q + 2) 65536 = 0 from part_no (by omega), show part β ((3 * q) + 1) (3 * q + 2) 65536 = 0 from part_no (by omega)]
  rw [or_hi _ _ 32 (by omega) (by omega) (by omega) (by omega) (by omega) (by omega)]; omega
theorem wv_24_false_1 (β : Nat → Nat) (q : Nat) (hβ : ∀ i, i ≤ 3 * q + 1 → β i < 256) :
    bits .or .i64 (wv β 24 false (3 * q + 1) q) (wrap64 (wrap64 (β (3 * q + 1)) * 2 ^ (blw ((3 * q + 1) : Nat) 24 false).toNat)) = wv β 24 false ((3 * q + 1) + 1) q := by
  have h0 := hβ (3 * q) (by omega)
  have h1 := hβ (3 * q + 1) (by omega)
  have hb : (blw ((3 * q + 1) : Nat) 24 false).toNat = 8 := by
    have h : blw ((3 * q + 1) : Nat) 24 false = 8 * ((((3 * q + 1) : Nat) : Int) % 3) := rfl
    omega
  rw [hb, wrap_in (x := (β (3 * q + 1) : Int)) (by omega) (by omega), show (2 : Int) ^ 8 = 256 from by decide, wrap_in (by omega) (by omega)]
  have ew : ∀ k j, wv β 24 false k j = part β k (3 * j) 1 + part β k (3 * j + 1) 256 + part β k (3 * j + 2) 65536 := fun k j => rfl
  rw [ew, ew]
  rw [show part β (3 * q + 1) (3 * q) 1 = β (3 * q) * 1 from part_yes (by omega), show part β ((3 * q + 1) + 1) (3 * q) 1 = β (3 * q) * 1 from part_yes (by omega)]
  rw [show part β (3 * q + 1) (3 * q + 1) 256 = 0 from part_no (by omega), show part β ((3 * q + 1) + 1) (3 * q + 1) 256 = β (3 * q + 1) * 256 from part_yes (by omega)]
  rw [show part β (3 * q + 1) (3 * q + 2) 65536 = 0 from part_no (by omega), show part β ((3 * q + 1) + 1) (3 * q + 2) 65536 = 0 from part_no (by omega)]
  rw [or_lo _ _ 8 (by omega) (by omega) (by omega) (by omega) (by omega) (by omega)]; omega
theorem wv_24_false_2 (β : Nat → Nat) (q : Nat) (hβ : ∀ i, i ≤ 3 * q + 2 → β i < 256) :
    bits .or .i64 (wv β 24 false (3 * q + 2) q) (wrap64 (wrap64 (β (3 * q + 2)) * 2 ^ (blw ((3 * q + 2) : Nat) 24 false).toNat)) = wv β 24 false ((3 * q + 2) + 1) q := by
  have h0 := hβ (3 * q) (by omega)
  have h1 := hβ (3 * q + 1) (by omega)
  have h2 := hβ (3 * q + 2) (by omega)
  have hb : (blw ((3 * q + 2) : Nat) 24 false).toNat = 16 := by
    have h : blw ((3 * q + 2) : Nat) 24 false = 8 * ((((3 * q + 2) : Nat) : Int) % 3) := rfl
    omega
  rw [hb, wrap_in (x := (β (3 * q + 2) : Int)) (by omega) (by omega), show (2 : Int) ^ 16 = 65536 from by decide, wrap_in (by omega) (by omega)]
  have ew : ∀ k j, wv β 24 false k j = part β k (3 * j) 1 + part β k (3 * j + 1) 256 + part β k (3 * j + 2) 65536 := fun k j => rfl
  rw [ew, ew]
  rw [show part β (3 * q + 2) (3 * q) 1 = β (3 * q) * 1 from part_yes (by omega), show part β ((3 * q + 2) + 1) (3 * q) 1 = β (3 * q) * 1 from part_yes (by omega)]
  rw [show part β (3 * q + 2) (3 * q + 1) 256 = β (3 * q + 1) * 256 from part_yes (by omega), show part β ((3 * q + 2) + 1) (3 * q + 1) 256 = β (3 * q + 1) * 256 from part_yes (by omega)]
  rw [show part β (3 * q + 2) (3 * q + 2) 65536 = 0 from part_no (by omega), show part β ((3 * q + 2) + 1) (3 * q + 2) 65536 = β (3 * q + 2) * 65536 from part_yes (by omega)]
  rw [or_lo _ _ 16 (by omega) (by omega) (by omega) (by omega) (by omega) (by omega)]; omega
theorem wv_32_true_0 (β : Nat → Nat) (q : Nat) (hβ : ∀ i, i ≤ 4 * q + 0 → β i < 256) :
    bits .or .i64 (wv β 32 true (4 * q) q) (wrap64 (wrap64 (β (4 * q)) * 2 ^ (blw ((4 * q) : Nat) 32 true).toNat)) = wv β 32 true ((4 * q) + 1) q := by
  have h0 := hβ (4 * q) (by omega)
  have hb : (blw ((4 * q) : Nat) 32 true).toNat = 24 := by
    have h : blw ((4 * q) : Nat) 32 true = 8 * (4 - 1 - (((4 * q) : Nat) : Int) % 4) := rfl
    omega
  rw [hb, wrap_in (x := (β (4 * q) : Int)) (by omega) (by omega), show (2 : Int) ^ 24 = 16777216 from by decide, wrap_in (by omega) (by omega)]
  have ew : ∀ k j, wv β 32 true k j = part β k (4 * j) 16777216 + part β k (4 * j + 1) 65536 + part β k (4 * j + 2) 256 + part β k (4 * j + 3) 1 := fun k j => rfl
  rw [ew, ew]
  rw [show part β (4 * q) (4 * q) 16777216 = 0 from part_no (by omega), show part β ((4 * q) + 1) (4 * q) 16777216 = β (4 * q) * 16777216 from part_yes (by omega)]
  rw [show part β (4 * q) (4 * q + 1) 65536 = 0 from part_no (by omega), show part β ((4 * q) + 1) (4 * q + 1) 65536 = 0 from part_no (by omega)]
  rw [show part β (4 * q) (4 * q + 2) 256 = 0 from part_no (by omega), show part β ((4 * q) + 1) (4 * q + 2) 256 = 0 from part_no (by omega)]
  rw [show part β (4 * q) (4 * q + 3) 1 = 0 from part_no (by omega), show part β ((4 * q) + 1) (4 * q + 3) 1 = 0 from part_no (by omega)]
  rw [or_hi _ _ 32 (by omega) (by omega) (by omega) (by omega) (by omega) (by omega)]; omega
theorem wv_32_true_1 (β : Nat → Nat) (q : Nat) (hβ : ∀ i, i ≤ 4 * q + 1 → β i < 256) :
    bits .or .i64 (wv β 32 true (4 * q + 1) q) (wrap64 (wrap64 (β (4 * q + 1)) * 2 ^ (blw ((4 * q + 1) : Nat) 32 true).toNat)) = wv β 32 true ((4 * q + 1) + 1) q := by
  have h0 := hβ (4 * q) (by omega)
  have h1 := hβ (4 * q + 1) (by omega)
  have hb : (blw ((4 * q + 1) : Nat) 32 true).toNat = 16 := by
    have h : blw ((4 * q + 1) : Nat) 32 true = 8 * (4 - 1 - (((4 * q + 1) : Nat) : Int) % 4) := rfl
    omega
  rw [hb, wrap_in (x := (β (4 * q + 1) : Int)) (by omega) (by omega), show (2 : Int) ^ 16 = 65536 from by decide, wrap_in (by omega) (by omega)]
  have ew : ∀ k j, wv β 32 true k j = part β k (4 * j) 16777216 + part β k (4 * j + 1) 65536 + part β k (4 * j + 2) 256 + part β k (4 * j + 3) 1 := fun k j => rfl
  rw [ew, ew]
  rw [show part β (4 * q + 1) (4 * q) 16777216 = β (4 * q) * 16777216 from part_yes (by omega), show part β ((4 * q + 1) + 1) (4 * q) 16777216 = β (4 * q) * 16777216 from part_yes (by omega)]
  rw [show part β (4 * q + 1) (4 * q + 1) 65536 = 0 from part_no (by omega), show part β ((4 * q + 1) + 1) (4 * q + 1) 65536 = β (4 * q + 1) * 65536 from part_yes (by omega)]
  rw [show part β (4 * q + 1) (4 * q + 2) 256 = 0 from part_no (by omega), show part β ((4 * q + 1) + 1) (4 * q + 2) 256 = 0 from part_no (by omega)]
  rw [show part β (4 * q + 1) (4 * q + 3) 1 = 0 from part_no (by omega), show part β ((4 * q + 1) + 1) (4 * q + 3) 1 = 0 from part_no (by omega)]
  rw [or_hi _ _ 24 (by omega) (by omega) (by omega) (by omega) (by omega) (by omega)]; omega
theorem wv_32_true_2 (β : Nat → Nat) (q : Nat) (hβ : ∀ i, i ≤ 4 * q + 2 → β i < 256) :
    bits .or .i64 (wv β 32 true (4 * q + 2) q) (wrap64 (wrap64 (β (4 * q + 2)) * 2 ^ (blw ((4 * q + 2) : Nat) 32 true).toNat)) = wv β 32 true ((4 * q + 2) + 1) q := by
  have h0 := hβ (4 * q) (by omega)
  have h1 := hβ (4 * q + 1) (by omega)
  have h2 := hβ (4 * q + 2) (by omega)
  have hb : (blw ((4 * q + 2) : Nat) 32 true).toNat = 8 := by
    have h : blw ((4 * q + 2) : Nat) 32 true = 8 * (4 - 1 - (((4 * q + 2) : Nat) : Int) % 4) := rfl
    omega
  rw [hb, wrap_in (x := (β (4 * q + 2) : Int)) (by omega) (by omega), show (2 : Int) ^ 8 = 256 from by decide, wrap_in (by omega) (by omega)]
  have ew : ∀ k j, wv β 32 true k j = part β k (4 * j) 16777216 + part β k (4 * j + 1) 65536 + part β k (4 * j + 2) 256 + part β k (4 * j + 3) 1 := fun k j => rfl
  rw [ew, ew]
  rw [show part β (4 * q + 2) (4 * q) 16777216 = β (4 * q) * 16777216 from part_yes (by omega), show part β ((4 * q + 2) + 1) (4 * q) 16777216 = β (4 * q) * 16777216 from part_yes (by omega)]
  rw [show part β (4 * q + 2) (4 * q + 1) 65536 = β (4 * q + 1) * 65536 from part_yes (by omega), show part β ((4 * q + 2) + 1) (4 * q + 1) 65536 = β (4 * q + 1) * 65536 from part_yes (by omega)]
  rw [show part β (4 * q + 2) (4 * q + 2) 256 = 0 from part_no (by omega), show part β ((4 * q + 2) + 1) (4 * q + 2) 256 = β (4 * q + 2) * 256 from part_yes (by omega)]
  rw [show part β (4 * q + 2) (4 * q + 3) 1 = 0 from part_no (by omega), show part β ((4 * q + 2) + 1) (4 * q + 3) 1 = 0 from part_no (by omega)]
  rw [or_hi _ _ 16 (by omega) (by omega) (by omega) (by omega) (by omega) (by omega)]; omega
theorem wv_32_true_3 (β : Nat → Nat) (q : Nat) (hβ : ∀ i, i ≤ 4 * q + 3 → β i < 256) :
    bits .or .i64 (wv β 32 true (4 * q + 3) q) (wrap64 (wrap64 (β (4 * q + 3)) * 2 ^ (blw ((4 * q + 3) : Nat) 32 true).toNat)) = wv β 32 true ((4 * q + 3) + 1) q := by
  have h0 := hβ (4 * q) (by omega)
  have h1 := hβ (4 * q + 1) (by omega)
  have h2 := hβ (4 * q + 2) (by omega)
  have h3 := hβ (4 * q + 3) (by omega)
  have hb : (blw ((4 * q + 3) : Nat) 32 true).toNat = 0 := by
    have h : blw ((4 * q + 3) : Nat) 32 true = 8 * (4 - 1 - (((4 * q + 3) : Nat) : Int) % 4) := rfl
    omega
  rw [hb, wrap_in (x := (β (4 * q + 3) : Int)) (by omega) (by omega), show (2 : Int) ^ 0 = 1 from by decide, wrap_in (by omega) (by omega)]
  have ew : ∀ k j, wv β 32 true k j = part β k (4 * j) 16777216 + part β k (4 * j + 1) 65536 + part β k (4 * j + 2) 256 + part β k (4 * j + 3) 1 := fun k j => rfl
  rw [ew, ew]
  rw [show part β (4 * q + 3) (4 * q) 16777216 = β (4 * q) * 16777216 from part_yes (by omega), show part β ((4 * q + 3) + 1) (4 * q) 16777216 = β (4 * q) * 16777216 from part_yes (by omega)]
  rw [show part β (4 * q + 3) (4 * q + 1) 65536 = β (4 * q + 1) * 65536 from part_yes (by omega), show part β ((4 * q + 3) + 1) (4 * q + 1) 65536 = β (4 * q + 1) * 65536 from part_yes (by omega)]
  rw [show part β (4 * q + 3) (4 * q + 2) 256 = β (4 * q + 2) * 256 from part_yes (by omega), show part β ((4 * q + 3) + 1) (4 * q + 2) 256 = β (4 * q + 2) * 256 from part_yes (by omega)]
  rw [show part β (4 * q + 3) (4 * q + 3) 1 = 0 from part_no (by omega), show part β ((4 * q + 3) + 1) (4 * q + 3) 1 = β (4 * q + 3) * 1 from part_yes (by omega)]
  rw [or_hi _ _ 8 (by omega) (by omega) (by omega) (by omega) (by omega) (by omega)]; omega
theorem wv_32_false_0 (β : Nat → Nat) (q : Nat) (hβ : ∀ i, i ≤ 4 * q + 0 → β i < 256) :
    bits .or .i64 (wv β 32 false (4 * q) q) (wrap64 (wrap64 (β (4 * q)) * 2 ^ (blw ((4 * q) : Nat) 32 false).toNat)) = wv β 32 false ((4 * q) + 1) q := by
  have h0 := hβ (4 * q) (by omega)
  have hb : (blw ((4 * q) : Nat) 32 false).toNat = 0 := by
    have h : blw ((4 * q) : Nat) 32 false = 8 * ((((4 * q) : Nat) : Int) % 4) := rfl
    omega
  rw [hb, wrap_in (x := (β (4 * q) : Int)) (by omega) (by omega), show (2 : Int) ^ 0 = 1 from by decide, wrap_in (by omega) (by omega)]
  have ew : ∀ k j, wv β 32 false k j = part β k (4 * j) 1 + part β k (4 * j + 1) 256 + part β k (4 * j + 2) 65536 + part β k (4 * j + 3) 16777216 := fun k j => rfl
  rw [ew, ew]
  rw [show part β (4 * q) (4 * q) 1 = 0 from part_no (by omega), show part β ((4 * q) + 1) (4 * q) 1 = β (4 * q) * 1 from part_yes (by omega)]
  rw [show part β (4 * q) (4 * q + 1) 256 = 0 from part_no (by omega), show part β ((4 * q) + 1) (4 * q + 1) 256 = 0 from part_no (by omega)]
  rw [show part β (4 * q) (4 * q + 2) 65536 = 0 from part_no (by omega), show part β ((4 * q) + 1) (4 * q + 2) 65536 = 0 from part_no (by omega)]
  rw [show part β (4 * q) (4 * q + 3) 16777216 = 0 from part_no (by omega), show part β ((4 * q) + 1) (4 * q + 3) 16777216 = 0 from part_no (by omega)]
  rw [or_hi _ _ 32 (by omega) (by omega) (by omega) (by omega) (by omega) (by omega)]; omega
theorem wv_32_false_1 (β : Nat → Nat) (q : Nat) (hβ : ∀ i, i ≤ 4 * q + 1 → β i < 256) :
    bits .or .i64 (wv β 32 false (4 * q + 1) q) (wrap64 (wrap64 (β (4 * q + 1)) * 2 ^ (blw ((4 * q + 1) : Nat) 32 false).toNat)) = wv β 32 false ((4 * q + 1) + 1) q := by
  have h0 := hβ (4 * q) (by omega)
  have h1 := hβ (4 * q + 1) (by omega)
  have hb : (blw ((4 * q + 1) : Nat) 32 false).toNat = 8 := by
    have h : blw ((4 * q + 1) : Nat) 32 false = 8 * ((((4 * q + 1) : Nat) : Int) % 4) := rfl
    omega
  rw [hb, wrap_in (x := (β (4 * q + 1) : Int)) (by omega) (by omega), show (2 : Int) ^ 8 = 256 from by decide, wrap_in (by omega) (by omega)]
  have ew : ∀ k j, wv β 32 false k j = part β k (4 * j) 1 + part β k (4 * j + 1) 256 + part β k (4 * j + 2) 65536 + part β k (4 * j + 3) 16777216 := fun k j => rfl
  rw [ew, ew]
  rw [show part β (4 * q + 1) (4 * q) 1 = β (4 * q) * 1 from part_yes (by omega), show part β ((4 * q + 1) + 1) (4 * q) 1 = β (4 * q) * 1 from part_yes (by omega)]
  rw [show part β (4 * q + 1) (4 * q + 1) 256 = 0 from part_no (by omega), show part β ((4 * q + 1) + 1) (4 * q + 1) 256 = β (4 * q + 1) * 256 from part_yes (by omega)]
  rw [show part β (4 * q + 1) (4 * q + 2) 65536 = 0 from part_no (by omega), show part β ((4 * q + 1) + 1) (4 * q + 2) 65536 = 0 from part_no (by omega)]
  rw [show part β (4 * q + 1) (4 * q + 3) 16777216 = 0 from part_no (by omega), show part β ((4 * q + 1) + 1) (4 * q + 3) 16777216 = 0 from part_no (by omega)]
  rw [or_lo _ _ 8 (by omega) (by omega) (by omega) (by omega) (by omega) (by omega)]; omega
theorem wv_32_false_2 (β : Nat → Nat) (q : Nat) (hβ : ∀ i, i ≤ 4 * q + 2 → β i < 256) :
    bits .or .i64 (wv β 32 false (4 * q + 2) q) (wrap64 (wrap64 (β (4 * q + 2)) * 2 ^ (blw ((4 * q + 2) : Nat) 32 false).toNat)) = wv β 32 false ((4 * q + 2) + 1) q := by
  have h0 := hβ (4 * q) (by omega)
  have h1 := hβ (4 * q + 1) (by omega)
  have h2 := hβ (4 * q + 2) (by omega)
  have hb : (blw ((4 * q + 2) : Nat) 32 false).toNat = 16 := by
    have h : blw ((4 * q + 2) : Nat) 32 false = 8 * ((((4 * q + 2) : Nat) : Int) % 4) := rfl
    omega
  rw [hb, wrap_in (x := (β (4 * q + 2) : Int)) (by omega) (by omega), show (2 : Int) ^ 16 = 65536 from by decide, wrap_in (by omega) (by omega)]
  have ew : ∀ k j, wv β 32 false k j = part β k (4 * j) 1 + part β k (4 * j + 1) 256 + part β k (4 * j + 2) 65536 + part β k (4 * j + 3) 16777216 := fun k j => rfl
  rw [ew, ew]
  rw [show part β (4 * q + 2) (4 * q) 1 = β (4 * q) * 1 from part_yes (by omega), show part β ((4 * q + 2) + 1) (4 * q) 1 = β (4 * q) * 1 from part_yes (by omega)]
  rw [show part β (4 * q + 2) (4 * q + 1) 256 = β (4 * q + 1) * 256 from part_yes (by omega), show part β ((4 * q + 2) + 1) (4 * q + 1) 256 = β (4 * q + 1) * 256 from part_yes (by omega)]
  rw [show part β (4 * q + 2) (4 * q + 2) 65536 = 0 from part_no (by omega), show part β ((4 * q + 2) + 1) (4 * q + 2) 65536 = β (4 * q + 2) * 65536 from part_yes (by omega)]
  rw [show part β (4 * q + 2) (4 * q + 3) 16777216 = 0 from part_no (by omega), show part β ((4 * q + 2) + 1) (4 * q + 3) 16777216 = 0 from part_no (by omega)]
  rw [or_lo _ _ 16 (by omega) (by omega) (by omega) (by omega) (by omega) (by omega)]; omega
theorem wv_32_false_3 (β : Nat → Nat) (q : Nat) (hβ : ∀ i, i ≤ 4 * q + 3 → β i < 256) :
    bits .or .i64 (wv β 32 false (4 * q + 3) q) (wrap64 (wrap64 (β (4 * q + 3)) * 2 ^ (blw ((4 * q + 3) : Nat) 32 false).toNat)) = wv β 32 false ((4 * q + 3) + 1) q := by
  have h0 := hβ (4 * q) (by omega)
  have h1 := hβ (4 * q + 1) (by omega)
  have h2 := hβ (4 * q + 2) (by omega)
  have h3 := hβ (4 * q + 3) (by omega)
  have hb : (blw ((4 * q + 3) : Nat) 32 false).toNat = 24 := by
    have h : blw ((4 * q + 3) : Nat) 32 false = 8 * ((((4 * q + 3) : Nat) : Int) % 4) := rfl
    omega
  rw [hb, wrap_in (x := (β (4 * q + 3) : Int)) (by omega) (by omega), show (2 : Int) ^ 24 = 16777216 from by decide, wrap_in (by omega) (by omega)]
  have ew : ∀ k j, wv β 32 false k j = part β k (4 * j) 1 + part β k (4 * j + 1) 256 + part β k (4 * j + 2) 65536 + part β k (4 * j + 3) 16777216 := fun k j => rfl
  rw [ew, ew]
  rw [show part β (4 * q + 3) (4 * q) 1 = β (4 * q) * 1 from part_yes (by omega), show part β ((4 * q + 3) + 1) (4 * q) 1 = β (4 * q) * 1 from part_yes (by omega)]
  rw [show part β (4 * q + 3) (4 * q + 1) 256 = β (4 * q + 1) * 256 from part_yes (by omega), show part β ((4 * q + 3) + 1) (4 * q + 1) 256 = β (4 * q + 1) * 256 from part_yes (by omega)]
  rw [show part β (4 * q + 3) (4 * q + 2) 65536 = β (4 * q + 2) * 65536 from part_yes (by omega), show part β ((4 * q + 3) + 1) (4 * q + 2) 65536 = β (4 * q + 2) * 65536 from part_yes (by omega)]
  rw [show part β (4 * q + 3) (4 * q + 3) 16777216 = 0 from part_no (by omega), show part β ((4 * q + 3) + 1) (4 * q + 3) 16777216 = β (4 * q + 3) * 16777216 from part_yes (by omega)]
  rw [or_lo _ _ 24 (by omega) (by omega) (by omega) (by omega) (by omega) (by omega)]; omega

theorem wv_step {β : Nat → Nat} {n : Int} (hn : OkB n) {big : Bool} {k q : Nat} (hq : (k : Int) / szI n = q) (hβ : ∀ i, i ≤ k → β i < 256) :
    bits .or .i64 (wv β n big k q) (wrap64 (wrap64 (β k) * 2 ^ (blw k n big).toNat)) = wv β n big (k + 1) q := by
  rcases hn with rfl | rfl | rfl
  · have h : (k : Int) / 2 = q := hq
    have hk : k = 2 * q ∨ k = 2 * q + 1 := by omega
    cases big <;> rcases hk with rfl | rfl
    · exact wv_16_false_0 β q hβ
    · exact wv_16_false_1 β q hβ
    · exact wv_16_true_0 β q hβ
    · exact wv_16_true_1 β q hβ
  · have h : (k : Int) / 3 = q := hq
    have hk : k = 3 * q ∨ k = 3 * q + 1 ∨ k = 3 * q + 2 := by omega
    cases big <;> rcases hk with rfl | rfl | rfl
    · exact wv_24_false_0 β q hβ
    · exact wv_24_false_1 β q hβ
    · exact wv_24_false_2 β q hβ
    · exact wv_24_true_0 β q hβ
    · exact wv_24_true_1 β q hβ
    · exact wv_24_true_2 β q hβ
  · have h : (k : Int) / 4 = q := hq
    have hk : k = 4 * q ∨ k = 4 * q + 1 ∨ k = 4 * q + 2 ∨ k = 4 * q + 3 := by omega
    cases big <;> rcases hk with rfl | rfl | rfl | rfl
    · exact wv_32_false_0 β q hβ
    · exact wv_32_false_1 β q hβ
    · exact wv_32_false_2 β q hβ
    · exact wv_32_false_3 β q hβ
    · exact wv_32_true_0 β q hβ
    · exact wv_32_true_1 β q hβ
    · exact wv_32_true_2 β q hβ
    · exact wv_32_true_3 β q hβ

theorem wv_step' {β : Nat → Nat} {n : Int} (hn : OkB n) {big : Bool} {k q : Nat} (hq : (k : Int) / szI n = q) (hβ : ∀ i, i ≤ k → β i < 256) :
    bits .or .i64 (wv β n big k q) (β k * 2 ^ (blw k n big).toNat) = wv β n big (k + 1) q := by
  have h := wv_step (big := big) hn hq hβ
  have hb := hβ k (Nat.le_refl _)
  obtain ⟨z1, z2⟩ := blw_bd hn k (by omega) big
  obtain ⟨p1, p2⟩ := shl_bd (β k) (blw k n big) (by omega) (by omega) (by omega) (by omega)
  rw [wrap_in (x := (β k : Int)) (by omega) (by omega), IntWalk.wrap64_in _ (by omega)] at h
  exact h
theorem wo_round {w1 wr w2 : World} {β : Nat → Nat} {n : Int} (hn : OkB n) {big : Bool} {k q m L : Nat} {T : TypeId} (hq : (k : Int) / szI n = q) (hβ : ∀ i, i < L → β i < 256) (hlt : k < L)
    (hrow : wr.rowIs w1.heap.size T m (fun j => .int .i64 (wv β n big k j))) (hfr : Fr w1 wr) (hf2 : Fr wr.drew w2) :
    ∃ k' : Nat, k' ≤ L ∧ Value.int .i64 ((k : Int) + 1) = .int .i64 k' ∧
      (w2.setCell ⟨w1.heap.size, q, none⟩ (.int .i64 (bits .or .i64 (wv β n big k q) (β k * 2 ^ (blw k n big).toNat)))).rowIs w1.heap.size T m (fun j => .int .i64 (wv β n big k' j)) ∧
      Fr w1 (w2.setCell ⟨w1.heap.size, q, none⟩ (.int .i64 (bits .or .i64 (wv β n big k q) (β k * 2 ^ (blw k n big).toNat)))) := by
  have hf3 : Fr wr w2 := Fr.trans (Fr.drew (Fr.refl wr)) hf2
  refine ⟨k + 1, by omega, by simp, ((hf3.row hrow).set q _).congr (fun j hj => ?_), Fr.setCell (hfr.trans hf3) (Nat.le_refl _) _⟩
  by_cases hjq : j = q
  · subst hjq; rw [if_pos rfl, wv_step' hn hq (fun i hi => hβ i (by omega))]
  · rw [if_neg hjq, wv_other hn (by rw [hq]; omega)]
end Go.Proofs.Ytflkcelgbnojaaa
