/- What comes back, for any form. Nothing here speaks of a program but by the names of its values. -/
import Derived.Test.YtflkcelgbnojaaaWU
import Derived.Test.YtflkcelgbnojaaaWK
import Derived.Test.YtflkcelgbnojaaaPM
namespace Go.Proofs.Ytflkcelgbnojaaa
open Go.RowKit
set_option linter.unusedVariables false
theorem byv_back {n : Int} (hn : OkB n) {s : Nat} (hs : (s : Int) = szI n) (big : Bool) (β : Nat → Nat) (k i : Nat) (hi : i / s * s + s ≤ k) (hβ : ∀ i, i < k → β i < 256) : byv (nrm (wv β n big k (i / s)) n) (blw i n big) = β i := by
  have hs1 : 2 ≤ s := by have := szI_bd hn; omega
  have hd := Nat.div_add_mod i s
  have hm : i % s < s := Nat.mod_lt _ (by omega)
  generalize i / s = j at *
  generalize i % s = p at *
  subst hd
  unfold byv
  rcases hn with rfl | rfl | rfl
  · obtain rfl : s = 2 := by have h : (s : Int) = 2 := hs; omega
    have hp : p = 0 ∨ p = 1 := by omega
    cases big <;> rcases hp with rfl | rfl
    · have hb : (blw ((2 * j + 0 : Nat) : Int) 16 false).toNat = 0 := by
        have h : blw ((2 * j + 0 : Nat) : Int) 16 false = 8 * (((2 * j + 0 : Nat) : Int) % 2) := rfl
        omega
      rw [hb]; exact back_16_false_0 β k j (by omega) hβ
    · have hb : (blw ((2 * j + 1 : Nat) : Int) 16 false).toNat = 8 := by
        have h : blw ((2 * j + 1 : Nat) : Int) 16 false = 8 * (((2 * j + 1 : Nat) : Int) % 2) := rfl
        omega
      rw [hb]; exact back_16_false_1 β k j (by omega) hβ
    · have hb : (blw ((2 * j + 0 : Nat) : Int) 16 true).toNat = 8 := by
        have h : blw ((2 * j + 0 : Nat) : Int) 16 true = 8 * (2 - 1 - ((2 * j + 0 : Nat) : Int) % 2) := rfl
        omega
      rw [hb]; exact back_16_true_0 β k j (by omega) hβ
    · have hb : (blw ((2 * j + 1 : Nat) : Int) 16 true).toNat = 0 := by
        have h : blw ((2 * j + 1 : Nat) : Int) 16 true = 8 * (2 - 1 - ((2 * j + 1 : Nat) : Int) % 2) := rfl
        omega
      rw [hb]; exact back_16_true_1 β k j (by omega) hβ
  · obtain rfl : s = 3 := by have h : (s : Int) = 3 := hs; omega
    have hp : p = 0 ∨ p = 1 ∨ p = 2 := by omega
    cases big <;> rcases hp with rfl | rfl | rfl
    · have hb : (blw ((3 * j + 0 : Nat) : Int) 24 false).toNat = 0 := by
        have h : blw ((3 * j + 0 : Nat) : Int) 24 false = 8 * (((3 * j + 0 : Nat) : Int) % 3) := rfl
        omega
      rw [hb]; exact back_24_false_0 β k j (by omega) hβ
    · have hb : (blw ((3 * j + 1 : Nat) : Int) 24 false).toNat = 8 := by
        have h : blw ((3 * j + 1 : Nat) : Int) 24 false = 8 * (((3 * j + 1 : Nat) : Int) % 3) := rfl
        omega
      rw [hb]; exact back_24_false_1 β k j (by omega) hβ
    · have hb : (blw ((3 * j + 2 : Nat) : Int) 24 false).toNat = 16 := by
        have h : blw ((3 * j + 2 : Nat) : Int) 24 false = 8 * (((3 * j + 2 : Nat) : Int) % 3) := rfl
        omega
      rw [hb]; exact back_24_false_2 β k j (by omega) hβ
    · have hb : (blw ((3 * j + 0 : Nat) : Int) 24 true).toNat = 16 := by
        have h : blw ((3 * j + 0 : Nat) : Int) 24 true = 8 * (3 - 1 - ((3 * j + 0 : Nat) : Int) % 3) := rfl
        omega
      rw [hb]; exact back_24_true_0 β k j (by omega) hβ
    · have hb : (blw ((3 * j + 1 : Nat) : Int) 24 true).toNat = 8 := by
        have h : blw ((3 * j + 1 : Nat) : Int) 24 true = 8 * (3 - 1 - ((3 * j + 1 : Nat) : Int) % 3) := rfl
        omega
      rw [hb]; exact back_24_true_1 β k j (by omega) hβ
    · have hb : (blw ((3 * j + 2 : Nat) : Int) 24 true).toNat = 0 := by
        have h : blw ((3 * j + 2 : Nat) : Int) 24 true = 8 * (3 - 1 - ((3 * j + 2 : Nat) : Int) % 3) := rfl
        omega
      rw [hb]; exact back_24_true_2 β k j (by omega) hβ
  · obtain rfl : s = 4 := by have h : (s : Int) = 4 := hs; omega
    have hp : p = 0 ∨ p = 1 ∨ p = 2 ∨ p = 3 := by omega
    cases big <;> rcases hp with rfl | rfl | rfl | rfl
    · have hb : (blw ((4 * j + 0 : Nat) : Int) 32 false).toNat = 0 := by
        have h : blw ((4 * j + 0 : Nat) : Int) 32 false = 8 * (((4 * j + 0 : Nat) : Int) % 4) := rfl
        omega
      rw [hb]; exact back_32_false_0 β k j (by omega) hβ
    · have hb : (blw ((4 * j + 1 : Nat) : Int) 32 false).toNat = 8 := by
        have h : blw ((4 * j + 1 : Nat) : Int) 32 false = 8 * (((4 * j + 1 : Nat) : Int) % 4) := rfl
        omega
      rw [hb]; exact back_32_false_1 β k j (by omega) hβ
    · have hb : (blw ((4 * j + 2 : Nat) : Int) 32 false).toNat = 16 := by
        have h : blw ((4 * j + 2 : Nat) : Int) 32 false = 8 * (((4 * j + 2 : Nat) : Int) % 4) := rfl
        omega
      rw [hb]; exact back_32_false_2 β k j (by omega) hβ
    · have hb : (blw ((4 * j + 3 : Nat) : Int) 32 false).toNat = 24 := by
        have h : blw ((4 * j + 3 : Nat) : Int) 32 false = 8 * (((4 * j + 3 : Nat) : Int) % 4) := rfl
        omega
      rw [hb]; exact back_32_false_3 β k j (by omega) hβ
    · have hb : (blw ((4 * j + 0 : Nat) : Int) 32 true).toNat = 24 := by
        have h : blw ((4 * j + 0 : Nat) : Int) 32 true = 8 * (4 - 1 - ((4 * j + 0 : Nat) : Int) % 4) := rfl
        omega
      rw [hb]; exact back_32_true_0 β k j (by omega) hβ
    · have hb : (blw ((4 * j + 1 : Nat) : Int) 32 true).toNat = 16 := by
        have h : blw ((4 * j + 1 : Nat) : Int) 32 true = 8 * (4 - 1 - ((4 * j + 1 : Nat) : Int) % 4) := rfl
        omega
      rw [hb]; exact back_32_true_1 β k j (by omega) hβ
    · have hb : (blw ((4 * j + 2 : Nat) : Int) 32 true).toNat = 8 := by
        have h : blw ((4 * j + 2 : Nat) : Int) 32 true = 8 * (4 - 1 - ((4 * j + 2 : Nat) : Int) % 4) := rfl
        omega
      rw [hb]; exact back_32_true_2 β k j (by omega) hβ
    · have hb : (blw ((4 * j + 3 : Nat) : Int) 32 true).toNat = 0 := by
        have h : blw ((4 * j + 3 : Nat) : Int) 32 true = 8 * (4 - 1 - ((4 * j + 3 : Nat) : Int) % 4) := rfl
        omega
      rw [hb]; exact back_32_true_3 β k j (by omega) hβ

/-- The bytes of words as natural numbers. -/
def bN (f : Nat → Int) (n : Int) (big : Bool) (j : Nat) : Nat := (bf f n big j).toNat
theorem bN_eq (f : Nat → Int) (n : Int) (big : Bool) (j : Nat) : ((bN f n big j : Nat) : Int) = bf f n big j := Int.toNat_of_nonneg (bf_bd f n big j).1
theorem bN_lt (f : Nat → Int) (n : Int) (big : Bool) (j : Nat) : bN f n big j < 256 := by have := bN_eq f n big j; have := bf_bd f n big j; omega
theorem bf_at {n : Int} {s : Nat} (hs : (s : Int) = szI n) (hs0 : 2 ≤ s) (f : Nat → Int) (big : Bool) (j p : Nat) (hp : p < s) : bf f n big (s * j + p) = byv (f j) (8 * plc s p big) := by
  have e : (szI n).toNat = s := by rw [← hs]; rfl
  have e1 : (s * j + p) / s = j := by rw [Nat.mul_add_div (by omega), Nat.div_eq_of_lt hp, Nat.add_zero]
  have e2 : (s * j + p) % s = p := by rw [Nat.mul_add_mod, Nat.mod_eq_of_lt hp]
  unfold bf
  rw [e, e1, ← blw_plc hs (s * j + p) hs0 big, e2]
theorem words_back {n : Int} (hn : OkB n) {s : Nat} (hs : (s : Int) = szI n) (big : Bool) (f : Nat → Int) (M j : Nat) (hj : s * j + s ≤ M) : nrm (wv (bN f n big) n big M j) n = nrm (f j) n := by
  have hs1 : 2 ≤ s := by have := szI_bd hn; omega
  have hb := bf_at hs hs1 f big j
  refine nrm_congr ?_
  rcases hn with rfl | rfl | rfl
  · obtain rfl : s = 2 := by have h : (s : Int) = 2 := hs; omega
    cases big
    · rw [wv_full_16_false _ M j hj]
      simp only [bN_eq]
      have e0 : bf f 16 false (2 * j) = byv (f j) (8 * (0 : Nat)) := hb 0 (by decide)
      have e1 : bf f 16 false (2 * j + 1) = byv (f j) (8 * (1 : Nat)) := hb 1 (by decide)
      rw [e0, e1]
      rw [byv_0, byv_1]
      show _ % 65536 = f j % 65536
      omega
    · rw [wv_full_16_true _ M j hj]
      simp only [bN_eq]
      have e0 : bf f 16 true (2 * j) = byv (f j) (8 * (1 : Nat)) := hb 0 (by decide)
      have e1 : bf f 16 true (2 * j + 1) = byv (f j) (8 * (0 : Nat)) := hb 1 (by decide)
      rw [e0, e1]
      rw [byv_0, byv_1]
      show _ % 65536 = f j % 65536
      omega
  · obtain rfl : s = 3 := by have h : (s : Int) = 3 := hs; omega
    cases big
    · rw [wv_full_24_false _ M j hj]
      simp only [bN_eq]
      have e0 : bf f 24 false (3 * j) = byv (f j) (8 * (0 : Nat)) := hb 0 (by decide)
      have e1 : bf f 24 false (3 * j + 1) = byv (f j) (8 * (1 : Nat)) := hb 1 (by decide)
      have e2 : bf f 24 false (3 * j + 2) = byv (f j) (8 * (2 : Nat)) := hb 2 (by decide)
      rw [e0, e1, e2]
      rw [byv_0, byv_1, byv_2]
      show _ % 16777216 = f j % 16777216
      omega
    · rw [wv_full_24_true _ M j hj]
      simp only [bN_eq]
      have e0 : bf f 24 true (3 * j) = byv (f j) (8 * (2 : Nat)) := hb 0 (by decide)
      have e1 : bf f 24 true (3 * j + 1) = byv (f j) (8 * (1 : Nat)) := hb 1 (by decide)
      have e2 : bf f 24 true (3 * j + 2) = byv (f j) (8 * (0 : Nat)) := hb 2 (by decide)
      rw [e0, e1, e2]
      rw [byv_0, byv_1, byv_2]
      show _ % 16777216 = f j % 16777216
      omega
  · obtain rfl : s = 4 := by have h : (s : Int) = 4 := hs; omega
    cases big
    · rw [wv_full_32_false _ M j hj]
      simp only [bN_eq]
      have e0 : bf f 32 false (4 * j) = byv (f j) (8 * (0 : Nat)) := hb 0 (by decide)
      have e1 : bf f 32 false (4 * j + 1) = byv (f j) (8 * (1 : Nat)) := hb 1 (by decide)
      have e2 : bf f 32 false (4 * j + 2) = byv (f j) (8 * (2 : Nat)) := hb 2 (by decide)
      have e3 : bf f 32 false (4 * j + 3) = byv (f j) (8 * (3 : Nat)) := hb 3 (by decide)
      rw [e0, e1, e2, e3]
      rw [byv_0, byv_1, byv_2, byv_3]
      show _ % 4294967296 = f j % 4294967296
      omega
    · rw [wv_full_32_true _ M j hj]
      simp only [bN_eq]
      have e0 : bf f 32 true (4 * j) = byv (f j) (8 * (3 : Nat)) := hb 0 (by decide)
      have e1 : bf f 32 true (4 * j + 1) = byv (f j) (8 * (2 : Nat)) := hb 1 (by decide)
      have e2 : bf f 32 true (4 * j + 2) = byv (f j) (8 * (1 : Nat)) := hb 2 (by decide)
      have e3 : bf f 32 true (4 * j + 3) = byv (f j) (8 * (0 : Nat)) := hb 3 (by decide)
      rw [e0, e1, e2, e3]
      rw [byv_0, byv_1, byv_2, byv_3]
      show _ % 4294967296 = f j % 4294967296
      omega
end Go.Proofs.Ytflkcelgbnojaaa
