/- What comes back: bytes of words that were made of bytes, words of bytes that were made of words. Nothing here speaks of a program. -/
import Derived.Test.YtflkcelgbnojaaaV
import Derived.Test.YtflkcelgbnojaaaPB
namespace Go.Proofs.Ytflkcelgbnojaaa
open Go.RowKit
set_option linter.unusedVariables false
theorem wv_full_16_true (β : Nat → Nat) (k j : Nat) (h : 2 * j + 2 ≤ k) : wv β 16 true k j = β (2 * j) * 256 + β (2 * j + 1) * 1 := by
  show part β k (2 * j) 256 + part β k (2 * j + 1) 1 = _
  rw [part_yes (by omega), part_yes (by omega)]
theorem nrm_lt_16_true (x : Int) (sh : Nat) (hs : sh + 8 ≤ 16) (hsh : sh = 0 ∨ sh = 8) : nrm x 16 / 2 ^ sh % 256 = x / 2 ^ sh % 256 := by
  have h : nrm x 16 % 65536 = x % 65536 := nrm_mod (n := 16) (.inl rfl) x
  generalize nrm x 16 = y at *
  rcases hsh with rfl | rfl <;> simp <;> omega
theorem back_16_true_0 (β : Nat → Nat) (k j : Nat) (hk : 2 * j + 2 ≤ k) (hβ : ∀ i, i < k → β i < 256) : nrm (wv β 16 true k j) 16 / 2 ^ 8 % 256 = β (2 * j) := by
  rw [nrm_lt_16_true _ 8 (by decide) (by decide), wv_full_16_true β k j hk]
  have h0 := hβ (2 * j) (by omega)
  have h1 := hβ (2 * j + 1) (by omega)
  rw [show (2 : Int) ^ 8 = 256 from by decide]
  omega
theorem back_16_true_1 (β : Nat → Nat) (k j : Nat) (hk : 2 * j + 2 ≤ k) (hβ : ∀ i, i < k → β i < 256) : nrm (wv β 16 true k j) 16 / 2 ^ 0 % 256 = β (2 * j + 1) := by
  rw [nrm_lt_16_true _ 0 (by decide) (by decide), wv_full_16_true β k j hk]
  have h0 := hβ (2 * j) (by omega)
  have h1 := hβ (2 * j + 1) (by omega)
  rw [show (2 : Int) ^ 0 = 1 from by decide]
  omega
theorem wv_full_16_false (β : Nat → Nat) (k j : Nat) (h : 2 * j + 2 ≤ k) : wv β 16 false k j = β (2 * j) * 1 + β (2 * j + 1) * 256 := by
  show part β k (2 * j) 1 + part β k (2 * j + 1) 256 = _
  rw [part_yes (by omega), part_yes (by omega)]
theorem nrm_lt_16_false (x : Int) (sh : Nat) (hs : sh + 8 ≤ 16) (hsh : sh = 0 ∨ sh = 8) : nrm x 16 / 2 ^ sh % 256 = x / 2 ^ sh % 256 := by
  have h : nrm x 16 % 65536 = x % 65536 := nrm_mod (n := 16) (.inl rfl) x
  generalize nrm x 16 = y at *
  rcases hsh with rfl | rfl <;> simp <;> omega
theorem back_16_false_0 (β : Nat → Nat) (k j : Nat) (hk : 2 * j + 2 ≤ k) (hβ : ∀ i, i < k → β i < 256) : nrm (wv β 16 false k j) 16 / 2 ^ 0 % 256 = β (2 * j) := by
  rw [nrm_lt_16_false _ 0 (by decide) (by decide), wv_full_16_false β k j hk]
  have h0 := hβ (2 * j) (by omega)
  have h1 := hβ (2 * j + 1) (by omega)
  rw [show (2 : Int) ^ 0 = 1 from by decide]
  omega
theorem back_16_false_1 (β : Nat → Nat) (k j : Nat) (hk : 2 * j + 2 ≤ k) (hβ : ∀ i, i < k → β i < 256) : nrm (wv β 16 false k j) 16 / 2 ^ 8 % 256 = β (2 * j + 1) := by
  rw [nrm_lt_16_false _ 8 (by decide) (by decide), wv_full_16_false β k j hk]
  have h0 := hβ (2 * j) (by omega)
  have h1 := hβ (2 * j + 1) (by omega)
  rw [show (2 : Int) ^ 8 = 256 from by decide]
  omega
theorem wv_full_24_true (β : Nat → Nat) (k j : Nat) (h : 3 * j + 3 ≤ k) : wv β 24 true k j = β (3 * j) * 65536 + β (3 * j + 1) * 256 + β (3 * j + 2) * 1 := by
  show part β k (3 * j) 65536 + part β k (3 * j + 1) 256 + part β k (3 * j + 2) 1 = _
  rw [part_yes (by omega), part_yes (by omega), part_yes (by omega)]
theorem nrm_lt_24_true (x : Int) (sh : Nat) (hs : sh + 8 ≤ 24) (hsh : sh = 0 ∨ sh = 8 ∨ sh = 16) : nrm x 24 / 2 ^ sh % 256 = x / 2 ^ sh % 256 := by
  have h : nrm x 24 % 16777216 = x % 16777216 := nrm_mod (n := 24) (.inr (.inl rfl)) x
  generalize nrm x 24 = y at *
  rcases hsh with rfl | rfl | rfl <;> simp <;> omega
theorem back_24_true_0 (β : Nat → Nat) (k j : Nat) (hk : 3 * j + 3 ≤ k) (hβ : ∀ i, i < k → β i < 256) : nrm (wv β 24 true k j) 24 / 2 ^ 16 % 256 = β (3 * j) := by
  rw [nrm_lt_24_true _ 16 (by decide) (by decide), wv_full_24_true β k j hk]
  have h0 := hβ (3 * j) (by omega)
  have h1 := hβ (3 * j + 1) (by omega)
  have h2 := hβ (3 * j + 2) (by omega)
  rw [show (2 : Int) ^ 16 = 65536 from by decide]
  omega
theorem back_24_true_1 (β : Nat → Nat) (k j : Nat) (hk : 3 * j + 3 ≤ k) (hβ : ∀ i, i < k → β i < 256) : nrm (wv β 24 true k j) 24 / 2 ^ 8 % 256 = β (3 * j + 1) := by
  rw [nrm_lt_24_true _ 8 (by decide) (by decide), wv_full_24_true β k j hk]
  have h0 := hβ (3 * j) (by omega)
  have h1 := hβ (3 * j + 1) (by omega)
  have h2 := hβ (3 * j + 2) (by omega)
  rw [show (2 : Int) ^ 8 = 256 from by decide]
  omega
theorem back_24_true_2 (β : Nat → Nat) (k j : Nat) (hk : 3 * j + 3 ≤ k) (hβ : ∀ i, i < k → β i < 256) : nrm (wv β 24 true k j) 24 / 2 ^ 0 % 256 = β (3 * j + 2) := by
  rw [nrm_lt_24_true _ 0 (by decide) (by decide), wv_full_24_true β k j hk]
  have h0 := hβ (3 * j) (by omega)
  have h1 := hβ (3 * j + 1) (by omega)
  have h2 := hβ (3 * j + 2) (by omega)
  rw [show (2 : Int) ^ 0 = 1 from by decide]
  omega
theorem wv_full_24_false (β : Nat → Nat) (k j : Nat) (h : 3 * j + 3 ≤ k) : wv β 24 false k j = β (3 * j) * 1 + β (3 * j + 1) * 256 + β (3 * j + 2) * 65536 := by
  show part β k (3 * j) 1 + part β k (3 * j + 1) 256 + part β k (3 * j + 2) 65536 = _
  rw [part_yes (by omega), part_yes (by omega), part_yes (by omega)]
theorem nrm_lt_24_false (x : Int) (sh : Nat) (hs : sh + 8 ≤ 24) (hsh : sh = 0 ∨ sh = 8 ∨ sh = 16) : nrm x 24 / 2 ^ sh % 256 = x / 2 ^ sh % 256 := by
  have h : nrm x 24 % 16777216 = x % 16777216 := nrm_mod (n := 24) (.inr (.inl rfl)) x
  generalize nrm x 24 = y at *
  rcases hsh with rfl | rfl | rfl <;> simp <;> omega
theorem back_24_false_0 (β : Nat → Nat) (k j : Nat) (hk : 3 * j + 3 ≤ k) (hβ : ∀ i, i < k → β i < 256) : nrm (wv β 24 false k j) 24 / 2 ^ 0 % 256 = β (3 * j) := by
  rw [nrm_lt_24_false _ 0 (by decide) (by decide), wv_full_24_false β k j hk]
  have h0 := hβ (3 * j) (by omega)
  have h1 := hβ (3 * j + 1) (by omega)
  have h2 := hβ (3 * j + 2) (by omega)
  rw [show (2 : Int) ^ 0 = 1 from by decide]
  omega
theorem back_24_false_1 (β : Nat → Nat) (k j : Nat) (hk : 3 * j + 3 ≤ k) (hβ : ∀ i, i < k → β i < 256) : nrm (wv β 24 false k j) 24 / 2 ^ 8 % 256 = β (3 * j + 1) := by
  rw [nrm_lt_24_false _ 8 (by decide) (by decide), wv_full_24_false β k j hk]
  have h0 := hβ (3 * j) (by omega)
  have h1 := hβ (3 * j + 1) (by omega)
  have h2 := hβ (3 * j + 2) (by omega)
  rw [show (2 : Int) ^ 8 = 256 from by decide]
  omega
theorem back_24_false_2 (β : Nat → Nat) (k j : Nat) (hk : 3 * j + 3 ≤ k) (hβ : ∀ i, i < k → β i < 256) : nrm (wv β 24 false k j) 24 / 2 ^ 16 % 256 = β (3 * j + 2) := by
  rw [nrm_lt_24_false _ 16 (by decide) (by decide), wv_full_24_false β k j hk]
  have h0 := hβ (3 * j) (by omega)
  have h1 := hβ (3 * j + 1) (by omega)
  have h2 := hβ (3 * j + 2) (by omega)
  rw [show (2 : Int) ^ 16 = 65536 from by decide]
  omega
theorem wv_full_32_true (β : Nat → Nat) (k j : Nat) (h : 4 * j + 4 ≤ k) : wv β 32 true k j = β (4 * j) * 16777216 + β (4 * j + 1) * 65536 + β (4 * j + 2) * 256 + β (4 * j + 3) * 1 := by
  show part β k (4 * j) 16777216 + part β k (4 * j + 1) 65536 + part β k (4 * j + 2) 256 + part β k (4 * j + 3) 1 = _
  rw [part_yes (by omega), part_yes (by omega), part_yes (by omega), part_yes (by omega)]
theorem nrm_lt_32_true (x : Int) (sh : Nat) (hs : sh + 8 ≤ 32) (hsh : sh = 0 ∨ sh = 8 ∨ sh = 16 ∨ sh = 24) : nrm x 32 / 2 ^ sh % 256 = x / 2 ^ sh % 256 := by
  have h : nrm x 32 % 4294967296 = x % 4294967296 := nrm_mod (n := 32) (.inr (.inr rfl)) x
  generalize nrm x 32 = y at *
  rcases hsh with rfl | rfl | rfl | rfl <;> simp <;> omega
theorem back_32_true_0 (β : Nat → Nat) (k j : Nat) (hk : 4 * j + 4 ≤ k) (hβ : ∀ i, i < k → β i < 256) : nrm (wv β 32 true k j) 32 / 2 ^ 24 % 256 = β (4 * j) := by
  rw [nrm_lt_32_true _ 24 (by decide) (by decide), wv_full_32_true β k j hk]
  have h0 := hβ (4 * j) (by omega)
  have h1 := hβ (4 * j + 1) (by omega)
  have h2 := hβ (4 * j + 2) (by omega)
  have h3 := hβ (4 * j + 3) (by omega)
  rw [show (2 : Int) ^ 24 = 16777216 from by decide]
  omega
theorem back_32_true_1 (β : Nat → Nat) (k j : Nat) (hk : 4 * j + 4 ≤ k) (hβ : ∀ i, i < k → β i < 256) : nrm (wv β 32 true k j) 32 / 2 ^ 16 % 256 = β (4 * j + 1) := by
  rw [nrm_lt_32_true _ 16 (by decide) (by decide), wv_full_32_true β k j hk]
  have h0 := hβ (4 * j) (by omega)
  have h1 := hβ (4 * j + 1) (by omega)
  have h2 := hβ (4 * j + 2) (by omega)
  have h3 := hβ (4 * j + 3) (by omega)
  rw [show (2 : Int) ^ 16 = 65536 from by decide]
  omega
theorem back_32_true_2 (β : Nat → Nat) (k j : Nat) (hk : 4 * j + 4 ≤ k) (hβ : ∀ i, i < k → β i < 256) : nrm (wv β 32 true k j) 32 / 2 ^ 8 % 256 = β (4 * j + 2) := by
  rw [nrm_lt_32_true _ 8 (by decide) (by decide), wv_full_32_true β k j hk]
  have h0 := hβ (4 * j) (by omega)
  have h1 := hβ (4 * j + 1) (by omega)
  have h2 := hβ (4 * j + 2) (by omega)
  have h3 := hβ (4 * j + 3) (by omega)
  rw [show (2 : Int) ^ 8 = 256 from by decide]
  omega
theorem back_32_true_3 (β : Nat → Nat) (k j : Nat) (hk : 4 * j + 4 ≤ k) (hβ : ∀ i, i < k → β i < 256) : nrm (wv β 32 true k j) 32 / 2 ^ 0 % 256 = β (4 * j + 3) := by
  rw [nrm_lt_32_true _ 0 (by decide) (by decide), wv_full_32_true β k j hk]
  have h0 := hβ (4 * j) (by omega)
  have h1 := hβ (4 * j + 1) (by omega)
  have h2 := hβ (4 * j + 2) (by omega)
  have h3 := hβ (4 * j + 3) (by omega)
  rw [show (2 : Int) ^ 0 = 1 from by decide]
  omega
theorem wv_full_32_false (β : Nat → Nat) (k j : Nat) (h : 4 * j + 4 ≤ k) : wv β 32 false k j = β (4 * j) * 1 + β (4 * j + 1) * 256 + β (4 * j + 2) * 65536 + β (4 * j + 3) * 16777216 := by
  show part β k (4 * j) 1 + part β k (4 * j + 1) 256 + part β k (4 * j + 2) 65536 + part β k (4 * j + 3) 16777216 = _
  rw [part_yes (by omega), part_yes (by omega), part_yes (by omega), part_yes (by omega)]
theorem nrm_lt_32_false (x : Int) (sh : Nat) (hs : sh + 8 ≤ 32) (hsh : sh = 0 ∨ sh = 8 ∨ sh = 16 ∨ sh = 24) : nrm x 32 / 2 ^ sh % 256 = x / 2 ^ sh % 256 := by
  have h : nrm x 32 % 4294967296 = x % 4294967296 := nrm_mod (n := 32) (.inr (.inr rfl)) x
  generalize nrm x 32 = y at *
  rcases hsh with rfl | rfl | rfl | rfl <;> simp <;> omega
theorem back_32_false_0 (β : Nat → Nat) (k j : Nat) (hk : 4 * j + 4 ≤ k) (hβ : ∀ i, i < k → β i < 256) : nrm (wv β 32 false k j) 32 / 2 ^ 0 % 256 = β (4 * j) := by
  rw [nrm_lt_32_false _ 0 (by decide) (by decide), wv_full_32_false β k j hk]
  have h0 := hβ (4 * j) (by omega)
  have h1 := hβ (4 * j + 1) (by omega)
  have h2 := hβ (4 * j + 2) (by omega)
  have h3 := hβ (4 * j + 3) (by omega)
  rw [show (2 : Int) ^ 0 = 1 from by decide]
  omega
theorem back_32_false_1 (β : Nat → Nat) (k j : Nat) (hk : 4 * j + 4 ≤ k) (hβ : ∀ i, i < k → β i < 256) : nrm (wv β 32 false k j) 32 / 2 ^ 8 % 256 = β (4 * j + 1) := by
  rw [nrm_lt_32_false _ 8 (by decide) (by decide), wv_full_32_false β k j hk]
  have h0 := hβ (4 * j) (by omega)
  have h1 := hβ (4 * j + 1) (by omega)
  have h2 := hβ (4 * j + 2) (by omega)
  have h3 := hβ (4 * j + 3) (by omega)
  rw [show (2 : Int) ^ 8 = 256 from by decide]
  omega
theorem back_32_false_2 (β : Nat → Nat) (k j : Nat) (hk : 4 * j + 4 ≤ k) (hβ : ∀ i, i < k → β i < 256) : nrm (wv β 32 false k j) 32 / 2 ^ 16 % 256 = β (4 * j + 2) := by
  rw [nrm_lt_32_false _ 16 (by decide) (by decide), wv_full_32_false β k j hk]
  have h0 := hβ (4 * j) (by omega)
  have h1 := hβ (4 * j + 1) (by omega)
  have h2 := hβ (4 * j + 2) (by omega)
  have h3 := hβ (4 * j + 3) (by omega)
  rw [show (2 : Int) ^ 16 = 65536 from by decide]
  omega
theorem back_32_false_3 (β : Nat → Nat) (k j : Nat) (hk : 4 * j + 4 ≤ k) (hβ : ∀ i, i < k → β i < 256) : nrm (wv β 32 false k j) 32 / 2 ^ 24 % 256 = β (4 * j + 3) := by
  rw [nrm_lt_32_false _ 24 (by decide) (by decide), wv_full_32_false β k j hk]
  have h0 := hβ (4 * j) (by omega)
  have h1 := hβ (4 * j + 1) (by omega)
  have h2 := hβ (4 * j + 2) (by omega)
  have h3 := hβ (4 * j + 3) (by omega)
  rw [show (2 : Int) ^ 24 = 16777216 from by decide]
  omega
end Go.Proofs.Ytflkcelgbnojaaa
