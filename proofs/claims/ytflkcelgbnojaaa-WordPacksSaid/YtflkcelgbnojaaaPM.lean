/- A byte changed in a word: the document's way and the program's way say the same. Nothing here speaks of a program. -/
import Derived.Test.YtflkcelgbnojaaaPR
namespace Go.Proofs.Ytflkcelgbnojaaa
open Go.RowKit
set_option linter.unusedVariables false
theorem byv_0 (x : Int) : byv x (8 * (0 : Nat)) = x % 256 := by unfold byv; simp
theorem byv_1 (x : Int) : byv x (8 * (1 : Nat)) = x / 256 % 256 := by unfold byv; simp
theorem byv_2 (x : Int) : byv x (8 * (2 : Nat)) = x / 65536 % 256 := by unfold byv; simp
theorem byv_3 (x : Int) : byv x (8 * (3 : Nat)) = x / 16777216 % 256 := by unfold byv; simp
theorem uns_low (v : Int) : uns v 16 % 256 = v % 256 := by show v % 65536 % 256 = v % 256; omega
theorem jn_16_true (l : Nat → Int) : jn l 2 true 2 = ((0 * 256 + l 0) * 256 + l 1) := rfl
theorem same_16_true (f : Nat → Int) (q r k : Nat) (v : Int) (hk : k ≠ q) : nrm (jn (lk f 2 q r v true k) 2 true 2) 16 = nrm (f k) 16 := by
  have h : ∀ p, lk f 2 q r v true k p = byv (f k) (8 * plc 2 p true) := fun p => by unfold lk; rw [if_neg (fun x => hk x.1)]
  rw [jn_16_true]
  simp only [h]
  rw [show plc 2 0 true = 1 from rfl]
  rw [show plc 2 1 true = 0 from rfl]
  rw [byv_0, byv_1]
  refine nrm_congr ?_
  show _ % 65536 = _ % 65536
  omega
theorem put_16_true_0 (f : Nat → Int) (k : Nat) (v : Int) : nrm (jn (lk f 2 k 0 v true k) 2 true 2) 16 = nrm (pb (f k) (v % 256) 8) 16 := by
  have h : ∀ p, p ≠ 0 → lk f 2 k 0 v true k p = byv (f k) (8 * plc 2 p true) := fun p hp => by unfold lk; rw [if_neg (fun x => hp x.2)]
  have h2 : lk f 2 k 0 v true k 0 = v % 256 := by unfold lk; rw [if_pos ⟨rfl, rfl⟩, uns_low]
  have hv0 : 0 ≤ v % 256 := Int.emod_nonneg _ (by decide)
  have hv1 : v % 256 < 256 := Int.emod_lt_of_pos _ (by decide)
  obtain ⟨c, hc⟩ := Int.eq_ofNat_of_zero_le hv0
  rw [jn_16_true, h2]
  rw [h 1 (by decide)]
  rw [show plc 2 1 true = 0 from rfl]
  rw [byv_0, hc]
  have hp := pb_mod (n := 16) (.inl rfl) (f k) c (by omega) 8 (by decide) (by decide)
  refine nrm_congr ?_
  rw [hp, show (2 : Int) ^ 8 = 256 from by decide]
  show _ % 65536 = (f k) % 65536 - ((f k) % 65536 / 256 % 256) * 256 + c * 256
  omega
theorem put_16_true_1 (f : Nat → Int) (k : Nat) (v : Int) : nrm (jn (lk f 2 k 1 v true k) 2 true 2) 16 = nrm (pb (f k) (v % 256) 0) 16 := by
  have h : ∀ p, p ≠ 1 → lk f 2 k 1 v true k p = byv (f k) (8 * plc 2 p true) := fun p hp => by unfold lk; rw [if_neg (fun x => hp x.2)]
  have h2 : lk f 2 k 1 v true k 1 = v % 256 := by unfold lk; rw [if_pos ⟨rfl, rfl⟩, uns_low]
  have hv0 : 0 ≤ v % 256 := Int.emod_nonneg _ (by decide)
  have hv1 : v % 256 < 256 := Int.emod_lt_of_pos _ (by decide)
  obtain ⟨c, hc⟩ := Int.eq_ofNat_of_zero_le hv0
  rw [jn_16_true, h2]
  rw [h 0 (by decide)]
  rw [show plc 2 0 true = 1 from rfl]
  rw [byv_1, hc]
  have hp := pb_mod (n := 16) (.inl rfl) (f k) c (by omega) 0 (by decide) (by decide)
  refine nrm_congr ?_
  rw [hp, show (2 : Int) ^ 0 = 1 from by decide]
  show _ % 65536 = (f k) % 65536 - ((f k) % 65536 / 1 % 256) * 1 + c * 1
  omega
theorem jn_16_false (l : Nat → Int) : jn l 2 false 2 = ((0 * 256 + l 1) * 256 + l 0) := rfl
theorem same_16_false (f : Nat → Int) (q r k : Nat) (v : Int) (hk : k ≠ q) : nrm (jn (lk f 2 q r v false k) 2 false 2) 16 = nrm (f k) 16 := by
  have h : ∀ p, lk f 2 q r v false k p = byv (f k) (8 * plc 2 p false) := fun p => by unfold lk; rw [if_neg (fun x => hk x.1)]
  rw [jn_16_false]
  simp only [h]
  rw [show plc 2 0 false = 0 from rfl]
  rw [show plc 2 1 false = 1 from rfl]
  rw [byv_0, byv_1]
  refine nrm_congr ?_
  show _ % 65536 = _ % 65536
  omega
theorem put_16_false_0 (f : Nat → Int) (k : Nat) (v : Int) : nrm (jn (lk f 2 k 0 v false k) 2 false 2) 16 = nrm (pb (f k) (v % 256) 0) 16 := by
  have h : ∀ p, p ≠ 0 → lk f 2 k 0 v false k p = byv (f k) (8 * plc 2 p false) := fun p hp => by unfold lk; rw [if_neg (fun x => hp x.2)]
  have h2 : lk f 2 k 0 v false k 0 = v % 256 := by unfold lk; rw [if_pos ⟨rfl, rfl⟩, uns_low]
  have hv0 : 0 ≤ v % 256 := Int.emod_nonneg _ (by decide)
  have hv1 : v % 256 < 256 := Int.emod_lt_of_pos _ (by decide)
  obtain ⟨c, hc⟩ := Int.eq_ofNat_of_zero_le hv0
  rw [jn_16_false, h2]
  rw [h 1 (by decide)]
  rw [show plc 2 1 false = 1 from rfl]
  rw [byv_1, hc]
  have hp := pb_mod (n := 16) (.inl rfl) (f k) c (by omega) 0 (by decide) (by decide)
  refine nrm_congr ?_
  rw [hp, show (2 : Int) ^ 0 = 1 from by decide]
  show _ % 65536 = (f k) % 65536 - ((f k) % 65536 / 1 % 256) * 1 + c * 1
  omega
theorem put_16_false_1 (f : Nat → Int) (k : Nat) (v : Int) : nrm (jn (lk f 2 k 1 v false k) 2 false 2) 16 = nrm (pb (f k) (v % 256) 8) 16 := by
  have h : ∀ p, p ≠ 1 → lk f 2 k 1 v false k p = byv (f k) (8 * plc 2 p false) := fun p hp => by unfold lk; rw [if_neg (fun x => hp x.2)]
  have h2 : lk f 2 k 1 v false k 1 = v % 256 := by unfold lk; rw [if_pos ⟨rfl, rfl⟩, uns_low]
  have hv0 : 0 ≤ v % 256 := Int.emod_nonneg _ (by decide)
  have hv1 : v % 256 < 256 := Int.emod_lt_of_pos _ (by decide)
  obtain ⟨c, hc⟩ := Int.eq_ofNat_of_zero_le hv0
  rw [jn_16_false, h2]
  rw [h 0 (by decide)]
  rw [show plc 2 0 false = 0 from rfl]
  rw [byv_0, hc]
  have hp := pb_mod (n := 16) (.inl rfl) (f k) c (by omega) 8 (by decide) (by decide)
  refine nrm_congr ?_
  rw [hp, show (2 : Int) ^ 8 = 256 from by decide]
  show _ % 65536 = (f k) % 65536 - ((f k) % 65536 / 256 % 256) * 256 + c * 256
  omega
theorem jn_24_true (l : Nat → Int) : jn l 3 true 3 = (((0 * 256 + l 0) * 256 + l 1) * 256 + l 2) := rfl
theorem same_24_true (f : Nat → Int) (q r k : Nat) (v : Int) (hk : k ≠ q) : nrm (jn (lk f 3 q r v true k) 3 true 3) 24 = nrm (f k) 24 := by
  have h : ∀ p, lk f 3 q r v true k p = byv (f k) (8 * plc 3 p true) := fun p => by unfold lk; rw [if_neg (fun x => hk x.1)]
  rw [jn_24_true]
  simp only [h]
  rw [show plc 3 0 true = 2 from rfl]
  rw [show plc 3 1 true = 1 from rfl]
  rw [show plc 3 2 true = 0 from rfl]
  rw [byv_0, byv_1, byv_2]
  refine nrm_congr ?_
  show _ % 16777216 = _ % 16777216
  omega
theorem put_24_true_0 (f : Nat → Int) (k : Nat) (v : Int) : nrm (jn (lk f 3 k 0 v true k) 3 true 3) 24 = nrm (pb (f k) (v % 256) 16) 24 := by
  have h : ∀ p, p ≠ 0 → lk f 3 k 0 v true k p = byv (f k) (8 * plc 3 p true) := fun p hp => by unfold lk; rw [if_neg (fun x => hp x.2)]
  have h2 : lk f 3 k 0 v true k 0 = v % 256 := by unfold lk; rw [if_pos ⟨rfl, rfl⟩, uns_low]
  have hv0 : 0 ≤ v % 256 := Int.emod_nonneg _ (by decide)
  have hv1 : v % 256 < 256 := Int.emod_lt_of_pos _ (by decide)
  obtain ⟨c, hc⟩ := Int.eq_ofNat_of_zero_le hv0
  rw [jn_24_true, h2]
  rw [h 1 (by decide), h 2 (by decide)]
  rw [show plc 3 1 true = 1 from rfl]
  rw [show plc 3 2 true = 0 from rfl]
  rw [byv_1, byv_0, hc]
  have hp := pb_mod (n := 24) (.inr (.inl rfl)) (f k) c (by omega) 16 (by decide) (by decide)
  refine nrm_congr ?_
  rw [hp, show (2 : Int) ^ 16 = 65536 from by decide]
  show _ % 16777216 = (f k) % 16777216 - ((f k) % 16777216 / 65536 % 256) * 65536 + c * 65536
  omega
theorem put_24_true_1 (f : Nat → Int) (k : Nat) (v : Int) : nrm (jn (lk f 3 k 1 v true k) 3 true 3) 24 = nrm (pb (f k) (v % 256) 8) 24 := by
  have h : ∀ p, p ≠ 1 → lk f 3 k 1 v true k p = byv (f k) (8 * plc 3 p true) := fun p hp => by unfold lk; rw [if_neg (fun x => hp x.2)]
  have h2 : lk f 3 k 1 v true k 1 = v % 256 := by unfold lk; rw [if_pos ⟨rfl, rfl⟩, uns_low]
  have hv0 : 0 ≤ v % 256 := Int.emod_nonneg _ (by decide)
  have hv1 : v % 256 < 256 := Int.emod_lt_of_pos _ (by decide)
  obtain ⟨c, hc⟩ := Int.eq_ofNat_of_zero_le hv0
  rw [jn_24_true, h2]
  rw [h 0 (by decide), h 2 (by decide)]
  rw [show plc 3 0 true = 2 from rfl]
  rw [show plc 3 2 true = 0 from rfl]
  rw [byv_2, byv_0, hc]
  have hp := pb_mod (n := 24) (.inr (.inl rfl)) (f k) c (by omega) 8 (by decide) (by decide)
  refine nrm_congr ?_
  rw [hp, show (2 : Int) ^ 8 = 256 from by decide]
  show _ % 16777216 = (f k) % 16777216 - ((f k) % 16777216 / 256 % 256) * 256 + c * 256
  omega
theorem put_24_true_2 (f : Nat → Int) (k : Nat) (v : Int) : nrm (jn (lk f 3 k 2 v true k) 3 true 3) 24 = nrm (pb (f k) (v % 256) 0) 24 := by
  have h : ∀ p, p ≠ 2 → lk f 3 k 2 v true k p = byv (f k) (8 * plc 3 p true) := fun p hp => by unfold lk; rw [if_neg (fun x => hp x.2)]
  have h2 : lk f 3 k 2 v true k 2 = v % 256 := by unfold lk; rw [if_pos ⟨rfl, rfl⟩, uns_low]
  have hv0 : 0 ≤ v % 256 := Int.emod_nonneg _ (by decide)
  have hv1 : v % 256 < 256 := Int.emod_lt_of_pos _ (by decide)
  obtain ⟨c, hc⟩ := Int.eq_ofNat_of_zero_le hv0
  rw [jn_24_true, h2]
  rw [h 0 (by decide), h 1 (by decide)]
  rw [show plc 3 0 true = 2 from rfl]
  rw [show plc 3 1 true = 1 from rfl]
  rw [byv_2, byv_1, hc]
  have hp := pb_mod (n := 24) (.inr (.inl rfl)) (f k) c (by omega) 0 (by decide) (by decide)
  refine nrm_congr ?_
  rw [hp, show (2 : Int) ^ 0 = 1 from by decide]
  show _ % 16777216 = (f k) % 16777216 - ((f k) % 16777216 / 1 % 256) * 1 + c * 1
  omega
theorem jn_24_false (l : Nat → Int) : jn l 3 false 3 = (((0 * 256 + l 2) * 256 + l 1) * 256 + l 0) := rfl
theorem same_24_false (f : Nat → Int) (q r k : Nat) (v : Int) (hk : k ≠ q) : nrm (jn (lk f 3 q r v false k) 3 false 3) 24 = nrm (f k) 24 := by
  have h : ∀ p, lk f 3 q r v false k p = byv (f k) (8 * plc 3 p false) := fun p => by unfold lk; rw [if_neg (fun x => hk x.1)]
  rw [jn_24_false]
  simp only [h]
  rw [show plc 3 0 false = 0 from rfl]
  rw [show plc 3 1 false = 1 from rfl]
  rw [show plc 3 2 false = 2 from rfl]
  rw [byv_0, byv_1, byv_2]
  refine nrm_congr ?_
  show _ % 16777216 = _ % 16777216
  omega
theorem put_24_false_0 (f : Nat → Int) (k : Nat) (v : Int) : nrm (jn (lk f 3 k 0 v false k) 3 false 3) 24 = nrm (pb (f k) (v % 256) 0) 24 := by
  have h : ∀ p, p ≠ 0 → lk f 3 k 0 v false k p = byv (f k) (8 * plc 3 p false) := fun p hp => by unfold lk; rw [if_neg (fun x => hp x.2)]
  have h2 : lk f 3 k 0 v false k 0 = v % 256 := by unfold lk; rw [if_pos ⟨rfl, rfl⟩, uns_low]
  have hv0 : 0 ≤ v % 256 := Int.emod_nonneg _ (by decide)
  have hv1 : v % 256 < 256 := Int.emod_lt_of_pos _ (by decide)
  obtain ⟨c, hc⟩ := Int.eq_ofNat_of_zero_le hv0
  rw [jn_24_false, h2]
  rw [h 1 (by decide), h 2 (by decide)]
  rw [show plc 3 1 false = 1 from rfl]
  rw [show plc 3 2 false = 2 from rfl]
  rw [byv_1, byv_2, hc]
  have hp := pb_mod (n := 24) (.inr (.inl rfl)) (f k) c (by omega) 0 (by decide) (by decide)
  refine nrm_congr ?_
  rw [hp, show (2 : Int) ^ 0 = 1 from by decide]
  show _ % 16777216 = (f k) % 16777216 - ((f k) % 16777216 / 1 % 256) * 1 + c * 1
  omega
theorem put_24_false_1 (f : Nat → Int) (k : Nat) (v : Int) : nrm (jn (lk f 3 k 1 v false k) 3 false 3) 24 = nrm (pb (f k) (v % 256) 8) 24 := by
  have h : ∀ p, p ≠ 1 → lk f 3 k 1 v false k p = byv (f k) (8 * plc 3 p false) := fun p hp => by unfold lk; rw [if_neg (fun x => hp x.2)]
  have h2 : lk f 3 k 1 v false k 1 = v % 256 := by unfold lk; rw [if_pos ⟨rfl, rfl⟩, uns_low]
  have hv0 : 0 ≤ v % 256 := Int.emod_nonneg _ (by decide)
  have hv1 : v % 256 < 256 := Int.emod_lt_of_pos _ (by decide)
  obtain ⟨c, hc⟩ := Int.eq_ofNat_of_zero_le hv0
  rw [jn_24_false, h2]
  rw [h 0 (by decide), h 2 (by decide)]
  rw [show plc 3 0 false = 0 from rfl]
  rw [show plc 3 2 false = 2 from rfl]
  rw [byv_0, byv_2, hc]
  have hp := pb_mod (n := 24) (.inr (.inl rfl)) (f k) c (by omega) 8 (by decide) (by decide)
  refine nrm_congr ?_
  rw [hp, show (2 : Int) ^ 8 = 256 from by decide]
  show _ % 16777216 = (f k) % 16777216 - ((f k) % 16777216 / 256 % 256) * 256 + c * 256
  omega
theorem put_24_false_2 (f : Nat → Int) (k : Nat) (v : Int) : nrm (jn (lk f 3 k 2 v false k) 3 false 3) 24 = nrm (pb (f k) (v % 256) 16) 24 := by
  have h : ∀ p, p ≠ 2 → lk f 3 k 2 v false k p = byv (f k) (8 * plc 3 p false) := fun p hp => by unfold lk; rw [if_neg (fun x => hp x.2)]
  have h2 : lk f 3 k 2 v false k 2 = v % 256 := by unfold lk; rw [if_pos ⟨rfl, rfl⟩, uns_low]
  have hv0 : 0 ≤ v % 256 := Int.emod_nonneg _ (by decide)
  have hv1 : v % 256 < 256 := Int.emod_lt_of_pos _ (by decide)
  obtain ⟨c, hc⟩ := Int.eq_ofNat_of_zero_le hv0
  rw [jn_24_false, h2]
  rw [h 0 (by decide), h 1 (by decide)]
  rw [show plc 3 0 false = 0 from rfl]
  rw [show plc 3 1 false = 1 from rfl]
  rw [byv_0, byv_1, hc]
  have hp := pb_mod (n := 24) (.inr (.inl rfl)) (f k) c (by omega) 16 (by decide) (by decide)
  refine nrm_congr ?_
  rw [hp, show (2 : Int) ^ 16 = 65536 from by decide]
  show _ % 16777216 = (f k) % 16777216 - ((f k) % 16777216 / 65536 % 256) * 65536 + c * 65536
  omega
theorem jn_32_true (l : Nat → Int) : jn l 4 true 4 = ((((0 * 256 + l 0) * 256 + l 1) * 256 + l 2) * 256 + l 3) := rfl
theorem same_32_true (f : Nat → Int) (q r k : Nat) (v : Int) (hk : k ≠ q) : nrm (jn (lk f 4 q r v true k) 4 true 4) 32 = nrm (f k) 32 := by
  have h : ∀ p, lk f 4 q r v true k p = byv (f k) (8 * plc 4 p true) := fun p => by unfold lk; rw [if_neg (fun x => hk x.1)]
  rw [jn_32_true]
  simp only [h]
  rw [show plc 4 0 true = 3 from rfl]
  rw [show plc 4 1 true = 2 from rfl]
  rw [show plc 4 2 true = 1 from rfl]
  rw [show plc 4 3 true = 0 from rfl]
  rw [byv_0, byv_1, byv_2, byv_3]
  refine nrm_congr ?_
  show _ % 4294967296 = _ % 4294967296
  omega
theorem put_32_true_0 (f : Nat → Int) (k : Nat) (v : Int) : nrm (jn (lk f 4 k 0 v true k) 4 true 4) 32 = nrm (pb (f k) (v % 256) 24) 32 := by
  have h : ∀ p, p ≠ 0 → lk f 4 k 0 v true k p = byv (f k) (8 * plc 4 p true) := fun p hp => by unfold lk; rw [if_neg (fun x => hp x.2)]
  have h2 : lk f 4 k 0 v true k 0 = v % 256 := by unfold lk; rw [if_pos ⟨rfl, rfl⟩, uns_low]
  have hv0 : 0 ≤ v % 256 := Int.emod_nonneg _ (by decide)
  have hv1 : v % 256 < 256 := Int.emod_lt_of_pos _ (by decide)
  obtain ⟨c, hc⟩ := Int.eq_ofNat_of_zero_le hv0
  rw [jn_32_true, h2]
  rw [h 1 (by decide), h 2 (by decide), h 3 (by decide)]
  rw [show plc 4 1 true = 2 from rfl]
  rw [show plc 4 2 true = 1 from rfl]
  rw [show plc 4 3 true = 0 from rfl]
  rw [byv_2, byv_1, byv_0, hc]
  have hp := pb_mod (n := 32) (.inr (.inr rfl)) (f k) c (by omega) 24 (by decide) (by decide)
  refine nrm_congr ?_
  rw [hp, show (2 : Int) ^ 24 = 16777216 from by decide]
  show _ % 4294967296 = (f k) % 4294967296 - ((f k) % 4294967296 / 16777216 % 256) * 16777216 + c * 16777216
  omega
theorem put_32_true_1 (f : Nat → Int) (k : Nat) (v : Int) : nrm (jn (lk f 4 k 1 v true k) 4 true 4) 32 = nrm (pb (f k) (v % 256) 16) 32 := by
  have h : ∀ p, p ≠ 1 → lk f 4 k 1 v true k p = byv (f k) (8 * plc 4 p true) := fun p hp => by unfold lk; rw [if_neg (fun x => hp x.2)]
  have h2 : lk f 4 k 1 v true k 1 = v % 256 := by unfold lk; rw [if_pos ⟨rfl, rfl⟩, uns_low]
  have hv0 : 0 ≤ v % 256 := Int.emod_nonneg _ (by decide)
  have hv1 : v % 256 < 256 := Int.emod_lt_of_pos _ (by decide)
  obtain ⟨c, hc⟩ := Int.eq_ofNat_of_zero_le hv0
  rw [jn_32_true, h2]
  rw [h 0 (by decide), h 2 (by decide), h 3 (by decide)]
  rw [show plc 4 0 true = 3 from rfl]
  rw [show plc 4 2 true = 1 from rfl]
  rw [show plc 4 3 true = 0 from rfl]
  rw [byv_3, byv_1, byv_0, hc]
  have hp := pb_mod (n := 32) (.inr (.inr rfl)) (f k) c (by omega) 16 (by decide) (by decide)
  refine nrm_congr ?_
  rw [hp, show (2 : Int) ^ 16 = 65536 from by decide]
  show _ % 4294967296 = (f k) % 4294967296 - ((f k) % 4294967296 / 65536 % 256) * 65536 + c * 65536
  omega
theorem put_32_true_2 (f : Nat → Int) (k : Nat) (v : Int) : nrm (jn (lk f 4 k 2 v true k) 4 true 4) 32 = nrm (pb (f k) (v % 256) 8) 32 := by
  have h : ∀ p, p ≠ 2 → lk f 4 k 2 v true k p = byv (f k) (8 * plc 4 p true) := fun p hp => by unfold lk; rw [if_neg (fun x => hp x.2)]
  have h2 : lk f 4 k 2 v true k 2 = v % 256 := by unfold lk; rw [if_pos ⟨rfl, rfl⟩, uns_low]
  have hv0 : 0 ≤ v % 256 := Int.emod_nonneg _ (by decide)
  have hv1 : v % 256 < 256 := Int.emod_lt_of_pos _ (by decide)
  obtain ⟨c, hc⟩ := Int.eq_ofNat_of_zero_le hv0
  rw [jn_32_true, h2]
  rw [h 0 (by decide), h 1 (by decide), h 3 (by decide)]
  rw [show plc 4 0 true = 3 from rfl]
  rw [show plc 4 1 true = 2 from rfl]
  rw [show plc 4 3 true = 0 from rfl]
  rw [byv_3, byv_2, byv_0, hc]
  have hp := pb_mod (n := 32) (.inr (.inr rfl)) (f k) c (by omega) 8 (by decide) (by decide)
  refine nrm_congr ?_
  rw [hp, show (2 : Int) ^ 8 = 256 from by decide]
  show _ % 4294967296 = (f k) % 4294967296 - ((f k) % 4294967296 / 256 % 256) * 256 + c * 256
  omega
theorem put_32_true_3 (f : Nat → Int) (k : Nat) (v : Int) : nrm (jn (lk f 4 k 3 v true k) 4 true 4) 32 = nrm (pb (f k) (v % 256) 0) 32 := by
  have h : ∀ p, p ≠ 3 → lk f 4 k 3 v true k p = byv (f k) (8 * plc 4 p true) := fun p hp => by unfold lk; rw [if_neg (fun x => hp x.2)]
  have h2 : lk f 4 k 3 v true k 3 = v % 256 := by unfold lk; rw [if_pos ⟨rfl, rfl⟩, uns_low]
  have hv0 : 0 ≤ v % 256 := Int.emod_nonneg _ (by decide)
  have hv1 : v % 256 < 256 := Int.emod_lt_of_pos _ (by decide)
  obtain ⟨c, hc⟩ := Int.eq_ofNat_of_zero_le hv0
  rw [jn_32_true, h2]
  rw [h 0 (by decide), h 1 (by decide), h 2 (by decide)]
  rw [show plc 4 0 true = 3 from rfl]
  rw [show plc 4 1 true = 2 from rfl]
  rw [show plc 4 2 true = 1 from rfl]
  rw [byv_3, byv_2, byv_1, hc]
  have hp := pb_mod (n := 32) (.inr (.inr rfl)) (f k) c (by omega) 0 (by decide) (by decide)
  refine nrm_congr ?_
  rw [hp, show (2 : Int) ^ 0 = 1 from by decide]
  show _ % 4294967296 = (f k) % 4294967296 - ((f k) % 4294967296 / 1 % 256) * 1 + c * 1
  omega
theorem jn_32_false (l : Nat → Int) : jn l 4 false 4 = ((((0 * 256 + l 3) * 256 + l 2) * 256 + l 1) * 256 + l 0) := rfl
theorem same_32_false (f : Nat → Int) (q r k : Nat) (v : Int) (hk : k ≠ q) : nrm (jn (lk f 4 q r v false k) 4 false 4) 32 = nrm (f k) 32 := by
  have h : ∀ p, lk f 4 q r v false k p = byv (f k) (8 * plc 4 p false) := fun p => by unfold lk; rw [if_neg (fun x => hk x.1)]
  rw [jn_32_false]
  simp only [h]
  rw [show plc 4 0 false = 0 from rfl]
  rw [show plc 4 1 false = 1 from rfl]
  rw [show plc 4 2 false = 2 from rfl]
  rw [show plc 4 3 false = 3 from rfl]
  rw [byv_0, byv_1, byv_2, byv_3]
  refine nrm_congr ?_
  show _ % 4294967296 = _ % 4294967296
  omega
theorem put_32_false_0 (f : Nat → Int) (k : Nat) (v : Int) : nrm (jn (lk f 4 k 0 v false k) 4 false 4) 32 = nrm (pb (f k) (v % 256) 0) 32 := by
  have h : ∀ p, p ≠ 0 → lk f 4 k 0 v false k p = byv (f k) (8 * plc 4 p false) := fun p hp => by unfold lk; rw [if_neg (fun x => hp x.2)]
  have h2 : lk f 4 k 0 v false k 0 = v % 256 := by unfold lk; rw [if_pos ⟨rfl, rfl⟩, uns_low]
  have hv0 : 0 ≤ v % 256 := Int.emod_nonneg _ (by decide)
  have hv1 : v % 256 < 256 := Int.emod_lt_of_pos _ (by decide)
  obtain ⟨c, hc⟩ := Int.eq_ofNat_of_zero_le hv0
  rw [jn_32_false, h2]
  rw [h 1 (by decide), h 2 (by decide), h 3 (by decide)]
  rw [show plc 4 1 false = 1 from rfl]
  rw [show plc 4 2 false = 2 from rfl]
  rw [show plc 4 3 false = 3 from rfl]
  rw [byv_1, byv_2, byv_3, hc]
  have hp := pb_mod (n := 32) (.inr (.inr rfl)) (f k) c (by omega) 0 (by decide) (by decide)
  refine nrm_congr ?_
  rw [hp, show (2 : Int) ^ 0 = 1 from by decide]
  show _ % 4294967296 = (f k) % 4294967296 - ((f k) % 4294967296 / 1 % 256) * 1 + c * 1
  omega
theorem put_32_false_1 (f : Nat → Int) (k : Nat) (v : Int) : nrm (jn (lk f 4 k 1 v false k) 4 false 4) 32 = nrm (pb (f k) (v % 256) 8) 32 := by
  have h : ∀ p, p ≠ 1 → lk f 4 k 1 v false k p = byv (f k) (8 * plc 4 p false) := fun p hp => by unfold lk; rw [if_neg (fun x => hp x.2)]
  have h2 : lk f 4 k 1 v false k 1 = v % 256 := by unfold lk; rw [if_pos ⟨rfl, rfl⟩, uns_low]
  have hv0 : 0 ≤ v % 256 := Int.emod_nonneg _ (by decide)
  have hv1 : v % 256 < 256 := Int.emod_lt_of_pos _ (by decide)
  obtain ⟨c, hc⟩ := Int.eq_ofNat_of_zero_le hv0
  rw [jn_32_false, h2]
  rw [h 0 (by decide), h 2 (by decide), h 3 (by decide)]
  rw [show plc 4 0 false = 0 from rfl]
  rw [show plc 4 2 false = 2 from rfl]
  rw [show plc 4 3 false = 3 from rfl]
  rw [byv_0, byv_2, byv_3, hc]
  have hp := pb_mod (n := 32) (.inr (.inr rfl)) (f k) c (by omega) 8 (by decide) (by decide)
  refine nrm_congr ?_
  rw [hp, show (2 : Int) ^ 8 = 256 from by decide]
  show _ % 4294967296 = (f k) % 4294967296 - ((f k) % 4294967296 / 256 % 256) * 256 + c * 256
  omega
theorem put_32_false_2 (f : Nat → Int) (k : Nat) (v : Int) : nrm (jn (lk f 4 k 2 v false k) 4 false 4) 32 = nrm (pb (f k) (v % 256) 16) 32 := by
  have h : ∀ p, p ≠ 2 → lk f 4 k 2 v false k p = byv (f k) (8 * plc 4 p false) := fun p hp => by unfold lk; rw [if_neg (fun x => hp x.2)]
  have h2 : lk f 4 k 2 v false k 2 = v % 256 := by unfold lk; rw [if_pos ⟨rfl, rfl⟩, uns_low]
  have hv0 : 0 ≤ v % 256 := Int.emod_nonneg _ (by decide)
  have hv1 : v % 256 < 256 := Int.emod_lt_of_pos _ (by decide)
  obtain ⟨c, hc⟩ := Int.eq_ofNat_of_zero_le hv0
  rw [jn_32_false, h2]
  rw [h 0 (by decide), h 1 (by decide), h 3 (by decide)]
  rw [show plc 4 0 false = 0 from rfl]
  rw [show plc 4 1 false = 1 from rfl]
  rw [show plc 4 3 false = 3 from rfl]
  rw [byv_0, byv_1, byv_3, hc]
  have hp := pb_mod (n := 32) (.inr (.inr rfl)) (f k) c (by omega) 16 (by decide) (by decide)
  refine nrm_congr ?_
  rw [hp, show (2 : Int) ^ 16 = 65536 from by decide]
  show _ % 4294967296 = (f k) % 4294967296 - ((f k) % 4294967296 / 65536 % 256) * 65536 + c * 65536
  omega
theorem put_32_false_3 (f : Nat → Int) (k : Nat) (v : Int) : nrm (jn (lk f 4 k 3 v false k) 4 false 4) 32 = nrm (pb (f k) (v % 256) 24) 32 := by
  have h : ∀ p, p ≠ 3 → lk f 4 k 3 v false k p = byv (f k) (8 * plc 4 p false) := fun p hp => by unfold lk; rw [if_neg (fun x => hp x.2)]
  have h2 : lk f 4 k 3 v false k 3 = v % 256 := by unfold lk; rw [if_pos ⟨rfl, rfl⟩, uns_low]
  have hv0 : 0 ≤ v % 256 := Int.emod_nonneg _ (by decide)
  have hv1 : v % 256 < 256 := Int.emod_lt_of_pos _ (by decide)
  obtain ⟨c, hc⟩ := Int.eq_ofNat_of_zero_le hv0
  rw [jn_32_false, h2]
  rw [h 0 (by decide), h 1 (by decide), h 2 (by decide)]
  rw [show plc 4 0 false = 0 from rfl]
  rw [show plc 4 1 false = 1 from rfl]
  rw [show plc 4 2 false = 2 from rfl]
  rw [byv_0, byv_1, byv_2, hc]
  have hp := pb_mod (n := 32) (.inr (.inr rfl)) (f k) c (by omega) 24 (by decide) (by decide)
  refine nrm_congr ?_
  rw [hp, show (2 : Int) ^ 24 = 16777216 from by decide]
  show _ % 4294967296 = (f k) % 4294967296 - ((f k) % 4294967296 / 16777216 % 256) * 16777216 + c * 16777216
  omega

theorem put_same {n : Int} (hn : OkB n) {s : Nat} (hs : (s : Int) = szI n) (big : Bool) (f : Nat → Int) (i k : Nat) (v : Int) :
    nrm (jn (lk f s (i / s) (i % s) v big k) s big s) n = nrm (if k = i / s then pb (f k) (v % 256) (blw i n big).toNat else f k) n := by
  have hs1 : 2 ≤ s := by have := szI_bd hn; omega
  have hpl := blw_plc hs i hs1 big
  have hrs : i % s < s := Nat.mod_lt _ (by omega)
  rw [← hpl]
  generalize i / s = q at *
  generalize i % s = r at *
  by_cases hk : k = q
  · subst hk
    rw [if_pos rfl]
    rcases hn with rfl | rfl | rfl
    · obtain rfl : s = 2 := by have h : (s : Int) = 2 := hs; omega
      have hr : r = 0 ∨ r = 1 := by omega
      cases big <;> rcases hr with rfl | rfl
      · exact put_16_false_0 f k v
      · exact put_16_false_1 f k v
      · exact put_16_true_0 f k v
      · exact put_16_true_1 f k v
    · obtain rfl : s = 3 := by have h : (s : Int) = 3 := hs; omega
      have hr : r = 0 ∨ r = 1 ∨ r = 2 := by omega
      cases big <;> rcases hr with rfl | rfl | rfl
      · exact put_24_false_0 f k v
      · exact put_24_false_1 f k v
      · exact put_24_false_2 f k v
      · exact put_24_true_0 f k v
      · exact put_24_true_1 f k v
      · exact put_24_true_2 f k v
    · obtain rfl : s = 4 := by have h : (s : Int) = 4 := hs; omega
      have hr : r = 0 ∨ r = 1 ∨ r = 2 ∨ r = 3 := by omega
      cases big <;> rcases hr with rfl | rfl | rfl | rfl
      · exact put_32_false_0 f k v
      · exact put_32_false_1 f k v
      · exact put_32_false_2 f k v
      · exact put_32_false_3 f k v
      · exact put_32_true_0 f k v
      · exact put_32_true_1 f k v
      · exact put_32_true_2 f k v
      · exact put_32_true_3 f k v
  · rw [if_neg hk]
    rcases hn with rfl | rfl | rfl
    · obtain rfl : s = 2 := by have h : (s : Int) = 2 := hs; omega
      cases big
      · exact same_16_false f q r k v hk
      · exact same_16_true f q r k v hk
    · obtain rfl : s = 3 := by have h : (s : Int) = 3 := hs; omega
      cases big
      · exact same_24_false f q r k v hk
      · exact same_24_true f q r k v hk
    · obtain rfl : s = 4 := by have h : (s : Int) = 4 := hs; omega
      cases big
      · exact same_32_false f q r k v hk
      · exact same_32_true f q r k v hk
end Go.Proofs.Ytflkcelgbnojaaa
