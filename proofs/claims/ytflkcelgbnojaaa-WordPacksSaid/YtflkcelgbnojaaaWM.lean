/- A byte that was put is got, and no other one changes. Nothing here speaks of a program but by the names of its values. -/
import Derived.Test.YtflkcelgbnojaaaWL
import Derived.Test.YtflkcelgbnojaaaK
namespace Go.Proofs.Ytflkcelgbnojaaa
open Go.RowKit
set_option linter.unusedVariables false

theorem byv_nrm {n : Int} (hn : OkB n) (x : Int) (t : Nat) (ht : (t : Int) < szI n) : byv (nrm x n) (8 * t) = byv x (8 * t) := by
  rw [← byv_uns hn _ t ht, ← byv_uns hn x t ht, show uns (nrm x n) n = uns x n from nrm_mod hn x]
theorem jn_at {n : Int} (hn : OkB n) {s : Nat} (hs : (s : Int) = szI n) (big : Bool) (l : Nat → Int) (hl : ∀ p, p < s → 0 ≤ l p ∧ l p ≤ 255) (p : Nat) (hp : p < s) : byv (jn l s big s) (8 * ((plc s p big : Nat) : Int)) = l p := by
  rcases hn with rfl | rfl | rfl
  · obtain rfl : s = 2 := by have h : (s : Int) = 2 := hs; omega
    have h0 := hl 0 (by decide)
    have h1 := hl 1 (by decide)
    have hp : p = 0 ∨ p = 1 := by omega
    cases big <;> rcases hp with rfl | rfl
    · show byv _ (8 * (0 : Nat)) = _; rw [jn_16_false, byv_0]; omega
    · show byv _ (8 * (1 : Nat)) = _; rw [jn_16_false, byv_1]; omega
    · show byv _ (8 * (1 : Nat)) = _; rw [jn_16_true, byv_1]; omega
    · show byv _ (8 * (0 : Nat)) = _; rw [jn_16_true, byv_0]; omega
  · obtain rfl : s = 3 := by have h : (s : Int) = 3 := hs; omega
    have h0 := hl 0 (by decide)
    have h1 := hl 1 (by decide)
    have h2 := hl 2 (by decide)
    have hp : p = 0 ∨ p = 1 ∨ p = 2 := by omega
    cases big <;> rcases hp with rfl | rfl | rfl
    · show byv _ (8 * (0 : Nat)) = _; rw [jn_24_false, byv_0]; omega
    · show byv _ (8 * (1 : Nat)) = _; rw [jn_24_false, byv_1]; omega
    · show byv _ (8 * (2 : Nat)) = _; rw [jn_24_false, byv_2]; omega
    · show byv _ (8 * (2 : Nat)) = _; rw [jn_24_true, byv_2]; omega
    · show byv _ (8 * (1 : Nat)) = _; rw [jn_24_true, byv_1]; omega
    · show byv _ (8 * (0 : Nat)) = _; rw [jn_24_true, byv_0]; omega
  · obtain rfl : s = 4 := by have h : (s : Int) = 4 := hs; omega
    have h0 := hl 0 (by decide)
    have h1 := hl 1 (by decide)
    have h2 := hl 2 (by decide)
    have h3 := hl 3 (by decide)
    have hp : p = 0 ∨ p = 1 ∨ p = 2 ∨ p = 3 := by omega
    cases big <;> rcases hp with rfl | rfl | rfl | rfl
    · show byv _ (8 * (0 : Nat)) = _; rw [jn_32_false, byv_0]; omega
    · show byv _ (8 * (1 : Nat)) = _; rw [jn_32_false, byv_1]; omega
    · show byv _ (8 * (2 : Nat)) = _; rw [jn_32_false, byv_2]; omega
    · show byv _ (8 * (3 : Nat)) = _; rw [jn_32_false, byv_3]; omega
    · show byv _ (8 * (3 : Nat)) = _; rw [jn_32_true, byv_3]; omega
    · show byv _ (8 * (2 : Nat)) = _; rw [jn_32_true, byv_2]; omega
    · show byv _ (8 * (1 : Nat)) = _; rw [jn_32_true, byv_1]; omega
    · show byv _ (8 * (0 : Nat)) = _; rw [jn_32_true, byv_0]; omega
/-- The words with byte i changed, and their byte k. -/
theorem put_back {n : Int} (hn : OkB n) {s : Nat} (hs : (s : Int) = szI n) (big : Bool) (f : Nat → Int) (i k : Nat) (v : Int) :
    bf (fun j => nrm (if j = i / s then pb (f j) (v % 256) (blw i n big).toNat else f j) n) n big k = if k = i then v % 256 else bf f n big k := by
  have hs1 : 2 ≤ s := by have := szI_bd hn; omega
  have e : (szI n).toNat = s := by rw [← hs]; rfl
  have hps : k % s < s := Nat.mod_lt _ (by omega)
  have hpl : plc s (k % s) big < s := by unfold plc; split <;> omega
  unfold bf
  rw [e]
  show byv (nrm (if k / s = i / s then pb (f (k / s)) (v % 256) (blw i n big).toNat else f (k / s)) n) (blw k n big) = _
  rw [← put_same hn hs big f i (k / s) v, ← blw_plc hs k hs1 big, byv_nrm hn _ _ (by omega),
    jn_at hn hs big _ (fun p _ => lk_bd f s (i / s) (i % s) v big (k / s) p) (k % s) hps]
  unfold lk
  have hk := Nat.div_add_mod k s
  have hi := Nat.div_add_mod i s
  by_cases h : k = i
  · subst h; rw [if_pos ⟨rfl, rfl⟩, if_pos rfl, uns_low]
  · rw [if_neg (fun h2 => h (by rw [← hk, ← hi, h2.1, h2.2])), if_neg h]
/-- What the packed string unpacks to, whatever words follow. -/
theorem pack_byte {n : Int} (hn : OkB n) {s : Nat} (hs : (s : Int) = szI n) (big : Bool) (t : ByteArray) (ht : t.size ≤ 255) (m : Nat) (hm : t.size < m * s) (f g : Nat → Int)
    (hg : ∀ j, j < m → g j = nrm (wv (pβ t) n big (m * s) j) n) (i : Nat) (hi : i ≤ t.size) : bf g n big i = pβ t i := by
  have hs1 : 2 ≤ s := by have := szI_bd hn; omega
  have e : (szI n).toNat = s := by rw [← hs]; rfl
  have hd := Nat.div_add_mod i s
  have hmod : i % s < s := Nat.mod_lt _ (by omega)
  have hq : i / s < m := by rw [Nat.div_lt_iff_lt_mul (by omega)]; omega
  have hle : i / s * s + s ≤ m * s := by
    have := Nat.mul_le_mul_right s (show i / s + 1 ≤ m from hq)
    rw [Nat.add_mul] at this; omega
  unfold bf
  rw [e, hg _ hq]
  exact byv_back hn hs big (pβ t) (m * s) i hle (fun j _ => pβ_lt t ht j)
theorem pack_back {n : Int} (big : Bool) (t : ByteArray) (g : Nat → Int) (h : ∀ i, i ≤ t.size → bf g n big i = pβ t i) : upS g n big t.size = t := by
  have e : ((List.range t.size).map fun j => bf g n big (1 + j)) = t.data.toList.map fun c => ((c.toNat : Nat) : Int) := by
    refine List.ext_getElem (by simp) (fun j h1 h2 => ?_)
    have hj : j < t.size := by simpa using h1
    rw [List.getElem_map, List.getElem_range, List.getElem_map, h _ (by omega)]
    unfold pβ
    rw [if_neg (by omega), if_pos (by omega), List.getD_eq_getElem?_getD, show 1 + j - 1 = j from by omega, List.getElem?_eq_getElem (by simpa using hj)]
    rfl
  unfold upS
  rw [e]
  refine ByteArray.ext (Array.ext' ?_)
  show Lib.bytesOf _ = _
  unfold Lib.bytesOf
  rw [List.map_map]
  conv => rhs; rw [← List.map_id t.data.toList]
  refine List.map_congr_left fun c _ => ?_
  show UInt8.ofNat ((c.toNat : Int).toNat) = c
  simp
theorem pack_fits {n : Int} (hn : OkB n) {sz : Nat} (hsz : (sz : Int) = szI n) (k m : Nat) (hm : m = (k + sz) / sz) (hk : k ≤ 255) : 1 ≤ m ∧ m ≤ k / 2 + 1 ∧ k < m * sz ∧ sz ≤ 4 ∧ 2 ≤ sz := by
  rcases hn with rfl | rfl | rfl
  · obtain rfl : sz = 2 := by have h : (sz : Int) = 2 := hsz; omega
    omega
  · obtain rfl : sz = 3 := by have h : (sz : Int) = 3 := hsz; omega
    omega
  · obtain rfl : sz = 4 := by have h : (sz : Int) = 4 := hsz; omega
    omega
theorem bytes_facts {n : Int} (hn : OkB n) {sz : Nat} (hsz : (sz : Int) = szI n) (L : Nat) (hL : L ≤ 100) : (L : Int) * szI n = ((L * sz : Nat) : Int) ∧ wdE (L * sz) n = 0 ∧ ((L * sz : Nat) : Int) / szI n = L ∧ L * sz ≤ 400 := by
  have hz := szI_bd hn
  have h0 : (L : Int) * szI n = ((L * sz : Nat) : Int) := by rw [← hsz, Int.natCast_mul]
  refine ⟨h0, ?_, ?_, ?_⟩
  · unfold wdE
    rw [if_pos (by simpa [okB] using hn), if_pos (by rw [← h0]; exact Int.mul_emod_left _ _)]
  · rw [← h0]; exact Int.mul_ediv_cancel _ (by omega)
  · have : L * sz ≤ 100 * sz := Nat.mul_le_mul_right _ hL
    omega
theorem word_facts {n : Int} (hn : OkB n) {sz : Nat} (hsz : (sz : Int) = szI n) (big : Bool) (f : Nat → Int) (L k : Nat) (hk : k < L) : nrm (wv (bN f n big) n big (L * sz) k) n = nrm (f k) n := by
  refine words_back hn hsz big f (L * sz) k ?_
  have := Nat.mul_le_mul_right sz (show k + 1 ≤ L from hk)
  rw [Nat.add_mul] at this
  rw [Nat.mul_comm sz k]; omega
theorem SlV.to {w : World} {v : Value} {L : Nat} {f g : Nat → Value} (h : SlV w v L f) (e : ∀ j, j < L → f j = g j) : SlV w v L g := by
  obtain ⟨a, c, hv, hr⟩ := h
  exact ⟨a, c, hv, fun hL => by obtain ⟨b, off, ha, hrow⟩ := hr hL; exact ⟨b, off, ha, fun i hi => by rw [hrow i hi, e i hi]⟩⟩
theorem in_facts {n : Int} (hn : OkB n) {sz : Nat} (hsz : (sz : Int) = szI n) (L k : Nat) (hk : k < L * sz) : cbE L k n = 0 ∧ k / sz < L ∧ (szI n).toNat = sz := by
  have hz := szI_bd hn
  have hz0 : 0 < sz := by omega
  have h1 : k / sz < L := by rw [Nat.div_lt_iff_lt_mul hz0]; exact hk
  refine ⟨?_, h1, by rw [← hsz]; rfl⟩
  unfold cbE
  rw [if_pos (by simpa [okB] using hn), ← hsz, ← Int.natCast_ediv, if_neg (by omega)]
theorem low8 (v : Int) : bits .and .i64 v 255 = v % 256 := bits_i64_and v 8 (by decide)
/-- The packed words, and the words behind them. -/
def catF (t : ByteArray) (n : Int) (big : Bool) (m sz : Nat) (f : Nat → Int) (j : Nat) : Int := if j < m then nrm (wv (pβ t) n big (m * sz) j) n else f (j - m)
theorem cat_facts {n : Int} (hn : OkB n) {sz : Nat} (hsz : (sz : Int) = szI n) (big : Bool) (t : ByteArray) (ht : t.size ≤ 255) (m L : Nat) (hm : m = (t.size + sz) / sz) (f : Nat → Int) :
    bf (catF t n big m sz f) n big 0 = (t.size : Int) ∧ 1 + (t.size : Int) ≤ ((m + L : Nat) : Int) * szI n ∧ upS (catF t n big m sz f) n big t.size = t := by
  obtain ⟨h1, h2, h3, h4, h5⟩ := pack_fits hn hsz t.size m hm ht
  have hb : ∀ i, i ≤ t.size → bf (catF t n big m sz f) n big i = pβ t i := fun i hi => pack_byte hn hsz big t ht m h3 f _ (fun j hj => if_pos hj) i hi
  refine ⟨by rw [hb 0 (by omega)]; rfl, ?_, pack_back big t _ hb⟩
  rw [← hsz, ← Int.natCast_mul]
  have : m * sz ≤ (m + L) * sz := Nat.mul_le_mul_right _ (by omega)
  omega
end Go.Proofs.Ytflkcelgbnojaaa
