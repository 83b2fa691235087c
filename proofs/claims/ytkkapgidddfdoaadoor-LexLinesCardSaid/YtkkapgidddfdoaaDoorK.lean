/- The lists of keys and signs, as bytes. Nothing here speaks of a program. -/
import Derived.Test.YtkkapgidddfdoaaDoorB
namespace Go.Proofs.YtkkapgidddfdoaaDoor
open Go.RowKit
def keyS : List (List UInt8) := [[97, 110, 100], [98, 101], [98, 114, 101, 97, 107], [98, 121], [99, 97, 115, 101], [100, 101, 102, 97, 117, 108, 116], [100, 111], [101, 108, 115, 101], [101, 110, 100, 99, 97, 115, 101], [101, 113, 118], [102, 97, 108, 115, 101], [102, 105, 110, 105, 115, 104], [102, 111, 114], [103, 108, 111, 98, 97, 108], [103, 111, 116, 111], [105, 102], [105, 110, 116, 111], [108, 101, 116], [108, 111, 111, 112], [109, 97, 110, 105, 102, 101, 115, 116], [111, 102], [111, 114], [114, 101, 109], [114, 101, 112, 101, 97, 116], [114, 101, 112, 101, 97, 116, 117, 110, 116, 105, 108], [114, 101, 112, 101, 97, 116, 119, 104, 105, 108, 101], [114, 101, 115, 117, 108, 116, 105, 115], [114, 101, 116, 117, 114, 110], [115, 101, 99, 116, 105, 111, 110], [115, 108, 99, 116], [115, 116, 97, 116, 105, 99], [115, 119, 105, 116, 99, 104, 111, 110], [116, 97, 98, 108, 101], [116, 101, 115, 116], [116, 104, 101, 110], [116, 111], [116, 114, 117, 101], [117, 110, 108, 101, 115, 115], [117, 110, 116, 105, 108], [118, 97, 108, 111, 102], [118, 101, 99], [119, 104, 105, 108, 101], [120, 111, 114]]
/-- Entry i of the list. -/
def keyB (i : Nat) : ByteArray := ⟨(keyS.getD i []).toArray⟩
def keyV : Array Value := #[Value.string ⟨#[97, 110, 100]⟩, Value.string ⟨#[98, 101]⟩, Value.string ⟨#[98, 114, 101, 97, 107]⟩, Value.string ⟨#[98, 121]⟩, Value.string ⟨#[99, 97, 115, 101]⟩, Value.string ⟨#[100, 101, 102, 97, 117, 108, 116]⟩, Value.string ⟨#[100, 111]⟩, Value.string ⟨#[101, 108, 115, 101]⟩, Value.string ⟨#[101, 110, 100, 99, 97, 115, 101]⟩, Value.string ⟨#[101, 113, 118]⟩, Value.string ⟨#[102, 97, 108, 115, 101]⟩, Value.string ⟨#[102, 105, 110, 105, 115, 104]⟩, Value.string ⟨#[102, 111, 114]⟩, Value.string ⟨#[103, 108, 111, 98, 97, 108]⟩, Value.string ⟨#[103, 111, 116, 111]⟩, Value.string ⟨#[105, 102]⟩, Value.string ⟨#[105, 110, 116, 111]⟩, Value.string ⟨#[108, 101, 116]⟩, Value.string ⟨#[108, 111, 111, 112]⟩, Value.string ⟨#[109, 97, 110, 105, 102, 101, 115, 116]⟩, Value.string ⟨#[111, 102]⟩, Value.string ⟨#[111, 114]⟩, Value.string ⟨#[114, 101, 109]⟩, Value.string ⟨#[114, 101, 112, 101, 97, 116]⟩, Value.string ⟨#[114, 101, 112, 101, 97, 116, 117, 110, 116, 105, 108]⟩, Value.string ⟨#[114, 101, 112, 101, 97, 116, 119, 104, 105, 108, 101]⟩, Value.string ⟨#[114, 101, 115, 117, 108, 116, 105, 115]⟩, Value.string ⟨#[114, 101, 116, 117, 114, 110]⟩, Value.string ⟨#[115, 101, 99, 116, 105, 111, 110]⟩, Value.string ⟨#[115, 108, 99, 116]⟩, Value.string ⟨#[115, 116, 97, 116, 105, 99]⟩, Value.string ⟨#[115, 119, 105, 116, 99, 104, 111, 110]⟩, Value.string ⟨#[116, 97, 98, 108, 101]⟩, Value.string ⟨#[116, 101, 115, 116]⟩, Value.string ⟨#[116, 104, 101, 110]⟩, Value.string ⟨#[116, 111]⟩, Value.string ⟨#[116, 114, 117, 101]⟩, Value.string ⟨#[117, 110, 108, 101, 115, 115]⟩, Value.string ⟨#[117, 110, 116, 105, 108]⟩, Value.string ⟨#[118, 97, 108, 111, 102]⟩, Value.string ⟨#[118, 101, 99]⟩, Value.string ⟨#[119, 104, 105, 108, 101]⟩, Value.string ⟨#[120, 111, 114]⟩]
theorem keyV_at : ∀ i, i < 43 → keyV[i]? = some (.string (keyB i))
  | 0, _ => rfl
  | 1, _ => rfl
  | 2, _ => rfl
  | 3, _ => rfl
  | 4, _ => rfl
  | 5, _ => rfl
  | 6, _ => rfl
  | 7, _ => rfl
  | 8, _ => rfl
  | 9, _ => rfl
  | 10, _ => rfl
  | 11, _ => rfl
  | 12, _ => rfl
  | 13, _ => rfl
  | 14, _ => rfl
  | 15, _ => rfl
  | 16, _ => rfl
  | 17, _ => rfl
  | 18, _ => rfl
  | 19, _ => rfl
  | 20, _ => rfl
  | 21, _ => rfl
  | 22, _ => rfl
  | 23, _ => rfl
  | 24, _ => rfl
  | 25, _ => rfl
  | 26, _ => rfl
  | 27, _ => rfl
  | 28, _ => rfl
  | 29, _ => rfl
  | 30, _ => rfl
  | 31, _ => rfl
  | 32, _ => rfl
  | 33, _ => rfl
  | 34, _ => rfl
  | 35, _ => rfl
  | 36, _ => rfl
  | 37, _ => rfl
  | 38, _ => rfl
  | 39, _ => rfl
  | 40, _ => rfl
  | 41, _ => rfl
  | 42, _ => rfl
  | i + 43, h => absurd h (by omega)
def sgnS : List (List UInt8) := [[40], [41], [123], [125], [44], [59], [58], [33], [37], [64], [43], [45], [42], [47], [38], [124], [126], [63], [61], [126, 61], [60], [60, 61], [62], [62, 61], [60, 60], [62, 62], [58, 61], [45, 62]]
/-- Entry i of the list. -/
def sgnB (i : Nat) : ByteArray := ⟨(sgnS.getD i []).toArray⟩
def sgnV : Array Value := #[Value.string ⟨#[40]⟩, Value.string ⟨#[41]⟩, Value.string ⟨#[123]⟩, Value.string ⟨#[125]⟩, Value.string ⟨#[44]⟩, Value.string ⟨#[59]⟩, Value.string ⟨#[58]⟩, Value.string ⟨#[33]⟩, Value.string ⟨#[37]⟩, Value.string ⟨#[64]⟩, Value.string ⟨#[43]⟩, Value.string ⟨#[45]⟩, Value.string ⟨#[42]⟩, Value.string ⟨#[47]⟩, Value.string ⟨#[38]⟩, Value.string ⟨#[124]⟩, Value.string ⟨#[126]⟩, Value.string ⟨#[63]⟩, Value.string ⟨#[61]⟩, Value.string ⟨#[126, 61]⟩, Value.string ⟨#[60]⟩, Value.string ⟨#[60, 61]⟩, Value.string ⟨#[62]⟩, Value.string ⟨#[62, 61]⟩, Value.string ⟨#[60, 60]⟩, Value.string ⟨#[62, 62]⟩, Value.string ⟨#[58, 61]⟩, Value.string ⟨#[45, 62]⟩]
theorem sgnV_at : ∀ i, i < 28 → sgnV[i]? = some (.string (sgnB i))
  | 0, _ => rfl
  | 1, _ => rfl
  | 2, _ => rfl
  | 3, _ => rfl
  | 4, _ => rfl
  | 5, _ => rfl
  | 6, _ => rfl
  | 7, _ => rfl
  | 8, _ => rfl
  | 9, _ => rfl
  | 10, _ => rfl
  | 11, _ => rfl
  | 12, _ => rfl
  | 13, _ => rfl
  | 14, _ => rfl
  | 15, _ => rfl
  | 16, _ => rfl
  | 17, _ => rfl
  | 18, _ => rfl
  | 19, _ => rfl
  | 20, _ => rfl
  | 21, _ => rfl
  | 22, _ => rfl
  | 23, _ => rfl
  | 24, _ => rfl
  | 25, _ => rfl
  | 26, _ => rfl
  | 27, _ => rfl
  | i + 28, h => absurd h (by omega)
/-- Byte i of a string. -/
def bt (s : ByteArray) (i : Nat) : Nat := (s.data.getD i 0).toNat
theorem bt_lt (s : ByteArray) (i : Nat) : bt s i < 256 := UInt8.toNat_lt _
theorem bt_at (s : ByteArray) (i : Nat) (h : i < s.size) : (s[i]).toNat = bt s i := by
  unfold bt
  rw [Array.getD_eq_getD_getElem?, Array.getElem?_eq_getElem h]; rfl
/-- One of the entries is the string. -/
def HasP (L : Nat) (f : Nat → ByteArray) (s : ByteArray) : Prop := ∃ i, i < L ∧ f i = s
open Classical in
noncomputable def hasB (L : Nat) (f : Nat → ByteArray) (s : ByteArray) : Bool := decide (HasP L f s)
open Classical in
theorem hasB_yes {L : Nat} {f : Nat → ByteArray} {s : ByteArray} {i : Nat} (h : i < L) (e : f i = s) : hasB L f s = true := decide_eq_true ⟨i, h, e⟩
open Classical in
theorem hasB_no {L : Nat} {f : Nat → ByteArray} {s : ByteArray} (h : ∀ i, i < L → f i ≠ s) : hasB L f s = false := decide_eq_false fun ⟨i, hi, e⟩ => h i hi e
/-- Where the bytes that fit come to an end. -/
def run (p : Nat → Bool) (s : ByteArray) (i : Nat) : Nat := if i < s.size then (if p (bt s i) then run p s (i + 1) else i) else i
termination_by s.size - i
theorem run_inside {p : Nat → Bool} {s : ByteArray} {i : Nat} (h : i < s.size) (hp : p (bt s i) = true) : run p s i = run p s (i + 1) := by rw [run, if_pos h, if_pos hp]
theorem run_out {p : Nat → Bool} {s : ByteArray} {i : Nat} (hp : p (bt s i) = false) : run p s i = i := by rw [run]; split <;> simp [hp]
theorem run_end {p : Nat → Bool} {s : ByteArray} {i : Nat} (h : s.size ≤ i) : run p s i = i := by rw [run, if_neg (by omega)]
theorem run_bd (p : Nat → Bool) (s : ByteArray) : ∀ n i, n = s.size - i → i ≤ s.size → i ≤ run p s i ∧ run p s i ≤ s.size := by
  intro n
  induction n with
  | zero => intro i h hi; rw [run_end (by omega)]; omega
  | succ n ih =>
    intro i h hi
    by_cases hp : p (bt s i) = true
    · rw [run_inside (by omega) hp]; have := ih (i + 1) (by omega) (by omega); omega
    · rw [run_out (by simpa using hp)]; omega
theorem run_all (p : Nat → Bool) (s : ByteArray) : ∀ n i, n = s.size - i → i ≤ s.size → (run p s i = s.size ↔ ∀ k, i ≤ k → k < s.size → p (bt s k) = true) := by
  intro n
  induction n with
  | zero => intro i h hi; rw [run_end (by omega)]; exact ⟨fun _ k h1 h2 => by omega, fun _ => by omega⟩
  | succ n ih =>
    intro i h hi
    by_cases hp : p (bt s i) = true
    · rw [run_inside (by omega) hp, ih (i + 1) (by omega) (by omega)]
      exact ⟨fun h k h1 h2 => by by_cases e : k = i; { rw [e]; exact hp }; exact h k (by omega) h2, fun h k h1 h2 => h k (by omega) h2⟩
    · rw [run_out (by simpa using hp)]
      exact ⟨fun h => by omega, fun h => absurd (h i (by omega) (by omega)) hp⟩
def small (c : Nat) : Bool := decide (97 ≤ c ∧ c ≤ 122)
def digit (c : Nat) : Bool := decide (48 ≤ c ∧ c ≤ 57)
def part (c : Nat) : Bool := small c || digit c || c == 95
theorem small_yes {c : Nat} (h1 : 97 ≤ c) (h2 : c ≤ 122) : small c = true := decide_eq_true ⟨h1, h2⟩
theorem small_no {c : Nat} (h : c < 97 ∨ 122 < c) : small c = false := decide_eq_false (by omega)
theorem digit_yes {c : Nat} (h1 : 48 ≤ c) (h2 : c ≤ 57) : digit c = true := decide_eq_true ⟨h1, h2⟩
theorem digit_no {c : Nat} (h : c < 48 ∨ 57 < c) : digit c = false := decide_eq_false (by omega)
open Classical in
/-- Is a text a name? -/
noncomputable def isNm (s : ByteArray) : Bool := decide (0 < s.size ∧ s.size ≤ 24 ∧ small (bt s 0) = true ∧ (∀ i, i < s.size → part (bt s i) = true) ∧ hasB 43 keyB s = false)
end Go.Proofs.YtkkapgidddfdoaaDoor
