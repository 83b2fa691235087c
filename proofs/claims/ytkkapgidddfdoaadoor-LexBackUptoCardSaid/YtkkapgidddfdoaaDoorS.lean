/- Contracts of the scanner's small methods. -/
import Derived.Test.YtkkapgidddfdoaaDoorT
import Derived.Lib.Strings
import Derived.Lib.IndexBytes
namespace Go.Proofs.YtkkapgidddfdoaaDoor
open Go.RowKit
set_option linter.unusedVariables false

/-- A text begins with another one. -/
def pre (s p : ByteArray) : Bool := decide (p.size ≤ s.size ∧ s.extract 0 p.size = p)
theorem sPrefix_any (s p : ByteArray) (hs : s.size ≤ 9223372036854775806) (hp : p.size ≤ 9223372036854775806) (w : World) : Calls Tryd.prog 79 #[.string s, .string p] w fun e w' => e = .returned (.bool (pre s p)) ∧ w = w' := by
  by_cases h1 : p.size ≤ s.size
  · have h3 : decide (p.size ≤ s.size) = true := decide_eq_true h1
    by_cases h2 : s.extract 0 p.size = p
    · have HR : Hid (pre s p = true) := Lib.hid (decide_eq_true ⟨h1, h2⟩)
      have ht := se_yes h2
      clear h2
      go_enter Tryd.func79, Tryd.ntmps79
      go_wp2
      go_ret
      exact ⟨by rw [HR.out]; rfl, rfl⟩
    · have HR : Hid (pre s p = false) := Lib.hid (decide_eq_false fun h => h2 h.2)
      have ht := se_no h2
      clear h2
      go_enter Tryd.func79, Tryd.ntmps79
      go_wp2
      go_ret
      exact ⟨by rw [HR.out]; rfl, rfl⟩
  · have HR : Hid (pre s p = false) := Lib.hid (decide_eq_false fun h => h1 h.1)
    have h3 : decide (p.size ≤ s.size) = false := decide_eq_false h1
    go_enter Tryd.func79, Tryd.ntmps79
    go_wp2
    go_ret
    exact ⟨by rw [HR.out]; rfl, rfl⟩
theorem HasPrefix_any (s p : ByteArray) (hs : s.size ≤ 9223372036854775806) (hp : p.size ≤ 9223372036854775806) (w : World) : Calls Tryd.prog 45 #[.string s, .string p] w fun e w' => e = .returned (.bool (pre s p)) ∧ w = w' := by
  go_enter Tryd.func45, Tryd.ntmps45
  go_wp2_with (go_at_call 79; refine (sPrefix_any _ _ hs hp _).mono ?_; rintro e w' ⟨rfl, rfl⟩)
  go_ret
  exact ⟨rfl, rfl⟩
theorem ext_size (s : ByteArray) (a b : Nat) (hb : b ≤ s.size) : (s.extract a b).size = b - a := by
  rw [ByteArray.size_extract]; omega
theorem ext_bt (s : ByteArray) (a b i : Nat) (hb : b ≤ s.size) (hi : i < b - a) : bt (s.extract a b) i = bt s (a + i) := by
  have h1 : i < (s.extract a b).size := by rw [ext_size s a b hb]; exact hi
  rw [← bt_at _ i h1, ← bt_at s (a + i) (by omega)]
  congr 1
  exact ByteArray.getElem_extract ..
theorem bt_ext {s t : ByteArray} (h : s.size = t.size) (hb : ∀ i, i < s.size → bt s i = bt t i) : s = t := by
  refine ByteArray.ext (Array.ext h (fun i h1 h2 => ?_))
  have e := hb i h1
  rw [← bt_at s i h1, ← bt_at t i h2] at e
  exact UInt8.toNat_inj.1 e
theorem slash_pre (s : ByteArray) (a : Nat) (ha : a ≤ s.size) : pre (s.extract a s.size) ⟨#[47, 47]⟩ = slash s a := by
  have hz : (⟨#[47, 47]⟩ : ByteArray).size = 2 := rfl
  have hs := ext_size s a s.size (Nat.le_refl _)
  unfold pre slash
  rw [hz, hs]
  refine decide_eq_decide.2 ⟨fun h => ?_, fun h => ?_⟩
  · have h2 : a + 2 ≤ s.size := by omega
    have e : ∀ i, i < 2 → bt s (a + i) = bt ⟨#[47, 47]⟩ i := fun i hi => by
      rw [← ext_bt s a s.size i (Nat.le_refl _) (by omega), ← h.2, ext_bt _ 0 2 i (by omega) (by omega), Nat.zero_add]
    exact ⟨h2, e 0 (by omega), e 1 (by omega)⟩
  · refine ⟨by omega, bt_ext (by rw [ext_size _ _ _ (by omega), hz]) (fun i hi => ?_)⟩
    rw [ext_size _ _ _ (by omega)] at hi
    rw [ext_bt _ 0 2 i (by omega) (by omega), Nat.zero_add, ext_bt s a s.size i (Nat.le_refl _) (by omega)]
    have : i = 0 ∨ i = 1 := by omega
    rcases this with rfl | rfl
    · exact h.2.1
    · exact h.2.2
set_option maxHeartbeats 1000000 in
theorem skip_any (s : ByteArray) (hs : s.size ≤ 1000000) (mp g a : Nat) (ha : a ≤ s.size) (w : World) :
    Calls Tryd.prog 28 #[.agg #[.string s, .map (some mp), .slice (some ⟨g, 0, none⟩) 28 28], .int .i64 a] w fun e w' => e = .returned (.int .i64 (skp s a : Nat)) ∧ Fr w w' := by
  obtain ⟨r, hr⟩ : ∃ r, r = skp s a := ⟨_, rfl⟩
  rw [← hr]
  have HR := Lib.hid hr
  clear hr
  go_enter Tryd.func28, Tryd.ntmps28
  go_wp2
  go_loop [1] (fun i => ∃ k : Nat, k ≤ s.size ∧ i = .int .i64 k ∧ r = skp s k) (fun i => s.size - (intOf i).toNat)
  case atStart => exact ⟨a, ha, rfl, HR.out⟩
  case round =>
    obtain ⟨k, hk, rfl, hr⟩ := hrel
    have HK := Lib.hid hr
    clear hr
    have hbd := run_bd blank s _ k rfl hk
    obtain ⟨b, hb⟩ : ∃ b, b = run blank s k := ⟨_, rfl⟩
    rw [← hb] at hbd
    obtain ⟨b1, b2⟩ := hbd
    have HB := Lib.hid hb
    have HP := Lib.hid (slash_pre s b b2)
    clear hb
    cases hsl : slash s b with
    | true =>
      have HSL := Lib.hid hsl
      have hb3 := run_bd inl s _ b rfl b2
      have hb4 := slash_line hsl
      obtain ⟨c, hc⟩ : ∃ c, c = run inl s b := ⟨_, rfl⟩
      rw [← hc] at hb3 hb4
      obtain ⟨_, b3⟩ := hb3
      have HC := Lib.hid hc
      clear hsl hc
      go_wp2_with fail
      refine (behindBlank_any s k hk (by omega) _).mono ?_; rintro e w' ⟨rfl, rfl⟩
      rw [← HB.out]
      go_wp2_with fail
      refine (HasPrefix_any _ _ (by rw [ext_size _ _ _ (Nat.le_refl _)]; omega) (by decide) _).mono ?_; rintro e w' ⟨rfl, rfl⟩
      rw [HP.out, HSL.out]
      go_wp2_with fail
      refine (behindLine_any s b b2 (by omega) _).mono ?_; rintro e w' ⟨rfl, rfl⟩
      rw [← HC.out]
      go_wp2_with fail
      go_round
      case rel => exact ⟨c, b3, rfl, by rw [HK.out, skp_go (by rw [← HB.out]; exact HSL.out), ← HB.out, HC.out]⟩
      case measure => simp [intOf]; omega
    | false =>
      have HSL := Lib.hid hsl
      clear hsl
      go_wp2_with fail
      refine (behindBlank_any s k hk (by omega) _).mono ?_; rintro e w' ⟨rfl, rfl⟩
      rw [← HB.out]
      go_wp2_with fail
      refine (HasPrefix_any _ _ (by rw [ext_size _ _ _ (Nat.le_refl _)]; omega) (by decide) _).mono ?_; rintro e w' ⟨rfl, rfl⟩
      rw [HP.out, HSL.out]
      go_wp2_with fail
      go_ret
      exact ⟨ret_int (by rw [HK.out, skp_stop (by rw [← HB.out]; exact HSL.out), HB.out]), (Fr.refl _).alloc _⟩
end Go.Proofs.YtkkapgidddfdoaaDoor
