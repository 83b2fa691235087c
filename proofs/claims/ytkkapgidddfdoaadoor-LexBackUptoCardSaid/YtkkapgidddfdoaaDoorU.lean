/- Contracts of the scanner's methods that tell characters. -/
import Derived.Test.YtkkapgidddfdoaaDoorS
namespace Go.Proofs.YtkkapgidddfdoaaDoor
open Go.RowKit
set_option linter.unusedVariables false

/-- A scanner that lies in memory. -/
def Sb (w : World) (b : Nat) (s : ByteArray) (mp g : Nat) : Prop := w.cell? ⟨b, 0, none⟩ = some (.string s) ∧ w.cell? ⟨b, 1, none⟩ = some (.map (some mp)) ∧ w.cell? ⟨b, 2, none⟩ = some (.slice (some ⟨g, 0, none⟩) 28 28)
theorem Sb.fr {w w' : World} {b : Nat} {s : ByteArray} {mp g : Nat} (h : Sb w b s mp g) (k : Fr w w') : Sb w' b s mp g := ⟨k.cell h.1, k.cell h.2.1, k.cell h.2.2⟩
theorem Sb.new (w : World) (s : ByteArray) (mp g : Nat) (T : TypeId) : Sb (w.alloc (.cells #[.string s, .map (some mp), .slice (some ⟨g, 0, none⟩) 28 28] T)) w.heap.size s mp g := ⟨by simp, by simp, by simp⟩
theorem has_any2 (s : ByteArray) (hs : s.size ≤ 1000000) (mp g a q : Nat) (w : World) :
    Calls Tryd.prog 84 #[.agg #[.string s, .map (some mp), .slice (some ⟨g, 0, none⟩) 28 28], .int .i64 a, .int .u8 q] w fun e w' => e = .returned (.bool (hasC s a q)) ∧ Fr w w' := by
  by_cases h1 : a < s.size
  · have hb := bt_at s a h1
    have hd : decide (a < s.size) = true := decide_eq_true h1
    by_cases h2 : bt s a = q
    · have HR : Hid (hasC s a q = true) := Lib.hid (decide_eq_true ⟨h1, h2⟩)
      have ht : ((bt s a : Int) == (q : Int)) = true := by rw [beq_iff_eq]; omega
      clear h2
      go_enter Tryd.func84, Tryd.ntmps84
      go_wp2
      go_ret
      exact ⟨by rw [HR.out]; first | rfl | simp [*], (Fr.refl _).alloc _⟩
    · have HR : Hid (hasC s a q = false) := Lib.hid (decide_eq_false fun h => h2 h.2)
      have ht : ((bt s a : Int) == (q : Int)) = false := by rw [beq_eq_false_iff_ne]; omega
      clear h2
      go_enter Tryd.func84, Tryd.ntmps84
      go_wp2
      go_ret
      exact ⟨by rw [HR.out]; first | rfl | simp [*], (Fr.refl _).alloc _⟩
  · have HR : Hid (hasC s a q = false) := Lib.hid (decide_eq_false fun h => h1 h.1)
    have hd : decide (a < s.size) = false := decide_eq_false h1
    go_enter Tryd.func84, Tryd.ntmps84
    go_wp2
    go_ret
    exact ⟨by rw [HR.out]; rfl, (Fr.refl _).alloc _⟩
set_option maxHeartbeats 1000000 in
theorem inside_any (s : ByteArray) (hs : s.size ≤ 1000000) (mp g a q : Nat) (ha : a ≤ 2000000) (w : World) :
    Calls Tryd.prog 83 #[.agg #[.string s, .map (some mp), .slice (some ⟨g, 0, none⟩) 28 28], .int .i64 a, .int .u8 q] w fun e w' => e = .returned (.tuple #[.int .u8 ((ins s a q).c : Nat), .int .i64 ((ins s a q).nx : Nat), .bool (ins s a q).ok]) ∧ Fr w w' := by
  by_cases h1 : s.size ≤ a
  · have HR : Hid (ins s a q = ⟨0, 0, false⟩) := Lib.hid (by unfold ins; rw [if_pos h1])
    have hd : decide (s.size ≤ a) = true := decide_eq_true h1
    rw [HR.out]
    go_enter Tryd.func83, Tryd.ntmps83
    go_wp2
    go_ret3
    exact ⟨rfl, (Fr.refl _).alloc _⟩
  · have hb := bt_at s a (by omega)
    have hd : decide (s.size ≤ a) = false := decide_eq_false h1
    by_cases h2 : bt s a = 42
    · have ht : ((bt s a : Int) != 42) = false := by rw [h2]; rfl
      by_cases h3 : s.size ≤ a + 1
      · have HR : Hid (ins s a q = ⟨0, 0, false⟩) := Lib.hid (by unfold ins; rw [if_neg h1, if_pos h2, if_pos h3])
        have hd3 : decide ((s.size : Int) ≤ (a : Int) + 1) = true := decide_eq_true (by omega)
        rw [HR.out]
        clear h2
        go_enter Tryd.func83, Tryd.ntmps83
        go_wp2
        go_ret3
        exact ⟨rfl, (Fr.refl _).alloc _⟩
      · have HR : Hid (ins s a q = ⟨esc (bt s (a + 1)), a + 2, escOk (bt s (a + 1))⟩) := Lib.hid (by unfold ins; rw [if_neg h1, if_pos h2, if_neg h3])
        have hd3 : decide ((s.size : Int) ≤ (a : Int) + 1) = false := decide_eq_false (by omega)
        have hb2 := bt_at s (a + 1) (by omega)
        have hnum : ((a : Int) + 2) = ((a + 2 : Nat) : Int) := by omega
        have HN := Lib.hid hnum
        rw [HR.out]
        clear h2 hnum
        go_enter Tryd.func83, Tryd.ntmps83
        go_wp2_with fail
        refine (escaped_any _ _).mono ?_; rintro e w' ⟨rfl, rfl⟩
        go_wp2_with fail
        go_ret3
        exact ⟨rfl, (Fr.refl _).alloc _⟩
    · have ht : ((bt s a : Int) != 42) = true := by rw [bne_iff_ne]; omega
      cases hp : plain (bt s a) with
      | true =>
        obtain ⟨x, hx⟩ : ∃ x, x = (bt s a != q) := ⟨_, rfl⟩
        have HR : Hid (ins s a q = ⟨bt s a, a + 1, x⟩) := Lib.hid (by unfold ins; rw [if_neg h1, if_neg h2, hp, hx]; rfl)
        have hx2 : ((bt s a : Int) != (q : Int)) = x := by rw [hx, Bool.eq_iff_iff]; simp; omega
        have HP := Lib.hid hp
        rw [HR.out]
        clear h2 hx hp
        go_enter Tryd.func83, Tryd.ntmps83
        go_wp2_with fail
        refine (isPlain_any _ _).mono ?_; rintro e w' ⟨rfl, rfl⟩
        rw [HP.out]
        go_wp2_with fail
        go_ret3
        exact ⟨by first | rfl | simp [*], (Fr.refl _).alloc _⟩
      | false =>
        have HR : Hid (ins s a q = ⟨bt s a, a + 1, false⟩) := Lib.hid (by unfold ins; rw [if_neg h1, if_neg h2, hp]; rfl)
        have HP := Lib.hid hp
        rw [HR.out]
        clear h2 hp
        go_enter Tryd.func83, Tryd.ntmps83
        go_wp2_with fail
        refine (isPlain_any _ _).mono ?_; rintro e w' ⟨rfl, rfl⟩
        rw [HP.out]
        go_wp2_with fail
        go_ret3
        exact ⟨by first | rfl | simp [*], (Fr.refl _).alloc _⟩
end Go.Proofs.YtkkapgidddfdoaaDoor
