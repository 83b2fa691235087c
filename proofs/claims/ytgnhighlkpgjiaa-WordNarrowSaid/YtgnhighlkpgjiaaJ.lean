/- Where an operator is exact by words of 16 bits, it is so by longer ones. Nothing here speaks of a program. -/
import Derived.Test.YtgnhighlkpgjiaaX
namespace Go.Proofs.Ytgnhighlkpgjiaa
open Go.RowKit
set_option linter.unusedVariables false
def exV (op a b n : Int) : Bool := if appE op b n = 0 then exC op.toNat (nrm a n) (nrm b n) n else false
theorem nrm_narrow {a n : Int} (hn : OkB n) (h1 : -32768 ≤ a) (h2 : a ≤ 32767) : nrm a n = a := nar_nrm hn (decide_eq_true ⟨h1, h2⟩)
theorem opv_len {k : Nat} {a b n : Int} (hn : OkB n) (a1 : -32768 ≤ a) (a2 : a ≤ 32767) (hc : ¬((k = 6 ∨ k = 7) ∧ (a < 0 ∨ b < 0 ∨ 15 < b))) : opv k a b n = opv k a b 16 := by
  by_cases h6 : k = 6
  · subst h6
    show (if b < 0 ∨ n ≤ b then 0 else a * 2 ^ b.toNat) = (if b < 0 ∨ 16 ≤ b then 0 else a * 2 ^ b.toNat)
    have : 16 ≤ n := by rcases hn with rfl | rfl | rfl <;> decide
    rw [if_neg (by omega), if_neg (by omega)]
  · by_cases h7 : k = 7
    · subst h7
      show (if b < 0 ∨ n ≤ b then 0 else uns a n / 2 ^ b.toNat) = (if b < 0 ∨ 16 ≤ b then 0 else uns a 16 / 2 ^ b.toNat)
      have : 16 ≤ n := by rcases hn with rfl | rfl | rfl <;> decide
      rw [if_neg (by omega), if_neg (by omega)]
      have e : uns a n = uns a 16 := by
        have := pw_bd hn
        have e1 : uns a n = a := Int.emod_eq_of_lt (by omega) (by omega)
        have e2 : uns a 16 = a := Int.emod_eq_of_lt (by omega) (by show a < 65536; omega)
        rw [e1, e2]
      rw [e]
    · unfold opv; split <;> first | rfl | omega
theorem narrow_law {op a b n : Int} (hn : OkB n) (a1 : -32768 ≤ a) (a2 : a ≤ 32767) (b1 : -32768 ≤ b) (b2 : b ≤ 32767) (hE : appE op b 16 = 0) (hx : exV op a b 16 = true) :
    appE op b n = 0 ∧ exV op a b n = true ∧ appV op a b n = appV op a b 16 := by
  have h16 : OkB 16 := .inl rfl
  have eb : nrm b n = b := nrm_narrow hn b1 b2
  have ea : nrm a n = a := nrm_narrow hn a1 a2
  have eb' : nrm b 16 = b := nrm_narrow h16 b1 b2
  have ea' : nrm a 16 = a := nrm_narrow h16 a1 a2
  obtain ⟨_, o1, o2, o3⟩ := appE_ok hE
  have hE' : appE op b n = 0 := by
    unfold appE
    rw [if_pos (show okB n = true from by simpa [okB] using hn), if_neg (by omega), if_neg]
    rintro ⟨h1, h2⟩
    exact o3 h1 (by rw [eb'] ; rwa [eb] at h2)
  unfold exV at hx ⊢
  rw [if_pos hE, ea', eb'] at hx
  rw [if_pos hE', ea, eb]
  unfold appV
  rw [if_pos hE, if_pos hE', ea, eb, ea', eb']
  generalize op.toNat = k at *
  unfold exC at hx ⊢
  by_cases hc : (k = 6 ∨ k = 7) ∧ (a < 0 ∨ b < 0 ∨ 15 < b)
  · rw [if_pos hc] at hx; exact absurd hx (by decide)
  · rw [if_neg hc] at hx ⊢
    rw [Bool.and_eq_true, Bool.and_eq_true] at hx
    obtain ⟨⟨x1, x2⟩, x3⟩ := hx
    have hc' : ¬((k = 6 ∨ k = 7) ∧ (a < 0 ∨ (if k = 18 ∨ k = 19 then 0 else b) < 0 ∨ 15 < (if k = 18 ∨ k = 19 then 0 else b))) := by
      split <;> omega
    have e1 := opv_len (k := k) (b := if k = 18 ∨ k = 19 then 0 else b) hn a1 a2 hc'
    have hX : opv k a (if k = 18 ∨ k = 19 then 0 else b) n = opv k a b n ∧ opv k a (if k = 18 ∨ k = 19 then 0 else b) 16 = opv k a b 16 := by
      by_cases h18 : k = 18 ∨ k = 19
      · rw [if_pos h18]; rcases h18 with rfl | rfl <;> simp [opv]
      · rw [if_neg h18]; exact ⟨rfl, rfl⟩
    refine ⟨hE', ?_, ?_⟩
    · rw [x1, x2, e1, x3]; rfl
    · rw [← hX.1, ← hX.2, e1, nar_nrm hn x3, nar_nrm h16 x3]
end Go.Proofs.Ytgnhighlkpgjiaa
