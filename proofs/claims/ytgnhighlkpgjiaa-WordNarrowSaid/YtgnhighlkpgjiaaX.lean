/- When a word is what whole numbers give: the document's way and the program's way say the same. Nothing here speaks of a program. -/
import Derived.Test.YtgnhighlkpgjiaaB
namespace Go.Proofs.Ytgnhighlkpgjiaa
open Go.RowKit
set_option linter.unusedVariables false

def nar (v : Int) : Bool := decide (-32768 ≤ v ∧ v ≤ 32767)
theorem nar_0 : nar 0 = true := by simp [nar]
theorem nar_nrm {v n : Int} (hn : OkB n) (h : nar v = true) : nrm v n = v := by
  have h := of_decide_eq_true h
  unfold nrm pw; rcases hn with rfl | rfl | rfl <;> simp <;> omega

theorem wrap_toInt (x : BitVec 64) : IntKind.i64.wrap (x.toNat : Nat) = x.toInt := by
  rw [IntKind.wrap_i64, BitVec.toInt_eq_toNat_cond]
  have := x.isLt
  split <;> omega
theorem bits_and_eq (a b : Int) : bits .and .i64 a b = (BitVec.ofInt 64 a &&& BitVec.ofInt 64 b).toInt := wrap_toInt _
theorem bits_or_eq (a b : Int) : bits .or .i64 a b = (BitVec.ofInt 64 a ||| BitVec.ofInt 64 b).toInt := wrap_toInt _
theorem bits_xor_eq (a b : Int) : bits .xor .i64 a b = (BitVec.ofInt 64 a ^^^ BitVec.ofInt 64 b).toInt := wrap_toInt _

theorem shift_zero_or_one {a : Int} (h1 : -32768 ≤ a) (h2 : a ≤ 32767) : (BitVec.ofInt 64 a).sshiftRight 15 = 0#64 ∨ (BitVec.ofInt 64 a).sshiftRight 15 = BitVec.allOnes 64 := by
  have e : ((BitVec.ofInt 64 a).sshiftRight 15).toInt = a / 32768 := by
    rw [BitVec.toInt_sshiftRight, BitVec.toInt_ofInt, Int.shiftRight_eq_div_pow]
    have : Int.bmod a (2 ^ 64) = a := Int.bmod_eq_of_le (by omega) (by omega)
    rw [this]; rfl
  by_cases h : 0 ≤ a
  · left; apply BitVec.eq_of_toInt_eq; rw [e, BitVec.toInt_zero]; omega
  · right; apply BitVec.eq_of_toInt_eq; rw [e, BitVec.toInt_allOnes]; simp; omega
theorem narrow_of_shift {x : BitVec 64} (h : x.sshiftRight 15 = 0#64 ∨ x.sshiftRight 15 = BitVec.allOnes 64) : -32768 ≤ x.toInt ∧ x.toInt ≤ 32767 := by
  have e : (x.sshiftRight 15).toInt = x.toInt / 32768 := by
    rw [BitVec.toInt_sshiftRight, Int.shiftRight_eq_div_pow]; rfl
  rcases h with h | h
  · rw [h, BitVec.toInt_zero] at e; omega
  · rw [h, BitVec.toInt_allOnes] at e; simp at e; omega
theorem bits_nar {a b : Int} (ha : nar a = true) (hb : nar b = true) : nar (bits .and .i64 a b) = true ∧ nar (bits .or .i64 a b) = true ∧ nar (bits .xor .i64 a b) = true := by
  obtain ⟨a1, a2⟩ := of_decide_eq_true ha
  obtain ⟨b1, b2⟩ := of_decide_eq_true hb
  have sa := shift_zero_or_one a1 a2
  have sb := shift_zero_or_one b1 b2
  rw [bits_and_eq, bits_or_eq, bits_xor_eq]
  refine ⟨decide_eq_true (narrow_of_shift ?_), decide_eq_true (narrow_of_shift ?_), decide_eq_true (narrow_of_shift ?_)⟩
  · rw [BitVec.sshiftRight_and_distrib]
    rcases sa with h | h <;> rcases sb with k | k <;> rw [h, k] <;> simp
  · rw [BitVec.sshiftRight_or_distrib]
    rcases sa with h | h <;> rcases sb with k | k <;> rw [h, k] <;> simp
  · rw [BitVec.sshiftRight_xor_distrib]
    rcases sa with h | h <;> rcases sb with k | k <;> rw [h, k] <;> simp

/-- The program's way. -/
def exC (k : Nat) (A B n : Int) : Bool :=
  if (k = 6 ∨ k = 7) ∧ (A < 0 ∨ B < 0 ∨ 15 < B) then false
  else nar A && nar (if k = 18 ∨ k = 19 then 0 else B) && nar (opv k A (if k = 18 ∨ k = 19 then 0 else B) n)
/-- The document's way. -/
def exR (k : Nat) (A B n : Int) : Bool :=
  if (nar A && (decide (k = 18 ∨ k = 19) || nar B) && nar (nrm (opv k A B n) n)) = false then false
  else if 6 ≤ k ∧ k ≤ 11 then
    (if k = 6 ∨ k = 7 then (if A < 0 ∨ B < 0 ∨ 15 < B then false else if k = 6 then decide (A * 2 ^ B.toNat ≤ 32767) else true) else true)
  else opv k A B n == nrm (opv k A B n) n
theorem nar_and {X n : Int} (hn : OkB n) : (nar (nrm X n) && (X == nrm X n)) = nar X := by
  rcases Bool.eq_false_or_eq_true (nar X) with h | h
  · rw [nar_nrm hn h, h]; simp
  · rw [h, Bool.and_eq_false_iff]
    by_cases he : X = nrm X n
    · left; rw [← he]; exact h
    · right; simpa using he
theorem ex_plain {k : Nat} {A B n : Int} (hn : OkB n) (h6 : ¬(6 ≤ k ∧ k ≤ 11)) (h18 : ¬(k = 18 ∨ k = 19)) : exR k A B n = exC k A B n := by
  unfold exR exC
  rw [if_neg h6, if_neg h18, if_neg (show ¬((k = 6 ∨ k = 7) ∧ (A < 0 ∨ B < 0 ∨ 15 < B)) by omega), decide_eq_false h18, Bool.false_or]
  rw [← nar_and (X := opv k A B n) hn]
  generalize (opv k A B n == nrm (opv k A B n) n) = q
  generalize nar (nrm (opv k A B n) n) = r
  cases nar A <;> cases nar B <;> cases q <;> cases r <;> decide
theorem ex_one {k : Nat} {A B n : Int} (hn : OkB n) (h18 : k = 18 ∨ k = 19) : exR k A B n = exC k A B n := by
  have e : opv k A 0 n = opv k A B n := by rcases h18 with rfl | rfl <;> simp [opv]
  unfold exR exC
  rw [if_neg (show ¬(6 ≤ k ∧ k ≤ 11) by omega), if_pos h18, if_neg (show ¬((k = 6 ∨ k = 7) ∧ (A < 0 ∨ B < 0 ∨ 15 < B)) by omega), decide_eq_true h18, Bool.true_or, Bool.and_true, e]
  rw [← nar_and (X := opv k A B n) hn, nar_0]
  generalize (opv k A B n == nrm (opv k A B n) n) = q
  generalize nar (nrm (opv k A B n) n) = r
  cases nar A <;> cases q <;> cases r <;> decide
theorem ex_bits {k : Nat} {A B n : Int} (hn : OkB n) (hk : k = 8 ∨ k = 9 ∨ k = 10 ∨ k = 11) : exR k A B n = exC k A B n := by
  unfold exR exC
  rw [if_pos (show 6 ≤ k ∧ k ≤ 11 by omega), if_neg (show ¬(k = 6 ∨ k = 7) by omega), if_neg (show ¬(k = 18 ∨ k = 19) by omega), if_neg (show ¬((k = 6 ∨ k = 7) ∧ (A < 0 ∨ B < 0 ∨ 15 < B)) by omega), decide_eq_false (show ¬(k = 18 ∨ k = 19) by omega), Bool.false_or]
  rcases Bool.eq_false_or_eq_true (nar A) with ha | ha
  · rcases Bool.eq_false_or_eq_true (nar B) with hb | hb
    · have hx : nar (opv k A B n) = true := by
        obtain ⟨h1, h2, h3⟩ := bits_nar ha hb
        rcases hk with rfl | rfl | rfl | rfl
        · exact h1
        · exact h2
        · exact h3
        · show nar (-(bits .xor .i64 A B) - 1) = true
          obtain ⟨g1, g2⟩ := of_decide_eq_true h3
          exact decide_eq_true (by omega)
      rw [nar_nrm hn hx, ha, hb, hx]; rfl
    · rw [ha, hb]; simp
  · rw [ha]; simp
theorem ex_shl {A B n : Int} (hn : OkB n) : exR 6 A B n = exC 6 A B n := by
  unfold exR exC
  by_cases hc : A < 0 ∨ B < 0 ∨ 15 < B
  · rw [if_pos (show (6 = 6 ∨ 6 = 7) ∧ (A < 0 ∨ B < 0 ∨ 15 < B) from ⟨.inl rfl, hc⟩)]
    split
    · rfl
    · simp
  · rw [if_neg (show ¬((6 = 6 ∨ 6 = 7) ∧ (A < 0 ∨ B < 0 ∨ 15 < B)) from fun h => hc h.2), if_pos (show 6 ≤ 6 ∧ 6 ≤ 11 by decide), if_pos (show 6 = 6 ∨ 6 = 7 by decide), if_neg hc, if_pos rfl,
      if_neg (show ¬(6 = 18 ∨ 6 = 19) by decide), decide_eq_false (show ¬(6 = 18 ∨ 6 = 19) by decide), Bool.false_or]
    have hx : opv 6 A B n = A * 2 ^ B.toNat := by
      show (if B < 0 ∨ n ≤ B then 0 else A * 2 ^ B.toNat) = _
      have : 16 ≤ n := by rcases hn with rfl | rfl | rfl <;> decide
      rw [if_neg (by omega)]
    rw [hx]
    have hp : (0 : Int) ≤ A * 2 ^ B.toNat := Int.mul_nonneg (by omega) (Int.le_of_lt (Int.pow_pos (by decide)))
    generalize A * 2 ^ B.toNat = X at *
    rcases Bool.eq_false_or_eq_true (nar X) with h | h
    · rw [nar_nrm hn h, h]
      have hd : decide (X ≤ 32767) = true := decide_eq_true (of_decide_eq_true h).2
      rw [hd]
      cases nar A <;> cases nar B <;> simp
    · have hd : decide (X ≤ 32767) = false := decide_eq_false fun h2 => by
        have := of_decide_eq_false h
        omega
      rw [h, hd]; simp
theorem ex_shr {A B n : Int} (hn : OkB n) : exR 7 A B n = exC 7 A B n := by
  unfold exR exC
  by_cases hc : A < 0 ∨ B < 0 ∨ 15 < B
  · rw [if_pos (show (7 = 6 ∨ 7 = 7) ∧ (A < 0 ∨ B < 0 ∨ 15 < B) from ⟨.inr rfl, hc⟩)]
    split
    · rfl
    · simp
  · rw [if_neg (show ¬((7 = 6 ∨ 7 = 7) ∧ (A < 0 ∨ B < 0 ∨ 15 < B)) from fun h => hc h.2), if_pos (show 6 ≤ 7 ∧ 7 ≤ 11 by decide), if_pos (show 7 = 6 ∨ 7 = 7 by decide), if_neg hc, if_neg (show ¬(7 = 6) by decide),
      if_neg (show ¬(7 = 18 ∨ 7 = 19) by decide), decide_eq_false (show ¬(7 = 18 ∨ 7 = 19) by decide), Bool.false_or]
    rcases Bool.eq_false_or_eq_true (nar A) with ha | ha
    · have hx : nar (opv 7 A B n) = true := by
        have h0 : opv 7 A B n = uns A n / 2 ^ B.toNat := by
          show (if B < 0 ∨ n ≤ B then 0 else uns A n / 2 ^ B.toNat) = _
          have : 16 ≤ n := by rcases hn with rfl | rfl | rfl <;> decide
          rw [if_neg (by omega)]
        have hu : uns A n = A := by
          obtain ⟨g1, g2⟩ := of_decide_eq_true ha
          unfold uns
          have := pw_bd hn
          exact Int.emod_eq_of_lt (by omega) (by omega)
        have h1 : 0 ≤ A / 2 ^ B.toNat := Int.ediv_nonneg (by omega) (Int.le_of_lt (Int.pow_pos (by decide)))
        have h2 : A / 2 ^ B.toNat ≤ A := Int.ediv_le_self _ (by omega)
        obtain ⟨g1, g2⟩ := of_decide_eq_true ha
        rw [h0, hu]; exact decide_eq_true ⟨by omega, by omega⟩
      rw [nar_nrm hn hx, ha, hx]; cases nar B <;> simp
    · rw [ha]; simp
theorem ex_same {k : Nat} {A B n : Int} (hn : OkB n) (h1 : 1 ≤ k) (h2 : k ≤ 19) : exR k A B n = exC k A B n := by
  by_cases h18 : k = 18 ∨ k = 19
  · exact ex_one hn h18
  · by_cases h6 : 6 ≤ k ∧ k ≤ 11
    · have : k = 6 ∨ k = 7 ∨ (k = 8 ∨ k = 9 ∨ k = 10 ∨ k = 11) := by omega
      rcases this with rfl | rfl | h
      · exact ex_shl hn
      · exact ex_shr hn
      · exact ex_bits hn h
    · exact ex_plain hn h6 h18
end Go.Proofs.Ytgnhighlkpgjiaa
