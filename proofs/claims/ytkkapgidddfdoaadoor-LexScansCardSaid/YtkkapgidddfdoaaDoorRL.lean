/- The document's own scanner: a letter within a character or a string. -/
import Derived.Test.YtkkapgidddfdoaaDoorRB
namespace Go.Proofs.YtkkapgidddfdoaaDoor
open Go.RowKit
set_option linter.unusedVariables false

/-- What the document's own function gives: the byte, the place behind it, whether it may stand there. -/
def LtIs (s : ByteArray) (a q : Nat) (e : Ending) : Prop := ∃ (c n : Int), e = .returned (.tuple #[.int .u8 c, .int .i64 n, .bool (ins s a q).ok]) ∧ ((ins s a q).ok = true → c = ((ins s a q).c : Nat) ∧ n = ((ins s a q).nx : Nat))
theorem LtIs.bad {s : ByteArray} {a q : Nat} {c n : Int} (h : (ins s a q).ok = false) : LtIs s a q (.returned (.tuple #[.int .u8 c, .int .i64 n, .bool false])) := ⟨c, n, by rw [h], fun h2 => by rw [h] at h2; cases h2⟩
theorem LtIs.good {s : ByteArray} {a q c n : Nat} (h : ins s a q = ⟨c, n, true⟩) : LtIs s a q (.returned (.tuple #[.int .u8 c, .int .i64 n, .bool true])) := ⟨c, n, by rw [h], fun _ => by rw [h]; exact ⟨rfl, rfl⟩⟩
set_option maxRecDepth 100000 in
set_option maxHeartbeats 2000000 in
theorem Rletter_any (s : ByteArray) (hs : s.size ≤ 1000000) (a q : Nat) (ha : a ≤ 2000000) (w : World) :
    Calls Tryd.prog 86 #[.string s, .int .i64 a, .int .u8 q] w fun e w' => LtIs s a q e ∧ w = w' := by
  by_cases h1 : s.size ≤ a
  · have HX : Hid ((ins s a q).ok = false) := Lib.hid (by unfold ins; rw [if_pos h1])
    have d1 : decide ((s.size : Int) ≤ (a : Int)) = true := decide_eq_true (by omega)
    go_enter Tryd.func86, Tryd.ntmps86
    go_wp2_with fail
    go_ret3
    exact ⟨LtIs.bad HX.out, rfl⟩
  have d1 : decide ((s.size : Int) ≤ (a : Int)) = false := decide_eq_false (by omega)
  have hlt : a < s.size := by omega
  have hb := bt_at s a hlt
  have HI : Hid (ins s a q = if bt s a = 42 then (if s.size ≤ a + 1 then ⟨0, 0, false⟩ else ⟨esc (bt s (a + 1)), a + 2, escOk (bt s (a + 1))⟩) else ⟨bt s a, a + 1, plain (bt s a) && (bt s a != q)⟩) := Lib.hid (by unfold ins; rw [if_neg h1])
  obtain ⟨c, hc⟩ : ∃ c, c = bt s a := ⟨_, rfl⟩
  rw [← hc] at hb HI
  by_cases h42 : c = 42
  · subst h42
    rw [if_pos rfl] at HI
    by_cases h2 : s.size ≤ a + 1
    · have HX : Hid ((ins s a q).ok = false) := Lib.hid (by rw [HI.out, if_pos h2])
      have d2 : decide ((s.size : Int) ≤ (a : Int) + 1) = true := decide_eq_true (by omega)
      clear HI hc
      go_enter Tryd.func86, Tryd.ntmps86
      go_wp2_with fail
      go_ret3
      exact ⟨LtIs.bad HX.out, rfl⟩
    have d2 : decide ((s.size : Int) ≤ (a : Int) + 1) = false := decide_eq_false (by omega)
    rw [if_neg h2] at HI
    have hlt2 : a + 1 < s.size := by omega
    have hb2 := bt_at s (a + 1) hlt2
    obtain ⟨d, hd⟩ : ∃ c, c = bt s (a + 1) := ⟨_, rfl⟩
    rw [← hd] at hb2 HI
    clear hc hd
    by_cases e110 : d = 110
    · subst e110
      have HX := Lib.hid (show ins s a q = ⟨_, a + 2, true⟩ from HI.out)
      clear HI
      go_enter Tryd.func86, Tryd.ntmps86
      go_wp2_with fail
      go_ret3
      exact ⟨LtIs.good HX.out, rfl⟩
    have n110 : ((d : Int) == 110) = false := by rw [beq_eq_false_iff_ne]; omega
    by_cases e116 : d = 116
    · subst e116
      have HX := Lib.hid (show ins s a q = ⟨_, a + 2, true⟩ from HI.out)
      clear HI
      go_enter Tryd.func86, Tryd.ntmps86
      go_wp2_with fail
      go_ret3
      exact ⟨LtIs.good HX.out, rfl⟩
    have n116 : ((d : Int) == 116) = false := by rw [beq_eq_false_iff_ne]; omega
    by_cases e115 : d = 115
    · subst e115
      have HX := Lib.hid (show ins s a q = ⟨_, a + 2, true⟩ from HI.out)
      clear HI
      go_enter Tryd.func86, Tryd.ntmps86
      go_wp2_with fail
      go_ret3
      exact ⟨LtIs.good HX.out, rfl⟩
    have n115 : ((d : Int) == 115) = false := by rw [beq_eq_false_iff_ne]; omega
    by_cases e42 : d = 42
    · subst e42
      have HX := Lib.hid (show ins s a q = ⟨_, a + 2, true⟩ from HI.out)
      clear HI
      go_enter Tryd.func86, Tryd.ntmps86
      go_wp2_with fail
      go_ret3
      exact ⟨LtIs.good HX.out, rfl⟩
    have n42 : ((d : Int) == 42) = false := by rw [beq_eq_false_iff_ne]; omega
    by_cases e39 : d = 39
    · subst e39
      have HX := Lib.hid (show ins s a q = ⟨_, a + 2, true⟩ from HI.out)
      clear HI
      go_enter Tryd.func86, Tryd.ntmps86
      go_wp2_with fail
      go_ret3
      exact ⟨LtIs.good HX.out, rfl⟩
    have n39 : ((d : Int) == 39) = false := by rw [beq_eq_false_iff_ne]; omega
    by_cases e34 : d = 34
    · subst e34
      have HX := Lib.hid (show ins s a q = ⟨_, a + 2, true⟩ from HI.out)
      clear HI
      go_enter Tryd.func86, Tryd.ntmps86
      go_wp2_with fail
      go_ret3
      exact ⟨LtIs.good HX.out, rfl⟩
    have n34 : ((d : Int) == 34) = false := by rw [beq_eq_false_iff_ne]; omega
    have HX : Hid ((ins s a q).ok = false) := Lib.hid (by rw [HI.out]; exact decide_eq_false (by omega))
    clear HI
    go_enter Tryd.func86, Tryd.ntmps86
    go_wp2_with fail
    go_ret3
    exact ⟨LtIs.bad HX.out, rfl⟩
  rw [if_neg h42] at HI
  have n42 : ((c : Int) == 42) = false := by rw [beq_eq_false_iff_ne]; omega
  clear hc
  by_cases hlo : c < 32
  · have d3 : decide ((32 : Int) ≤ (c : Int)) = false := decide_eq_false (by omega)
    have HX : Hid ((ins s a q).ok = false) := Lib.hid (by rw [HI.out, show plain c = false from decide_eq_false (by omega)]; rfl)
    clear HI
    go_enter Tryd.func86, Tryd.ntmps86
    go_wp2_with fail
    go_ret3
    exact ⟨LtIs.bad HX.out, rfl⟩
  have d3 : decide ((32 : Int) ≤ (c : Int)) = true := decide_eq_true (by omega)
  by_cases hhi : 126 < c
  · have d4 : decide ((c : Int) ≤ 126) = false := decide_eq_false (by omega)
    have HX : Hid ((ins s a q).ok = false) := Lib.hid (by rw [HI.out, show plain c = false from decide_eq_false (by omega)]; rfl)
    clear HI
    go_enter Tryd.func86, Tryd.ntmps86
    go_wp2_with fail
    go_ret3
    exact ⟨LtIs.bad HX.out, rfl⟩
  have d4 : decide ((c : Int) ≤ 126) = true := decide_eq_true (by omega)
  have hpl : plain c = true := decide_eq_true (by omega)
  by_cases hq : c = q
  · have n5 : ((c : Int) != (q : Int)) = false := by simp [hq]
    have HX : Hid ((ins s a q).ok = false) := Lib.hid (by rw [HI.out, hq]; simp)
    clear HI hq
    go_enter Tryd.func86, Tryd.ntmps86
    go_wp2_with fail
    go_ret3
    exact ⟨LtIs.bad HX.out, rfl⟩
  · have n5 : ((c : Int) != (q : Int)) = true := by simp; omega
    have HX := Lib.hid (show ins s a q = ⟨c, a + 1, true⟩ by rw [HI.out, hpl]; simp [hq])
    clear HI hq
    go_enter Tryd.func86, Tryd.ntmps86
    go_wp2_with fail
    go_ret3
    exact ⟨LtIs.good HX.out, rfl⟩
end Go.Proofs.YtkkapgidddfdoaaDoor
