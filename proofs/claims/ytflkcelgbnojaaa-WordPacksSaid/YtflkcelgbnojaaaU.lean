/- Contracts of the document's own answers: bytes of a word, and a word of bytes. -/
import Derived.Test.YtflkcelgbnojaaaI
namespace Go.Proofs.Ytflkcelgbnojaaa
open Go.RowKit
set_option linter.unusedVariables false

theorem rValid_any (b : Int) (c : Bool) (w : World) : Calls Try.prog 42 #[.agg #[.int .i64 b, .bool c]] w fun e w' => e = .returned (.bool (okB b)) ∧ Fr w w' := by
  go_enter Try.func42, Try.ntmps42
  go_wp2_with (go_at_call 18; refine (Bits_any _ _).mono ?_; rintro e w' ⟨rfl, rfl⟩)
  go_ret
  exact ⟨rfl, (Fr.refl _).alloc _⟩
theorem rsize_any {n : Int} (hn : OkB n) (big : Bool) (w : World) : Calls Try.prog 59 #[.agg #[.int .i64 n, .bool big]] w fun e w' => e = .returned (.int .i64 (szI n)) ∧ Fr w w' := by
  rcases hn with rfl | rfl | rfl
  all_goals
    go_enter Try.func59, Try.ntmps59
    go_wp2
    go_ret
    exact ⟨rfl, (Fr.refl _).alloc _⟩

/-- The place of byte t of a word, counted from the lowest, in the order of the form. -/
def plc (s t : Nat) (big : Bool) : Nat := if big then s - 1 - t else t
theorem byv_uns {n : Int} (hn : OkB n) (x : Int) (t : Nat) (ht : (t : Int) < szI n) : uns x n / 256 ^ t % 256 = byv x (8 * t) := by
  unfold uns byv
  rcases hn with rfl | rfl | rfl
  · have : (t : Int) < 2 := ht
    have : t = 0 ∨ t = 1 := by omega
    rcases this with rfl | rfl <;> simp [pw] <;> omega
  · have : (t : Int) < 3 := ht
    have : t = 0 ∨ t = 1 ∨ t = 2 := by omega
    rcases this with rfl | rfl | rfl <;> simp [pw] <;> omega
  · have : (t : Int) < 4 := ht
    have : t = 0 ∨ t = 1 ∨ t = 2 ∨ t = 3 := by omega
    rcases this with rfl | rfl | rfl | rfl <;> simp [pw] <;> omega
theorem split_row {n : Int} {s t : Nat} (hs : (s : Int) = szI n) (big : Bool) (x : Int) (ht : t < s) (p : Nat) (hp : p < s) :
    (if p = plc s t big then Value.int .i64 (byv x (8 * t)) else .int .i64 (if plc s p big < t then byv x (8 * plc s p big) else 0)) = .int .i64 (if plc s p big < t + 1 then byv x (8 * plc s p big) else 0) := by
  unfold plc
  cases big
  · simp only [Bool.false_eq_true, if_false]
    by_cases h : p = t
    · subst h; rw [if_pos rfl, if_pos (by omega)]
    · rw [if_neg h]; congr 2; simp only [eq_iff_iff]; omega
  · simp only [if_true]
    by_cases h : p = s - 1 - t
    · have e : s - 1 - p = t := by omega
      rw [if_pos h, e, if_pos (by omega)]
    · rw [if_neg h]; congr 2; simp only [eq_iff_iff]; omega

set_option maxHeartbeats 1000000 in
theorem split_any {n : Int} (hn : OkB n) (big : Bool) (x : Int) (s : Nat) (hs : (s : Int) = szI n) (w : World) : Calls Try.prog 60 #[.int .i64 x, .agg #[.int .i64 n, .bool big]] w fun e w' =>
    ∃ g : Nat, e = .returned (.slice (some ⟨g, 0, none⟩) s s) ∧ w.heap.size ≤ g ∧ w'.rowIs g 3 s (fun p => .int .i64 (byv x (8 * plc s p big))) ∧ Fr w w' := by
  have H := Lib.hid hn
  have hsz := szI_bd hn
  have HS := Lib.hid hs
  have hs1 : 2 ≤ s := by omega
  have hs2 : s ≤ 4 := by omega
  have hmk : ∀ W : World, (Instr.makeSlice 37 (.int .i64 (s : Int)) (.int .i64 (s : Int))).run Try.prog W = .ok (.slice (some ⟨W.heap.size, 0, none⟩) s s) (W.alloc (.cells (madeCells #[.int .i64 0] s) 3)) :=
    fun W => run_make_row' _ _ _ 8 Try.underlying37 (by kernel_rfl) rfl _ _ s (by omega) (by omega) W
  obtain ⟨ub1, ub2⟩ := uns_bd (v := x) hn
  clear hn hs hsz
  go_enter Try.func60, Try.ntmps60
  go_wp2_with fail
  refine (runs_any H.out _ _).mono ?_; rintro e w0 ⟨rfl, rfl⟩
  go_wp2_with fail
  refine (rsize_any H.out _ _).mono ?_; rintro e w1 ⟨rfl, hf⟩
  rw [← HS.out]
  have HB := Lib.hid (Bx.fr (b := w.heap.size) (Bx.new _ _ _ _) hf)
  have hf1 : Fr w w1 := ((Fr.refl _).alloc _).trans hf
  have HR := Lib.hid (World.rowIs_made w1 (.int .i64 0) s 3)
  clear hf
  go_wp2_with fail
  go_loopw [5, 7] (fun v i wr => ∃ t : Nat, t ≤ s ∧ i = .int .i64 t ∧ v = .int .i64 (uns x n / 256 ^ t) ∧ wr.rowIs w1.heap.size 3 s (fun p => .int .i64 (if plc s p big < t then byv x (8 * plc s p big) else 0)) ∧ Fr w1 wr) (fun _ i _ => s - (intOf i).toNat)
  case atStart => exact ⟨0, Nat.zero_le _, rfl, by simp, HR.out.congr (fun p _ => by simp), (Fr.refl _).alloc _⟩
  case round =>
    obtain ⟨t, ht, rfl, rfl, hrow, hfr⟩ := hrel
    have u1 : 0 ≤ uns x n / 256 ^ t := Int.ediv_nonneg ub1 (Int.le_of_lt (Int.pow_pos (by decide)))
    have u2 : uns x n / 256 ^ t ≤ 4294967295 := Int.le_trans (Int.ediv_le_self _ ub1) ub2
    by_cases hlt : t < s
    · have hp : plc s t big < s := by unfold plc; split <;> omega
      have hc := hrow.cell hp
      have hfz := hrow.frozen (plc s t big)
      have HROW := Lib.hid hrow
      have HD : Hid (uns x n / 256 ^ t / 256 = uns x n / 256 ^ (t + 1)) := by
        unfold Hid; rw [Int.pow_succ, Int.ediv_ediv_of_nonneg (Int.le_of_lt (Int.pow_pos (by decide)))]
      have HBV := Lib.hid (byv_uns H.out x t (by have := HS.out; omega))
      obtain ⟨d0, d1⟩ := HB.out.fr hfr
      clear hrow
      cases big
      · have hpl : plc s t false = t := rfl
        rw [hpl] at hc hfz
        go_wp2
        go_roundw
        case rel =>
          refine ⟨t + 1, by omega, by go_num, by rw [HD.out], (HROW.out.set t _).congr (fun p hpp => ?_), hfr.setCell (Nat.le_refl _) _⟩
          rw [HBV.out]; exact split_row HS.out false x hlt p hpp
        case measure => simp [intOf]; omega
      · have hpl : plc s t true = s - 1 - t := rfl
        rw [hpl] at hc hfz
        go_wp2
        go_roundw
        case rel =>
          refine ⟨t + 1, by omega, by go_num, by rw [HD.out], (HROW.out.set (s - 1 - t) _).congr (fun p hpp => ?_), hfr.setCell (Nat.le_refl _) _⟩
          rw [HBV.out]; exact split_row HS.out true x hlt p hpp
        case measure => simp [intOf]; omega
    · obtain rfl : t = s := by omega
      have HROW := Lib.hid hrow
      clear hrow
      go_wp2
      go_ret
      refine ⟨_, rfl, hf1.size, HROW.out.congr (fun p hp => ?_), hf1.trans hfr⟩
      rw [if_pos (show plc t p big < t by unfold plc; split <;> omega)]
end Go.Proofs.Ytflkcelgbnojaaa
