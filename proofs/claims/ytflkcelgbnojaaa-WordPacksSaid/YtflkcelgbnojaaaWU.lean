/- The contract of the function that unpacks a string. -/
import Derived.Test.YtflkcelgbnojaaaWB
import Derived.Laws.BytesArg
namespace Go.Proofs.Ytflkcelgbnojaaa
open Go.RowKit
set_option linter.unusedVariables false

theorem bf_bd (f : Nat → Int) (n : Int) (big : Bool) (j : Nat) : 0 ≤ bf f n big j ∧ bf f n big j ≤ 255 := by unfold bf byv; omega
/-- The string that words hold. -/
def upS (f : Nat → Int) (n : Int) (big : Bool) (l : Nat) : ByteArray := strOfNums ((List.range l).map fun j => bf f n big (1 + j))
set_option maxHeartbeats 1000000 in
theorem Unpack_ok {n : Int} (hn : OkB n) (big : Bool) (b off L cap l : Nat) (f : Nat → Int) (w : World) (hL : L ≤ 100000) (hL0 : 0 < L) (hl : bf f n big 0 = (l : Int)) (hfit : 1 + (l : Int) ≤ L * szI n) (hr : Row w b off L (fun i => .int .i64 (f i))) :
    Calls Try.prog 33 #[.slice (some ⟨b, off, none⟩) L cap, .agg #[.int .i64 n, .bool big]] w fun e w' => e = .returned (.tuple #[.string (upS f n big l), .int .i64 0]) ∧ Fr w w' := by
  have H := Lib.hid hn
  obtain ⟨s1, s2⟩ := szI_bd hn
  have hb : okB n = true := by simpa [okB] using hn
  have hl255 : l ≤ 255 := by have := (bf_bd f n big 0).2; omega
  have p2 : (L : Int) * szI n ≤ 400000 := by
    have h1 : (L : Int) * szI n ≤ L * 4 := Int.mul_le_mul_of_nonneg_left s2 (by omega)
    omega
  have p1 : 0 ≤ (L : Int) * szI n := by omega
  have ht0 : ((L : Int) == 0) = false := by rw [beq_eq_false_iff_ne]; omega
  have ht1 : ¬ (L : Int) * szI n < 1 + (l : Int) := by omega
  have hs : (((szI n).toNat : Nat) : Int) = szI n := Int.toNat_of_nonneg (by omega)
  have hz : 0 / (szI n).toNat = 0 := Nat.zero_div _
  have hmk : ∀ W : World, (Instr.makeSlice 46 (.int .i64 (l : Int)) (.int .i64 (l : Int))).run Try.prog W = .ok (.slice (some ⟨W.heap.size, 0, none⟩) l l) (W.alloc (.cells (madeCells #[.int .u8 0] l) 5)) :=
    fun W => run_make_row' _ _ _ 1 Try.underlying46 (by kernel_rfl) rfl _ _ l (by omega) (by omega) W
  have HL := Lib.hid hl
  have HF := Lib.hid hfit
  have HR := Lib.hid hr
  have HSZ := Lib.hid hs
  have HZ := Lib.hid hz
  clear hn hl hfit hr hs hz
  go_enter Try.func33, Try.ntmps33
  go_wp2_with fail
  refine (Valid_any _ _ _).mono ?_; rintro e w1 ⟨rfl, hf⟩
  have HB1 := Lib.hid (Bx.fr (b := w.heap.size) (Bx.new _ _ _ _) hf)
  have hfw1 := ((Fr.refl w).alloc _).trans hf
  obtain ⟨c0, c1⟩ := HB1.out
  go_wp2_with fail
  refine (byteAt_any (i := 0) H.out _ _ _ _ _ _ _ (by decide) (by rw [HZ.out]; exact hL0) (by omega) (HR.out.fr hfw1)).mono ?_; rintro e w2 ⟨rfl, hf2⟩
  rw [show byv (f (0 / (szI n).toNat)) (blw ((0 : Nat) : Int) n big) = (l : Int) from HL.out]
  have hfw2 := hfw1.trans hf2
  have HB2 := Lib.hid (HB1.out.fr hf2)
  clear c0 c1
  obtain ⟨c0, c1⟩ := HB2.out
  go_wp2_with fail
  refine (size_any H.out _ _).mono ?_; rintro e w3 ⟨rfl, hf3⟩
  have hfw3 := hfw2.trans hf3
  have HB3 := Lib.hid (HB2.out.fr hf3)
  have HW := Lib.hid (World.rowIs_made w3 (.int .u8 0) l 5)
  clear c0 c1 hf hf2 hf3
  go_wp2_with fail
  go_loopw [30] (fun i wr => ∃ k : Nat, k ≤ l ∧ i = .int .i64 k ∧ wr.rowIs w3.heap.size 5 l (fun j => .int .u8 (if j < k then bf f n big (1 + j) else 0)) ∧ Fr w3 wr) (fun i _ => l - (intOf i).toNat)
  case atStart => exact ⟨0, Nat.zero_le _, rfl, HW.out.congr (fun j _ => by simp), (Fr.refl _).alloc _⟩
  case round =>
    obtain ⟨k, hk, rfl, hrow, hfr⟩ := hrel
    have HROW := Lib.hid hrow
    by_cases hlt : k < l
    · have hq : (1 + k) / (szI n).toNat < L := by
        rw [Nat.div_lt_iff_lt_mul (by have := HSZ.out; omega)]
        have h1 := HF.out
        rw [← HSZ.out, ← Int.natCast_mul] at h1
        omega
      have hk1 : (1 : Int) + (k : Int) = ((1 + k : Nat) : Int) := by omega
      have HK := Lib.hid hk1
      have HRW := Lib.hid ((HR.out.fr hfw3).fr hfr)
      obtain ⟨d0, d1⟩ := HB3.out.fr hfr
      clear hrow hk1
      go_wp2_with fail
      rw [HK.out]
      refine (byteAt_any H.out _ _ _ _ _ (1 + k) _ _ (by omega) hq (by omega) HRW.out).mono ?_
      rintro e w4 ⟨rfl, hf4⟩
      have hrow4 := hf4.row HROW.out
      have hc4 := hrow4.cell hlt
      have hz4 := hrow4.frozen k
      have HROW4 := Lib.hid hrow4
      clear hrow4 d0 d1
      go_wp2_with fail
      go_roundw
      case rel =>
        refine ⟨k + 1, by omega, by go_num, (HROW4.out.set k _).congr (fun j hj => ?_), (hfr.trans hf4).setCell (Nat.le_refl _) _⟩
        by_cases hjk : j = k
        · subst hjk; rw [if_pos rfl, if_pos (by omega)]; rfl
        · rw [if_neg hjk]; congr 2; simp only [eq_iff_iff]; omega
      case measure => simp [intOf]; omega
    · obtain rfl : k = l := by omega
      have hcv := run_convert_bytes_arg (P := Try.prog) wr 46 5 Try.underlying46 Try.underlying5 w3.heap.size 0 k k ((List.range k).map fun j => bf f n big (1 + j)) (by simp) (fun j hj => by
        rw [Nat.zero_add, hrow.cell hj, if_pos hj]; simp [List.getD, hj]) 9 Try.underlying9
      clear hrow
      go_wp2_with fail
      go_ret2
      exact ⟨rfl, hfw3.trans hfr⟩
end Go.Proofs.Ytflkcelgbnojaaa
