/- The contract of the function that makes words of bytes. -/
import Derived.Test.YtflkcelgbnojaaaP
namespace Go.Proofs.Ytflkcelgbnojaaa
open Go.RowKit
set_option linter.unusedVariables false

set_option maxHeartbeats 4000000 in
theorem wordsOf_any {n : Int} (hn : OkB n) (big : Bool) (b off L cap : Nat) (β : Nat → Nat) (w : World) (hL : L ≤ 16777216) (hw : (L : Int) % szI n = 0) (hβ : ∀ i, i < L → β i < 256) (hr : Row w b off L (fun i => .int .u8 (β i))) :
    Calls Try.prog 65 #[.slice (some ⟨b, off, none⟩) L cap, .agg #[.int .i64 n, .bool big]] w fun e w' =>
      ∃ g m : Nat, (m : Int) = L / szI n ∧ e = .returned (.slice (some ⟨g, 0, none⟩) m m) ∧ w.heap.size ≤ g ∧ w'.rowIs g 3 m (fun j => .int .i64 (nrm (wv β n big L j) n)) ∧ Fr w w' := by
  have H := Lib.hid hn
  have HR := Lib.hid hr
  have HWL := Lib.hid hw
  clear hw
  obtain ⟨s1, s2⟩ := szI_bd hn
  have q1 : 0 ≤ (L : Int) / szI n := Int.ediv_nonneg (by omega) (by omega)
  have q2 : (L : Int) / szI n ≤ L := Int.ediv_le_self _ (by omega)
  obtain ⟨m, hm⟩ := Int.eq_ofNat_of_zero_le q1
  have hmk : ∀ W : World, (Instr.makeSlice 37 (.int .i64 ((L : Int) / szI n)) (.int .i64 ((L : Int) / szI n))).run Try.prog W = .ok (.slice (some ⟨W.heap.size, 0, none⟩) m m) (W.alloc (.cells (madeCells #[.int .i64 0] m) 3)) := by
    rw [hm]; exact fun W => run_make_row' _ _ _ 8 Try.underlying37 (by kernel_rfl) rfl _ _ m (by omega) (by omega) W
  have hmL : m ≤ L := by omega
  have HM := Lib.hid hm
  clear hr hn hm
  go_enter Try.func65, Try.ntmps65
  go_wp2_with fail
  refine (size_any H.out _ _).mono ?_; rintro e w1 ⟨rfl, hf⟩
  obtain ⟨c0, c1⟩ := Bx.fr (b := w.heap.size) (Bx.new _ _ _ _) hf
  have hf1 : Fr w w1 := ((Fr.refl _).alloc _).trans hf
  have hrow1 := World.rowIs_made w1 (.int .i64 0) m 3
  have HR1 := Lib.hid (HR.out.fr hf1)
  have HB1 := Lib.hid (show Bx w1 w.heap.size n big from ⟨c0, c1⟩)
  have HW1 := Lib.hid hrow1
  clear hf c0 c1 hrow1
  go_wp2_with fail
  go_loopw [17] (fun i wr => ∃ k : Nat, k ≤ L ∧ i = .int .i64 k ∧ wr.rowIs w1.heap.size 3 m (fun j => .int .i64 (wv β n big k j)) ∧ Fr w1 wr) (fun i _ => L - (intOf i).toNat)
  case atStart => exact ⟨0, Nat.zero_le _, rfl, HW1.out.congr (fun j _ => by rw [wv_0]), (Fr.refl _).alloc _⟩
  case round =>
    obtain ⟨k, hk, rfl, hrow, hfr⟩ := hrel
    by_cases hlt : k < L
    · obtain ⟨q, hq⟩ := Int.eq_ofNat_of_zero_le (show 0 ≤ (k : Int) / szI n from Int.ediv_nonneg (by omega) (by omega))
      have hqm : q < m := by
        have hm := HM.out
        have hw := HWL.out
        have := H.out
        unfold szI at hq hm hw
        rcases this with rfl | rfl | rfl <;> omega
      obtain ⟨z1, z2⟩ := blw_bd H.out k (by omega) big
      have hβk := hβ k hlt
      obtain ⟨p1, p2⟩ := shl_bd (β k) (blw k n big) (by omega) (by omega) (by omega) (by omega)
      have hWO : Wo wr w1.heap.size q (.int .i64 (wv β n big k q)) b (off + k) (.int .u8 (β k)) w.heap.size n big :=
        ⟨hrow.cell hqm, hrow.frozen q, (HR1.out.fr hfr) k hlt, (HB1.out.fr hfr).1, (HB1.out.fr hfr).2⟩
      have HWO := Lib.hid hWO
      obtain ⟨d1, d2, d3, d4, d5⟩ := hWO
      have HROW := Lib.hid hrow
      clear hrow
      have hw1 : IntKind.i64.wrap ((k : Int).tdiv (szI n)) = (q : Int) := by
        rw [Int.tdiv_eq_ediv_of_nonneg (by omega), hq]; exact IntWalk.i64_in _ (by omega)
      have hw2 : IntKind.i64.wrap ((β k : Int) * 2 ^ min (blw k n big).toNat 64) = (β k : Int) * 2 ^ (blw k n big).toNat := by
        rw [show min (blw k n big).toNat 64 = (blw k n big).toNat from by omega]; exact IntWalk.i64_in _ (by omega)
      have hs0 : ¬ szI n = 0 := by omega
      have hw3 : IntKind.i64.wrap (q : Int) = (q : Int) := IntWalk.i64_in _ (by omega)
      have hq0 : (0 : Int) ≤ q := by omega
      have HQ := Lib.hid hq
      go_wp2
      go_region_with (go_at_call 61; refine (below_any H.out _ _ (by omega) (by omega) _).mono ?_; rintro e w2 ⟨rfl, hf2⟩; obtain ⟨d1, d2, d3, d4, d5⟩ := HWO.out.fr (by rfl) hf2)
      all_goals go_wp2
      all_goals go_roundw
      all_goals try (case measure => simp [intOf]; omega)
      all_goals exact wo_round H.out HQ.out hβ hlt HROW.out hfr (by assumption)
    · obtain rfl : k = L := by omega
      have HROW := Lib.hid hrow
      obtain ⟨e0, e1⟩ := HB1.out.fr hfr
      clear hrow
      go_wp2_with fail
      refine (normAll_any H.out _ _ _ _ _ (by omega) (HROW.out)).mono ?_
      rintro e w2 ⟨rfl, hr2, hg2⟩
      have HR2 := Lib.hid hr2
      clear hr2
      go_wp2_with fail
      go_ret
      have hg2' : w1.grownBy w2 (some w1.heap.size) := (hfr.gr _).trans hg2
      exact ⟨w1.heap.size, m, HM.out.symm, rfl, hf1.size, HR2.out, hf1.trans (Fr.new (Nat.le_refl _) hg2')⟩
end Go.Proofs.Ytflkcelgbnojaaa
