/- Contracts of the functions on bytes of words. -/
import Derived.Test.YtflkcelgbnojaaaW
import Derived.Test.YtflkcelgbnojaaaV
import Derived.StillTailTactics
import Derived.Deep.RegionWith
import Derived.Lib.LazyBuf
namespace Go.Proofs.Ytflkcelgbnojaaa
open Go.RowKit
set_option linter.unusedVariables false

theorem size_any {n : Int} (hn : OkB n) (big : Bool) (w : World) : Calls Try.prog 62 #[.agg #[.int .i64 n, .bool big]] w fun e w' => e = .returned (.int .i64 (szI n)) ∧ Fr w w' := by
  rcases hn with rfl | rfl | rfl
  all_goals
    go_enter Try.func62, Try.ntmps62
    go_wp2
    go_ret
    exact ⟨rfl, (Fr.refl _).alloc _⟩

theorem below_any {n : Int} (hn : OkB n) (big : Bool) (i : Int) (h0 : 0 ≤ i) (h1 : i ≤ 9223372036854775807) (w : World) : Calls Try.prog 61 #[.int .i64 i, .agg #[.int .i64 n, .bool big]] w fun e w' => e = .returned (.int .i64 (blw i n big)) ∧ Fr w w' := by
  have H := Lib.hid hn
  obtain ⟨s1, s2⟩ := szI_bd hn
  have m1 := Int.emod_nonneg i (b := szI n) (by omega)
  have m2 := Int.emod_lt_of_pos i (b := szI n) (by omega)
  clear hn
  cases big
  all_goals
    go_enter Try.func61, Try.ntmps61
    go_wp2_with (go_at_call 62; refine (size_any H.out _ _).mono ?_; rintro e w1 ⟨rfl, hf⟩; obtain ⟨c0, c1⟩ := Bx.fr (b := w.heap.size) (by first | exact Bx.new _ _ _ _ | exact ⟨by assumption, by assumption⟩) hf)
    go_ret
    refine ⟨rfl, ?_⟩
    first | exact ((Fr.refl _).alloc _).trans (Fr.trans (by assumption) (by assumption)) | exact ((Fr.refl _).alloc _).trans (by assumption)

theorem normAll_any {n : Int} (hn : OkB n) (big : Bool) (g L : Nat) (f : Nat → Int) (w : World) (hL : L ≤ 281474976710656) (hr : w.rowIs g 3 L (fun i => .int .i64 (f i))) :
    Calls Try.prog 63 #[.slice (some ⟨g, 0, none⟩) L L, .agg #[.int .i64 n, .bool big]] w fun e w' => e = .returned (.tuple #[]) ∧ w'.rowIs g 3 L (fun i => .int .i64 (nrm (f i) n)) ∧ Gr w w' g := by
  have H := Lib.hid hn
  have hg := hr.lt
  have HR := Lib.hid hr
  clear hr hn
  go_enter Try.func63, Try.ntmps63
  go_wp2
  go_loopw [7] (fun i wr => ∃ k : Nat, k ≤ L ∧ i = .int .i64 k ∧ wr.rowIs g 3 L (fun j => .int .i64 (if j < k then nrm (f j) n else f j)) ∧ Gr w wr g ∧ Bx wr w.heap.size n big) (fun i _ => L - (intOf i).toNat)
  case atStart => exact ⟨0, Nat.zero_le _, rfl, (HR.out.alloc _).congr (fun i _ => by simp), (Gr.refl _ _).alloc _, Bx.new _ _ _ _⟩
  case round =>
    obtain ⟨k, hk, rfl, hrow, hgr, hbx⟩ := hrel
    by_cases hlt : k < L
    · have hc := hrow.cell hlt
      have hfz := hrow.frozen k
      simp only [Nat.lt_irrefl, if_false] at hc
      have HROW := Lib.hid hrow
      have HBX := Lib.hid hbx
      obtain ⟨c0, c1⟩ := hbx
      clear hrow
      go_wp2
      go_region_with (go_at_call 45; refine (normed_any H.out _ _).mono ?_; rintro e w' ⟨rfl, rfl⟩)
      all_goals go_wp2
      all_goals go_roundw
      all_goals try (case measure => simp [intOf]; omega)
      all_goals
        refine ⟨k + 1, by omega, by go_num, (HROW.out.set k _).congr (fun j hj => ?_), (hgr.set k _).drew, HBX.out.gr (((Gr.refl _ g).set k _).drew) (Nat.ne_of_gt hg)⟩
        by_cases hjk : j = k
        · subst hjk; rw [if_pos rfl, if_pos (by omega)]
        · rw [if_neg hjk]; congr 2; simp only [eq_iff_iff]; omega
    · obtain rfl : k = L := by omega
      have HROW := Lib.hid hrow
      clear hrow
      go_wp2
      go_end0
      exact ⟨rfl, HROW.out.congr (fun j hj => by rw [if_pos hj]), hgr⟩

end Go.Proofs.Ytflkcelgbnojaaa
