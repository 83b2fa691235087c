/- Contracts of the functions that turn words into bytes and back. -/
import Derived.Test.YtflkcelgbnojaaaI
import Derived.Test.YtflkcelgbnojaaaO
namespace Go.Proofs.Ytflkcelgbnojaaa
open Go.RowKit
set_option linter.unusedVariables false

set_option maxHeartbeats 1000000 in
theorem wordsOf_0 {n : Int} (hn : OkB n) (big : Bool) (a : Option Addr) (cap : Nat) (w : World) :
    Calls Try.prog 65 #[.slice a 0 cap, .agg #[.int .i64 n, .bool big]] w fun e w' =>
      ∃ g : Nat, e = .returned (.slice (some ⟨g, 0, none⟩) 0 0) ∧ Fr w w' := by
  have H := Lib.hid hn
  obtain ⟨s1, s2⟩ := szI_bd hn
  have q0 : (0 : Int) / szI n = 0 := Int.zero_ediv _
  have hmk : ∀ W : World, (Instr.makeSlice 37 (.int .i64 0) (.int .i64 0)).run Try.prog W = .ok (.slice (some ⟨W.heap.size, 0, none⟩) 0 0) (W.alloc (.cells (madeCells #[.int .i64 0] 0) 3)) :=
    fun W => run_make_row' _ _ _ 8 Try.underlying37 (by kernel_rfl) rfl _ _ 0 (by omega) (by omega) W
  clear hn
  go_enter Try.func65, Try.ntmps65
  go_wp2_with fail
  refine (size_any H.out _ _).mono ?_; rintro e w1 ⟨rfl, hf⟩
  have hf1 : Fr w w1 := ((Fr.refl _).alloc _).trans hf
  obtain ⟨c0, c1⟩ := Bx.fr (b := w.heap.size) (Bx.new _ _ _ _) hf
  have hrow1 := World.rowIs_made w1 (.int .i64 0) 0 3
  have HW1 := Lib.hid hrow1
  clear hrow1 hf
  go_wp2_with fail
  go_loopw [17] (fun i wr => i = .int .i64 0 ∧ wr = w1.alloc (.cells (madeCells #[.int .i64 0] 0) 3)) (fun _ _ => 0)
  case atStart => exact ⟨rfl, rfl⟩
  case round =>
    obtain ⟨rfl, rfl⟩ := hrel
    obtain ⟨e0, e1⟩ := Bx.fr (b := w.heap.size) ⟨c0, c1⟩ ((Fr.refl w1).alloc (.cells (madeCells #[.int .i64 0] 0) 3))
    go_wp2_with fail
    refine (normAll_any H.out _ _ 0 (fun _ => 0) _ (by omega) (HW1.out.congr (fun i hi => absurd hi (by omega)))).mono ?_
    rintro e w2 ⟨rfl, hr2, hg2⟩
    clear hr2
    go_wp2_with fail
    go_ret
    exact ⟨w1.heap.size, rfl, hf1.trans (Fr.new (Nat.le_refl _) (Gr.trans ((Gr.refl _ _).alloc _) hg2))⟩
/-- What is wrong with bytes that should be words. -/
def wdE (L : Nat) (n : Int) : Int := if okB n then (if (L : Int) % szI n = 0 then 0 else 3) else 3
theorem Words_any {v : Value} {L : Nat} (β : Nat → Nat) (n : Int) (big : Bool) (w : World) (hL : L ≤ 1000000) (hβ : ∀ i, i < L → β i < 256) (hv : SlV w v L (fun i => .int .u8 (β i))) :
    Calls Try.prog 38 #[v, .agg #[.int .i64 n, .bool big]] w fun e w' =>
      ∃ (v' : Value) (m : Nat), e = .returned (.tuple #[v', .int .i64 (wdE L n)]) ∧ (m : Int) = (if wdE L n = 0 then (L : Int) / szI n else 0) ∧ SlV w' v' m (fun j => .int .i64 (nrm (wv β n big L j) n)) ∧ Fr w w' := by
  have HV := Lib.hid hv
  obtain ⟨a, cap, rfl, h⟩ := hv
  rcases Bool.eq_false_or_eq_true (okB n) with hb | hb
  · have H := Lib.hid (okB_yes hb)
    obtain ⟨s1, s2⟩ := szI_bd H.out
    have m1 := Int.emod_nonneg (L : Int) (b := szI n) (by omega)
    by_cases hm : (L : Int) % szI n = 0
    · have he : wdE L n = 0 := by unfold wdE; rw [if_pos hb, if_pos hm]
      rw [he, if_pos rfl]
      have ht : ((L : Int) % szI n != 0) = false := by rw [hm]; rfl
      have HM := Lib.hid hm
      clear hm he
      go_enter Try.func38, Try.ntmps38
      go_wp2_with fail
      refine (Valid_any _ _ _).mono ?_; rintro e w1 ⟨rfl, hf⟩
      obtain ⟨c0, c1⟩ := Bx.fr (b := w.heap.size) (Bx.new _ _ _ _) hf
      go_wp2_with fail
      refine (size_any H.out _ _).mono ?_; rintro e w2 ⟨rfl, hf2⟩
      obtain ⟨d0, d1⟩ := Bx.fr (b := w.heap.size) ⟨c0, c1⟩ hf2
      have hfw := ((((Fr.refl w).alloc _).trans hf).trans hf2)
      clear c0 c1
      go_wp2_with fail
      by_cases h0 : L = 0
      · subst h0
        refine (wordsOf_0 H.out _ _ _ _).mono ?_
        rintro e w3 ⟨g, rfl, hf3⟩
        go_wp2_with fail
        go_ret2
        exact ⟨_, 0, rfl, by rw [Int.natCast_zero, Int.zero_ediv], ⟨_, 0, rfl, fun h => absurd h (by omega)⟩, hfw.trans hf3⟩
      · obtain ⟨b, off, rfl, hr⟩ := h (by omega)
        refine (wordsOf_any H.out _ b off L cap β _ (by omega) HM.out hβ (hr.fr hfw)).mono ?_
        rintro e w3 ⟨g, m, hm3, rfl, hg3, hr3, hf3⟩
        have HR3 := Lib.hid hr3
        have HM3 := Lib.hid hm3
        clear hr3 hm3
        go_wp2_with fail
        go_ret2
        exact ⟨_, m, rfl, HM3.out, SlV.row HR3.out, hfw.trans hf3⟩
    · have he : wdE L n = 3 := by unfold wdE; rw [if_pos hb, if_neg hm]
      rw [he, if_neg (by decide)]
      have ht : ((L : Int) % szI n != 0) = true := by rw [bne_iff_ne]; exact hm
      clear hm he
      go_enter Try.func38, Try.ntmps38
      go_wp2_with fail
      refine (Valid_any _ _ _).mono ?_; rintro e w1 ⟨rfl, hf⟩
      obtain ⟨c0, c1⟩ := Bx.fr (b := w.heap.size) (Bx.new _ _ _ _) hf
      go_wp2_with fail
      refine (size_any H.out _ _).mono ?_; rintro e w2 ⟨rfl, hf2⟩
      go_wp2_with fail
      go_ret2
      exact ⟨_, 0, rfl, rfl, SlV.nil _ _, ((((Fr.refl w).alloc _).trans hf).trans hf2)⟩
  · have he : wdE L n = 3 := by unfold wdE; rw [hb]; rfl
    rw [he, if_neg (by decide)]
    go_enter Try.func38, Try.ntmps38
    go_wp2_with fail
    refine (Valid_any _ _ _).mono ?_; rintro e w1 ⟨rfl, hf⟩
    go_wp2_with fail
    go_ret2
    exact ⟨_, 0, rfl, rfl, SlV.nil _ _, ((Fr.refl w).alloc _).trans hf⟩

/-- Byte j of words. -/
def bf (f : Nat → Int) (n : Int) (big : Bool) (j : Nat) : Int := byv (f (j / (szI n).toNat)) (blw j n big)
set_option maxHeartbeats 1000000 in
theorem Bytes_at {n : Int} (hn : OkB n) (big : Bool) (a : Option Addr) (L cap M : Nat) (f : Nat → Int) (w : World) (hM : (L : Int) * szI n = (M : Int)) (hL : L ≤ 100000) (hr : 0 < L → ∃ b off, a = some ⟨b, off, none⟩ ∧ Row w b off L (fun i => .int .i64 (f i))) :
    Calls Try.prog 35 #[.slice a L cap, .agg #[.int .i64 n, .bool big]] w fun e w' =>
      ∃ g : Nat, e = .returned (.tuple #[.slice (some ⟨g, 0, none⟩) M M, .int .i64 0]) ∧ w.heap.size ≤ g ∧ w'.rowIs g 5 M (fun j => .int .u8 (bf f n big j)) ∧ Fr w w' := by
  have H := Lib.hid hn
  obtain ⟨s1, s2⟩ := szI_bd hn
  have hb : okB n = true := by simpa [okB] using hn
  have hM4 : M ≤ 400000 := by
    have h1 : (L : Int) * szI n ≤ L * 4 := Int.mul_le_mul_of_nonneg_left s2 (by omega)
    omega
  have p1 : 0 ≤ (L : Int) * szI n := by omega
  have p2 : (L : Int) * szI n ≤ 400000 := by omega
  have hmk : ∀ W : World, (Instr.makeSlice 46 (.int .i64 ((L : Int) * szI n)) (.int .i64 ((L : Int) * szI n))).run Try.prog W = .ok (.slice (some ⟨W.heap.size, 0, none⟩) M M) (W.alloc (.cells (madeCells #[.int .u8 0] M) 5)) := by
    rw [hM]; exact fun W => run_make_row' _ _ _ 1 Try.underlying46 (by kernel_rfl) rfl _ _ M (by omega) (by omega) W
  have HM := Lib.hid hM
  clear hn hM
  go_enter Try.func35, Try.ntmps35
  go_wp2_with fail
  refine (Valid_any _ _ _).mono ?_; rintro e w1 ⟨rfl, hf⟩
  obtain ⟨c0, c1⟩ := Bx.fr (b := w.heap.size) (Bx.new _ _ _ _) hf
  go_wp2_with fail
  refine (size_any H.out _ _).mono ?_; rintro e w2 ⟨rfl, hf2⟩
  have HB := Lib.hid (Bx.fr (b := w.heap.size) ⟨c0, c1⟩ hf2)
  have hfw := ((((Fr.refl w).alloc _).trans hf).trans hf2)
  have HW := Lib.hid (World.rowIs_made w2 (.int .u8 0) M 5)
  clear c0 c1 hf hf2
  go_wp2_with fail
  go_loopw [19] (fun i wr => ∃ k : Nat, k ≤ M ∧ i = .int .i64 k ∧ wr.rowIs w2.heap.size 5 M (fun j => .int .u8 (if j < k then bf f n big j else 0)) ∧ Fr w2 wr) (fun i _ => M - (intOf i).toNat)
  case atStart => exact ⟨0, Nat.zero_le _, rfl, HW.out.congr (fun j _ => by simp), (Fr.refl _).alloc _⟩
  case round =>
    obtain ⟨k, hk, rfl, hrow, hfr⟩ := hrel
    have HROW := Lib.hid hrow
    clear hrow
    by_cases hlt : k < M
    · have hs : (((szI n).toNat : Nat) : Int) = szI n := Int.toNat_of_nonneg (by omega)
      have hq : k / (szI n).toNat < L := by
        rw [Nat.div_lt_iff_lt_mul (by omega)]
        have h1 := HM.out
        rw [← hs, ← Int.natCast_mul] at h1
        omega
      obtain ⟨b, off, rfl, hrw⟩ := hr (Nat.lt_of_le_of_lt (Nat.zero_le _) hq)
      have HRW := Lib.hid ((hrw.fr hfw).fr hfr)
      obtain ⟨d0, d1⟩ := HB.out.fr hfr
      clear hrw
      go_wp2_with fail
      refine (byteAt_any H.out _ _ _ _ _ _ _ _ (by omega) hq (by omega) HRW.out).mono ?_
      rintro e w3 ⟨rfl, hf3⟩
      have hrow3 := hf3.row HROW.out
      have hc3 := hrow3.cell hlt
      have hz3 := hrow3.frozen k
      have HROW3 := Lib.hid hrow3
      clear hrow3 d0 d1
      go_wp2_with fail
      go_roundw
      case rel =>
        refine ⟨k + 1, by omega, by go_num, (HROW3.out.set k _).congr (fun j hj => ?_), (hfr.trans hf3).setCell (Nat.le_refl _) _⟩
        by_cases hjk : j = k
        · subst hjk; rw [if_pos rfl, if_pos (by omega)]; rfl
        · rw [if_neg hjk]; congr 2; simp only [eq_iff_iff]; omega
      case measure => simp [intOf]; omega
    · obtain rfl : k = M := by omega
      go_wp2_with fail
      go_ret2
      exact ⟨w2.heap.size, rfl, hfw.size, HROW.out.congr (fun j hj => by rw [if_pos hj]), hfw.trans hfr⟩
theorem Bytes_no (v : Value) (n : Int) (big : Bool) (h : okB n = false) (w : World) :
    Calls Try.prog 35 #[v, .agg #[.int .i64 n, .bool big]] w fun e w' => e = .returned (.tuple #[.slice none 0 0, .int .i64 3]) ∧ Fr w w' := by
  go_enter Try.func35, Try.ntmps35
  go_wp2_with fail
  refine (Valid_any _ _ _).mono ?_; rintro e w1 ⟨rfl, hf⟩
  go_wp2_with fail
  go_ret2
  exact ⟨rfl, ((Fr.refl w).alloc _).trans hf⟩
end Go.Proofs.Ytflkcelgbnojaaa
