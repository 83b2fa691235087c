/- The contract of the document's own answer to a byte of words. -/
import Derived.Test.YtflkcelgbnojaaaU
namespace Go.Proofs.Ytflkcelgbnojaaa
open Go.RowKit
set_option linter.unusedVariables false

theorem blw_plc {n : Int} {s : Nat} (hs : (s : Int) = szI n) (i : Nat) (hs1 : 2 ≤ s) (big : Bool) : 8 * ((plc s (i % s) big : Nat) : Int) = blw i n big := by
  have hlt : i % s < s := Nat.mod_lt _ (by omega)
  unfold blw plc
  rw [← hs]
  cases big
  · simp
  · simp only [if_true]
    rw [← Int.natCast_emod]; omega

theorem RGetByte_bad {n : Int} (a : Option Addr) (L cap : Nat) (i : Int) (big : Bool) (hi : -9223372036854775808 ≤ i) (hi2 : i ≤ 9223372036854775807) (he : cbE L i n ≠ 0) (w : World) :
    Calls Try.prog 27 #[.slice a L cap, .int .i64 i, .agg #[.int .i64 n, .bool big]] w fun e w' => e = .returned (.tuple #[.int .i64 0, .int .i64 (cbE L i n)]) ∧ Fr w w' := by
  rcases Bool.eq_false_or_eq_true (okB n) with h | h
  · have H := Lib.hid (okB_yes h)
    obtain ⟨s1, s2⟩ := szI_bd H.out
    by_cases g1 : i < 0
    · have he : cbE L i n = 1 := by unfold cbE; rw [if_pos h, if_pos (.inl g1)]
      rw [he]; clear he
      go_enter Try.func27, Try.ntmps27
      go_wp2_with fail
      refine (rValid_any _ _ _).mono ?_; rintro e w1 ⟨rfl, hf⟩
      obtain ⟨c0, c1⟩ := Bx.fr (b := w.heap.size) (Bx.new _ _ _ _) hf
      go_wp2_with fail
      refine (rsize_any H.out _ _).mono ?_; rintro e w2 ⟨rfl, hf2⟩
      go_wp2_with fail
      go_ret2
      exact ⟨rfl, (((Fr.refl w).alloc _).trans hf).trans hf2⟩
    · have q1 : 0 ≤ i / szI n := Int.ediv_nonneg (by omega) (by omega)
      have q2 : i / szI n ≤ i := Int.ediv_le_self _ (by omega)
      by_cases g2 : (L : Int) ≤ i / szI n
      · have he : cbE L i n = 1 := by unfold cbE; rw [if_pos h, if_pos (.inr g2)]
        rw [he]; clear he
        go_enter Try.func27, Try.ntmps27
        go_wp2_with fail
        refine (rValid_any _ _ _).mono ?_; rintro e w1 ⟨rfl, hf⟩
        obtain ⟨c0, c1⟩ := Bx.fr (b := w.heap.size) (Bx.new _ _ _ _) hf
        go_wp2_with fail
        refine (rsize_any H.out _ _).mono ?_; rintro e w2 ⟨rfl, hf2⟩
        go_wp2_with fail
        go_ret2
        exact ⟨rfl, (((Fr.refl w).alloc _).trans hf).trans hf2⟩
      · exact absurd (by unfold cbE; rw [if_pos h, if_neg (by omega)]) he
  · have he : cbE L i n = 3 := by unfold cbE; rw [h]; rfl
    rw [he]; clear he
    go_enter Try.func27, Try.ntmps27
    go_wp2_with fail
    refine (rValid_any _ _ _).mono ?_; rintro e w1 ⟨rfl, hf⟩
    go_wp2_with fail
    go_ret2
    exact ⟨rfl, ((Fr.refl w).alloc _).trans hf⟩

set_option maxHeartbeats 2000000 in
theorem RGetByte_at {n : Int} (hn : OkB n) (s : Nat) (hs : (s : Int) = szI n) (big : Bool) (b off L cap i : Nat) (f : Nat → Int) (w : World) (hq : i / s < L) (hL : L ≤ 1000000) (hr : Row w b off L (fun i => .int .i64 (f i))) :
    Calls Try.prog 27 #[.slice (some ⟨b, off, none⟩) L cap, .int .i64 i, .agg #[.int .i64 n, .bool big]] w fun e w' => e = .returned (.tuple #[.int .i64 (byv (f (i / s)) (blw i n big)), .int .i64 0]) ∧ Fr w w' := by
  have H := Lib.hid hn
  obtain ⟨s1, s2⟩ := szI_bd hn
  have h : okB n = true := by simpa [okB] using hn
  have hs1 : 2 ≤ s := by omega
  have hs2 : s ≤ 4 := by omega
  have hi : i ≤ 4000000 := by
    have := Nat.div_add_mod i s
    have hm : i % s < s := Nat.mod_lt _ (by omega)
    have : s * (i / s) ≤ 4 * (i / s) := Nat.mul_le_mul_right _ hs2
    omega
  obtain ⟨q, hqq⟩ : ∃ q, q = i / s := ⟨_, rfl⟩
  obtain ⟨r, hrr⟩ : ∃ r, r = i % s := ⟨_, rfl⟩
  have hrs : r < s := by rw [hrr]; exact Nat.mod_lt _ (by omega)
  have HPL := Lib.hid (blw_plc hs i hs1 big)
  have HS := Lib.hid hs
  rw [← hqq] at hq ⊢
  have hq2 : (i : Int) / (s : Int) = (q : Int) := by rw [hqq, Int.natCast_ediv]
  have hr2 : (i : Int) % (s : Int) = (r : Int) := by rw [hrr, Int.natCast_emod]
  have hw1 : IntKind.i64.wrap ((i : Int).tdiv (s : Int)) = (q : Int) := by
    rw [Int.tdiv_eq_ediv_of_nonneg (by omega), hq2]; exact IntWalk.i64_in _ (by omega)
  have hw3 : IntKind.i64.wrap (q : Int) = (q : Int) := IntWalk.i64_in _ (by omega)
  have hw4 : (i : Int).tmod (s : Int) = (r : Int) := by rw [Int.tmod_eq_emod_of_nonneg (by omega), hr2]
  have hs0 : ¬ (s : Int) = 0 := by omega
  have hs00 : ¬ s = 0 := by omega
  have hq0 : (0 : Int) ≤ q := by omega
  have hr0 : (0 : Int) ≤ r := by omega
  have hc := hr q hq
  have HC := Lib.hid hc
  have HRR := Lib.hid hrr
  clear hc hr hn hqq hrr hs s1 s2
  go_enter Try.func27, Try.ntmps27
  go_wp2_with fail
  refine (rValid_any _ _ _).mono ?_; rintro e w1 ⟨rfl, hf⟩
  obtain ⟨c0, c1⟩ := Bx.fr (b := w.heap.size) (Bx.new _ _ _ _) hf
  go_wp2_with fail
  refine (rsize_any H.out _ _).mono ?_; rintro e w2 ⟨rfl, hf2⟩
  rw [← HS.out]
  obtain ⟨e0, e1⟩ := Bx.fr (b := w.heap.size) ⟨c0, c1⟩ hf2
  have hfw := ((((Fr.refl w).alloc _).trans hf).trans hf2)
  have ec := hfw.cell HC.out
  clear c0 c1
  go_wp2_with fail
  go_region_with (go_at_call 60; refine (split_any H.out _ _ s HS.out _).mono ?_; rintro e w3 ⟨g3, rfl, hg3, hrow3, hf3⟩; have hc3 := hrow3.cell hrs; have HR3 := Lib.hid hrow3; clear hrow3)
  all_goals go_wp2
  all_goals go_ret2
  all_goals
    refine ⟨?_, hfw.trans (Fr.trans (Fr.drew (Fr.refl _)) (by assumption))⟩
    rw [← HPL.out, ← HRR.out]
    rfl
end Go.Proofs.Ytflkcelgbnojaaa
