/- Contracts of the functions that read bytes of words. -/
import Derived.Test.YtflkcelgbnojaaaP
import Derived.Test.YtflkcelgbnojaaaE
import Derived.Deep.RegionHeld3
namespace Go.Proofs.Ytflkcelgbnojaaa
open Go.RowKit
set_option linter.unusedVariables false

/-- The byte of a word above so many bits. -/
def byv (x sh : Int) : Int := x / 2 ^ sh.toNat % 256
theorem keep4 {w1 W W' : World} {b o g : Nat} {x y z : Value} (k : Fr W W') (h : W.cell? ⟨b, o, none⟩ = some x ∧ W.cell? ⟨g, 0, none⟩ = some y ∧ W.cell? ⟨g, 1, none⟩ = some z ∧ Fr w1 W) :
    W'.cell? ⟨b, o, none⟩ = some x ∧ W'.cell? ⟨g, 0, none⟩ = some y ∧ W'.cell? ⟨g, 1, none⟩ = some z ∧ Fr w1 W' := ⟨k.cell h.1, k.cell h.2.1, k.cell h.2.2.1, h.2.2.2.trans k⟩
theorem last4 {w1 W : World} {b o g : Nat} {x y z : Value} (h : W.cell? ⟨b, o, none⟩ = some x ∧ W.cell? ⟨g, 0, none⟩ = some y ∧ W.cell? ⟨g, 1, none⟩ = some z ∧ Fr w1 W) : Fr w1 W := h.2.2.2
set_option maxHeartbeats 1000000 in
theorem byteAt_any {n : Int} (hn : OkB n) (big : Bool) (b off L cap i : Nat) (f : Nat → Int) (w : World) (hi : i ≤ 4000000000) (hq : i / (szI n).toNat < L) (hL : L ≤ 1073741824) (hr : Row w b off L (fun i => .int .i64 (f i))) :
    Calls Try.prog 58 #[.slice (some ⟨b, off, none⟩) L cap, .int .i64 i, .agg #[.int .i64 n, .bool big]] w fun e w' => e = .returned (.int .u8 (byv (f (i / (szI n).toNat)) (blw i n big))) ∧ Fr w w' := by
  have H := Lib.hid hn
  obtain ⟨s1, s2⟩ := szI_bd hn
  obtain ⟨z1, z2⟩ := blw_bd hn i (by omega) big
  obtain ⟨q, hqq⟩ : ∃ q, q = i / (szI n).toNat := ⟨_, rfl⟩
  rw [← hqq] at hq ⊢
  have hq2 : (i : Int) / szI n = (q : Int) := by
    have e : (((szI n).toNat : Nat) : Int) = szI n := Int.toNat_of_nonneg (by omega)
    rw [hqq, Int.natCast_ediv, e]
  have hw1 : IntKind.i64.wrap ((i : Int).tdiv (szI n)) = (q : Int) := by
    rw [Int.tdiv_eq_ediv_of_nonneg (by omega), hq2]; exact IntWalk.i64_in _ (by omega)
  have hw3 : IntKind.i64.wrap (q : Int) = (q : Int) := IntWalk.i64_in _ (by omega)
  have hs0 : ¬ szI n = 0 := by omega
  have hq0 : (0 : Int) ≤ q := by omega
  have hc := hr q hq
  have HC := Lib.hid hc
  clear hc hr hn hqq
  go_enter Try.func58, Try.ntmps58
  go_wp2
  have hS : (w.alloc (.cells #[.int .i64 n, .bool big] 27)).drew.cell? ⟨b, off + q, none⟩ = some (.int .i64 (f q)) ∧ (w.alloc (.cells #[.int .i64 n, .bool big] 27)).drew.cell? ⟨w.heap.size, 0, none⟩ = some (.int .i64 n) ∧
      (w.alloc (.cells #[.int .i64 n, .bool big] 27)).drew.cell? ⟨w.heap.size, 1, none⟩ = some (.bool big) ∧ Fr w (w.alloc (.cells #[.int .i64 n, .bool big] 27)).drew :=
    ⟨Fr.cell (((Fr.refl w).alloc _).drew) HC.out, by simp, by simp, ((Fr.refl w).alloc _).drew⟩
  go_region_held3 (fun W => W.cell? ⟨b, off + q, none⟩ = some (.int .i64 (f q)) ∧ W.cell? ⟨w.heap.size, 0, none⟩ = some (.int .i64 n) ∧ W.cell? ⟨w.heap.size, 1, none⟩ = some (.bool big) ∧ Fr w W)
    (first | exact hS | exact keep4 (by assumption) (by assumption))
    ((first | (go_at_call 62; refine (size_any H.out _ _).mono ?_; rintro e wx ⟨rfl, hfx⟩) | (go_at_call 61; refine (below_any H.out _ _ (by omega) (by omega) _).mono ?_; rintro e wx ⟨rfl, hfx⟩)))
  all_goals
    have hl := last4 (w1 := w) (b := b) (o := off + q) (g := w.heap.size) (x := .int .i64 (f q)) (y := .int .i64 n) (z := .bool big) (by assumption)
    clear hS
    go_wp2
    go_ret
    exact ⟨ret_int (IntKind.wrap_u8 _), hl⟩

/-- What is wrong with a byte's place. -/
def cbE (L : Nat) (i n : Int) : Int := if okB n then (if i < 0 ∨ (L : Int) ≤ i / szI n then 1 else 0) else 3
theorem checkByte_any (a : Option Addr) (L cap : Nat) (i n : Int) (big : Bool) (hi : -9223372036854775808 ≤ i) (hi2 : i ≤ 9223372036854775807) (w : World) :
    Calls Try.prog 57 #[.slice a L cap, .int .i64 i, .agg #[.int .i64 n, .bool big]] w fun e w' => e = .returned (.int .i64 (cbE L i n)) ∧ Fr w w' := by
  rcases Bool.eq_false_or_eq_true (okB n) with h | h
  · have H := Lib.hid (okB_yes h)
    obtain ⟨s1, s2⟩ := szI_bd H.out
    by_cases g1 : i < 0
    · have he : cbE L i n = 1 := by unfold cbE; rw [if_pos h, if_pos (.inl g1)]
      rw [he]; clear he
      go_enter Try.func57, Try.ntmps57
      go_wp2_with fail
      refine (Valid_any _ _ _).mono ?_; rintro e w1 ⟨rfl, hf⟩
      obtain ⟨c0, c1⟩ := Bx.fr (b := w.heap.size) (Bx.new _ _ _ _) hf
      go_wp2_with fail
      go_ret
      exact ⟨rfl, ((Fr.refl w).alloc _).trans hf⟩
    · have q1 : 0 ≤ i / szI n := Int.ediv_nonneg (by omega) (by omega)
      have q2 : i / szI n ≤ i := Int.ediv_le_self _ (by omega)
      by_cases g2 : (L : Int) ≤ i / szI n
      · have he : cbE L i n = 1 := by unfold cbE; rw [if_pos h, if_pos (.inr g2)]
        rw [he]; clear he
        go_enter Try.func57, Try.ntmps57
        go_wp2_with fail
        refine (Valid_any _ _ _).mono ?_; rintro e w1 ⟨rfl, hf⟩
        obtain ⟨c0, c1⟩ := Bx.fr (b := w.heap.size) (Bx.new _ _ _ _) hf
        go_wp2_with fail
        refine (size_any H.out _ _).mono ?_; rintro e w2 ⟨rfl, hf2⟩
        go_wp2_with fail
        go_ret
        exact ⟨rfl, (((Fr.refl w).alloc _).trans hf).trans hf2⟩
      · have he : cbE L i n = 0 := by unfold cbE; rw [if_pos h, if_neg (by omega)]
        rw [he]; clear he
        go_enter Try.func57, Try.ntmps57
        go_wp2_with fail
        refine (Valid_any _ _ _).mono ?_; rintro e w1 ⟨rfl, hf⟩
        obtain ⟨c0, c1⟩ := Bx.fr (b := w.heap.size) (Bx.new _ _ _ _) hf
        go_wp2_with fail
        refine (size_any H.out _ _).mono ?_; rintro e w2 ⟨rfl, hf2⟩
        go_wp2_with fail
        go_ret
        exact ⟨rfl, (((Fr.refl w).alloc _).trans hf).trans hf2⟩
  · have he : cbE L i n = 3 := by unfold cbE; rw [h]; rfl
    rw [he]; clear he
    go_enter Try.func57, Try.ntmps57
    go_wp2_with fail
    refine (Valid_any _ _ _).mono ?_; rintro e w1 ⟨rfl, hf⟩
    go_wp2_with fail
    go_ret
    exact ⟨rfl, ((Fr.refl w).alloc _).trans hf⟩

/-- What getting a byte answers. -/
def gbV (f : Nat → Int) (L : Nat) (i n : Int) (big : Bool) : Int := if cbE L i n = 0 then byv (f (i.toNat / (szI n).toNat)) (blw i n big) else 0
theorem cbE_ok {L : Nat} {i n : Int} (h : cbE L i n = 0) : OkB n ∧ 0 ≤ i ∧ i / szI n < L := by
  unfold cbE at h
  by_cases h1 : okB n = true
  · rw [if_pos h1] at h
    by_cases h2 : i < 0 ∨ (L : Int) ≤ i / szI n
    · rw [if_pos h2] at h; omega
    · exact ⟨okB_yes h1, by omega, by omega⟩
  · rw [if_neg h1] at h; omega
theorem GetByte_no (a : Option Addr) (L cap : Nat) (i n : Int) (big : Bool) (hi : -9223372036854775808 ≤ i) (hi2 : i ≤ 9223372036854775807) (h : cbE L i n ≠ 0) (w : World) :
    Calls Try.prog 26 #[.slice a L cap, .int .i64 i, .agg #[.int .i64 n, .bool big]] w fun e w' => e = .returned (.tuple #[.int .i64 0, .int .i64 (cbE L i n)]) ∧ Fr w w' := by
  have h1 : (cbE L i n != 0) = true := by simpa using h
  clear h
  go_enter Try.func26, Try.ntmps26
  go_wp2_with fail
  refine (checkByte_any _ _ _ _ _ _ hi hi2 _).mono ?_; rintro e w1 ⟨rfl, hf⟩
  go_wp2_with fail
  go_ret2
  exact ⟨rfl, ((Fr.refl w).alloc _).trans hf⟩
theorem GetByte_at {n : Int} (hn : OkB n) (big : Bool) (b off L cap i : Nat) (f : Nat → Int) (w : World) (hq : (i : Int) / szI n < L) (hL : L ≤ 1000000) (hr : Row w b off L (fun i => .int .i64 (f i))) :
    Calls Try.prog 26 #[.slice (some ⟨b, off, none⟩) L cap, .int .i64 i, .agg #[.int .i64 n, .bool big]] w fun e w' => e = .returned (.tuple #[.int .i64 (byv (f (i / (szI n).toNat)) (blw i n big)), .int .i64 0]) ∧ Fr w w' := by
  have H := Lib.hid hn
  obtain ⟨s1, s2⟩ := szI_bd hn
  have hi : i ≤ 4000000 := by
    unfold szI at hq; rcases hn with rfl | rfl | rfl <;> omega
  have hqn : i / (szI n).toNat < L := by
    have e : (((szI n).toNat : Nat) : Int) = szI n := Int.toNat_of_nonneg (by omega)
    rw [← e, ← Int.natCast_ediv] at hq; omega
  have he : cbE L i n = 0 := by unfold cbE; rw [if_pos (by simpa [okB] using hn), if_neg (by omega)]
  have HE := Lib.hid he
  have HR := Lib.hid hr
  have hbv : 0 ≤ byv (f (i / (szI n).toNat)) (blw i n big) ∧ byv (f (i / (szI n).toNat)) (blw i n big) ≤ 255 := by unfold byv; omega
  obtain ⟨v1, v2⟩ := hbv
  clear hr he hn hq
  go_enter Try.func26, Try.ntmps26
  go_wp2_with fail
  refine (checkByte_any _ _ _ _ _ _ (by omega) (by omega) _).mono ?_; rintro e w1 ⟨rfl, hf⟩
  rw [HE.out]
  obtain ⟨c0, c1⟩ := Bx.fr (b := w.heap.size) (Bx.new _ _ _ _) hf
  go_wp2_with fail
  refine (byteAt_any H.out _ _ _ _ _ _ _ _ (by omega) hqn (by omega) ((HR.out.fr ((Fr.refl w).alloc _)).fr hf)).mono ?_; rintro e w2 ⟨rfl, hf2⟩
  go_wp2_with fail
  go_ret2
  exact ⟨rfl, (((Fr.refl w).alloc _).trans hf).trans hf2⟩
theorem GetByte_any {v : Value} {L : Nat} (f : Nat → Int) (i n : Int) (big : Bool) (w : World) (hi : -9223372036854775808 ≤ i) (hi2 : i ≤ 9223372036854775807) (hL : L ≤ 1000000) (hv : SlV w v L (fun i => .int .i64 (f i))) :
    Calls Try.prog 26 #[v, .int .i64 i, .agg #[.int .i64 n, .bool big]] w fun e w' => e = .returned (.tuple #[.int .i64 (gbV f L i n big), .int .i64 (cbE L i n)]) ∧ Fr w w' := by
  obtain ⟨a, cap, rfl, h⟩ := hv
  unfold gbV
  by_cases he : cbE L i n = 0
  · rw [if_pos he, he]
    obtain ⟨hn, h0, hq⟩ := cbE_ok he
    obtain ⟨k, rfl⟩ := Int.eq_ofNat_of_zero_le h0
    have hs := szI_bd hn
    have q1 : 0 ≤ (k : Int) / szI n := Int.ediv_nonneg (by omega) (by omega)
    obtain ⟨b, off, rfl, hr⟩ := h (by omega)
    exact GetByte_at hn big b off L cap k f w hq hL hr
  · rw [if_neg he]
    exact GetByte_no a L cap i n big hi hi2 he w
end Go.Proofs.Ytflkcelgbnojaaa
