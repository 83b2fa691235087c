/- Any byte of words, and the words with it changed, or the error, are as the document's own answers give them: for every input of at most 300 words, as the statement says. -/
import Derived.Test.YtflkcelgbnojaaaPC
import Derived.Test.YtflkcelgbnojaaaPM
import Derived.Test.YtflkcelgbnojaaaZG
namespace Go.Proofs.Ytflkcelgbnojaaa.wordBytes
open Go.ChangeShapes Go.WideShapes Go.ChangeAt Go.RowKit
set_option linter.unusedVariables false

theorem RGetByte_any {v : Value} {L : Nat} (f : Nat → Int) (i n : Int) (big : Bool) (w : World) (hi : -9223372036854775808 ≤ i) (hi2 : i ≤ 9223372036854775807) (hL : L ≤ 1000000) (hv : SlV w v L (fun i => .int .i64 (f i))) :
    Calls Try.prog 27 #[v, .int .i64 i, .agg #[.int .i64 n, .bool big]] w fun e w' => e = .returned (.tuple #[.int .i64 (gbV f L i n big), .int .i64 (cbE L i n)]) ∧ Fr w w' := by
  obtain ⟨a, cap, rfl, h⟩ := hv
  unfold gbV
  by_cases he : cbE L i n = 0
  · rw [if_pos he, he]
    obtain ⟨hn, h0, hq⟩ := cbE_ok he
    obtain ⟨k, rfl⟩ := Int.eq_ofNat_of_zero_le h0
    have hs := szI_bd hn
    have e : (((szI n).toNat : Nat) : Int) = szI n := Int.toNat_of_nonneg (by omega)
    have hq' : k / (szI n).toNat < L := by
      rw [← e, ← Int.natCast_ediv] at hq; omega
    obtain ⟨b, off, rfl, hr⟩ := h (Nat.lt_of_le_of_lt (Nat.zero_le _) hq')
    exact RGetByte_at hn _ e big b off L cap k f w hq' hL hr
  · rw [if_neg he]
    exact RGetByte_bad a L cap i big hi hi2 he w
theorem RPutByte_no {n : Int} (a : Option Addr) (L cap : Nat) (i v : Int) (big : Bool) (hi : -9223372036854775808 ≤ i) (hi2 : i ≤ 9223372036854775807) (he : cbE L i n ≠ 0) (w : World) :
    Calls Try.prog 29 #[.slice a L cap, .int .i64 i, .int .i64 v, .agg #[.int .i64 n, .bool big]] w fun e w' => e = .returned (.tuple #[.slice none 0 0, .int .i64 (cbE L i n)]) ∧ Fr w w' := by
  rcases Bool.eq_false_or_eq_true (okB n) with h | h
  · have H := Lib.hid (okB_yes h)
    obtain ⟨s1, s2⟩ := szI_bd H.out
    by_cases g1 : i < 0
    · have he : cbE L i n = 1 := by unfold cbE; rw [if_pos h, if_pos (.inl g1)]
      rw [he]; clear he
      go_enter Try.func29, Try.ntmps29
      go_wp2_with fail
      refine (rValid_any _ _ _).mono ?_; rintro e w1 ⟨rfl, hf⟩
      obtain ⟨c0, c1⟩ := Bx.fr (b := w.heap.size) (Bx.new _ _ _ _) hf
      go_wp2_with fail
      refine (rsize_any H.out _ _).mono ?_; rintro e w2 ⟨rfl, hf2⟩
      go_wp2_with fail
      go_ret2
      exact ⟨rfl, (((Fr.refl w).alloc _).trans hf).trans hf2⟩
    · have q1 : 0 ≤ i / szI n := Int.ediv_nonneg (by omega) (by omega)
      have q2 : i / szI n ≤ i := Int.ediv_le_self _ (by omega)
      by_cases g2 : (L : Int) ≤ i / szI n
      · have he : cbE L i n = 1 := by unfold cbE; rw [if_pos h, if_pos (.inr g2)]
        rw [he]; clear he
        go_enter Try.func29, Try.ntmps29
        go_wp2_with fail
        refine (rValid_any _ _ _).mono ?_; rintro e w1 ⟨rfl, hf⟩
        obtain ⟨c0, c1⟩ := Bx.fr (b := w.heap.size) (Bx.new _ _ _ _) hf
        go_wp2_with fail
        refine (rsize_any H.out _ _).mono ?_; rintro e w2 ⟨rfl, hf2⟩
        go_wp2_with fail
        go_ret2
        exact ⟨rfl, (((Fr.refl w).alloc _).trans hf).trans hf2⟩
      · exact absurd (by unfold cbE; rw [if_pos h, if_neg (by omega)]) he
  · have he : cbE L i n = 3 := by unfold cbE; rw [h]; rfl
    rw [he]; clear he
    go_enter Try.func29, Try.ntmps29
    go_wp2_with fail
    refine (rValid_any _ _ _).mono ?_; rintro e w1 ⟨rfl, hf⟩
    go_wp2_with fail
    go_ret2
    exact ⟨rfl, ((Fr.refl w).alloc _).trans hf⟩

/-- The words with a byte changed. -/
def pbF (f : Nat → Int) (i v n : Int) (big : Bool) (j : Nat) : Int := nrm (if j = i.toNat / (szI n).toNat then pb (f j) (v % 256) (blw i n big).toNat else f j) n
def pbL (L : Nat) (i n : Int) : Nat := if cbE L i n = 0 then L else 0
theorem PutByte_any {v : Value} {L : Nat} (f : Nat → Int) (i x n : Int) (big : Bool) (w : World) (hi : -9223372036854775808 ≤ i) (hi2 : i ≤ 9223372036854775807) (hL : L ≤ 1000000) (hv : SlV w v L (fun i => .int .i64 (f i))) :
    Calls Try.prog 28 #[v, .int .i64 i, .int .i64 x, .agg #[.int .i64 n, .bool big]] w fun e w' => ∃ v' : Value, e = .returned (.tuple #[v', .int .i64 (cbE L i n)]) ∧ SlV w' v' (pbL L i n) (fun j => .int .i64 (pbF f i x n big j)) ∧ Fr w w' := by
  obtain ⟨a, cap, rfl, h⟩ := hv
  unfold pbL
  by_cases he : cbE L i n = 0
  · rw [if_pos he, he]
    obtain ⟨hn, h0, hq⟩ := cbE_ok he
    obtain ⟨k, rfl⟩ := Int.eq_ofNat_of_zero_le h0
    have hs := szI_bd hn
    have e : (((szI n).toNat : Nat) : Int) = szI n := Int.toNat_of_nonneg (by omega)
    have hq' : k / (szI n).toNat < L := by
      rw [← e, ← Int.natCast_ediv] at hq; omega
    obtain ⟨b, off, rfl, hr⟩ := h (Nat.lt_of_le_of_lt (Nat.zero_le _) hq')
    exact (PutByte_at hn _ e big b off L cap k x f w hq' hL hr).mono fun e' w' ⟨g, h1, _, h3, h4⟩ => ⟨_, h1, SlV.row h3, h4⟩
  · rw [if_neg he]
    exact (PutByte_no a L cap i x n big hi hi2 he w).mono fun e' w' ⟨h1, h2⟩ => ⟨_, h1, SlV.nil _ _, h2⟩
theorem RPutByte_any {v : Value} {L : Nat} (f : Nat → Int) (i x n : Int) (big : Bool) (w : World) (hi : -9223372036854775808 ≤ i) (hi2 : i ≤ 9223372036854775807) (hL : L ≤ 1000000) (hv : SlV w v L (fun i => .int .i64 (f i))) :
    Calls Try.prog 29 #[v, .int .i64 i, .int .i64 x, .agg #[.int .i64 n, .bool big]] w fun e w' => ∃ v' : Value, e = .returned (.tuple #[v', .int .i64 (cbE L i n)]) ∧ SlV w' v' (pbL L i n) (fun j => .int .i64 (pbF f i x n big j)) ∧ Fr w w' := by
  obtain ⟨a, cap, rfl, h⟩ := hv
  unfold pbL
  by_cases he : cbE L i n = 0
  · rw [if_pos he, he]
    obtain ⟨hn, h0, hq⟩ := cbE_ok he
    obtain ⟨k, rfl⟩ := Int.eq_ofNat_of_zero_le h0
    have hs := szI_bd hn
    have e : (((szI n).toNat : Nat) : Int) = szI n := Int.toNat_of_nonneg (by omega)
    have hq' : k / (szI n).toNat < L := by
      rw [← e, ← Int.natCast_ediv] at hq; omega
    obtain ⟨b, off, rfl, hr⟩ := h (Nat.lt_of_le_of_lt (Nat.zero_le _) hq')
    refine (RPutByte_at hn _ e big b off L cap k x f w hq' hL hr).mono fun e' w' ⟨v', h1, h3, h4⟩ => ⟨v', h1, ?_, h4⟩
    have hfn : (fun j => Value.int .i64 (nrm (jn (lk f (szI n).toNat (k / (szI n).toNat) (k % (szI n).toNat) x big j) (szI n).toNat big (szI n).toNat) n)) = (fun j => Value.int .i64 (pbF f (k : Int) x n big j)) :=
      funext fun j => congrArg (Value.int .i64) (put_same hn e big f k j x)
    rw [hfn] at h3
    exact h3
  · rw [if_neg he]
    exact (RPutByte_no a L cap i x big hi hi2 he w).mono fun e' w' ⟨h1, h2⟩ => ⟨_, h1, SlV.nil _ _, h2⟩
theorem eqL_self (L : Nat) (f : Nat → Int) : eqL L L f f = true := decide_eq_true ⟨rfl, fun _ _ => rfl⟩

theorem walk (v0 : Value) (L0 : Nat) (f0 : Nat → Int) {W : World} (s0 : SlV W v0 L0 (fun i => .int .i64 (f0 i))) (a1 : Int) (w1 : (Lit.int .i64 a1).wf = true) (a2 : Int) (w2 : (Lit.int .i64 a2).wf = true) (n3 : Int) (b3 : Bool) (w3 : (Lit.int .i64 n3).wf = true) :
    Calls Try.prog 7 #[v0, .int .i64 a1, .int .i64 a2, .agg #[.int .i64 n3, .bool b3]] W fun e w' => e = .returned (.bool true) ∧ Fr W w' := by
  have hb : -9223372036854775808 ≤ a1 ∧ a1 ≤ 9223372036854775807 := by
    simp only [Lit.wf, Bool.and_eq_true, decide_eq_true_eq] at w1
    have h1 : IntKind.i64.min = -9223372036854775808 := rfl
    have h2 : IntKind.i64.max = 9223372036854775807 := rfl
    omega
  obtain ⟨hb1, hb2⟩ := hb
  have HS := Lib.hid s0
  obtain ⟨a, cap, rfl, _⟩ := s0
  clear w1 w2 w3
  by_cases hL : 300 < L0
  · go_enter Try.func7, Try.ntmps7
    go_wp2_with fail
    go_ret
    exact ⟨rfl, (Fr.refl _).alloc _⟩
  · go_enter Try.func7, Try.ntmps7
    go_wp2_with fail
    have hf0 : Fr W (W.alloc (.cells #[.int .i64 n3, .bool b3] 27)) := (Fr.refl _).alloc _
    refine (GetByte_any f0 a1 n3 b3 _ hb1 hb2 (by omega) (HS.out.fr hf0)).mono ?_
    rintro e w1 ⟨rfl, hf1⟩
    have hf1' := hf0.trans hf1
    obtain ⟨c0, c1⟩ := Bx.fr (b := W.heap.size) (Bx.new _ _ _ _) hf1
    go_wp2_with fail
    refine (RGetByte_any f0 a1 n3 b3 _ hb1 hb2 (by omega) (HS.out.fr hf1')).mono ?_
    rintro e w2 ⟨rfl, hf2⟩
    have hf2' := hf1'.trans hf2
    obtain ⟨d0, d1⟩ := Bx.fr (b := W.heap.size) ⟨c0, c1⟩ hf2
    go_wp2_with fail
    refine (PutByte_any f0 a1 a2 n3 b3 _ hb1 hb2 (by omega) (HS.out.fr hf2')).mono ?_
    rintro e w3 ⟨v3, rfl, s3, hf3⟩
    have hf3' := hf2'.trans hf3
    have HS3 := Lib.hid s3
    obtain ⟨e0, e1⟩ := Bx.fr (b := W.heap.size) ⟨d0, d1⟩ hf3
    clear s3 c0 c1 d0 d1
    go_wp2_with fail
    refine (RPutByte_any f0 a1 a2 n3 b3 _ hb1 hb2 (by omega) (HS.out.fr hf3')).mono ?_
    rintro e w4 ⟨v4, rfl, s4, hf4⟩
    have hf4' := hf3'.trans hf4
    have HS4 := Lib.hid s4
    have HS3' := Lib.hid (HS3.out.fr hf4)
    clear s4 e0 e1
    have hpl : pbL L0 a1 n3 ≤ 16777216 := by unfold pbL; split <;> omega
    go_wp2_with first
      | (go_at_call 30; refine (EqInts_any hpl _ HS3'.out HS4.out).mono ?_; rintro e w5 ⟨rfl, hf5⟩; rw [eqL_self])
      | (go_at_call 19; refine (awake_any _).mono ?_; rintro e w' ⟨rfl, hfa⟩)
    go_ret
    exact ⟨rfl, (hf4'.trans (by assumption)).trans (by assumption)⟩

set_option maxRecDepth 100000 in
theorem lifted (os : Os) (started : os.Started) (H : Type) (enc : TypeId × Value → H) :
    ReturnsInHanded {} Try.checked os 7 .any (Rows.wordBytesSpec.pre6 enc Try.prog Try.f7 Rows.wordBytesRow.domain false) (Rows.wordBytesSpec.post enc Try.prog Try.f7 false true false false) := by
  refine returnsInHanded_of_change (C := Try.checked) own started (by kernel_rfl) Try.func7
    (ChangeSpec.witness6 (enc := enc) (C := Try.checked) false ⟨#[], #[.slice none 0 0, .int .i64 0, .int .i64 0, .agg #[.int .i64 0, .bool false]], []⟩ 8 (by kernel_rfl) (by kernel_rfl) (by kernel_rfl) (by kernel_rfl)) ?_
  intro W base args ds gs before hval0 hW hcnd _
  have hval : ∀ (j : Nat) t v, Try.f7.params[j]? = some t → args[j]? = some v → Value.okWide Try.prog W .any base t v := hval0
  have hW' := hW
  obtain ⟨p, q, hA0, hV, rfl, hfz, hnd⟩ := hW
  obtain ⟨rfl, rfl⟩ := trodVars_none hV
  simp only [List.append_nil] at hW'
  have hA : DataW.TrodAll enc Try.prog W 0 (fun _ => true) true Try.f7.params.toList args.toList ds p := hA0
  have hA1 := hA
  rw [Try.params7] at hA hval
  obtain ⟨v0, vs0, d0, ds0, p0, q0, hargs, rfl, rfl, h0, r0⟩ := trodAll_cons hA
  obtain ⟨v1, vs1, d1, ds1, p1, q1, rfl, rfl, rfl, h1, r1⟩ := trodAll_cons r0
  obtain ⟨v2, vs2, d2, ds2, p2, q2, rfl, rfl, rfl, h2, r2⟩ := trodAll_cons r1
  obtain ⟨v3, vs3, d3, ds3, p3, q3, rfl, rfl, rfl, h3, r3⟩ := trodAll_cons r2
  obtain ⟨rfl, rfl, rfl⟩ := trodAll_nil r3
  obtain rfl : args = #[v0, v1, v2, v3] := by cases args; simp_all
  obtain ⟨L0, f0, s0⟩ := open_sl (hval 0 37 v0 rfl rfl) h0
  obtain ⟨a1, rfl, _, _, w1⟩ := open_int Try.underlying3 (hval 1 3 v1 rfl rfl) h1
  obtain ⟨a2, rfl, _, _, w2⟩ := open_int Try.underlying3 (hval 2 3 v2 rfl rfl) h2
  obtain ⟨n3, b3, rfl, w3⟩ := open_form (hval 3 27 v3 rfl rfl) h3
  clear hA0 hval0
  refine (walk v0 L0 f0 s0 a1 w1 a2 w2 n3 b3 w3).mono fun e W' ⟨he, hg⟩ => ?_
  subst he
  exact ⟨_, rfl, post_law laidOut (by rw [Try.params7]; intro t ht; simp only [List.mem_cons, List.not_mem_nil, or_false] at ht; rcases ht with rfl | rfl | rfl | rfl <;> exact ⟨by kernel_rfl, of_decide_eq_true (by kernel_rfl)⟩) rfl hW' hA1 hg (fun _ _ _ => (trodAll_cons_mk (shut_bool Try.underlying4 _) trodAll_mk0)) rfl rfl⟩

theorem proved : Rows.WordBytesSaid :=
  OpenClaim.holds_of_wide 7 Try.f7 rfl rfl rfl rfl rfl rfl rfl ⟨rfl, rfl, rfl, rfl, rfl⟩ rfl rfl rfl rfl rfl (by kernel_rfl) Try.func7 (by kernel_rfl)
    (of_decide_eq_true (by kernel_rfl)) (by unfold Func.isWrapper; first | (rw [if_pos (by decide +kernel)]; kernel_rfl) | (rw [if_neg (by decide +kernel)]; exact ⟨rfl, rfl⟩))
    (fun os started H enc _ => lifted os started H enc)
#print axioms proved
end Go.Proofs.Ytflkcelgbnojaaa.wordBytes
