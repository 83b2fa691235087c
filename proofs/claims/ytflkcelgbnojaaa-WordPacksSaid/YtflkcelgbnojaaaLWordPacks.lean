/- The words of a string, the string of any words, and the bytes of words, or the errors, are as the document's own answers give them: for every input of at most 600 bytes and 300 words, as the statement says. -/
import Derived.Test.YtflkcelgbnojaaaPK
import Derived.Test.YtflkcelgbnojaaaY
import Derived.Test.YtflkcelgbnojaaaZG
import Derived.Lib.ConvBytes
import Derived.ChangeMaps5
namespace Go.Proofs.Ytflkcelgbnojaaa.wordPacks
open Go.ChangeShapes Go.WideShapes Go.ChangeAt Go.RowKit
set_option linter.unusedVariables false

theorem open_str {H : Type} {enc : TypeId × Value → H} {W : World} {base : Nat} {v : Value} {d : DataW H} {p : List MemPlace} (hval : Value.okWide Try.prog W .any base 9 v) (h : DataW.Trod enc Try.prog W 0 (fun _ => true) true 9 v d p) :
    ∃ s : ByteArray, v = .string s ∧ s.size ≤ maxLen := by
  obtain ⟨s, rfl, _, _, hs⟩ := ChangeMaps.open_string Try.underlying9 hval h
  exact ⟨s, rfl, hs⟩
theorem eqL_self (L : Nat) (f : Nat → Int) : eqL L L f f = true := decide_eq_true ⟨rfl, fun _ _ => rfl⟩
def sβ (s : ByteArray) (i : Nat) : Nat := (s.data.toList.getD i 0).toNat
theorem fr_bytes (w : World) (s : ByteArray) : Fr w (Lib.bytesWorld w 5 s) :=
  ⟨rfl, rfl, rfl, by rw [Lib.bytesWorld_size]; omega, fun k hk => Lib.bytesWorld_at_old w _ s k hk⟩
theorem sl_bytes (w : World) (s : ByteArray) (c : Nat) : SlV (Lib.bytesWorld w 5 s) (.slice (some ⟨w.heap.size, 0, none⟩) s.size c) s.size (fun i => .int .u8 (sβ s i : Nat)) :=
  ⟨_, c, rfl, fun _ => ⟨_, 0, rfl, fun i hi => by rw [Nat.zero_add]; exact Lib.bytesWorld_cell w _ s i hi⟩⟩
theorem hbl {L0 : Nat} {n : Int} (hL : L0 ≤ 300) : byL L0 n ≤ 16777216 := by
  unfold byL
  by_cases h : okB n = true
  · have := szI_bd (okB_yes h)
    have := szN_eq (okB_yes h)
    rw [if_pos h]
    have : L0 * szN n ≤ 300 * 4 := Nat.mul_le_mul hL (by omega)
    omega
  · rw [if_neg h]; omega
theorem wl {k m : Nat} {n : Int} (h : (m : Int) = if wdE k n = 0 then (k : Int) / szI n else 0) (hk : k ≤ 600) : m ≤ 16777216 := by
  by_cases h0 : wdE k n = 0
  · rw [if_pos h0] at h
    by_cases h1 : okB n = true
    · have := szI_bd (okB_yes h1)
      have : (k : Int) / szI n ≤ k := Int.ediv_le_self _ (by omega)
      omega
    · unfold wdE at h0; rw [if_neg h1] at h0; omega
  · rw [if_neg h0] at h; omega
set_option maxRecDepth 100000 in
set_option maxHeartbeats 4000000 in
theorem walk (s : ByteArray) (v0 : Value) (L0 : Nat) (f0 : Nat → Int) {W : World} (s0 : SlV W v0 L0 (fun i => .int .i64 (f0 i))) (n : Int) (big : Bool) (hs : s.size ≤ 600) (hL : L0 ≤ 300) :
    Calls Try.prog 8 #[.string s, v0, .agg #[.int .i64 n, .bool big]] W fun e w' => e = .returned (.bool true) ∧ Fr W w' := by
  have HS := Lib.hid s0
  obtain ⟨a, cap, rfl, _⟩ := s0
  have hpl : pkL s.size n ≤ 16777216 := by have := @pkL_le s.size n; omega
  have hcv := fun (w : World) => Lib.run_convert_string_bytes (P := Try.prog) w 9 46 5 s Try.underlying9 Try.underlying46 Try.underlying5
  obtain ⟨x1, hx1⟩ : ∃ x, x = pkE s.size n := ⟨_, rfl⟩
  obtain ⟨x2, hx2⟩ : ∃ x, x = upE L0 f0 n big := ⟨_, rfl⟩
  obtain ⟨x3, hx3⟩ : ∃ x, x = byE n := ⟨_, rfl⟩
  obtain ⟨x4, hx4⟩ : ∃ x, x = wdE s.size n := ⟨_, rfl⟩
  have t1 : (x1 != x1) = false := by simp
  have t2 : (x2 != x2) = false := by simp
  have t3 : (x3 != x3) = false := by simp
  have t4 : (x4 == x4) = true := by simp
  have X1 := Lib.hid hx1
  have X2 := Lib.hid hx2
  have X3 := Lib.hid hx3
  have X4 := Lib.hid hx4
  have hd : decide ((600 : Int) < s.size) = false := decide_eq_false (by omega)
  have hd2 : decide ((300 : Int) < L0) = false := decide_eq_false (by omega)
  clear hx1 hx2 hx3 hx4
  go_enter Try.func8, Try.ntmps8
  go_wp2_with fail
  have hq0 : Fr W (W.alloc (.cells #[.int .i64 n, .bool big] 27)) := (Fr.refl _).alloc _
  have HB0 := Lib.hid (Bx.new W n big 27)
  refine (Pack_all s (by omega) n big _).mono ?_
  rintro e w1 ⟨v1, rfl, hs1, hf1⟩
  have hq1 := hq0.trans hf1
  have HB1 := Lib.hid (HB0.out.fr hf1)
  rw [← X1.out]
  have HV1 := Lib.hid hs1
  clear hs1
  obtain ⟨c10, c11⟩ := HB1.out
  go_wp2_with fail
  refine (RPack_all s (by omega) n big _).mono ?_
  rintro e w2 ⟨v2, rfl, hs2, hf2⟩
  have hq2 := hq1.trans hf2
  have HB2 := Lib.hid (HB1.out.fr hf2)
  rw [← X1.out]
  have HV2 := Lib.hid hs2
  clear hs2 c10 c11
  obtain ⟨c20, c21⟩ := HB2.out
  go_wp2_with fail
  refine (EqInts_any hpl _ (HV1.out.fr hf2) HV2.out).mono ?_
  rintro e w3 ⟨rfl, hf3⟩
  have hq3 := hq2.trans hf3
  have HB3 := Lib.hid (HB2.out.fr hf3)
  rw [eqL_self]
  clear c20 c21
  obtain ⟨c30, c31⟩ := HB3.out
  go_wp2_with fail
  refine (Unpack_any f0 n big _ (by omega) (HS.out.fr hq3)).mono ?_
  rintro e w4 ⟨rfl, hf4⟩
  have hq4 := hq3.trans hf4
  have HB4 := Lib.hid (HB3.out.fr hf4)
  rw [← X2.out]
  clear c30 c31
  obtain ⟨c40, c41⟩ := HB4.out
  go_wp2_with fail
  refine (RUnpack_any f0 n big _ (by omega) (HS.out.fr hq4)).mono ?_
  rintro e w5 ⟨rfl, hf5⟩
  have hq5 := hq4.trans hf5
  have HB5 := Lib.hid (HB4.out.fr hf5)
  rw [← X2.out]
  clear c40 c41
  obtain ⟨c50, c51⟩ := HB5.out
  go_wp2_with fail
  refine (Bytes_all f0 n big _ (by omega) (HS.out.fr hq5)).mono ?_
  rintro e w6 ⟨v6, rfl, hs6, hf6⟩
  have hq6 := hq5.trans hf6
  have HB6 := Lib.hid (HB5.out.fr hf6)
  rw [← X3.out]
  have HV6 := Lib.hid hs6
  clear hs6 c50 c51
  obtain ⟨c60, c61⟩ := HB6.out
  go_wp2_with fail
  refine (RBytes_all f0 n big _ (by omega) (HS.out.fr hq6)).mono ?_
  rintro e w7 ⟨v7, rfl, hs7, hf7⟩
  have hq7 := hq6.trans hf7
  have HB7 := Lib.hid (HB6.out.fr hf7)
  rw [← X3.out]
  have HV7 := Lib.hid hs7
  clear hs7 c60 c61
  obtain ⟨c70, c71⟩ := HB7.out
  go_wp2_with fail
  refine (EqBytes_any (hbl hL) _ (HV6.out.fr hf7) HV7.out).mono ?_
  rintro e w8 ⟨rfl, hf8⟩
  have hq8 := hq7.trans hf8
  have HB8 := Lib.hid (HB7.out.fr hf8)
  rw [eqL_self]
  have hf9 := fr_bytes w8 s
  have hq9 := hq8.trans hf9
  have HB9 := Lib.hid (HB8.out.fr hf9)
  have HSL := Lib.hid (sl_bytes w8 s)
  clear c70 c71
  obtain ⟨c90, c91⟩ := HB9.out
  go_wp2_with fail
  refine (Words_any (sβ s) n big _ (by omega) (fun i _ => UInt8.toNat_lt _) (HSL.out _)).mono ?_
  rintro e w10 ⟨v10, m10, rfl, hm10, hs10, hf10⟩
  rw [← X4.out]
  have hq10 := hq9.trans hf10
  have HV10 := Lib.hid hs10
  have HM10 := Lib.hid hm10
  have hf11 := fr_bytes w10 s
  have hq11 := hq10.trans hf11
  have HB11 := Lib.hid ((HB9.out.fr hf10).fr hf11)
  have HSL2 := Lib.hid (sl_bytes w10 s)
  clear c90 c91 hs10 hm10
  obtain ⟨c110, c111⟩ := HB11.out
  go_wp2_with fail
  refine (RWords_all (sβ s) n big _ (by omega) (fun i => UInt8.toNat_lt _) (HSL2.out _)).mono ?_
  rintro e w12 ⟨v12, m12, rfl, hm12, hs12, hf12⟩
  rw [← X4.out]
  have hq12 := hq11.trans hf12
  have hmm : m12 = m10 := by
    have h1 := HM10.out
    rw [← h1] at hm12; omega
  subst hmm
  have HV12 := Lib.hid hs12
  have hml : m12 ≤ 16777216 := wl HM10.out hs
  clear hs12 hm12 c110 c111
  go_wp2_with fail
  refine (EqInts_any hml _ ((HV10.out.fr hf11).fr hf12) HV12.out).mono ?_
  rintro e w13 ⟨rfl, hf13⟩
  rw [eqL_self]
  go_wp2_with (go_at_call 19; refine (awake_any _).mono ?_; rintro e w' ⟨rfl, hfa⟩)
  go_ret
  exact ⟨rfl, (hq12.trans hf13).trans hfa⟩
set_option maxRecDepth 100000 in
theorem walkAny (s : ByteArray) (hs0 : s.size ≤ maxLen) (v0 : Value) (L0 : Nat) (f0 : Nat → Int) {W : World} (s0 : SlV W v0 L0 (fun i => .int .i64 (f0 i))) (n : Int) (big : Bool) :
    Calls Try.prog 8 #[.string s, v0, .agg #[.int .i64 n, .bool big]] W fun e w' => e = .returned (.bool true) ∧ Fr W w' := by
  unfold maxLen at hs0
  by_cases hs : s.size ≤ 600
  · by_cases hL : L0 ≤ 300
    · exact walk s v0 L0 f0 s0 n big hs hL
    · obtain ⟨a, cap, rfl, _⟩ := s0
      have hd : decide ((600 : Int) < s.size) = false := decide_eq_false (by omega)
      go_enter Try.func8, Try.ntmps8
      go_wp2_with fail
      go_ret
      exact ⟨rfl, (Fr.refl W).alloc _⟩
  · obtain ⟨a, cap, rfl, _⟩ := s0
    have hd : decide ((600 : Int) < s.size) = true := decide_eq_true (by omega)
    go_enter Try.func8, Try.ntmps8
    go_wp2_with fail
    go_ret
    exact ⟨rfl, (Fr.refl W).alloc _⟩
set_option maxRecDepth 100000 in
theorem lifted (os : Os) (started : os.Started) (H : Type) (enc : TypeId × Value → H) :
    ReturnsInHanded {} Try.checked os 8 .any (Rows.wordPacksSpec.pre6 enc Try.prog Try.f8 Rows.wordPacksRow.domain false) (Rows.wordPacksSpec.post enc Try.prog Try.f8 false true false false) := by
  refine returnsInHanded_of_change (C := Try.checked) own started (by kernel_rfl) Try.func8
    (ChangeSpec.witness6 (enc := enc) (C := Try.checked) false ⟨#[], #[.string ⟨#[]⟩, .slice none 0 0, .agg #[.int .i64 0, .bool false]], []⟩ 8 (by kernel_rfl) (by kernel_rfl) (by kernel_rfl) (by kernel_rfl)) ?_
  intro W base args ds gs before hval0 hW hcnd _
  have hval : ∀ (j : Nat) t v, Try.f8.params[j]? = some t → args[j]? = some v → Value.okWide Try.prog W .any base t v := hval0
  have hW' := hW
  obtain ⟨p, q, hA0, hV, rfl, hfz, hnd⟩ := hW
  obtain ⟨rfl, rfl⟩ := trodVars_none hV
  simp only [List.append_nil] at hW'
  have hA : DataW.TrodAll enc Try.prog W 0 (fun _ => true) true Try.f8.params.toList args.toList ds p := hA0
  have hA1 := hA
  rw [Try.params8] at hA hval
  obtain ⟨vs, vss, ds', dss, ps, qs, hargs, rfl, rfl, hs, rs⟩ := trodAll_cons hA
  obtain ⟨v0, vs0, d0, ds0, p0, q0, rfl, rfl, rfl, h0, r0⟩ := trodAll_cons rs
  obtain ⟨v3, vs3, d3, ds3, p3, q3, rfl, rfl, rfl, h3, r3⟩ := trodAll_cons r0
  obtain ⟨rfl, rfl, rfl⟩ := trodAll_nil r3
  obtain rfl : args = #[vs, v0, v3] := by cases args; simp_all
  obtain ⟨s, rfl, hss⟩ := open_str (hval 0 9 vs rfl rfl) hs
  obtain ⟨L0, f0, s0⟩ := open_sl (hval 1 37 v0 rfl rfl) h0
  obtain ⟨n3, b3, rfl, w3⟩ := open_form (hval 2 27 v3 rfl rfl) h3
  clear hA0 hval0
  refine (walkAny s hss v0 L0 f0 s0 n3 b3).mono fun e W' ⟨he, hg⟩ => ?_
  subst he
  exact ⟨_, rfl, post_law laidOut (by rw [Try.params8]; intro t ht; simp only [List.mem_cons, List.not_mem_nil, or_false] at ht; rcases ht with rfl | rfl | rfl <;> exact ⟨by kernel_rfl, of_decide_eq_true (by kernel_rfl)⟩) rfl hW' hA1 hg (fun _ _ _ => (trodAll_cons_mk (shut_bool Try.underlying4 _) trodAll_mk0)) rfl rfl⟩

theorem proved : Rows.WordPacksSaid :=
  OpenClaim.holds_of_wide 8 Try.f8 rfl rfl rfl rfl rfl rfl rfl ⟨rfl, rfl, rfl, rfl, rfl⟩ rfl rfl rfl rfl rfl (by kernel_rfl) Try.func8 (by kernel_rfl)
    (of_decide_eq_true (by kernel_rfl)) (by unfold Func.isWrapper; first | (rw [if_pos (by decide +kernel)]; kernel_rfl) | (rw [if_neg (by decide +kernel)]; exact ⟨rfl, rfl⟩))
    (fun os started H enc _ => lifted os started H enc)
#print axioms proved
end Go.Proofs.Ytflkcelgbnojaaa.wordPacks
