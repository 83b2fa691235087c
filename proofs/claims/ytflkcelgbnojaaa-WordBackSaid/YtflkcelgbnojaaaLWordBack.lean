/- A packed string is unpacked, whatever words follow; words come back from their bytes; a byte that was put is got, and no other one changes: for every input of at most 255 bytes and 100 words, as the statement says. -/
import Derived.Test.YtflkcelgbnojaaaWP
import Derived.Test.YtflkcelgbnojaaaY
import Derived.Test.YtflkcelgbnojaaaZG
import Derived.Deep.RegionHeld3
import Derived.ChangeMaps5
namespace Go.Proofs.Ytflkcelgbnojaaa.wordBack
open Go.ChangeShapes Go.WideShapes Go.ChangeAt Go.RowKit
set_option linter.unusedVariables false

theorem mkS {w1 W : World} {b : Nat} {n : Int} {big : Bool} (h : Bx w1 b n big) (k : Fr w1.drew W) : W.cell? ⟨b, 0, none⟩ = some (.int .i64 n) ∧ W.cell? ⟨b, 1, none⟩ = some (.bool big) ∧ Fr w1.drew W :=
  ⟨k.cell (by simpa using h.1), k.cell (by simpa using h.2), k⟩
theorem slS {w1 W : World} {b : Nat} {n : Int} {big : Bool} {v : Value} {L : Nat} {f : Nat → Value} (h : W.cell? ⟨b, 0, none⟩ = some (.int .i64 n) ∧ W.cell? ⟨b, 1, none⟩ = some (.bool big) ∧ Fr w1.drew W) (hv : SlV w1 v L f) : SlV W v L f :=
  (hv.fr ((Fr.refl w1).drew)).fr h.2.2
theorem keepB {w1 W W' : World} {b : Nat} {n : Int} {big : Bool} (k : Fr W W') (h : W.cell? ⟨b, 0, none⟩ = some (.int .i64 n) ∧ W.cell? ⟨b, 1, none⟩ = some (.bool big) ∧ Fr w1 W) :
    W'.cell? ⟨b, 0, none⟩ = some (.int .i64 n) ∧ W'.cell? ⟨b, 1, none⟩ = some (.bool big) ∧ Fr w1 W' := ⟨k.cell h.1, k.cell h.2.1, h.2.2.trans k⟩
theorem got {n : Int} (hn : OkB n) {sz : Nat} (hsz : (sz : Int) = szI n) (big : Bool) (f : Nat → Int) (i x L : Nat) (v : Int) (hx : x < L * sz) :
    cbE L x n = 0 ∧ gbV (fun j => nrm (if j = i / sz then pb (f j) (v % 256) (blw i n big).toNat else f j) n) L x n big = if x = i then v % 256 else bf f n big x := by
  have h0 := (in_facts hn hsz L x hx).1
  refine ⟨h0, ?_⟩
  unfold gbV
  rw [if_pos h0]
  exact put_back hn hsz big f i x v
theorem some_ {w : World} {a : Option Addr} {L cap : Nat} {f : Nat → Value} (h : SlV w (.slice a L cap) L f) (hk : 0 < L) : ∃ b off, a = some ⟨b, off, none⟩ ∧ Row w b off L f := by
  obtain ⟨a', c', hv, hr⟩ := h
  injection hv with h1 _ _
  subst h1
  exact hr hk
theorem at_cell {w : World} {a : Option Addr} {L cap k : Nat} {f : Nat → Value} (h : SlV w (.slice a L cap) L f) (hk : k < L) : ∃ b off, a = some ⟨b, off, none⟩ ∧ w.cell? ⟨b, off + k, none⟩ = some (f k) := by
  obtain ⟨a', c', hv, hr⟩ := h
  injection hv with h1 _ _
  subst h1
  obtain ⟨b, off, ha, hrow⟩ := hr (by omega)
  exact ⟨b, off, ha, hrow k hk⟩
set_option maxRecDepth 100000 in
set_option maxHeartbeats 4000000 in
theorem walk (s : ByteArray) (v0 : Value) (L0 : Nat) (f0 : Nat → Int) {W : World} (s0 : SlV W v0 L0 (fun i => .int .i64 (f0 i))) (a2 a3 n : Int) (big : Bool) (hs : s.size ≤ 255) (hL : L0 ≤ 100) (hn : OkB n) (hb1 : -9223372036854775808 ≤ a2) (hb2 : a2 ≤ 9223372036854775807) :
    Calls Try.prog 12 #[.string s, v0, .int .i64 a2, .int .i64 a3, .agg #[.int .i64 n, .bool big]] W fun e w' => e = .returned (.bool true) ∧ Fr W w' := by
  have H := Lib.hid hn
  have HS := Lib.hid s0
  have hok : okB n = true := by simpa [okB] using hn
  obtain ⟨sz, hsz⟩ : ∃ sz : Nat, (sz : Int) = szI n := ⟨(szI n).toNat, Int.toNat_of_nonneg (by have := szI_bd hn; omega)⟩
  have HZ := Lib.hid hsz
  obtain ⟨a, cap, rfl, _⟩ := s0
  obtain ⟨i0, hi0, hz0, hz1, hz2⟩ := info_parts Try.infoInt
  have HI := Lib.hid (And.intro hi0 (And.intro hz0 (And.intro hz1 hz2)))
  have HOK := Lib.hid hok
  clear hi0 hz0 hz1 hz2 hn hsz hok
  go_enter Try.func12, Try.ntmps12
  go_wp2_with fail
  have hf0 : Fr W (W.alloc (.cells #[.int .i64 n, .bool big] 27)) := (Fr.refl _).alloc _
  refine (rValid_any _ _ _).mono ?_
  rintro e w1 ⟨rfl, hf1⟩
  rw [HOK.out]
  have hf1' := hf0.trans hf1
  obtain ⟨c0, c1⟩ := Bx.fr (b := W.heap.size) (Bx.new _ _ _ _) hf1
  go_wp2_with fail
  refine (Pack_any H.out HZ.out big s hs _).mono ?_
  rintro e w2 ⟨g2, m, hm, rfl, hg2, hr2, hf2⟩
  have hf2' := hf1'.trans hf2
  have HM := Lib.hid hm
  have HR2 := Lib.hid hr2
  have HB2 := Lib.hid (Bx.fr (b := W.heap.size) ⟨c0, c1⟩ hf2)
  clear hm hr2 c0 c1
  obtain ⟨hm1, hm2, hm3, hz4, hz2⟩ := pack_fits H.out HZ.out s.size m HM.out hs
  have HC := Lib.hid (cat_facts H.out HZ.out big s hs m L0 HM.out f0)
  have hm5 : m ≤ 128 := by omega
  have HSW := Lib.hid (HS.out.fr hf2')
  clear hm3
  go_wp2_with fail
  go_region_held3 (fun W' => W'.cell? ⟨W.heap.size, 0, none⟩ = some (.int .i64 n) ∧ W'.cell? ⟨W.heap.size, 1, none⟩ = some (.bool big) ∧ Fr w2.drew W')
    (first | exact mkS HB2.out (Fr.refl _) | exact mkS HB2.out (by assumption))
    ((first
      | (go_at_call 43; refine (CopyInts_any _ m (by omega) _ _ (slS (by assumption) (SlV.row HR2.out))).mono ?_; rintro e w3 ⟨v3, rfl, ho3, hf3⟩; have HO3 := Lib.hid ho3; clear ho3)
      | (refine step_append_sl (by rfl) (.tmp 44) (.tmp 45) _ (by rfl) _ 3 i0 _ 8 Try.underlying37 HI.out.1 HI.out.2.1 HI.out.2.2.1 HI.out.2.2.2 rfl _ m _ (by rfl) HO3.out _ L0 _ (by rfl) (slS (by assumption) HSW.out) (fun _ => rfl) (by unfold maxLen; omega) (by omega) hf3.size ?_; intro v4 w4 hown4 hg4; have hf4 := own_fr hf3 HO3.out hg4; obtain ⟨g4, cap4, rfl, _, _⟩ := hown4.form (by omega); have HO4 := Lib.hid hown4; clear hown4)
      | (go_at_call 33; refine (Unpack_ok H.out big g4 0 (m + L0) cap4 s.size (catF s n big m sz f0) _ (by omega) (by omega) HC.out.1 HC.out.2.1 (own_row HO4.out (by omega) (fun j hj => cat_at j hj))).mono ?_; rintro e w5 ⟨rfl, hf5⟩; have hf5' := Fr.trans hf4 hf5; rw [HC.out.2.2])))
  have hfw5 : Fr W w5 := (hf2'.trans ((Fr.refl w2).drew)).trans hf5'
  have HB5 := Lib.hid (HB2.out.fr (((Fr.refl w2).drew).trans hf5'))
  obtain ⟨d0, d1⟩ := HB5.out
  have hm6 : ¬ (s.size : Int) / 2 + 1 < (m : Int) := by omega
  have HS5 := Lib.hid (HS.out.fr hfw5)
  have HBF := Lib.hid (bytes_facts H.out HZ.out L0 hL)
  clear hf5' hf4 hf3 hf5 hg4
  go_wp2_with fail
  obtain ⟨M, hM⟩ : ∃ M, M = L0 * sz := ⟨_, rfl⟩
  have HMM := Lib.hid hM
  clear hM
  have hM4 : M ≤ 400 := by rw [HMM.out]; exact HBF.out.2.2.2
  refine (Bytes_at H.out big a L0 cap M f0 _ (by rw [HMM.out]; exact HBF.out.1) (by omega) (by obtain ⟨a', cap', hv, hr⟩ := HS5.out; injection hv with h1 h2 h3; subst h1; exact hr)).mono ?_
  rintro e w6 ⟨g6, rfl, hg6, hr6, hf6⟩
  have HR6 := Lib.hid hr6
  have hfw6 := hfw5.trans hf6
  have HB6 := Lib.hid (HB5.out.fr hf6)
  clear hr6 d0 d1
  obtain ⟨d0, d1⟩ := HB6.out
  go_wp2_with fail
  refine (Words_any (bN f0 n big) n big _ (by omega) (fun i _ => bN_lt f0 n big i) (SlV.row (HR6.out.congr (fun j _ => by rw [bN_eq])))).mono ?_
  rintro e w7 ⟨v7, m7, rfl, hm7, hs7, hf7⟩
  have hwd : wdE M n = 0 := by rw [HMM.out]; exact HBF.out.2.1
  rw [hwd] at hm7
  rw [hwd]
  clear hwd
  obtain rfl : L0 = m7 := by
    rw [if_pos rfl, HMM.out, HBF.out.2.2.1] at hm7; omega
  have hfw7 := hfw6.trans hf7
  have HB7 := Lib.hid (HB6.out.fr hf7)
  have HR7 := Lib.hid (hf7.row HR6.out)
  have HS7 := Lib.hid (HS.out.fr hfw7)
  have HX7 := Lib.hid (hs7.to (fun j hj => by rw [HMM.out, word_facts H.out HZ.out big f0 L0 j hj]))
  obtain ⟨a7, cap7, rfl, _⟩ := hs7
  clear hm7 d0 d1 hf6 hf7
  go_wp2_with fail
  go_loopw [17] (fun i wr => ∃ k : Nat, k ≤ L0 ∧ i = .int .i64 k ∧ Fr w7 wr) (fun i _ => L0 - (intOf i).toNat)
  case atStart => exact ⟨0, Nat.zero_le _, rfl, Fr.refl _⟩
  case round =>
    obtain ⟨k, hk, rfl, hfr⟩ := hrel
    obtain ⟨e0, e1⟩ := HB7.out.fr hfr
    by_cases hlt : k < L0
    · have hx := HX7.out.fr hfr
      have hw := HS7.out.fr hfr
      obtain ⟨bx, ox, rfl, hcx⟩ := at_cell hx hlt
      obtain ⟨bw, ow, rfl, hcw⟩ := at_cell hw hlt
      have ht : (nrm (f0 k) n != nrm (f0 k) n) = false := by simp
      clear hx hw
      go_wp2
      go_quiet ((go_at_call 40; exact Calls.quiet_of_same ((Word_any H.out _ _).mono fun _ _ ⟨x1, x2⟩ => ⟨x1, x2.symm⟩)))
      go_wp2
      go_roundw
      case rel => exact ⟨k + 1, by omega, by go_num, hfr.drewN _⟩
      case measure => simp [intOf]; omega
    · obtain rfl : k = L0 := by omega
      have hfw := hfw7.trans hfr
      have hHS := HS7.out.fr hfr
      have hHB := Lib.hid (HB7.out.fr hfr)
      have HR8 := Lib.hid (hfr.row HR7.out)
      by_cases he : cbE k a2 n = 0
      · obtain ⟨_, h0, hq⟩ := cbE_ok he
        obtain ⟨i, rfl⟩ := Int.eq_ofNat_of_zero_le h0
        have hq' : i / sz < k := by
          rw [← HZ.out, ← Int.natCast_ediv] at hq; omega
        have hk0 : 0 < k := Nat.lt_of_le_of_lt (Nat.zero_le _) hq'
        obtain ⟨b0, o0, ha, hrow⟩ := some_ hHS hk0
        subst ha
        have HROW := Lib.hid hrow
        clear hrow hHS he h0 hq
        go_wp2_with fail
        refine (PutByte_at H.out sz HZ.out big b0 o0 k cap i a3 f0 _ hq' (by omega) HROW.out).mono ?_
        rintro e w8 ⟨g8, rfl, hg8, hr8, hf8⟩
        have HP8 := Lib.hid hr8
        have hfw8 := hfw.trans hf8
        have HB8 := Lib.hid (hHB.out.fr hf8)
        have HR9 := Lib.hid (hf8.row HR8.out)
        clear hr8 e0 e1
        go_wp2_with fail
        go_loopw [19] (fun j wr => ∃ x : Nat, x ≤ M ∧ j = .int .i64 x ∧ Fr w8 wr) (fun j _ => M - (intOf j).toNat)
        case atStart => exact ⟨0, Nat.zero_le _, rfl, Fr.refl _⟩
        case round =>
          obtain ⟨x, hx, rfl, hfx⟩ := hrel
          obtain ⟨e0, e1⟩ := HB8.out.fr hfx
          by_cases hlt : x < M
          · have HG := Lib.hid (got H.out HZ.out big f0 i x k a3 (by rw [← HMM.out]; exact hlt))
            obtain ⟨y1, y2⟩ := bf_bd f0 n big x
            have hlow := low8 a3
            have HPX := Lib.hid (hfx.row HP8.out)
            have HRX := Lib.hid (hfx.row HR9.out)
            by_cases hxi : x = i
            · have hd : ((x : Int) == (i : Int)) = true := by rw [beq_iff_eq, hxi]
              have HXI := Lib.hid hxi
              clear hxi
              go_wp2_with fail
              refine (GetByte_any _ (x : Int) n big _ (by omega) (by omega) (by omega) (SlV.row HPX.out)).mono ?_
              rintro e w9 ⟨rfl, hf9⟩
              rw [HG.out.1, HG.out.2, if_pos HXI.out]
              have hcb := (hf9.row HRX.out).cell hlt
              go_wp2
              go_roundw
              case rel => exact ⟨x + 1, by omega, by go_num, hfx.trans hf9⟩
              case measure => simp [intOf]; omega
            · have hd : ((x : Int) == (i : Int)) = false := by rw [beq_eq_false_iff_ne]; omega
              have HXI := Lib.hid hxi
              have ht : (bf f0 n big x != bf f0 n big x) = false := by simp
              clear hxi
              go_wp2_with fail
              refine (GetByte_any _ (x : Int) n big _ (by omega) (by omega) (by omega) (SlV.row HPX.out)).mono ?_
              rintro e w9 ⟨rfl, hf9⟩
              rw [HG.out.1, HG.out.2, if_neg HXI.out]
              have hcb := (hf9.row HRX.out).cell hlt
              go_wp2
              go_roundw
              case rel => exact ⟨x + 1, by omega, by go_num, hfx.trans hf9⟩
              case measure => simp [intOf]; omega
          · obtain rfl : x = M := by omega
            go_wp2_with (go_at_call 19; refine (awake_any _).mono ?_; rintro e w' ⟨rfl, hfa⟩)
            go_ret
            exact ⟨rfl, (hfw8.trans hfx).trans hfa⟩
      · have hne : (cbE k a2 n != 0) = true := by simpa using he
        clear hHS
        go_wp2_with fail
        refine (PutByte_no _ _ _ _ _ _ _ hb1 hb2 he _).mono ?_
        rintro e w8 ⟨rfl, hf8⟩
        clear he
        go_wp2_with (go_at_call 19; refine (awake_any _).mono ?_; rintro e w' ⟨rfl, hfa⟩)
        go_ret
        exact ⟨rfl, (hfw.trans hf8).trans hfa⟩
theorem open_str {H : Type} {enc : TypeId × Value → H} {W : World} {base : Nat} {v : Value} {d : DataW H} {p : List MemPlace} (hval : Value.okWide Try.prog W .any base 9 v) (h : DataW.Trod enc Try.prog W 0 (fun _ => true) true 9 v d p) :
    ∃ s : ByteArray, v = .string s ∧ s.size ≤ maxLen := by
  obtain ⟨s, rfl, _, _, hs⟩ := ChangeMaps.open_string Try.underlying9 hval h
  exact ⟨s, rfl, hs⟩
set_option maxRecDepth 100000 in
set_option maxHeartbeats 1000000 in
theorem walkAny (s : ByteArray) (hs0 : s.size ≤ maxLen) (v0 : Value) (L0 : Nat) (f0 : Nat → Int) {W : World} (s0 : SlV W v0 L0 (fun i => .int .i64 (f0 i))) (a2 : Int) (w2 : (Lit.int .i64 a2).wf = true) (a3 : Int) (n : Int) (big : Bool) :
    Calls Try.prog 12 #[.string s, v0, .int .i64 a2, .int .i64 a3, .agg #[.int .i64 n, .bool big]] W fun e w' => e = .returned (.bool true) ∧ Fr W w' := by
  have hb : -9223372036854775808 ≤ a2 ∧ a2 ≤ 9223372036854775807 := by
    simp only [Lit.wf, Bool.and_eq_true, decide_eq_true_eq] at w2
    have h1 : IntKind.i64.min = -9223372036854775808 := rfl
    have h2 : IntKind.i64.max = 9223372036854775807 := rfl
    omega
  unfold maxLen at hs0
  by_cases hok : okB n = true
  · by_cases hs : s.size ≤ 255
    · by_cases hL : L0 ≤ 100
      · exact walk s v0 L0 f0 s0 a2 a3 n big hs hL (okB_yes hok) hb.1 hb.2
      · obtain ⟨a, cap, rfl, _⟩ := s0
        have hd : decide ((255 : Int) < s.size) = false := decide_eq_false (by omega)
        have HOK := Lib.hid hok
        clear hok hb
        go_enter Try.func12, Try.ntmps12
        go_wp2_with fail
        refine (rValid_any _ _ _).mono ?_
        rintro e w1 ⟨rfl, hf1⟩
        rw [HOK.out]
        go_wp2_with fail
        go_ret
        exact ⟨rfl, ((Fr.refl W).alloc _).trans hf1⟩
    · obtain ⟨a, cap, rfl, _⟩ := s0
      have hd : decide ((255 : Int) < s.size) = true := decide_eq_true (by omega)
      have HOK := Lib.hid hok
      clear hok hb
      go_enter Try.func12, Try.ntmps12
      go_wp2_with fail
      refine (rValid_any _ _ _).mono ?_
      rintro e w1 ⟨rfl, hf1⟩
      rw [HOK.out]
      go_wp2_with fail
      go_ret
      exact ⟨rfl, ((Fr.refl W).alloc _).trans hf1⟩
  · have HOK := Lib.hid (show okB n = false by simpa using hok)
    obtain ⟨a, cap, rfl, _⟩ := s0
    clear hok hb
    go_enter Try.func12, Try.ntmps12
    go_wp2_with fail
    refine (rValid_any _ _ _).mono ?_
    rintro e w1 ⟨rfl, hf1⟩
    rw [HOK.out]
    go_wp2_with fail
    go_ret
    exact ⟨rfl, ((Fr.refl W).alloc _).trans hf1⟩
set_option maxRecDepth 100000 in
theorem lifted (os : Os) (started : os.Started) (H : Type) (enc : TypeId × Value → H) :
    ReturnsInHanded {} Try.checked os 12 .any (Rows.wordBackSpec.pre6 enc Try.prog Try.f12 Rows.wordBackRow.domain false) (Rows.wordBackSpec.post enc Try.prog Try.f12 false true false false) := by
  refine returnsInHanded_of_change (C := Try.checked) own started (by kernel_rfl) Try.func12
    (ChangeSpec.witness6 (enc := enc) (C := Try.checked) false ⟨#[], #[.string ⟨#[]⟩, .slice none 0 0, .int .i64 0, .int .i64 0, .agg #[.int .i64 0, .bool false]], []⟩ 8 (by kernel_rfl) (by kernel_rfl) (by kernel_rfl) (by kernel_rfl)) ?_
  intro W base args ds gs before hval0 hW hcnd _
  have hval : ∀ (j : Nat) t v, Try.f12.params[j]? = some t → args[j]? = some v → Value.okWide Try.prog W .any base t v := hval0
  have hW' := hW
  obtain ⟨p, q, hA0, hV, rfl, hfz, hnd⟩ := hW
  obtain ⟨rfl, rfl⟩ := trodVars_none hV
  simp only [List.append_nil] at hW'
  have hA : DataW.TrodAll enc Try.prog W 0 (fun _ => true) true Try.f12.params.toList args.toList ds p := hA0
  have hA1 := hA
  rw [Try.params12] at hA hval
  obtain ⟨vs, vss, ds', dss, ps, qs, hargs, rfl, rfl, hs, rs⟩ := trodAll_cons hA
  obtain ⟨v0, vs0, d0, ds0, p0, q0, rfl, rfl, rfl, h0, r0⟩ := trodAll_cons rs
  obtain ⟨v1, vs1, d1, ds1, p1, q1, rfl, rfl, rfl, h1, r1⟩ := trodAll_cons r0
  obtain ⟨v2, vs2, d2, ds2, p2, q2, rfl, rfl, rfl, h2, r2⟩ := trodAll_cons r1
  obtain ⟨v3, vs3, d3, ds3, p3, q3, rfl, rfl, rfl, h3, r3⟩ := trodAll_cons r2
  obtain ⟨rfl, rfl, rfl⟩ := trodAll_nil r3
  obtain rfl : args = #[vs, v0, v1, v2, v3] := by cases args; simp_all
  obtain ⟨s, rfl, hss⟩ := open_str (hval 0 9 vs rfl rfl) hs
  obtain ⟨L0, f0, s0⟩ := open_sl (hval 1 37 v0 rfl rfl) h0
  obtain ⟨a1, rfl, _, _, w1⟩ := open_int Try.underlying3 (hval 2 3 v1 rfl rfl) h1
  obtain ⟨a2, rfl, _, _, w2⟩ := open_int Try.underlying3 (hval 3 3 v2 rfl rfl) h2
  obtain ⟨n3, b3, rfl, w3⟩ := open_form (hval 4 27 v3 rfl rfl) h3
  clear hA0 hval0
  refine (walkAny s hss v0 L0 f0 s0 a1 w1 a2 n3 b3).mono fun e W' ⟨he, hg⟩ => ?_
  subst he
  exact ⟨_, rfl, post_law laidOut (by rw [Try.params12]; intro t ht; simp only [List.mem_cons, List.not_mem_nil, or_false] at ht; rcases ht with rfl | rfl | rfl | rfl | rfl <;> exact ⟨by kernel_rfl, of_decide_eq_true (by kernel_rfl)⟩) rfl hW' hA1 hg (fun _ _ _ => (trodAll_cons_mk (shut_bool Try.underlying4 _) trodAll_mk0)) rfl rfl⟩

theorem proved : Rows.WordBackSaid :=
  OpenClaim.holds_of_wide 12 Try.f12 rfl rfl rfl rfl rfl rfl rfl ⟨rfl, rfl, rfl, rfl, rfl⟩ rfl rfl rfl rfl rfl (by kernel_rfl) Try.func12 (by kernel_rfl)
    (of_decide_eq_true (by kernel_rfl)) (by unfold Func.isWrapper; first | (rw [if_pos (by decide +kernel)]; kernel_rfl) | (rw [if_neg (by decide +kernel)]; exact ⟨rfl, rfl⟩))
    (fun os started H enc _ => lifted os started H enc)
#print axioms proved
end Go.Proofs.Ytflkcelgbnojaaa.wordBack
