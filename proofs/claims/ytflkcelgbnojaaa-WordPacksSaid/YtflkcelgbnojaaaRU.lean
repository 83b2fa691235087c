/- Unpacking, by both, for every input. -/
import Derived.Test.YtflkcelgbnojaaaRB
import Derived.Test.YtflkcelgbnojaaaLWordBytes
import Derived.Test.YtflkcelgbnojaaaWU
namespace Go.Proofs.Ytflkcelgbnojaaa
open Go.RowKit
set_option linter.unusedVariables false

theorem conv_own {P : Program} {w : World} {B : Nat} {src e : TypeId} {v : Value} {m : Nat} {b : Nat → Int} (hs : P.underlying src = some (.slice e)) (he : P.underlying e = some (.int .u8)) (h : w.ownsRow B e 1 v m (many m (fun j => .int .u8 (b j)))) :
    ∀ dst, P.underlying dst = some .string → (convert src dst v).run P w = .ok (.string (strOfNums ((List.range m).map b))) w := by
  intro dst hd
  have h0 := h
  rcases h.2 with ⟨rfl, rfl⟩ | ⟨g, cap, cur, rfl, hb, hg, hm, _, hsz, ht⟩
  · exact run_convert_bytes_nil w src e hs he 0 0 dst hd
  · refine run_convert_bytes_arg w src e hs he g 0 m cap _ (by simp) (fun i hi => ?_) dst hd
    have := own_row h0 (by omega) (fun j hj => many_at hj) i hi
    rw [this]; simp [List.getD, hi]
/-- What is wrong with words that should hold a string. -/
def upE (L : Nat) (f : Nat → Int) (n : Int) (big : Bool) : Int := if okB n then (if L = 0 ∨ (L : Int) * szI n < 1 + bf f n big 0 then 7 else 0) else 3
def upT (L : Nat) (f : Nat → Int) (n : Int) (big : Bool) : ByteArray := if upE L f n big = 0 then upS f n big (bf f n big 0).toNat else ⟨#[]⟩
set_option maxHeartbeats 1000000 in
theorem Unpack_any {v : Value} {L : Nat} (f : Nat → Int) (n : Int) (big : Bool) (w : World) (hL : L ≤ 1000) (hv : SlV w v L (fun i => .int .i64 (f i))) :
    Calls Try.prog 33 #[v, .agg #[.int .i64 n, .bool big]] w fun e w' => e = .returned (.tuple #[.string (upT L f n big), .int .i64 (upE L f n big)]) ∧ Fr w w' := by
  have HV := Lib.hid hv
  obtain ⟨a, cap, rfl, hrr⟩ := hv
  rcases Bool.eq_false_or_eq_true (okB n) with hb | hb
  · have H := Lib.hid (okB_yes hb)
    obtain ⟨s1, s2⟩ := szI_bd H.out
    by_cases h0 : L = 0
    · subst h0
      have he : upE 0 f n big = 7 := by unfold upE; rw [if_pos hb, if_pos (.inl rfl)]
      have hT : upT 0 f n big = ⟨#[]⟩ := by unfold upT; rw [he, if_neg (by decide)]
      rw [hT, he]
      clear hT he
      go_enter Try.func33, Try.ntmps33
      go_wp2_with fail
      refine (Valid_any _ _ _).mono ?_; rintro e w1 ⟨rfl, hf⟩
      go_wp2_with fail
      go_ret2
      exact ⟨rfl, ((Fr.refl w).alloc _).trans hf⟩
    · obtain ⟨b, off, rfl, hr⟩ := hrr (by omega)
      have hl := bf_bd f n big 0
      by_cases h1 : (L : Int) * szI n < 1 + bf f n big 0
      · have he : upE L f n big = 7 := by unfold upE; rw [if_pos hb, if_pos (.inr h1)]
        have hT : upT L f n big = ⟨#[]⟩ := by unfold upT; rw [he, if_neg (by decide)]
        rw [hT, he]
        have p2 : (L : Int) * szI n ≤ 4000 := by
          have h1 : (L : Int) * szI n ≤ L * 4 := Int.mul_le_mul_of_nonneg_left s2 (by omega)
          omega
        have p1 : 0 ≤ (L : Int) * szI n := Int.mul_nonneg (by omega) (by omega)
        have ht0 : ((L : Int) == 0) = false := by rw [beq_eq_false_iff_ne]; omega
        obtain ⟨y, hy⟩ : ∃ y, y = bf f n big 0 := ⟨_, rfl⟩
        rw [← hy] at h1 hl
        have HY := Lib.hid hy
        obtain ⟨l1, l2⟩ := hl
        have HR := Lib.hid hr
        clear hT he hr hy
        go_enter Try.func33, Try.ntmps33
        go_wp2_with fail
        refine (Valid_any _ _ _).mono ?_; rintro e w1 ⟨rfl, hf⟩
        have HB1 := Lib.hid (Bx.fr (b := w.heap.size) (Bx.new _ _ _ _) hf)
        have hfw1 := ((Fr.refl w).alloc _).trans hf
        obtain ⟨c0, c1⟩ := HB1.out
        go_wp2_with fail
        refine (byteAt_any (i := 0) H.out _ _ _ _ _ _ _ (by decide) (by rw [Nat.zero_div]; omega) (by omega) (HR.out.fr hfw1)).mono ?_; rintro e w2 ⟨rfl, hf2⟩
        rw [show byv (f (0 / (szI n).toNat)) (blw ((0 : Nat) : Int) n big) = y from HY.out.symm]
        have hfw2 := hfw1.trans hf2
        have HB2 := Lib.hid (HB1.out.fr hf2)
        clear c0 c1
        obtain ⟨c0, c1⟩ := HB2.out
        go_wp2_with fail
        refine (size_any H.out _ _).mono ?_; rintro e w3 ⟨rfl, hf3⟩
        go_wp2_with fail
        go_ret2
        exact ⟨rfl, hfw2.trans hf3⟩
      · have he : upE L f n big = 0 := by unfold upE; rw [if_pos hb, if_neg (fun h => h.elim h0 h1)]
        have hT : upT L f n big = upS f n big (bf f n big 0).toNat := by unfold upT; rw [he, if_pos rfl]
        rw [hT, he]
        exact Unpack_ok H.out big b off L cap (bf f n big 0).toNat f w (by omega) (by omega) (by omega) (by omega) hr
  · have he : upE L f n big = 3 := by unfold upE; rw [hb]; rfl
    have hT : upT L f n big = ⟨#[]⟩ := by unfold upT; rw [he, if_neg (by decide)]
    rw [hT, he]
    clear hT he
    go_enter Try.func33, Try.ntmps33
    go_wp2_with fail
    refine (Valid_any _ _ _).mono ?_; rintro e w1 ⟨rfl, hf⟩
    go_wp2_with fail
    go_ret2
    exact ⟨rfl, ((Fr.refl w).alloc _).trans hf⟩
theorem gb_in {L : Nat} {f : Nat → Int} {n : Int} {big : Bool} {i : Nat} (h : cbE L i n = 0) : gbV f L i n big = bf f n big i := by
  unfold gbV; rw [if_pos h]; rfl
set_option maxHeartbeats 2000000 in
theorem RUnpack_any {v : Value} {L : Nat} (f : Nat → Int) (n : Int) (big : Bool) (w : World) (hL : L ≤ 1000) (hv : SlV w v L (fun i => .int .i64 (f i))) :
    Calls Try.prog 34 #[v, .agg #[.int .i64 n, .bool big]] w fun e w' => e = .returned (.tuple #[.string (upT L f n big), .int .i64 (upE L f n big)]) ∧ Fr w w' := by
  have HV := Lib.hid hv
  rcases Bool.eq_false_or_eq_true (okB n) with hb | hb
  · have H := Lib.hid (okB_yes hb)
    obtain ⟨s1, s2⟩ := szI_bd H.out
    by_cases h0 : L = 0
    · subst h0
      have he : upE 0 f n big = 7 := by unfold upE; rw [if_pos hb, if_pos (.inl rfl)]
      have hT : upT 0 f n big = ⟨#[]⟩ := by unfold upT; rw [he, if_neg (by decide)]
      have hc : cbE 0 0 n = 1 := by unfold cbE; rw [if_pos hb, if_pos (.inr (by rw [Int.zero_ediv]; decide))]
      rw [hT, he]
      have HC := Lib.hid hc
      have HOK := Lib.hid hb
      clear hT he hc hb
      go_enter Try.func34, Try.ntmps34
      go_wp2_with fail
      refine (rValid_any _ _ _).mono ?_; rintro e w1 ⟨rfl, hf⟩
      rw [HOK.out]
      obtain ⟨c0, c1⟩ := Bx.fr (b := w.heap.size) (Bx.new _ _ _ _) hf
      have hfw1 := ((Fr.refl w).alloc _).trans hf
      go_wp2_with fail
      refine (wordBytes.RGetByte_any f 0 n big _ (by omega) (by omega) (by omega) (HV.out.fr hfw1)).mono ?_
      rintro e w2 ⟨rfl, hf2⟩
      rw [HC.out]
      go_wp2_with fail
      go_ret2
      exact ⟨rfl, hfw1.trans hf2⟩
    · obtain ⟨s, hs⟩ : ∃ s : Nat, (s : Int) = szI n := ⟨(szI n).toNat, Int.toNat_of_nonneg (by omega)⟩
      have HS := Lib.hid hs
      have hs2 : 2 ≤ s := by omega
      have hs4 : s ≤ 4 := by omega
      have hM4 : L * s ≤ 4000 := Nat.mul_le_mul hL hs4
      have hM1 : 1 ≤ L * s := Nat.mul_pos (by omega) (by omega)
      obtain ⟨M, hM⟩ : ∃ M, M = L * s := ⟨_, rfl⟩
      have hMI : (L : Int) * szI n = (M : Int) := by rw [← hs, hM, Int.natCast_mul]
      have hin : ∀ i : Nat, i < M → cbE L i n = 0 := fun i hi => (in_facts H.out hs L i (by rw [← hM]; exact hi)).1
      have hout : ∀ i : Nat, M ≤ i → cbE L i n = 1 := fun i hi => by
        have h1 : L ≤ i / s := by rw [Nat.le_div_iff_mul_le (by omega)]; omega
        have h2 : (L : Int) ≤ ((i / s : Nat) : Int) := by omega
        unfold cbE
        rw [if_pos hb, ← hs, ← Int.natCast_ediv, if_pos (.inr h2)]
      have HIN := Lib.hid hin
      have HOUT := Lib.hid hout
      rw [← hM] at hM4 hM1
      obtain ⟨y, hy⟩ : ∃ y : Nat, (y : Int) = bf f n big 0 := ⟨(bf f n big 0).toNat, Int.toNat_of_nonneg (bf_bd f n big 0).1⟩
      have hy2 : y ≤ 255 := by have := (bf_bd f n big 0).2; omega
      have HE : Hid (upE L f n big = if M < 1 + y then 7 else 0) := Lib.hid (by
        unfold upE
        rw [if_pos hb, hMI, ← hy]
        by_cases h : M < 1 + y
        · rw [if_pos h, if_pos (.inr (by omega))]
        · rw [if_neg h, if_neg (fun x => x.elim h0 (by omega))])
      have HT : Hid (upT L f n big = if M < 1 + y then ⟨#[]⟩ else upS f n big y) := Lib.hid (by
        unfold upT
        rw [HE.out, ← hy]
        by_cases h : M < 1 + y
        · rw [if_pos h, if_neg (by decide), if_pos h]
        · rw [if_neg h, if_pos rfl, if_neg h]; rfl)
      have HY := Lib.hid hy
      have HOK := Lib.hid hb
      obtain ⟨u0, hi0, hz0, hz1, hz2⟩ := info_parts Try.infoU8
      have HU := Lib.hid (And.intro hi0 (And.intro hz0 (And.intro hz1 hz2)))
      clear hi0 hz0 hz1 hz2 hin hout hy hb hs hM hMI
      go_enter Try.func34, Try.ntmps34
      go_wp2_with fail
      refine (rValid_any _ _ _).mono ?_; rintro e w1 ⟨rfl, hf⟩
      rw [HOK.out]
      have HB1 := Lib.hid (Bx.fr (b := w.heap.size) (Bx.new _ _ _ _) hf)
      obtain ⟨c0, c1⟩ := HB1.out
      have hfw1 := ((Fr.refl w).alloc _).trans hf
      clear hf
      go_wp2_with fail
      refine (wordBytes.RGetByte_any f ((0 : Nat) : Int) n big _ (by omega) (by omega) (by omega) (HV.out.fr hfw1)).mono ?_
      rintro e w2 ⟨rfl, hf2⟩
      rw [gb_in (HIN.out 0 (by omega)), HIN.out 0 (by omega), ← HY.out]
      have hfw2 := hfw1.trans hf2
      have HB2 := Lib.hid (HB1.out.fr hf2)
      clear c0 c1 hf2
      go_wp2_with fail
      go_loopw [8, 9] (fun o i wr => ∃ k : Nat, k ≤ y ∧ i = .int .i64 ((1 + k : Nat) : Int) ∧ 1 + k ≤ M ∧ wr.ownsRow w2.heap.size 5 1 o k (many k (fun j => .int .u8 (bf f n big (1 + j)))) ∧ Fr w2 wr) (fun _ i _ => 1 + y - (intOf i).toNat)
      case atStart => exact ⟨0, Nat.zero_le _, rfl, by omega, own_nil _ _ _, Fr.refl _⟩
      case round =>
        obtain ⟨k, hk, rfl, hkM, hown, hfr⟩ := hrel
        have HO := Lib.hid hown
        have hfwr := hfw2.trans hfr
        obtain ⟨d0, d1⟩ := HB2.out.fr hfr
        obtain ⟨q, hq⟩ : ∃ q, q = 1 + k := ⟨_, rfl⟩
        rw [← hq]
        have HQ := Lib.hid hq
        clear hown
        by_cases hlt : k < y
        · have hqy : q ≤ y := by omega
          by_cases hqM : q < M
          · have hbb := bf_bd f n big q
            obtain ⟨x, hx⟩ : ∃ x, x = bf f n big q := ⟨_, rfl⟩
            rw [← hx] at hbb
            obtain ⟨x1, x2⟩ := hbb
            have HXX := Lib.hid hx
            clear hq hx
            go_wp2_with fail
            refine (wordBytes.RGetByte_any f (q : Int) n big _ (by omega) (by omega) (by omega) (HV.out.fr hfwr)).mono ?_
            rintro e w3 ⟨rfl, hf3⟩
            rw [gb_in (HIN.out q hqM), HIN.out q hqM, ← HXX.out]
            clear d0 d1
            go_wp2_with (with_reducible refine stop_append ?_)
            unfold Stop
            refine wpList_append_sl rfl (.tmp 37) (.tmp 40) 46 rfl w2.heap.size 5 u0 _ 1 Try.underlying46 HU.out.1 HU.out.2.1 HU.out.2.2.1 HU.out.2.2.2 rfl _ k _ rfl (own_keep HO.out (hf3.alloc _)) _ 1 (fun _ => .int .u8 x) rfl (sl_one _ _ _) (fun _ => rfl) (by unfold maxLen; omega) (by omega) (Nat.le_trans ((hfr.trans hf3).alloc _).size (Nat.le_refl _)) ?_
            intro v' wA hown hg
            have HOA := Lib.hid hown
            have hfA := own_fr ((hfr.trans hf3).alloc _) (own_keep HO.out (hf3.alloc _)) hg
            clear hown hg
            rw [HXX.out, HQ.out, many_snoc k (fun j => .int .u8 (bf f n big (1 + j)))] at HOA
            go_wp2_with fail
            go_roundw
            case rel =>
              have hnum : (q : Int) + 1 = ((1 + (k + 1) : Nat) : Int) := by have := HQ.out; omega
              have hle : 1 + (k + 1) ≤ M := by have := HQ.out; omega
              first | exact ⟨k + 1, by omega, by rw [hnum], hle, HOA.out, hfA⟩ | ((repeat apply Exists.intro); exact ⟨⟨k + 1, by omega, by rw [hnum], hle, HOA.out, hfA⟩, rfl⟩)
            case measure => simp [intOf]; omega
          · have hR : M < 1 + y := by omega
            have HR := Lib.hid hR
            clear hq hR
            go_wp2_with fail
            refine (wordBytes.RGetByte_any f (q : Int) n big _ (by omega) (by omega) (by omega) (HV.out.fr hfwr)).mono ?_
            rintro e w3 ⟨rfl, hf3⟩
            rw [HOUT.out q (by omega)]
            clear d0 d1
            go_wp2_with fail
            go_ret2
            exact ⟨by rw [HE.out, HT.out, if_pos HR.out, if_pos HR.out]; rfl, hfwr.trans hf3⟩
        · obtain rfl : k = y := by omega
          have hqk : ¬ q ≤ k := by omega
          have hR : ¬ M < 1 + k := by omega
          have HR := Lib.hid hR
          have hcv := conv_own (P := Try.prog) Try.underlying46 Try.underlying5 HO.out 9 Try.underlying9
          clear hq hR d0 d1
          go_wp2_with fail
          go_ret2
          exact ⟨by rw [HE.out, HT.out, if_neg HR.out, if_neg HR.out]; rfl, hfwr⟩
  · have he : upE L f n big = 3 := by unfold upE; rw [hb]; rfl
    have hT : upT L f n big = ⟨#[]⟩ := by unfold upT; rw [he, if_neg (by decide)]
    rw [hT, he]
    have HOK := Lib.hid hb
    clear hT he hb
    go_enter Try.func34, Try.ntmps34
    go_wp2_with fail
    refine (rValid_any _ _ _).mono ?_; rintro e w1 ⟨rfl, hf⟩
    rw [HOK.out]
    go_wp2_with fail
    go_ret2
    exact ⟨rfl, ((Fr.refl w).alloc _).trans hf⟩
end Go.Proofs.Ytflkcelgbnojaaa
