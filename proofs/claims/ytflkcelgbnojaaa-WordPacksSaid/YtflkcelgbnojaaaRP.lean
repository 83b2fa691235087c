/- The document's own answer to packing. -/
import Derived.Test.YtflkcelgbnojaaaRU
import Derived.Deep.RegionHeld3
import Derived.Outline
namespace Go.Proofs.Ytflkcelgbnojaaa
open Go.RowKit
set_option linter.unusedVariables false

theorem pβ_0 (t : ByteArray) : pβ t 0 = t.size := rfl
theorem pβ_s (t : ByteArray) (k : Nat) (h : k < t.size) : (t[k]).toNat = pβ t (1 + k) := by
  unfold pβ
  rw [if_neg (by omega), if_pos (by omega), List.getD_eq_getElem?_getD, show 1 + k - 1 = k from by omega, List.getElem?_eq_getElem (by simpa using h)]
  rfl
theorem pβ_far (t : ByteArray) (k : Nat) (h : t.size < k) : pβ t k = 0 := by
  unfold pβ
  rw [if_neg (by omega), if_neg (by omega)]
theorem pk_up {sz k x m : Nat} (hz : 2 ≤ sz) (hm : m = (k + sz) / sz) (h1 : 1 + k ≤ x) (h2 : x ≤ m * sz) : (x % sz = 0 → x = m * sz) ∧ (x % sz ≠ 0 → x + 1 ≤ m * sz) := by
  have h3 : k + sz < m * sz + sz := by
    have := Nat.div_add_mod (k + sz) sz
    have h := Nat.mod_lt (k + sz) (show sz > 0 by omega)
    rw [hm, Nat.mul_comm]; omega
  have h4 : m * sz ≤ k + sz := by
    have := Nat.div_add_mod (k + sz) sz
    rw [hm, Nat.mul_comm]; omega
  have h5 := Nat.div_add_mod x sz
  constructor
  · intro h
    rw [h, Nat.add_zero] at h5
    have : x / sz = m := by
      have a1 : x / sz ≤ m := Nat.le_of_mul_le_mul_left (by rw [Nat.mul_comm sz m]; omega) (show 0 < sz by omega)
      have a2 : m < x / sz + 1 := Nat.lt_of_mul_lt_mul_left (a := sz) (by rw [Nat.mul_add, h5, Nat.mul_comm sz m]; omega)
      omega
    rw [← h5, this, Nat.mul_comm]
  · intro h
    by_cases e : x = m * sz
    · rw [e, Nat.mul_mod_left] at h; omega
    · omega
theorem own_cap {w : World} {B g c m : Nat} {T : TypeId} {xs : List Value} (h : w.ownsRow B T 1 (.slice (some ⟨g, 0, none⟩) m c) m xs) : m ≤ c := by
  rcases h.2 with ⟨h, _⟩ | ⟨g', cap, cur, hv, _, _, hc, _⟩
  · cases h
  · injection hv with _ _ h3
    omega
theorem mkS1 {w1 W : World} {b : Nat} {n : Int} {big : Bool} (h : Bx w1 b n big) (k : Fr w1.drew W) : W.cell? ⟨b, 0, none⟩ = some (.int .i64 n) ∧ W.cell? ⟨b, 1, none⟩ = some (.bool big) ∧ Fr w1.drew W :=
  ⟨k.cell (by simpa using h.1), k.cell (by simpa using h.2), k⟩
theorem mkS3 {w1 W : World} {b : Nat} {n : Int} {big : Bool} (h : Bx w1 b n big) (k : Fr w1 W) : W.cell? ⟨b, 0, none⟩ = some (.int .i64 n) ∧ W.cell? ⟨b, 1, none⟩ = some (.bool big) ∧ Fr w1 W :=
  ⟨k.cell h.1, k.cell h.2, k⟩
theorem row_sub {w : World} {g x y s : Nat} {F : Nat → Value} (h : Row w g 0 x F) (hy : y + s ≤ x) : Row w g y s (fun q => F (y + q)) := fun q hq => by
  have := h (y + q) (by omega)
  rwa [Nat.zero_add] at this
def lenOf : Value → Nat
  | .slice _ n _ => n
  | _ => 0
set_option maxRecDepth 100000 in
set_option maxHeartbeats 4000000 in
theorem RPack_at {n : Int} (hn : OkB n) (s : Nat) (hs : (s : Int) = szI n) (big : Bool) (t : ByteArray) (ht : t.size ≤ 255) (m : Nat) (hm : m = (t.size + s) / s) (w : World) :
    Calls Try.prog 32 #[.string t, .agg #[.int .i64 n, .bool big]] w fun e w' =>
      ∃ v' : Value, e = .returned (.tuple #[v', .int .i64 0]) ∧ SlV w' v' m (fun j => .int .i64 (nrm (wv (pβ t) n big (m * s) j) n)) ∧ Fr w w' := by
  have H := Lib.hid hn
  have hsz := szI_bd hn
  have hok : okB n = true := by simpa [okB] using hn
  obtain ⟨hm1, hm2, hm3, hs2, hs1⟩ := pack_fits hn hs t.size m hm ht
  obtain ⟨M, hM⟩ : ∃ M, M = m * s := ⟨_, rfl⟩
  have hM4 : M ≤ 600 := by
    have : m * s ≤ 150 * 4 := Nat.mul_le_mul (by omega) hs2
    omega
  rw [← hM] at hm3
  have HOK := Lib.hid hok
  have HS := Lib.hid hs
  have HM := Lib.hid hm
  have HMM := Lib.hid hM
  have hs0 : ¬ (s : Int) = 0 := by omega
  have hmm : m ≤ M := by
    have : m * 1 ≤ m * s := Nat.mul_le_mul_left _ (by omega)
    omega
  have HPL := Lib.hid (pβ_lt t ht)
  obtain ⟨i0, hi0, hz0, hz1, hz2⟩ := info_parts Try.infoInt
  have HI := Lib.hid (And.intro hi0 (And.intro hz0 (And.intro hz1 hz2)))
  clear hn hsz hok hs hM hm hi0 hz0 hz1 hz2
  go_enter Try.func32, Try.ntmps32
  go_wp2_with fail
  refine (rValid_any _ _ _).mono ?_; rintro e w1 ⟨rfl, hf⟩
  rw [HOK.out]
  have HB := Lib.hid (Bx.fr (b := w.heap.size) (Bx.new _ _ _ _) hf)
  have hfw := (((Fr.refl w).alloc _).trans hf)
  have HO1 := Lib.hid (show (w1.alloc (.cells #[.int .i64 t.size] 3)).ownsRow w1.heap.size 3 1 (.slice (some ⟨w1.heap.size, 0, none⟩) 1 1) 1 (many 1 (fun j => .int .i64 (pβ t j : Nat))) from ⟨rfl, .inr ⟨w1.heap.size, 1, #[.int .i64 t.size], rfl, Nat.le_refl _, heap_new2 w1 _, Nat.le_refl _, by decide, rfl, rfl⟩⟩)
  clear hf
  go_wp2_with fail
  go_loopw [6, 7] (fun o i wr => ∃ k : Nat, k ≤ t.size ∧ i = .int .i64 k ∧ wr.ownsRow w1.heap.size 3 1 o (1 + k) (many (1 + k) (fun j => .int .i64 (pβ t j : Nat))) ∧ Fr w1 wr) (fun _ i _ => t.size - (intOf i).toNat)
  case atStart => exact ⟨0, Nat.zero_le _, rfl, HO1.out, (Fr.refl _).alloc _⟩
  case round =>
    obtain ⟨k, hk, rfl, hown, hfr⟩ := hrel
    have HO := Lib.hid hown
    clear hown
    by_cases hlt : k < t.size
    · have hb := pβ_s t k hlt
      have hpl := HPL.out (1 + k)
      obtain ⟨z, hz⟩ : ∃ z, z = pβ t (1 + k) := ⟨_, rfl⟩
      rw [← hz] at hb hpl
      have HZ := Lib.hid hz
      clear hz
      go_wp2_with (with_reducible refine stop_append ?_)
      unfold Stop
      refine wpList_append_sl rfl (.tmp 25) (.tmp 30) 37 rfl w1.heap.size 3 i0 _ 8 Try.underlying37 HI.out.1 HI.out.2.1 HI.out.2.2.1 HI.out.2.2.2 rfl _ (1 + k) _ rfl (own_keep HO.out ((Fr.refl _).alloc _)) _ 1 (fun _ => .int .i64 (z : Nat)) rfl (sl_one _ _ _) (fun _ => rfl) (by unfold maxLen; omega) (by omega) (Nat.le_trans (hfr.alloc _).size (Nat.le_refl _)) ?_
      intro v' wA hown hg
      have HOA := Lib.hid hown
      have hfA := own_fr (hfr.alloc _) (own_keep HO.out ((Fr.refl _).alloc _)) hg
      clear hown hg
      rw [HZ.out, many_snoc (1 + k) (fun j => .int .i64 (pβ t j : Nat))] at HOA
      go_wp2_with fail
      go_roundw
      case rel =>
        first | exact ⟨k + 1, by omega, by go_num, HOA.out, hfA⟩ | ((repeat apply Exists.intro); exact ⟨⟨k + 1, by omega, by go_num, HOA.out, hfA⟩, rfl⟩)
      case measure => simp [intOf]; omega
    · obtain rfl : k = t.size := by omega
      go_wp2_with fail
      go_loopw [6] (fun o wr => ∃ x : Nat, 1 + t.size ≤ x ∧ x ≤ M ∧ wr.ownsRow w1.heap.size 3 1 o x (many x (fun j => .int .i64 (pβ t j : Nat))) ∧ Fr w1 wr) (fun o _ => M - lenOf o)
      case atStart => exact ⟨1 + t.size, Nat.le_refl _, by omega, HO.out, hfr⟩
      case round =>
        obtain ⟨x, hx1, hx2, hown, hfr2⟩ := hrel
        obtain ⟨g, c, rfl, _, _⟩ := hown.form (by omega)
        have HX := Lib.hid hown
        obtain ⟨d0, d1⟩ := HB.out.fr hfr2
        have hup := pk_up hs1 HM.out hx1 (by rw [← HMM.out]; exact hx2)
        rw [← HMM.out] at hup
        clear hown
        by_cases hx0 : x % s = 0
        · have hxM := hup.1 hx0
          subst hxM
          have hmod : (x : Int).tmod (s : Int) = 0 := by rw [Int.tmod_eq_emod_of_nonneg (by omega), ← Int.natCast_emod, hx0]; rfl
          clear hup hx0
          go_wp2_with fail
          refine (rsize_any H.out _ _).mono ?_; rintro e w3 ⟨rfl, hf3⟩
          rw [← HS.out]
          have hfr3 := hfr2.trans hf3
          have HX3 := Lib.hid (own_keep HX.out hf3)
          have hcx : x ≤ c := own_cap HX.out
          have HROW := Lib.hid (own_row HX3.out (by omega) (fun j hj => many_at hj))
          have HB3 := Lib.hid (HB.out.fr hfr3)
          clear d0 d1
          go_wp2_with fail
          go_loopw [8, 9] (fun o i wr => ∃ k : Nat, k ≤ m ∧ i = .int .i64 ((k * s : Nat) : Int) ∧ wr.ownsRow w3.heap.size 3 1 o k (many k (fun j => .int .i64 (nrm (wv (pβ t) n big x j) n))) ∧ Fr w3 wr) (fun _ i _ => x - (intOf i).toNat)
          case atStart => exact ⟨0, Nat.zero_le _, by simp, own_nil _ _ _, Fr.refl _⟩
          case round =>
            obtain ⟨k, hk, rfl, hown, hfk⟩ := hrel
            have HO2 := Lib.hid hown
            obtain ⟨y, hy⟩ : ∃ y, y = k * s := ⟨_, rfl⟩
            rw [← hy]
            have HY := Lib.hid hy
            clear hown
            by_cases hlt : k < m
            · have hys : y + s ≤ x := by
                have : (k + 1) * s ≤ m * s := Nat.mul_le_mul_right _ (by omega)
                rw [HMM.out, hy]; rw [Nat.add_mul] at this; omega
              have hyx : decide (y < x) = true := decide_eq_true (by omega)
              have hw1 : IntKind.i64.wrap ((y : Int) + (s : Int)) = (y : Int) + (s : Int) := IntWalk.i64_in _ (by omega)
              have b0 : (0 : Int) ≤ y := by omega
              have b1 : (y : Int) ≤ (y : Int) + (s : Int) := by omega
              have b2 : (y : Int) + (s : Int) ≤ (c : Int) := by omega
              have b3 : ¬ c = y := by omega
              have hq0 : Fr w3 wr.drew := hfk.drew
              have HSUB := Lib.hid (show ((y : Int) + (s : Int)).toNat - y = s by omega)
              clear hy
              go_wp2_with fail
              go_region_held3 (fun W' => W'.cell? ⟨w.heap.size, 0, none⟩ = some (.int .i64 n) ∧ W'.cell? ⟨w.heap.size, 1, none⟩ = some (.bool big) ∧ Fr w3 W')
                (first | exact mkS3 HB3.out (by assumption) | exact mkS3 HB3.out (Fr.alloc (by assumption) _))
                ((first
                  | (go_at_call 59; refine (rsize_any H.out _ _).mono ?_; rintro e w4 ⟨rfl, hf4⟩; rw [← HS.out]; have hq4 := hq0.trans hf4)
                  | (go_at_call 64; rw [HSUB.out]; refine (join_any H.out _ g y s _ (fun q => (pβ t (y + q) : Int)) (fun q _ => by have := HPL.out (y + q); omega) (by omega) hs2 _ (row_sub (HROW.out.fr (hfk.trans (((Fr.refl wr).drew).trans hf4))) hys)).mono ?_; rintro e w5 ⟨rfl, hf5⟩; have hf5' := Fr.trans hf4 hf5; have hq5 := hq4.trans hf5)
                  | (refine step_append_sl (by rfl) (.tmp 49) (.tmp 59) _ (by rfl) _ 3 i0 _ 8 Try.underlying37 HI.out.1 HI.out.2.1 HI.out.2.2.1 HI.out.2.2.2 rfl _ k _ (by rfl) (own_keep HO2.out ((((Fr.refl wr).drew).trans hf5').alloc _)) _ 1 (fun _ => .int .i64 (nrm (jn (fun q => (pβ t (y + q) : Int)) s big s) n)) (by rfl) (sl_one _ _ _) (fun _ => rfl) (by unfold maxLen; omega) (by omega) (Nat.le_trans ((hfk.trans (((Fr.refl wr).drew).trans hf5')).alloc _).size (Nat.le_refl _)) ?_; intro v' wA hown hg; have HOA := Lib.hid hown; have hfA := own_fr ((hfk.trans (((Fr.refl wr).drew).trans hf5')).alloc _) (own_keep HO2.out ((((Fr.refl wr).drew).trans hf5').alloc _)) hg)))
              have hval : nrm (jn (fun q => (pβ t (y + q) : Int)) s big s) n = nrm (wv (pβ t) n big x k) n := by
                have := jn_wv H.out HS.out big (pβ t) x k (by rw [HMM.out]; have := Nat.mul_le_mul_right s (show k + 1 ≤ m by omega); rw [Nat.add_mul] at this; rw [Nat.mul_comm s k]; omega)
                rw [← this, HY.out, Nat.mul_comm k s]
              rw [hval, many_snoc k (fun j => .int .i64 (nrm (wv (pβ t) n big x j) n))] at HOA
              obtain ⟨f0, f1⟩ := HB3.out.fr hfA
              clear hval hg hown hw1 b0 b1 b2 b3
              go_wp2_with fail
              refine (rsize_any H.out _ _).mono ?_; rintro e w6 ⟨rfl, hf6⟩
              rw [← HS.out]
              go_wp2_with fail
              go_roundw
              case rel =>
                have hnum : (y : Int) + (s : Int) = (((k + 1) * s : Nat) : Int) := by rw [Nat.add_mul, ← HY.out]; omega
                first | exact ⟨k + 1, by omega, by rw [hnum], own_keep HOA.out hf6, hfA.trans hf6⟩ | ((repeat apply Exists.intro); exact ⟨⟨k + 1, by omega, by rw [hnum], own_keep HOA.out hf6, hfA.trans hf6⟩, rfl⟩)
              case measure => simp [intOf]; omega
            · obtain rfl : k = m := by omega
              have hyx : y = x := by rw [hy, HMM.out]
              subst hyx
              clear hy
              go_wp2_with fail
              go_ret2
              exact ⟨_, rfl, by rw [← HMM.out]; exact own_slv HO2.out (fun j hj => many_at hj), (hfw.trans hfr3).trans hfk⟩
        · have hxM := hup.2 hx0
          have hmod : (x : Int).tmod (s : Int) = ((x % s : Nat) : Int) := by rw [Int.tmod_eq_emod_of_nonneg (by omega), ← Int.natCast_emod]
          have hmod2 : decide ((0 : Int) < (x : Int).tmod (s : Int)) = true := decide_eq_true (by rw [hmod]; omega)
          have hmod3 : decide ((0 : Int) < (x : Int) % (s : Int)) = true := decide_eq_true (by rw [← Int.natCast_emod]; omega)
          have hz := pβ_far t x (by omega)
          have HZ := Lib.hid hz
          clear hup hx0 hmod hz
          go_wp2_with fail
          refine (rsize_any H.out _ _).mono ?_; rintro e w3 ⟨rfl, hf3⟩
          rw [← HS.out]
          clear d0 d1
          go_wp2_with (with_reducible refine stop_append ?_)
          unfold Stop
          refine wpList_append_sl rfl (.tmp 38) (.tmp 39) 37 rfl w1.heap.size 3 i0 _ 8 Try.underlying37 HI.out.1 HI.out.2.1 HI.out.2.2.1 HI.out.2.2.2 rfl _ x _ rfl (own_keep HX.out (hf3.alloc _)) _ 1 (fun _ => .int .i64 0) rfl (sl_one _ _ _) (fun _ => rfl) (by unfold maxLen; omega) (by omega) (Nat.le_trans ((hfr2.trans hf3).alloc _).size (Nat.le_refl _)) ?_
          intro v' wA hown hg
          have HOA := Lib.hid hown
          have hfA := own_fr ((hfr2.trans hf3).alloc _) (own_keep HX.out (hf3.alloc _)) hg
          clear hown hg
          have hz0 : Value.int .i64 0 = .int .i64 (pβ t x : Nat) := by rw [HZ.out]; rfl
          rw [hz0, many_snoc x (fun j => .int .i64 (pβ t j : Nat))] at HOA
          obtain ⟨g5, c5, rfl, _, _⟩ := HOA.out.form (by omega)
          clear hz0
          go_wp2_with fail
          go_roundw
          case rel =>
            first | exact ⟨x + 1, by omega, by omega, HOA.out, hfA⟩ | ((repeat apply Exists.intro); exact ⟨⟨x + 1, by omega, by omega, HOA.out, hfA⟩, rfl⟩)
          case measure => simp [lenOf]; omega
end Go.Proofs.Ytflkcelgbnojaaa
