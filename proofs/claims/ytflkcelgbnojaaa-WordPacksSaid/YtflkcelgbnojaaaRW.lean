/- The contract of the document's own answer to words of bytes. -/
import Derived.Test.YtflkcelgbnojaaaJW
import Derived.Test.YtflkcelgbnojaaaWP
namespace Go.Proofs.Ytflkcelgbnojaaa
open Go.RowKit
set_option linter.unusedVariables false

theorem many_snoc (k : Nat) (f : Nat → Value) : many k f ++ many 1 (fun _ => f k) = many (k + 1) f := by
  unfold many; rw [show List.range 1 = [0] from rfl, List.range_succ, List.map_append]; rfl
theorem own_nil (w : World) (T : TypeId) (f : Nat → Value) : w.ownsRow w.heap.size T 1 (.slice none 0 0) 0 (many 0 f) := World.ownsRow_nil _ _ _ _
set_option maxHeartbeats 4000000 in
theorem RWords_at {n : Int} (hn : OkB n) (s : Nat) (hs : (s : Int) = szI n) (big : Bool) (a : Option Addr) (L cap m : Nat) (β : Nat → Nat) (w : World) (hL : L ≤ 1000000) (hm : L = m * s) (hβ : ∀ i, β i < 256) (hr : SlV w (.slice a L cap) L (fun i => .int .u8 (β i))) :
    Calls Try.prog 39 #[.slice a L cap, .agg #[.int .i64 n, .bool big]] w fun e w' =>
      ∃ v' : Value, e = .returned (.tuple #[v', .int .i64 0]) ∧ SlV w' v' m (fun j => .int .i64 (nrm (wv β n big L j) n)) ∧ Fr w w' := by
  have H := Lib.hid hn
  have hsz := szI_bd hn
  have hok : okB n = true := by simpa [okB] using hn
  have HOK := Lib.hid hok
  have HS := Lib.hid hs
  have HR := Lib.hid hr
  have HM := Lib.hid hm
  have HBT := Lib.hid hβ
  have hs1 : 2 ≤ s := by omega
  have hs2 : s ≤ 4 := by omega
  have hmod : (L : Int).tmod (s : Int) = 0 := by rw [Int.tmod_eq_emod_of_nonneg (by omega), hm, Int.natCast_mul, Int.mul_emod_left]
  have hs0 : ¬ (s : Int) = 0 := by omega
  have hmL : m ≤ L := by
    have : m * 1 ≤ m * s := Nat.mul_le_mul_left _ (by omega)
    omega
  obtain ⟨i0, hi0, hz0, hz1, hz2⟩ := info_parts Try.infoInt
  have HI := Lib.hid (And.intro hi0 (And.intro hz0 (And.intro hz1 hz2)))
  clear hn hsz hok hs hr hm hβ hi0 hz0 hz1 hz2
  go_enter Try.func39, Try.ntmps39
  go_wp2_with fail
  refine (rValid_any _ _ _).mono ?_; rintro e w1 ⟨rfl, hf⟩
  rw [HOK.out]
  obtain ⟨c0, c1⟩ := Bx.fr (b := w.heap.size) (Bx.new _ _ _ _) hf
  go_wp2_with fail
  refine (rsize_any H.out _ _).mono ?_; rintro e w2 ⟨rfl, hf2⟩
  rw [← HS.out]
  have HB := Lib.hid (Bx.fr (b := w.heap.size) ⟨c0, c1⟩ hf2)
  have hfw := ((((Fr.refl w).alloc _).trans hf).trans hf2)
  have HRW := Lib.hid (HR.out.fr hfw)
  clear c0 c1 hf hf2
  go_wp2_with fail
  go_loopw [6, 7] (fun o i wr => ∃ k : Nat, k ≤ m ∧ i = .int .i64 ((k * s : Nat) : Int) ∧ wr.ownsRow w2.heap.size 3 1 o k (many k (fun j => .int .i64 (nrm (wv β n big L j) n))) ∧ Fr w2 wr) (fun _ i _ => L - (intOf i).toNat)
  case atStart => exact ⟨0, Nat.zero_le _, by simp, own_nil _ _ _, Fr.refl _⟩
  case round =>
    obtain ⟨wo, rfl⟩ : ∃ wo : World, wo = wr := ⟨_, rfl⟩
    obtain ⟨k, hk, rfl, hown, hfr⟩ := hrel
    have HO := Lib.hid hown
    obtain ⟨x, hx⟩ : ∃ x, x = k * s := ⟨_, rfl⟩
    rw [← hx]
    clear hown
    by_cases hlt : k < m
    · have hxs : x + s ≤ L := by
        have : (k + 1) * s ≤ m * s := Nat.mul_le_mul_right _ (by omega)
        rw [HM.out, hx]; rw [Nat.add_mul] at this; omega
      have HX := Lib.hid hx
      have hxl : decide (x < L) = true := decide_eq_true (by omega)
      obtain ⟨ba, oa, rfl, hrow⟩ := slv_some (HRW.out.fr hfr) (by omega)
      have HROW := Lib.hid hrow
      clear hx hrow
      go_wp2_with fail
      go_loopw [8, 9] (fun o i wr => ∃ p : Nat, p ≤ s ∧ i = .int .i64 p ∧ wr.ownsRow wo.heap.size 3 1 o p (many p (fun q => .int .i64 (β (x + q) : Nat))) ∧ Fr wo wr) (fun _ i _ => s - (intOf i).toNat)
      case atStart => exact ⟨0, Nat.zero_le _, rfl, own_nil _ _ _, Fr.refl _⟩
      case round =>
        obtain ⟨p, hp, rfl, hown, hfp⟩ := hrel
        have HP := Lib.hid hown
        obtain ⟨d0, d1⟩ := (HB.out.fr hfr).fr hfp
        clear hown
        go_wp2_with fail
        refine (rsize_any H.out _ _).mono ?_; rintro e w3 ⟨rfl, hf3⟩
        rw [← HS.out]
        by_cases hlp : p < s
        · have hcell : w3.cell? ⟨ba, oa + (x + p), none⟩ = some (.int .u8 (β (x + p))) := (hfp.trans hf3).cell (HROW.out (x + p) (by omega))
          have hb := HBT.out (x + p)
          have hxp : ((x : Int) + (p : Int)).toNat = x + p := by omega
          have hxp0 : (0 : Int) ≤ (x : Int) + (p : Int) := by omega
          have hxp1 : (x : Int) + (p : Int) < (L : Int) := by omega
          clear d0 d1
          go_wp2_with (with_reducible refine stop_append ?_)
          unfold Stop
          refine wpList_append_sl rfl (.tmp 35) (.tmp 43) 37 rfl wo.heap.size 3 i0 _ 8 Try.underlying37 HI.out.1 HI.out.2.1 HI.out.2.2.1 HI.out.2.2.2 rfl _ p _ rfl (own_keep HP.out (hf3.alloc _)) _ 1 (fun _ => .int .i64 (β (x + p) : Nat)) rfl (sl_one _ _ _) (fun _ => rfl) (by unfold maxLen; omega) (by omega) (Nat.le_trans ((hfp.trans hf3).alloc _).size (Nat.le_refl _)) ?_
          intro v' wA hown hg
          have HOA := Lib.hid hown
          have hfA := own_fr (hfp.trans (hf3.alloc _)) (own_keep HP.out (hf3.alloc _)) hg
          clear hown hg
          go_wp2_with fail
          go_roundw
          case rel =>
            rw [many_snoc p (fun q => .int .i64 (β (x + q) : Nat))] at HOA
            first | exact ⟨p + 1, by omega, by go_num, HOA.out, hfA⟩ | ((repeat apply Exists.intro); exact ⟨⟨p + 1, by omega, by go_num, HOA.out, hfA⟩, rfl⟩)
          case measure => simp [intOf]; omega
        · obtain rfl : p = s := by omega
          have HO3 := Lib.hid (own_keep HO.out (hfp.trans hf3))
          have hfr3 := hfr.trans (hfp.trans hf3)
          obtain ⟨d2, d3⟩ := HB.out.fr hfr3
          obtain ⟨g8, c8, rfl, hg8, _⟩ := (own_keep HP.out hf3).form (by omega)
          have HL8 := Lib.hid (own_row (own_keep HP.out hf3) (by omega) (fun j hj => many_at hj))
          clear d0 d1
          go_wp2_with fail
          refine (join_any H.out _ _ 0 p c8 (fun q => (β (x + q) : Int)) (fun q _ => by have := HBT.out (x + q); omega) (by omega) hs2 _ HL8.out).mono ?_
          rintro e w4 ⟨rfl, hf4⟩
          have hfr4 := hfr3.trans hf4
          obtain ⟨e0, e1⟩ := (HB.out.fr hfr4).fr ((Fr.refl w4).alloc (.cells #[.int .i64 (nrm (jn (fun q => (β (x + q) : Int)) p big p) n)] 3))
          clear d2 d3
          go_wp2_with (with_reducible refine stop_append ?_)
          unfold Stop
          refine wpList_append_sl rfl (.tmp 45) (.tmp 49) 37 rfl w2.heap.size 3 i0 _ 8 Try.underlying37 HI.out.1 HI.out.2.1 HI.out.2.2.1 HI.out.2.2.2 rfl _ k _ rfl (own_keep HO3.out (hf4.alloc _)) _ 1 (fun _ => .int .i64 (nrm (jn (fun q => (β (x + q) : Int)) p big p) n)) rfl (sl_one _ _ _) (fun _ => rfl) (by unfold maxLen; omega) (by omega) (Nat.le_trans (hfr4.alloc _).size (Nat.le_refl _)) ?_
          intro v' wA hown hg
          have HOA := Lib.hid hown
          have hfA := own_fr (hfr3.trans (hf4.alloc _)) (own_keep HO3.out (hf4.alloc _)) hg
          clear hown hg
          have hval : nrm (jn (fun q => (β (x + q) : Int)) p big p) n = nrm (wv β n big L k) n := by
            have := jn_wv H.out HS.out big β L k (by rw [HM.out]; have := Nat.mul_le_mul_right p (show k + 1 ≤ m by omega); rw [Nat.add_mul] at this; rw [Nat.mul_comm p k]; omega)
            rw [← this, HX.out, Nat.mul_comm k p]
          rw [hval, many_snoc k (fun j => .int .i64 (nrm (wv β n big L j) n))] at HOA
          obtain ⟨f0, f1⟩ := HB.out.fr hfA
          clear hval e0 e1
          go_wp2_with fail
          refine (rsize_any H.out _ _).mono ?_; rintro e w5 ⟨rfl, hf5⟩
          rw [← HS.out]
          go_wp2_with fail
          go_roundw
          case rel =>
            have hnum : (x : Int) + (p : Int) = (((k + 1) * p : Nat) : Int) := by rw [Nat.add_mul, ← HX.out]; omega
            first | exact ⟨k + 1, by omega, by rw [hnum], own_keep HOA.out hf5, hfA.trans hf5⟩ | ((repeat apply Exists.intro); exact ⟨⟨k + 1, by omega, by rw [hnum], own_keep HOA.out hf5, hfA.trans hf5⟩, rfl⟩)
          case measure => simp [intOf]; omega
    · obtain rfl : k = m := by omega
      have hxL : x = L := by rw [hx, HM.out]
      subst hxL
      clear hx
      go_wp2_with fail
      go_ret2
      exact ⟨_, rfl, own_slv HO.out (fun j hj => many_at hj), hfw.trans hfr⟩
end Go.Proofs.Ytflkcelgbnojaaa
