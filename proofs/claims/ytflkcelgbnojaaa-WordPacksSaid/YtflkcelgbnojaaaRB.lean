/- The contract of the document's own answer to bytes of words. -/
import Derived.Test.YtflkcelgbnojaaaRW
namespace Go.Proofs.Ytflkcelgbnojaaa
open Go.RowKit
set_option linter.unusedVariables false

theorem Try.infoU8 : (Try.prog.info? 5).map (fun i => (i.zero, i.size, i.bytes)) = some (some (.int .u8 0), 1, 1) := by kernel_rfl
theorem row_apart {w w' : World} {g s m B : Nat} {T E : TypeId} {v : Value} {xs : List Value} {F : Nat → Value} (hr : w.rowIs g T s F) (ho : w.ownsRow B E 1 v m xs) (hg : w.grownBy w' v.ownBlock) (hne : T ≠ E) : w'.rowIs g T s F := by
  refine hr.of_block (hg.block g hr.lt (fun e => ?_))
  rcases ho.2 with ⟨rfl, _⟩ | ⟨g', cap, cur, rfl, _, hh, _⟩
  · simp [Value.ownBlock] at e
  · have e' : g = g' := by simpa [Value.ownBlock] using e
    subst e'
    obtain ⟨cs, h1, _⟩ := hr
    rw [hh] at h1
    injection h1 with h1
    injection h1 with _ h2 _
    exact hne h2.symm
set_option maxHeartbeats 4000000 in
theorem RBytes_at {n : Int} (hn : OkB n) (s : Nat) (hs : (s : Int) = szI n) (big : Bool) (a : Option Addr) (L cap : Nat) (f : Nat → Int) (w : World) (hL : L ≤ 1000) (hr : SlV w (.slice a L cap) L (fun i => .int .i64 (f i))) :
    Calls Try.prog 36 #[.slice a L cap, .agg #[.int .i64 n, .bool big]] w fun e w' =>
      ∃ v' : Value, e = .returned (.tuple #[v', .int .i64 0]) ∧ SlV w' v' (s * L) (fun j => .int .u8 (bf f n big j)) ∧ Fr w w' := by
  have H := Lib.hid hn
  have hsz := szI_bd hn
  have hok : okB n = true := by simpa [okB] using hn
  have HOK := Lib.hid hok
  have HS := Lib.hid hs
  have HR := Lib.hid hr
  have hs1 : 2 ≤ s := by omega
  have hs2 : s ≤ 4 := by omega
  obtain ⟨u0, hi0, hz0, hz1, hz2⟩ := info_parts Try.infoU8
  have HU := Lib.hid (And.intro hi0 (And.intro hz0 (And.intro hz1 hz2)))
  clear hn hsz hok hs hr hi0 hz0 hz1 hz2
  go_enter Try.func36, Try.ntmps36
  go_wp2_with fail
  refine (rValid_any _ _ _).mono ?_; rintro e w1 ⟨rfl, hf⟩
  rw [HOK.out]
  have HB := Lib.hid (Bx.fr (b := w.heap.size) (Bx.new _ _ _ _) hf)
  have hfw := (((Fr.refl w).alloc _).trans hf)
  have HRW := Lib.hid (HR.out.fr hfw)
  clear hf
  go_wp2_with fail
  go_loopw [6, 7] (fun o i wr => ∃ k : Nat, k ≤ L ∧ i = .int .i64 k ∧ wr.ownsRow w1.heap.size 5 1 o (s * k) (many (s * k) (fun j => .int .u8 (bf f n big j))) ∧ Fr w1 wr) (fun _ i _ => L - (intOf i).toNat)
  case atStart => exact ⟨0, Nat.zero_le _, rfl, own_nil _ _ _, Fr.refl _⟩
  case round =>
    obtain ⟨wo, rfl⟩ : ∃ wo : World, wo = wr := ⟨_, rfl⟩
    obtain ⟨k, hk, rfl, hown, hfr⟩ := hrel
    have HO := Lib.hid hown
    obtain ⟨x, hx⟩ : ∃ x, x = s * k := ⟨_, rfl⟩
    rw [← hx] at HO
    have hx4 : x ≤ 4000 := by
      have : s * k ≤ 4 * 1000 := Nat.mul_le_mul hs2 (by omega)
      omega
    have HX := Lib.hid hx
    clear hown hx
    by_cases hlt : k < L
    · obtain ⟨ba, oa, rfl, hrow⟩ := slv_some (HRW.out.fr hfr) (by omega)
      have hcw := hrow k hlt
      obtain ⟨d0, d1⟩ := HB.out.fr hfr
      have hkl : decide (k < L) = true := decide_eq_true hlt
      clear hrow
      go_wp2
      have hS : wo.drew.cell? ⟨ba, oa + k, none⟩ = some (.int .i64 (f k)) ∧ wo.drew.cell? ⟨w.heap.size, 0, none⟩ = some (.int .i64 n) ∧ wo.drew.cell? ⟨w.heap.size, 1, none⟩ = some (.bool big) ∧ Fr wo wo.drew := ⟨hcw, d0, d1, (Fr.refl wo).drew⟩
      clear hcw d0 d1
      go_region_held3 (fun W => W.cell? ⟨ba, oa + k, none⟩ = some (.int .i64 (f k)) ∧ W.cell? ⟨w.heap.size, 0, none⟩ = some (.int .i64 n) ∧ W.cell? ⟨w.heap.size, 1, none⟩ = some (.bool big) ∧ Fr wo W) (first | exact hS | exact keep4 (by assumption) (by assumption))
        ((first | (go_at_call 60; refine (split_any H.out _ _ s HS.out _).mono ?_; rintro e wx ⟨g3, rfl, hg3, hrow3, hf3⟩; have HR3 := Lib.hid hrow3; clear hrow3)))
      have hfx : Fr wo wx := last4 (w1 := wo) (b := ba) (o := oa + k) (g := w.heap.size) (x := .int .i64 (f k)) (y := .int .i64 n) (z := .bool big) (by assumption)
      clear hS
      go_wp2_with fail
      go_loopw [6, 9] (fun o i wr => ∃ p : Nat, p ≤ s ∧ i = .int .i64 p ∧ wr.ownsRow w1.heap.size 5 1 o (x + p) (many (x + p) (fun j => .int .u8 (bf f n big j))) ∧ Fr w1 wr ∧ wr.rowIs g3 3 s (fun p => .int .i64 (byv (f k) (8 * plc s p big)))) (fun _ i _ => s - (intOf i).toNat)
      case atStart => exact ⟨0, Nat.zero_le _, rfl, own_keep HO.out hfx, hfr.trans hfx, HR3.out⟩
      case round =>
        obtain ⟨p, hp, rfl, hown, hfp, hrow3⟩ := hrel
        have HP := Lib.hid hown
        have HR4 := Lib.hid hrow3
        clear hown hrow3
        by_cases hlp : p < s
        · have hc := HR4.out.cell hlp
          obtain ⟨y, hy⟩ : ∃ y, y = byv (f k) (8 * ((plc s p big : Nat) : Int)) := ⟨_, rfl⟩
          have hyb : 0 ≤ y ∧ y ≤ 255 := by rw [hy]; unfold byv; omega
          have HY : Hid (y = bf f n big (x + p)) := Lib.hid (by rw [hy, HX.out, bf_at HS.out hs1 f big k p hlp])
          rw [← hy] at hc
          obtain ⟨y1, y2⟩ := hyb
          clear hy
          go_wp2_with (with_reducible refine stop_append ?_)
          unfold Stop
          refine wpList_append_sl rfl (.tmp 31) (.tmp 37) 46 rfl w1.heap.size 5 u0 _ 1 Try.underlying46 HU.out.1 HU.out.2.1 HU.out.2.2.1 HU.out.2.2.2 rfl _ (x + p) _ rfl (own_keep HP.out ((Fr.refl _).alloc _)) _ 1 (fun _ => .int .u8 y) rfl (sl_one _ _ _) (fun _ => rfl) (by unfold maxLen; omega) (by omega) (Nat.le_trans (hfp.alloc _).size (Nat.le_refl _)) ?_
          intro v' wA hown hg
          have HOA := Lib.hid hown
          have hfA := own_fr (hfp.alloc _) (own_keep HP.out ((Fr.refl _).alloc _)) hg
          have HR5 := Lib.hid (row_apart (((Fr.refl _).alloc _).row HR4.out) (own_keep HP.out ((Fr.refl _).alloc _)) hg (by decide))
          clear hown hg
          rw [HY.out, many_snoc (x + p) (fun j => .int .u8 (bf f n big j))] at HOA
          go_wp2_with fail
          go_roundw
          case rel =>
            first | exact ⟨p + 1, by omega, by go_num, HOA.out, hfA, HR5.out⟩ | ((repeat apply Exists.intro); exact ⟨⟨p + 1, by omega, by go_num, HOA.out, hfA, HR5.out⟩, rfl⟩)
          case measure => simp [intOf]; omega
        · obtain rfl : p = s := by omega
          go_wp2_with fail
          go_roundw
          case rel =>
            have hO := HP.out
            rw [show x + p = p * (k + 1) from by rw [Nat.mul_add, Nat.mul_one, ← HX.out]] at hO
            first | exact ⟨k + 1, by omega, by go_num, hO, hfp⟩ | ((repeat apply Exists.intro); exact ⟨⟨k + 1, by omega, by go_num, hO, hfp⟩, rfl⟩)
          case measure => simp [intOf]; omega
    · obtain rfl : k = L := by omega
      rw [HX.out] at HO
      go_wp2_with fail
      go_ret2
      exact ⟨_, rfl, own_slv HO.out (fun j hj => many_at hj), hfw.trans hfr⟩
end Go.Proofs.Ytflkcelgbnojaaa
