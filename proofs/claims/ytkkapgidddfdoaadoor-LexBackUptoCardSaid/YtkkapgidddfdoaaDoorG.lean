/- The contract of the method that tells a sign; the map of keywords; which method tells which token. -/
import Derived.Test.YtkkapgidddfdoaaDoorW
namespace Go.Proofs.YtkkapgidddfdoaaDoor
open Go.RowKit
set_option linter.unusedVariables false

set_option maxRecDepth 100000 in
set_option maxHeartbeats 1000000 in
theorem sign_any (s : ByteArray) (hs : s.size ≤ 1000000) (mp g a : Nat) (ha : a < s.size) (w : World) (hk : Ks w mp g) :
    Calls Tryd.prog 54 #[.agg #[.string s, .map (some mp), .slice (some ⟨g, 0, none⟩) 28 28], .int .i64 a] w fun e w' =>
      e = .returned (.tuple #[.agg #[.int .i64 (sgnT s a).k, .string (sgnT s a).t, .int .i64 (sgnT s a).n, .int .i64 0], .int .i64 (sgnT s a).e, .int .i64 (sgnT s a).er]) ∧ Fr w w' := by
  obtain ⟨w0, hw0⟩ : ∃ w0, w0 = ((w.alloc (.cells #[.string s, .map (some mp), .slice (some ⟨g, 0, none⟩) 28 28] 45)).alloc (.cells #[.int .i64 0, .string ⟨#[]⟩, .int .i64 0, .int .i64 0] 38)) := ⟨_, rfl⟩
  have hf0 : Fr w w0 := by rw [hw0]; exact ((Fr.refl w).alloc _).alloc _
  obtain ⟨c0, c1, c2⟩ : Sb w0 w.heap.size s mp g := by rw [hw0]; exact (Sb.new w s mp g 45).fr ((Fr.refl _).alloc _)
  have HT0 := Lib.hid (show Tb w0 (w.heap.size + 1) (.int .i64 0) (.string ⟨#[]⟩) (.int .i64 0) (.int .i64 0) by rw [hw0]; exact Tb.new1 w (.cells #[.string s, .map (some mp), .slice (some ⟨g, 0, none⟩) 28 28] 45) (.int .i64 0) (.string ⟨#[]⟩) (.int .i64 0) (.int .i64 0))
  have HW0 := Lib.hid hw0
  have HK := Lib.hid (hk.fr hf0).2
  obtain ⟨t0, t1, t2, t3⟩ := HT0.out.cells
  have z0 := HT0.out.free 0
  have z1 := HT0.out.free 1
  have z2 := HT0.out.free 2
  have z3 := HT0.out.free 3
  clear hw0
  go_enter Tryd.func54, Tryd.ntmps54
  go_wp2_with fail
  rw [← HW0.out]
  go_loop [7, 13] (fun v i => ∃ (k : Nat) (t : ByteArray), k ≤ 28 ∧ i = .int .i64 k ∧ v = .string t ∧ t.size ≤ 2 ∧ Lng s a k t) (fun _ i => 28 - (intOf i).toNat)
  case atStart => exact ⟨0, ⟨#[]⟩, by omega, rfl, rfl, by decide, .inl ⟨rfl, fun i hi => absurd hi (by omega)⟩⟩
  case round =>
    obtain ⟨k, t, hk28, rfl, rfl, ht2, hl⟩ := hrel
    have HL := Lib.hid hl
    clear hl
    by_cases hlt : k < 28
    · have hcell := HK.out.cell hlt
      have hz := sgn_size k hlt
      have HST := Lib.hid (Lng.step hlt HL.out)
      by_cases hlen : t.size < (sgnB k).size
      · have hd : decide (t.size < (sgnB k).size) = true := decide_eq_true hlen
        cases hp : pre (s.extract a s.size) (sgnB k) with
        | true =>
          have HP := Lib.hid hp
          clear hp
          go_wp2_with fail
          refine (HasPrefix_any _ _ (by rw [ext_size _ _ _ (Nat.le_refl _)]; omega) (by omega) _).mono ?_; rintro e w' ⟨rfl, rfl⟩
          rw [HP.out]
          go_wp2_with fail
          go_round
          case rel => exact ⟨k + 1, sgnB k, by omega, by go_num, rfl, by omega, HST.out.1 hlen HP.out⟩
          case measure => simp [intOf]; omega
        | false =>
          have HP := Lib.hid hp
          clear hp
          go_wp2_with fail
          refine (HasPrefix_any _ _ (by rw [ext_size _ _ _ (Nat.le_refl _)]; omega) (by omega) _).mono ?_; rintro e w' ⟨rfl, rfl⟩
          rw [HP.out]
          go_wp2_with fail
          go_round
          case rel => exact ⟨k + 1, t, by omega, by go_num, rfl, ht2, HST.out.2.1 hlen HP.out⟩
          case measure => simp [intOf]; omega
      · have hd : decide (t.size < (sgnB k).size) = false := decide_eq_false hlen
        go_wp2_with fail
        go_round
        case rel => exact ⟨k + 1, t, by omega, by go_num, rfl, ht2, HST.out.2.2 hlen⟩
        case measure => simp [intOf]; omega
    · obtain rfl : k = 28 := by omega
      have hsg := HL.out.sgnT ha
      by_cases h0 : t.size = 0
      · have HC : Hid (sgnT s a = bad 20) := Lib.hid (by rw [hsg, if_pos h0])
        obtain rfl : t = ⟨#[]⟩ := bt_ext h0 (fun i hi => by omega)
        clear hsg
        go_wp2_with fail
        exact bodyPost_ret (v := .tuple #[.agg #[.int .i64 0, .string ⟨#[]⟩, .int .i64 0, .int .i64 0], .int .i64 0, .int .i64 20]) (by simp [results, Tryd.results54, go_sem, t0, t1, t2, t3]) rfl ⟨by rw [HC.out]; rfl, tok_fr hf0 _ _ _ _⟩
      · have HC : Hid (sgnT s a = ⟨5, t, 0, a + t.size, 0⟩) := Lib.hid (by rw [hsg, if_neg h0])
        have he : t.toList.isEmpty = false := by
          rw [Bool.eq_false_iff]
          intro e
          rw [ByteArray.toList_eq, List.isEmpty_iff_length_eq_zero] at e
          exact h0 (by simpa using e)
        clear hsg
        go_wp2_with fail
        exact bodyPost_ret (v := .tuple #[.agg #[.int .i64 5, .string t, .int .i64 0, .int .i64 0], .int .i64 ((a : Int) + t.size), .int .i64 0]) (by simp [results, Tryd.results54, go_sem, t0, t1, t2, t3]) rfl ⟨by rw [HC.out]; rfl, tok_fr hf0 _ _ _ _⟩
theorem Below.grow0 {a b : World} (h : Fr a b) : a.grownBy b none := ⟨h.os, h.tape, h.output, h.size, fun k hk _ => h.block k hk⟩
theorem map_ne {P : Program} {w1 : World} {k : TypeId} {R : Value → Option (DataW Unit × List MemPlace)} {b m : Nat} {D : DataW Unit} {g n : Nat} {T : TypeId} {f : Nat → Value} (h : w1.ownsMap P k R b m D) (hr : w1.rowIs g T n f) : g ≠ b := by
  rintro rfl
  obtain ⟨es, clock, hb, _⟩ := h
  obtain ⟨cs, hc, _⟩ := hr
  rw [hb] at hc; cases hc
theorem bool_inv {P : Program} {e : TypeId} (he : P.underlying e = some .bool) {v : Value} {z : DataW Unit × List MemPlace} (h : plainElem P e v = some z) : ∃ x, v = .bool x ∧ z = (.lit (.bool x), []) := by
  unfold plainElem at h
  rw [he] at h
  cases v <;> simp at h
  exact ⟨_, rfl, h.symm⟩
/-- The map holds the first k keywords. -/
def KwIs (D : DataW Unit) (k : Nat) : Prop := Maps.IsMap D ∧ ∀ s : ByteArray, D.atKey (.string s.data.toList) (.lit (.bool false)) = .lit (.bool (hasB k keyB s))
theorem Kw0 : KwIs (.map []) 0 := ⟨Maps.isMap_empty, fun s => by rw [hasB_no (fun i hi => absurd hi (by omega))]; rfl⟩
theorem str_inj {a b : ByteArray} (h : a.data.toList = b.data.toList) : a = b := ByteArray.ext (Array.ext' h)
theorem KwS {D : DataW Unit} {k : Nat} (h : KwIs D k) : KwIs (D.put (.string (keyB k).data.toList) (.lit (.bool true))) (k + 1) := by
  refine ⟨h.1.put _ _, fun s => ?_⟩
  by_cases e : keyB k = s
  · subst e
    rw [Maps.atKey_put_same h.1 (show WideAt.IsKeyLit (.string _) from trivial), hasB_yes (Nat.lt_succ_self k) rfl]
  · rw [Maps.atKey_put_other (fun x => e (by injection x with x; exact (str_inj x).symm)), h.2 s]
    congr 2
    unfold hasB
    rw [decide_eq_decide]
    exact ⟨fun ⟨i, hi, ei⟩ => ⟨i, by omega, ei⟩, fun ⟨i, hi, ei⟩ => ⟨i, by
      by_cases x : i = k
      · subst x; exact absurd ei e
      · omega, ei⟩⟩
theorem Tryd.zeroBool (W : World) : (zeroValue 4).run Tryd.prog W = .ok (.bool false) W := by kernel_rfl
theorem kw_look {W : World} {b n : Nat} {D : DataW Unit} (h : W.ownsMap Tryd.prog 9 (plainElem Tryd.prog 4) b n D) (hD : KwIs D 43) (s : ByteArray) (hs : s.size ≤ 1000000) :
    (Instr.lookup 40 (.map (some b)) (.string s) false).run Tryd.prog W = .ok (.bool (hasB 43 keyB s)) W := by
  obtain ⟨v, ps, hrun, hv⟩ := h.lookup (Maps.string_keyed Tryd.underlying9) Tryd.underlying40 (Tryd.zeroBool W) (plainElem_bool Tryd.underlying4 false) (key := .string s) (Go.WideMaps.keyOf_string_mk Tryd.underlying9 (show s.size ≤ maxLen by unfold maxLen; omega))
  obtain ⟨x, rfl, hz⟩ := bool_inv Tryd.underlying4 hv
  rw [hD.2 s] at hz
  generalize hasB 43 keyB s = y at *
  simp only [Prod.mk.injEq, DataW.lit.injEq, Lit.bool.injEq] at hz
  rw [hrun, hz.1]
set_option maxRecDepth 100000 in
set_option maxHeartbeats 1000000 in
theorem keywords_any (w : World) : Calls Tryd.prog 26 #[] w fun e w' => ∃ mp : Nat, e = .returned (.map (some mp)) ∧ (∀ W, Fr w' W → ∀ s : ByteArray, s.size ≤ 1000000 → (Instr.lookup 40 (.map (some mp)) (.string s) false).run Tryd.prog W = .ok (.bool (hasB 43 keyB s)) W) ∧ Fr w w' := by
  have hmm := @run_makeMap Tryd.prog
  go_enter Tryd.func26, Tryd.ntmps26
  go_wp2_with fail
  refine (Keys_any _).mono ?_
  rintro e w1 ⟨g1, rfl, hr1, hf1⟩
  have HO1 := Lib.hid ((World.ownsMap_made (H := Unit) w Tryd.prog 9 (plainElem Tryd.prog 4)).kept (Below.grow0 hf1) (by simp))
  have HR1 := Lib.hid hr1
  have hfw1 : Fr w w1 := ((Fr.refl w).alloc _).trans hf1
  have hne1 : g1 ≠ w.heap.size := map_ne HO1.out hr1
  clear hr1 hmm
  go_wp2_with fail
  go_loopw [7] (fun i wr => ∃ (k : Nat) (D : DataW Unit), k ≤ 43 ∧ i = .int .i64 k ∧ wr.ownsMap Tryd.prog 9 (plainElem Tryd.prog 4) w.heap.size k D ∧ KwIs D k ∧ wr.rowIs g1 9 43 (fun i => .string (keyB i)) ∧ Fr w wr) (fun i _ => 43 - (intOf i).toNat)
  case atStart => exact ⟨0, _, by omega, rfl, HO1.out, Kw0, HR1.out, hfw1⟩
  case round =>
    obtain ⟨k, D, hk, rfl, hown, hD, hrow, hfr⟩ := hrel
    have HO := Lib.hid hown
    have HD := Lib.hid hD
    have HR := Lib.hid hrow
    clear hown hD hrow
    by_cases hlt : k < 43
    · have hc := HR.out.cell hlt
      have hz := key_le k hlt
      go_wp2_with (at_mapUpdate; refine wpList_mapUpdate_own _ rfl _ _ _ 40 rfl 9 4 (Maps.string_keyed Tryd.underlying9) Tryd.underlying40 _ w.heap.size k D rfl HO.out (by unfold maxLen; omega) (.string (keyB k)) (.bool true) (.string (keyB k).data.toList) rfl rfl (Go.WideMaps.keyOf_string_mk Tryd.underlying9 (by unfold maxLen; omega)) (.lit (.bool true)) [] (plainElem_bool Tryd.underlying4 true) ?_; intro w2 hown2 hg2)
      go_roundw
      case rel =>
        have hr2 := HR.out.of_block (hg2.block g1 HR.out.lt (by simp; exact hne1))
        have hf2 : Fr w w2 := Below.grown hfr hg2 hfr.size (fun k hk => by simp at hk; omega)
        exact ⟨k + 1, _, by omega, by go_num, hown2, KwS HD.out, hr2, hf2⟩
      case measure => simp [intOf]; omega
    · obtain rfl : k = 43 := by omega
      go_wp2_with fail
      go_ret
      exact ⟨w.heap.size, rfl, fun W hW s hs => kw_look (HO.out.kept (Below.grow0 hW) (by simp)) HD.out s hs, hfr⟩
end Go.Proofs.YtkkapgidddfdoaaDoor
