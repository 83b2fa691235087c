/- Numbers read by the bases 10 and 16: what the library's function gives for digits. -/
import Derived.Test.YtkkapgidddfdoaaDoorT
import Derived.Test.YtkkapgidddfdoaaDoorSH
import Derived.Lib.ConvBytes
import Derived.BigCall
import Derived.BigGuard
namespace Go.Proofs.YtkkapgidddfdoaaDoor
open Go.RowKit
set_option linter.unusedVariables false

def top : Nat := 18446744073709551616
theorem val_mono (b : Nat) (hb : 1 ≤ b) (s : ByteArray) (a : Nat) : ∀ m k, k ≤ m → val b s a k ≤ val b s a m := by
  intro m
  induction m with
  | zero => intro k hk; obtain rfl : k = 0 := (by omega); exact Nat.le_refl _
  | succ m ih =>
    intro k hk
    by_cases h : k = m + 1
    · rw [h]; exact Nat.le_refl _
    · refine Nat.le_trans (ih k (by omega)) ?_
      rw [val]
      have : val b s a m * 1 ≤ val b s a m * b := Nat.mul_le_mul_left _ hb
      omega
def puV (b : Nat) (t : ByteArray) : Int := if val b t 0 t.size < top then (val b t 0 t.size : Int) else 18446744073709551615
def puE (b : Nat) (t : ByteArray) : Value := if val b t 0 t.size < top then .nilIface else .iface 105 (.int .i64 1)
theorem pu_big {b : Nat} {t : ByteArray} (hb : 1 ≤ b) {k : Nat} (hk : k ≤ t.size) (h : top ≤ val b t 0 k) : puV b t = 18446744073709551615 ∧ puE b t = .iface 105 (.int .i64 1) := by
  have := val_mono b hb t 0 t.size k hk
  unfold puV puE
  rw [if_neg (by omega), if_neg (by omega)]
  exact ⟨rfl, rfl⟩
theorem pu_ok {b : Nat} {t : ByteArray} (h : val b t 0 t.size < top) : puV b t = (val b t 0 t.size : Int) ∧ puE b t = .nilIface := by
  unfold puV puE
  rw [if_pos h, if_pos h]
  exact ⟨rfl, rfl⟩
theorem bt_list (s : ByteArray) (i : Nat) : (s.data.toList.getD i 0).toNat = bt s i := by
  unfold bt; rw [List.getD_eq_getElem?_getD, Array.getD_eq_getD_getElem?, Array.getElem?_toList]
theorem fr_bytes (w : World) (s : ByteArray) : Fr w (Lib.bytesWorld w 5 s) :=
  ⟨rfl, rfl, rfl, by rw [Lib.bytesWorld_size]; omega, fun k hk => Lib.bytesWorld_at_old w _ s k hk⟩
/-- The variable that holds the library's error is there. -/
def Ev (w : World) : Prop := ∃ ev, w.cell? ⟨3, 0, none⟩ = some ev ∧ (ev = .nilIface ∨ ∃ te pe, ev = .iface te pe)
theorem Ev.fr {w w' : World} (h : Ev w) (k : Fr w w') : Ev w' := by
  obtain ⟨ev, h1, h2⟩ := h
  exact ⟨ev, k.cell h1, h2⟩
theorem lower_any (c : Nat) (h : (97 ≤ c ∧ c ≤ 102) ∨ (65 ≤ c ∧ c ≤ 70)) (w : World) : Calls Tryd.prog 111 #[.int .u8 c] w fun e w' => e = .returned (.int .u8 ((if 97 ≤ c then c else c + 32 : Nat) : Int)) ∧ w = w' := by
  have h12 : c = 97 ∨ c = 98 ∨ c = 99 ∨ c = 100 ∨ c = 101 ∨ c = 102 ∨ c = 65 ∨ c = 66 ∨ c = 67 ∨ c = 68 ∨ c = 69 ∨ c = 70 := by omega
  rcases h12 with rfl | rfl | rfl | rfl | rfl | rfl | rfl | rfl | rfl | rfl | rfl | rfl
  all_goals
    go_enter Tryd.func111, Tryd.ntmps111
    go_wp2
    go_ret
    exact ⟨rfl, rfl⟩
set_option maxHeartbeats 8000000 in
set_option maxRecDepth 100000 in
theorem iParse10 (t : ByteArray) (h0 : 0 < t.size) (hs : t.size ≤ 1000000) (hd : ∀ i, i < t.size → digit (bt t i) = true) (w : World) :
    Calls Tryd.prog 96 #[.string t, .int .i64 10, .int .i64 64] w fun e w' => e = .returned (.tuple #[.int .u64 (puV 10 t), puE 10 t]) ∧ Fr w w' := by
  have hemp : t.toList.isEmpty = false := by
    rw [Bool.eq_false_iff]
    intro e
    rw [ByteArray.toList_eq, List.isEmpty_iff_length_eq_zero] at e
    have : t.size = 0 := by simpa using e
    omega
  have hcv := Lib.run_convert_string_bytes (P := Tryd.prog) w 9 53 5 t Tryd.underlying9 Tryd.underlying53 Tryd.underlying5
  have hB : ∀ j, j < t.size → (Lib.bytesWorld w 5 t).cell? ⟨w.heap.size, j, none⟩ = some (.int .u8 (bt t j : Nat)) := fun j hj => by rw [Lib.bytesWorld_cell w _ t j hj, bt_list]
  have HFR := Lib.hid (fr_bytes w t)
  obtain ⟨W1, hW1⟩ : ∃ W1, W1 = Lib.bytesWorld w 5 t := ⟨_, rfl⟩
  rw [← hW1] at hcv hB HFR
  have HBY := Lib.hid hB
  have HD := Lib.hid hd
  clear hW1 hB hd
  have hmv : IntKind.u64.wrap (IntKind.u64.wrap 18446744073709551616 - 1) = 18446744073709551615 := by
    rw [IntKind.wrap_u64, IntKind.wrap_u64]
    decide
  go_enter Tryd.func96, Tryd.ntmps96
  go_wp2
  go_loop [12, 13, 101] (fun vu vn vi => ∃ (k : Nat) (a : Int), vu = .bool false ∧ vn = .int .u64 a ∧ vi = .int .i64 k ∧ k ≤ t.size ∧ Hid (a = (val 10 t 0 k : Int) ∧ val 10 t 0 k < top))
    (fun _ _ vi => t.size - (intOf vi).toNat)
  case atStart => exact ⟨0, 0, rfl, rfl, rfl, by omega, Lib.hid ⟨rfl, by show (0 : Nat) < top; decide⟩⟩
  case round =>
    obtain ⟨k, a, rfl, rfl, rfl, hk, hh⟩ := hrel
    obtain ⟨ha, hacc⟩ := hh.out
    unfold top at hacc
    obtain ⟨acc, hac⟩ : ∃ acc, val 10 t 0 k = acc := ⟨_, rfl⟩
    rw [hac] at ha hacc
    have a0 : 0 ≤ a := by omega
    have a1 : a < 18446744073709551616 := by omega
    by_cases hkn : k < t.size
    · have hc := HBY.out k hkn
      have hokc := HD.out k hkn
      obtain ⟨c, hcc⟩ : ∃ c, c = bt t k := ⟨_, rfl⟩
      have hc256 : c < 256 := by rw [hcc]; exact bt_lt _ _
      rw [← hcc] at hc hokc
      clear hh
      by_cases hdig : 48 ≤ c ∧ c ≤ 57
      · obtain ⟨hd0, hd1⟩ := hdig
        have hsucc : val 10 t 0 (k + 1) = acc * 10 + (c - 48) := by rw [val, Nat.zero_add, ← hcc, hac]; unfold dig; rw [if_pos hd1]
        clear hokc hac hcc
        by_cases hcut : 1844674407370955162 ≤ acc
        · have HB := Lib.hid (pu_big (b := 10) (by decide) (show k + 1 ≤ t.size by omega) (by rw [hsucc]; unfold top; omega))
          have icut : 1844674407370955162 ≤ a := by omega
          clear hcut hacc ha hsucc
          go_wp2
          go_ret2
          exact ⟨by rw [HB.out.1, HB.out.2]; rfl, HFR.out⟩
        · by_cases hov : 18446744073709551616 ≤ acc * 10 + (c - 48)
          · have HB := Lib.hid (pu_big (b := 10) (by decide) (show k + 1 ≤ t.size by omega) (by rw [hsucc]; unfold top; omega))
            have icut : a < 1844674407370955162 := by omega
            have iov : 18446744073709551616 ≤ a * 10 + ((c : Int) - 48) := by omega
            have hwr : IntKind.u64.wrap (a * 10 + ((c : Int) - 48)) = a * 10 + ((c : Int) - 48) - 18446744073709551616 := by
              rw [IntKind.wrap_u64]
              omega
            clear hcut hacc hov ha hsucc
            go_wp2
            go_ret2
            exact ⟨by rw [HB.out.1, HB.out.2]; rfl, HFR.out⟩
          · have HN : Hid (a * 10 + ((c : Int) - 48) = ((val 10 t 0 (k + 1) : Nat) : Int) ∧ val 10 t 0 (k + 1) < top) := Lib.hid ⟨by rw [hsucc]; omega, by rw [hsucc]; unfold top; omega⟩
            have icut : a < 1844674407370955162 := by omega
            have iov : a * 10 + ((c : Int) - 48) < 18446744073709551616 := by omega
            clear hcut hacc hov ha hsucc
            go_wp2
            refine ⟨⟨k + 1, a * 10 + ((c : Int) - 48), rfl, (by first | rfl | (congr 1; omega)), (by first | rfl | (congr 1; omega)), by omega, HN⟩, by simp [intOf]; omega⟩
      · exfalso; rw [digit_no (by omega)] at hokc; cases hokc
    · obtain rfl : k = t.size := by omega
      have HB := Lib.hid (pu_ok (b := 10) (t := t) (by rw [hac]; exact hacc))
      have HA : Hid ((acc : Int) = (val 10 t 0 t.size : Int)) := Lib.hid (by rw [hac])
      subst ha
      clear hacc a0 a1 hh hac
      go_wp2
      go_ret2
      exact ⟨by rw [HB.out.1, HB.out.2, ← HA.out]; rfl, HFR.out⟩
set_option maxHeartbeats 8000000 in
set_option maxRecDepth 100000 in
theorem iParse16 (t : ByteArray) (h0 : 0 < t.size) (hs : t.size ≤ 1000000) (hd : ∀ i, i < t.size → hexc (bt t i) = true) (w : World) :
    Calls Tryd.prog 96 #[.string t, .int .i64 16, .int .i64 64] w fun e w' => e = .returned (.tuple #[.int .u64 (puV 16 t), puE 16 t]) ∧ Fr w w' := by
  have hemp : t.toList.isEmpty = false := by
    rw [Bool.eq_false_iff]
    intro e
    rw [ByteArray.toList_eq, List.isEmpty_iff_length_eq_zero] at e
    have : t.size = 0 := by simpa using e
    omega
  have hcv := Lib.run_convert_string_bytes (P := Tryd.prog) w 9 53 5 t Tryd.underlying9 Tryd.underlying53 Tryd.underlying5
  have hB : ∀ j, j < t.size → (Lib.bytesWorld w 5 t).cell? ⟨w.heap.size, j, none⟩ = some (.int .u8 (bt t j : Nat)) := fun j hj => by rw [Lib.bytesWorld_cell w _ t j hj, bt_list]
  have HFR := Lib.hid (fr_bytes w t)
  obtain ⟨W1, hW1⟩ : ∃ W1, W1 = Lib.bytesWorld w 5 t := ⟨_, rfl⟩
  rw [← hW1] at hcv hB HFR
  have HBY := Lib.hid hB
  have HD := Lib.hid hd
  clear hW1 hB hd
  have hmv : IntKind.u64.wrap (IntKind.u64.wrap 18446744073709551616 - 1) = 18446744073709551615 := by
    rw [IntKind.wrap_u64, IntKind.wrap_u64]
    decide
  go_enter Tryd.func96, Tryd.ntmps96
  go_wp2
  go_loop [12, 13, 101] (fun vu vn vi => ∃ (k : Nat) (a : Int), vu = .bool false ∧ vn = .int .u64 a ∧ vi = .int .i64 k ∧ k ≤ t.size ∧ Hid (a = (val 16 t 0 k : Int) ∧ val 16 t 0 k < top))
    (fun _ _ vi => t.size - (intOf vi).toNat)
  case atStart => exact ⟨0, 0, rfl, rfl, rfl, by omega, Lib.hid ⟨rfl, by show (0 : Nat) < top; decide⟩⟩
  case round =>
    obtain ⟨k, a, rfl, rfl, rfl, hk, hh⟩ := hrel
    obtain ⟨ha, hacc⟩ := hh.out
    unfold top at hacc
    obtain ⟨acc, hac⟩ : ∃ acc, val 16 t 0 k = acc := ⟨_, rfl⟩
    rw [hac] at ha hacc
    have a0 : 0 ≤ a := by omega
    have a1 : a < 18446744073709551616 := by omega
    by_cases hkn : k < t.size
    · have hc := HBY.out k hkn
      have hokc := HD.out k hkn
      obtain ⟨c, hcc⟩ : ∃ c, c = bt t k := ⟨_, rfl⟩
      have hc256 : c < 256 := by rw [hcc]; exact bt_lt _ _
      rw [← hcc] at hc hokc
      clear hh
      by_cases hdig : 48 ≤ c ∧ c ≤ 57
      · obtain ⟨hd0, hd1⟩ := hdig
        have hsucc : val 16 t 0 (k + 1) = acc * 16 + (c - 48) := by rw [val, Nat.zero_add, ← hcc, hac]; unfold dig; rw [if_pos hd1]
        clear hokc hac hcc
        by_cases hcut : 1152921504606846976 ≤ acc
        · have HB := Lib.hid (pu_big (b := 16) (by decide) (show k + 1 ≤ t.size by omega) (by rw [hsucc]; unfold top; omega))
          have icut : 1152921504606846976 ≤ a := by omega
          clear hcut hacc ha hsucc
          go_wp2
          go_ret2
          exact ⟨by rw [HB.out.1, HB.out.2]; rfl, HFR.out⟩
        · have HN : Hid (a * 16 + ((c : Int) - 48) = ((val 16 t 0 (k + 1) : Nat) : Int) ∧ val 16 t 0 (k + 1) < top) := Lib.hid ⟨by rw [hsucc]; omega, by rw [hsucc]; unfold top; omega⟩
          have icut : a < 1152921504606846976 := by omega
          have iov : a * 16 + ((c : Int) - 48) < 18446744073709551616 := by omega
          clear hcut hacc ha hsucc
          go_wp2
          refine ⟨⟨k + 1, a * 16 + ((c : Int) - 48), rfl, (by first | rfl | (congr 1; omega)), (by first | rfl | (congr 1; omega)), by omega, HN⟩, by simp [intOf]; omega⟩
      · have HLOW := Lib.hid (show (97 ≤ c ∧ c ≤ 102) ∨ (65 ≤ c ∧ c ≤ 70) by have := hokc; unfold hexc digit at this; simp at this; omega)
        obtain ⟨lc, hlc⟩ : ∃ lc : Nat, (if 97 ≤ c then c else c + 32) = lc := ⟨_, rfl⟩
        have HLC := Lib.hid hlc
        have hl1 : 97 ≤ lc ∧ lc ≤ 102 := by rw [← hlc]; have := HLOW.out; split <;> omega
        have hc57 : 57 < c := by have := HLOW.out; omega
        have hc95 : ((c : Int) == 95) = false := by rw [beq_eq_false_iff_ne]; have := HLOW.out; omega
        have hdg : dig c = lc - 87 := by rw [← hlc]; unfold dig; have := HLOW.out; split <;> split <;> omega
        have hsucc : val 16 t 0 (k + 1) = acc * 16 + (lc - 87) := by rw [val, Nat.zero_add, ← hcc, hdg, hac]
        obtain ⟨l1, l2⟩ := hl1
        clear hlc hdg hokc hac hcc
        by_cases hcut : 1152921504606846976 ≤ acc
        · have HB := Lib.hid (pu_big (b := 16) (by decide) (show k + 1 ≤ t.size by omega) (by rw [hsucc]; unfold top; omega))
          have icut : 1152921504606846976 ≤ a := by omega
          clear hcut hacc ha hsucc
          go_wp2_with (go_at_call 111; refine (lower_any _ HLOW.out _).mono ?_; rintro e w2 ⟨rfl, rfl⟩; rw [HLC.out])
          go_ret2
          exact ⟨by rw [HB.out.1, HB.out.2]; rfl, HFR.out⟩
        · have HN : Hid (a * 16 + ((lc : Int) - 97 + 10) = ((val 16 t 0 (k + 1) : Nat) : Int) ∧ val 16 t 0 (k + 1) < top) := Lib.hid ⟨by rw [hsucc]; omega, by rw [hsucc]; unfold top; omega⟩
          have icut : a < 1152921504606846976 := by omega
          have iov : a * 16 + ((lc : Int) - 97 + 10) < 18446744073709551616 := by omega
          clear hcut hacc ha hsucc
          go_wp2_with (go_at_call 111; refine (lower_any _ HLOW.out _).mono ?_; rintro e w2 ⟨rfl, rfl⟩; rw [HLC.out])
          refine ⟨⟨k + 1, a * 16 + ((lc : Int) - 97 + 10), rfl, (by first | rfl | (congr 1; omega)), (by first | rfl | (congr 1; omega)), by omega, HN⟩, by simp [intOf]; omega⟩
    · obtain rfl : k = t.size := by omega
      have HB := Lib.hid (pu_ok (b := 16) (t := t) (by rw [hac]; exact hacc))
      have HA : Hid ((acc : Int) = (val 16 t 0 t.size : Int)) := Lib.hid (by rw [hac])
      subst ha
      clear hacc a0 a1 hh hac
      go_wp2
      go_ret2
      exact ⟨by rw [HB.out.1, HB.out.2, ← HA.out]; rfl, HFR.out⟩
set_option maxRecDepth 100000 in
theorem PU10_ok (t : ByteArray) (h0 : 0 < t.size) (hs : t.size ≤ 1000000) (hd : ∀ i, i < t.size → digit (bt t i) = true) (hv : val 10 t 0 t.size < top) (w : World) :
    Calls Tryd.prog 81 #[.string t, .int .i64 10, .int .i64 64] w fun e w' => e = .returned (.tuple #[.int .u64 (val 10 t 0 t.size : Nat), .nilIface]) ∧ Fr w w' := by
  obtain ⟨x, hx⟩ : ∃ x : Int, x = (val 10 t 0 t.size : Nat) := ⟨_, rfl⟩
  have HV := Lib.hid (pu_ok (b := 10) hv)
  rw [← hx]
  have HX := Lib.hid hx
  clear hx hv
  go_enter Tryd.func81, Tryd.ntmps81
  go_wp2_with fail
  refine (iParse10 t h0 hs hd _).mono ?_
  rintro e w1 ⟨rfl, hf⟩
  rw [HV.out.1, HV.out.2, ← HX.out]
  clear hd
  go_wp2_with fail
  go_ret2
  exact ⟨rfl, hf⟩
set_option maxRecDepth 100000 in
theorem PU10_big (t : ByteArray) (h0 : 0 < t.size) (hs : t.size ≤ 1000000) (hd : ∀ i, i < t.size → digit (bt t i) = true) (hv : ¬ val 10 t 0 t.size < top) (w : World) (hev : Ev w) :
    Calls Tryd.prog 81 #[.string t, .int .i64 10, .int .i64 64] w fun e w' => ∃ N, e = .returned (.tuple #[.int .u64 18446744073709551615, .iface 107 (.pointer (some ⟨N, 0, none⟩))]) ∧ Fr w w' := by
  have HV := Lib.hid (pu_big (b := 10) (by decide) (Nat.le_refl t.size) (by omega))
  have HE := Lib.hid hev
  clear hv
  go_enter Tryd.func81, Tryd.ntmps81
  go_wp2_with fail
  refine (iParse10 t h0 hs hd _).mono ?_
  rintro e w1 ⟨rfl, hf⟩
  rw [HV.out.1, HV.out.2]
  clear hd
  go_wp2_with fail
  obtain ⟨ev, hcell, hk⟩ := Ev.fr HE.out hf
  refine (Tryd.strconv_toError_range _ t _ _ ev _ (by omega) hcell hk).mono ?_
  rintro e w2 ⟨N, rfl, _, _, hb⟩
  clear hcell hk
  go_wp2_with fail
  go_ret2
  exact ⟨N, rfl, hf.trans hb⟩
set_option maxRecDepth 100000 in
theorem PU16_ok (t : ByteArray) (h0 : 0 < t.size) (hs : t.size ≤ 1000000) (hd : ∀ i, i < t.size → hexc (bt t i) = true) (hv : val 16 t 0 t.size < top) (w : World) :
    Calls Tryd.prog 81 #[.string t, .int .i64 16, .int .i64 64] w fun e w' => e = .returned (.tuple #[.int .u64 (val 16 t 0 t.size : Nat), .nilIface]) ∧ Fr w w' := by
  obtain ⟨x, hx⟩ : ∃ x : Int, x = (val 16 t 0 t.size : Nat) := ⟨_, rfl⟩
  have HV := Lib.hid (pu_ok (b := 16) hv)
  rw [← hx]
  have HX := Lib.hid hx
  clear hx hv
  go_enter Tryd.func81, Tryd.ntmps81
  go_wp2_with fail
  refine (iParse16 t h0 hs hd _).mono ?_
  rintro e w1 ⟨rfl, hf⟩
  rw [HV.out.1, HV.out.2, ← HX.out]
  clear hd
  go_wp2_with fail
  go_ret2
  exact ⟨rfl, hf⟩
set_option maxRecDepth 100000 in
theorem PU16_big (t : ByteArray) (h0 : 0 < t.size) (hs : t.size ≤ 1000000) (hd : ∀ i, i < t.size → hexc (bt t i) = true) (hv : ¬ val 16 t 0 t.size < top) (w : World) (hev : Ev w) :
    Calls Tryd.prog 81 #[.string t, .int .i64 16, .int .i64 64] w fun e w' => ∃ N, e = .returned (.tuple #[.int .u64 18446744073709551615, .iface 107 (.pointer (some ⟨N, 0, none⟩))]) ∧ Fr w w' := by
  have HV := Lib.hid (pu_big (b := 16) (by decide) (Nat.le_refl t.size) (by omega))
  have HE := Lib.hid hev
  clear hv
  go_enter Tryd.func81, Tryd.ntmps81
  go_wp2_with fail
  refine (iParse16 t h0 hs hd _).mono ?_
  rintro e w1 ⟨rfl, hf⟩
  rw [HV.out.1, HV.out.2]
  clear hd
  go_wp2_with fail
  obtain ⟨ev, hcell, hk⟩ := Ev.fr HE.out hf
  refine (Tryd.strconv_toError_range _ t _ _ ev _ (by omega) hcell hk).mono ?_
  rintro e w2 ⟨N, rfl, _, _, hb⟩
  clear hcell hk
  go_wp2_with fail
  go_ret2
  exact ⟨N, rfl, hf.trans hb⟩
end Go.Proofs.YtkkapgidddfdoaaDoor
