/- A part of the proof that the law ParsePrints holds for every input. -/
import Derived.Test.YtbaelbafhdjlnaaGreatDoorM1
import Derived.Test.YtbaelbafhdjlnaaGreatDoorSH
import Derived.Lib.ConvBytes
import Derived.BigCall
import Derived.BigGuard
import Derived.Deep.RegionHeld3
import Derived.Outline
namespace Go.Proofs.YtbaelbafhdjlnaaGreatDoor
open Go.RowKit _root_.Go.Proofs.Tryz
set_option linter.unusedVariables false
set_option linter.unusedSimpArgs false
set_option maxRecDepth 100000
set_option maxHeartbeats 8000000
def top : Nat := 18446744073709551616
theorem val_mono (b : Nat) (hb : 1 ≤ b) (s : ByteArray) (a : Nat) : ∀ m k,k ≤ m → val b s a k ≤ val b s a m := by
 intro m
 induction m with
 | zero => intro k hk; obtain rfl : k = 0 := (by omega); exact Nat.le_refl _
 | succ m ih =>
  intro k hk
  by_cases h : k = m + 1
  ·rw [h]; exact Nat.le_refl _
  ·refine Nat.le_trans (ih k (by omega)) ?_
   rw [val]
   have : val b s a m * 1 ≤ val b s a m * b := Nat.mul_le_mul_left _ hb
   omega
def puV (b : Nat) (t : ByteArray) : Int := if val b t 0 t.size < top then (val b t 0 t.size : Int) else 18446744073709551615
def puE (b : Nat) (t : ByteArray) : Value := if val b t 0 t.size < top then .nilIface else .iface 194 (.int .i64 1)
theorem pu_big {b : Nat} {t : ByteArray} (hb : 1 ≤ b) {k : Nat} (hk : k ≤ t.size) (h : top ≤ val b t 0 k) : puV b t = 18446744073709551615 ∧ puE b t = .iface 194 (.int .i64 1) := by
 have := val_mono b hb t 0 t.size k hk
 unfold puV puE
 rw [if_neg (by omega),if_neg (by omega)]
 exact ⟨rfl,rfl⟩
theorem pu_ok {b : Nat} {t : ByteArray} (h : val b t 0 t.size < top) : puV b t = (val b t 0 t.size : Int) ∧ puE b t = .nilIface := by
 unfold puV puE
 rw [if_pos h,if_pos h]
 exact ⟨rfl,rfl⟩
theorem bt_list (s : ByteArray) (i : Nat) : (s.data.toList.getD i 0).toNat = bt s i := by
 unfold bt; rw [List.getD_eq_getElem?_getD,Array.getD_eq_getD_getElem?,Array.getElem?_toList]
theorem fr_bytes (w : World) (s : ByteArray) : Fr w (Lib.bytesWorld w 5 s) :=
 ⟨rfl,rfl,rfl,by rw [Lib.bytesWorld_size]; omega,fun k hk => Lib.bytesWorld_at_old w _ s k hk⟩
def Ev (w : World) : Prop := ∃ ev,w.cell? ⟨2,0,none⟩ = some ev ∧ (ev = .nilIface ∨ ∃ te pe,ev = .iface te pe)
theorem Ev.fr {w w' : World} (h : Ev w) (k : Fr w w') : Ev w' := by
 obtain ⟨ev,h1,h2⟩ := h
 exact ⟨ev,k.cell h1,h2⟩
theorem lower_any (c : Nat) (h : (97 ≤ c ∧ c ≤ 102) ∨ (65 ≤ c ∧ c ≤ 70)) (w : World) : Calls prog 276 #[.int .u8 c] w fun e w' => e = .returned (.int .u8 ((if 97 ≤ c then c else c + 32 : Nat) : Int)) ∧ w = w' := by
 have h12 : c = 97 ∨ c = 98 ∨ c = 99 ∨ c = 100 ∨ c = 101 ∨ c = 102 ∨ c = 65 ∨ c = 66 ∨ c = 67 ∨ c = 68 ∨ c = 69 ∨ c = 70 := by omega
 rcases h12 with rfl | rfl | rfl | rfl | rfl | rfl | rfl | rfl | rfl | rfl | rfl | rfl
 all_goals
  go_enter func276,ntmps276
  go_wp2
  go_ret
  exact ⟨rfl,rfl⟩
theorem iParse10 (t : ByteArray) (h0 : 0 < t.size) (hs : t.size ≤ 1000000) (hd : ∀ i,i < t.size → digit (bt t i) = true) (w : World) :
 Calls prog 267 #[.string t,.int .i64 10,.int .i64 64] w fun e w' => e = .returned (.tuple #[.int .u64 (puV 10 t),puE 10 t]) ∧ Fr w w' := by
 have hemp : t.toList.isEmpty = false := by
  rw [Bool.eq_false_iff]
  intro e
  rw [ByteArray.toList_eq,List.isEmpty_iff_length_eq_zero] at e
  have : t.size = 0 := by simpa using e
  omega
 have hcv := Lib.run_convert_string_bytes (P := prog) w 9 54 5 t underlying9 underlying54 underlying5
 have hB : ∀ j,j < t.size → (Lib.bytesWorld w 5 t).cell? ⟨w.heap.size,j,none⟩ = some (.int .u8 (bt t j : Nat)) := fun j hj => by rw [Lib.bytesWorld_cell w _ t j hj,bt_list]
 have HFR := h_ (fr_bytes w t)
 obtain ⟨W1,hW1⟩ : ∃ W1,W1 = Lib.bytesWorld w 5 t := ⟨_,rfl⟩
 rw [← hW1] at hcv hB HFR
 have HBY := h_ hB
 have HD := h_ hd
 clear hW1 hB hd
 have hmv : IntKind.u64.wrap (IntKind.u64.wrap 18446744073709551616 - 1) = 18446744073709551615 := by
  rw [IntKind.wrap_u64,IntKind.wrap_u64]
  decide
 go_enter func267,ntmps267
 go_wp2
 go_loop [12,13,101] (fun vu vn vi => ∃ (k : Nat) (a : Int),vu = .bool false ∧ vn = .int .u64 a ∧ vi = .int .i64 k ∧ k ≤ t.size ∧ Hid (a = (val 10 t 0 k : Int) ∧ val 10 t 0 k < top))
  (fun _ _ vi => t.size - (intOf vi).toNat)
 case atStart => exact ⟨0,0,rfl,rfl,rfl,by omega,h_ ⟨rfl,by show (0 : Nat) < top; decide⟩⟩
 case round =>
  obtain ⟨k,a,rfl,rfl,rfl,hk,hh⟩ := hrel
  obtain ⟨ha,hacc⟩ := hh.out
  unfold top at hacc
  obtain ⟨acc,hac⟩ : ∃ acc,val 10 t 0 k = acc := ⟨_,rfl⟩
  rw [hac] at ha hacc
  have a0 : 0 ≤ a := by omega
  have a1 : a < 18446744073709551616 := by omega
  by_cases hkn : k < t.size
  ·have hc := HBY.out k hkn
   have hokc := HD.out k hkn
   obtain ⟨c,hcc⟩ : ∃ c,c = bt t k := ⟨_,rfl⟩
   have hc256 : c < 256 := by rw [hcc]; exact bt_lt _ _
   rw [← hcc] at hc hokc
   clear hh
   by_cases hdig : 48 ≤ c ∧ c ≤ 57
   ·obtain ⟨hd0,hd1⟩ := hdig
    have hsucc : val 10 t 0 (k + 1) = acc * 10 + (c - 48) := by rw [val,Nat.zero_add,← hcc,hac]; unfold dig; rw [if_pos hd1]
    clear hokc hac hcc
    by_cases hcut : 1844674407370955162 ≤ acc
    ·have HB := h_ (pu_big (b := 10) (by decide) (show k + 1 ≤ t.size by omega) (by rw [hsucc]; unfold top; omega))
     have icut : 1844674407370955162 ≤ a := by omega
     clear hcut hacc ha hsucc
     go_wp2
     go_ret2
     exact ⟨by rw [HB.out.1,HB.out.2]; rfl,HFR.out⟩
    ·by_cases hov : 18446744073709551616 ≤ acc * 10 + (c - 48)
     ·have HB := h_ (pu_big (b := 10) (by decide) (show k + 1 ≤ t.size by omega) (by rw [hsucc]; unfold top; omega))
      have icut : a < 1844674407370955162 := by omega
      have iov : 18446744073709551616 ≤ a * 10 + ((c : Int) - 48) := by omega
      have hwr : IntKind.u64.wrap (a * 10 + ((c : Int) - 48)) = a * 10 + ((c : Int) - 48) - 18446744073709551616 := by
       rw [IntKind.wrap_u64]
       omega
      clear hcut hacc hov ha hsucc
      go_wp2
      go_ret2
      exact ⟨by rw [HB.out.1,HB.out.2]; rfl,HFR.out⟩
     ·have HN : Hid (a * 10 + ((c : Int) - 48) = ((val 10 t 0 (k + 1) : Nat) : Int) ∧ val 10 t 0 (k + 1) < top) := h_ ⟨by rw [hsucc]; omega,by rw [hsucc]; unfold top; omega⟩
      have icut : a < 1844674407370955162 := by omega
      have iov : a * 10 + ((c : Int) - 48) < 18446744073709551616 := by omega
      clear hcut hacc hov ha hsucc
      go_wp2
      refine ⟨⟨k + 1,a * 10 + ((c : Int) - 48),rfl,(by first | rfl | (congr 1; omega)),(by first | rfl | (congr 1; omega)),by omega,HN⟩,by simp [intOf]; omega⟩
   ·exfalso; rw [digit_no (by omega)] at hokc; cases hokc
  ·obtain rfl : k = t.size := by omega
   have HB := h_ (pu_ok (b := 10) (t := t) (by rw [hac]; exact hacc))
   have HA : Hid ((acc : Int) = (val 10 t 0 t.size : Int)) := h_ (by rw [hac])
   subst ha
   clear hacc a0 a1 hh hac
   go_wp2
   go_ret2
   exact ⟨by rw [HB.out.1,HB.out.2,← HA.out]; rfl,HFR.out⟩
theorem iParse16 (t : ByteArray) (h0 : 0 < t.size) (hs : t.size ≤ 1000000) (hd : ∀ i,i < t.size → hexc (bt t i) = true) (w : World) :
 Calls prog 267 #[.string t,.int .i64 16,.int .i64 64] w fun e w' => e = .returned (.tuple #[.int .u64 (puV 16 t),puE 16 t]) ∧ Fr w w' := by
 have hemp : t.toList.isEmpty = false := by
  rw [Bool.eq_false_iff]
  intro e
  rw [ByteArray.toList_eq,List.isEmpty_iff_length_eq_zero] at e
  have : t.size = 0 := by simpa using e
  omega
 have hcv := Lib.run_convert_string_bytes (P := prog) w 9 54 5 t underlying9 underlying54 underlying5
 have hB : ∀ j,j < t.size → (Lib.bytesWorld w 5 t).cell? ⟨w.heap.size,j,none⟩ = some (.int .u8 (bt t j : Nat)) := fun j hj => by rw [Lib.bytesWorld_cell w _ t j hj,bt_list]
 have HFR := h_ (fr_bytes w t)
 obtain ⟨W1,hW1⟩ : ∃ W1,W1 = Lib.bytesWorld w 5 t := ⟨_,rfl⟩
 rw [← hW1] at hcv hB HFR
 have HBY := h_ hB
 have HD := h_ hd
 clear hW1 hB hd
 have hmv : IntKind.u64.wrap (IntKind.u64.wrap 18446744073709551616 - 1) = 18446744073709551615 := by
  rw [IntKind.wrap_u64,IntKind.wrap_u64]
  decide
 go_enter func267,ntmps267
 go_wp2
 go_loop [12,13,101] (fun vu vn vi => ∃ (k : Nat) (a : Int),vu = .bool false ∧ vn = .int .u64 a ∧ vi = .int .i64 k ∧ k ≤ t.size ∧ Hid (a = (val 16 t 0 k : Int) ∧ val 16 t 0 k < top))
  (fun _ _ vi => t.size - (intOf vi).toNat)
 case atStart => exact ⟨0,0,rfl,rfl,rfl,by omega,h_ ⟨rfl,by show (0 : Nat) < top; decide⟩⟩
 case round =>
  obtain ⟨k,a,rfl,rfl,rfl,hk,hh⟩ := hrel
  obtain ⟨ha,hacc⟩ := hh.out
  unfold top at hacc
  obtain ⟨acc,hac⟩ : ∃ acc,val 16 t 0 k = acc := ⟨_,rfl⟩
  rw [hac] at ha hacc
  have a0 : 0 ≤ a := by omega
  have a1 : a < 18446744073709551616 := by omega
  by_cases hkn : k < t.size
  ·have hc := HBY.out k hkn
   have hokc := HD.out k hkn
   obtain ⟨c,hcc⟩ : ∃ c,c = bt t k := ⟨_,rfl⟩
   have hc256 : c < 256 := by rw [hcc]; exact bt_lt _ _
   rw [← hcc] at hc hokc
   clear hh
   by_cases hdig : 48 ≤ c ∧ c ≤ 57
   ·obtain ⟨hd0,hd1⟩ := hdig
    have hsucc : val 16 t 0 (k + 1) = acc * 16 + (c - 48) := by rw [val,Nat.zero_add,← hcc,hac]; unfold dig; rw [if_pos hd1]
    clear hokc hac hcc
    by_cases hcut : 1152921504606846976 ≤ acc
    ·have HB := h_ (pu_big (b := 16) (by decide) (show k + 1 ≤ t.size by omega) (by rw [hsucc]; unfold top; omega))
     have icut : 1152921504606846976 ≤ a := by omega
     clear hcut hacc ha hsucc
     go_wp2
     go_ret2
     exact ⟨by rw [HB.out.1,HB.out.2]; rfl,HFR.out⟩
    ·have HN : Hid (a * 16 + ((c : Int) - 48) = ((val 16 t 0 (k + 1) : Nat) : Int) ∧ val 16 t 0 (k + 1) < top) := h_ ⟨by rw [hsucc]; omega,by rw [hsucc]; unfold top; omega⟩
     have icut : a < 1152921504606846976 := by omega
     have iov : a * 16 + ((c : Int) - 48) < 18446744073709551616 := by omega
     clear hcut hacc ha hsucc
     go_wp2
     refine ⟨⟨k + 1,a * 16 + ((c : Int) - 48),rfl,(by first | rfl | (congr 1; omega)),(by first | rfl | (congr 1; omega)),by omega,HN⟩,by simp [intOf]; omega⟩
   ·have HLOW := h_ (show (97 ≤ c ∧ c ≤ 102) ∨ (65 ≤ c ∧ c ≤ 70) by have := hokc; unfold hexc digit at this; simp at this; omega)
    obtain ⟨lc,hlc⟩ : ∃ lc : Nat,(if 97 ≤ c then c else c + 32) = lc := ⟨_,rfl⟩
    have HLC := h_ hlc
    have hl1 : 97 ≤ lc ∧ lc ≤ 102 := by rw [← hlc]; have := HLOW.out; split <;> omega
    have hc57 : 57 < c := by have := HLOW.out; omega
    have hc95 : ((c : Int) == 95) = false := by rw [beq_eq_false_iff_ne]; have := HLOW.out; omega
    have hdg : dig c = lc - 87 := by rw [← hlc]; unfold dig; have := HLOW.out; split <;> split <;> omega
    have hsucc : val 16 t 0 (k + 1) = acc * 16 + (lc - 87) := by rw [val,Nat.zero_add,← hcc,hdg,hac]
    obtain ⟨l1,l2⟩ := hl1
    clear hlc hdg hokc hac hcc
    by_cases hcut : 1152921504606846976 ≤ acc
    ·have HB := h_ (pu_big (b := 16) (by decide) (show k + 1 ≤ t.size by omega) (by rw [hsucc]; unfold top; omega))
     have icut : 1152921504606846976 ≤ a := by omega
     clear hcut hacc ha hsucc
     go_wp2_with (go_at_call 276; refine (lower_any _ HLOW.out _).mono ?_; rintro e w2 ⟨rfl,rfl⟩; rw [HLC.out])
     go_ret2
     exact ⟨by rw [HB.out.1,HB.out.2]; rfl,HFR.out⟩
    ·have HN : Hid (a * 16 + ((lc : Int) - 97 + 10) = ((val 16 t 0 (k + 1) : Nat) : Int) ∧ val 16 t 0 (k + 1) < top) := h_ ⟨by rw [hsucc]; omega,by rw [hsucc]; unfold top; omega⟩
     have icut : a < 1152921504606846976 := by omega
     have iov : a * 16 + ((lc : Int) - 97 + 10) < 18446744073709551616 := by omega
     clear hcut hacc ha hsucc
     go_wp2_with (go_at_call 276; refine (lower_any _ HLOW.out _).mono ?_; rintro e w2 ⟨rfl,rfl⟩; rw [HLC.out])
     refine ⟨⟨k + 1,a * 16 + ((lc : Int) - 97 + 10),rfl,(by first | rfl | (congr 1; omega)),(by first | rfl | (congr 1; omega)),by omega,HN⟩,by simp [intOf]; omega⟩
  ·obtain rfl : k = t.size := by omega
   have HB := h_ (pu_ok (b := 16) (t := t) (by rw [hac]; exact hacc))
   have HA : Hid ((acc : Int) = (val 16 t 0 t.size : Int)) := h_ (by rw [hac])
   subst ha
   clear hacc a0 a1 hh hac
   go_wp2
   go_ret2
   exact ⟨by rw [HB.out.1,HB.out.2,← HA.out]; rfl,HFR.out⟩
theorem PU10_ok (t : ByteArray) (h0 : 0 < t.size) (hs : t.size ≤ 1000000) (hd : ∀ i,i < t.size → digit (bt t i) = true) (hv : val 10 t 0 t.size < top) (w : World) :
 Calls prog 258 #[.string t,.int .i64 10,.int .i64 64] w fun e w' => e = .returned (.tuple #[.int .u64 (val 10 t 0 t.size : Nat),.nilIface]) ∧ Fr w w' := by
 obtain ⟨x,hx⟩ : ∃ x : Int,x = (val 10 t 0 t.size : Nat) := ⟨_,rfl⟩
 have HV := h_ (pu_ok (b := 10) hv)
 rw [← hx]
 have HX := h_ hx
 clear hx hv
 go_enter func258,ntmps258
 go_wp2_with fail
 refine (iParse10 t h0 hs hd _).mono ?_
 rintro e w1 ⟨rfl,hf⟩
 rw [HV.out.1,HV.out.2,← HX.out]
 clear hd
 go_wp2_with fail
 go_ret2
 exact ⟨rfl,hf⟩
theorem PU10_big (t : ByteArray) (h0 : 0 < t.size) (hs : t.size ≤ 1000000) (hd : ∀ i,i < t.size → digit (bt t i) = true) (hv : ¬ val 10 t 0 t.size < top) (w : World) (hev : Ev w) :
 Calls prog 258 #[.string t,.int .i64 10,.int .i64 64] w fun e w' => ∃ N,e = .returned (.tuple #[.int .u64 18446744073709551615,.iface 197 (.pointer (some ⟨N,0,none⟩))]) ∧ Fr w w' := by
 have HV := h_ (pu_big (b := 10) (by decide) (Nat.le_refl t.size) (by omega))
 have HE := h_ hev
 clear hv
 go_enter func258,ntmps258
 go_wp2_with fail
 refine (iParse10 t h0 hs hd _).mono ?_
 rintro e w1 ⟨rfl,hf⟩
 rw [HV.out.1,HV.out.2]
 clear hd
 go_wp2_with fail
 obtain ⟨ev,hcell,hk⟩ := Ev.fr HE.out hf
 refine (Tryz.strconv_toError_range _ t _ _ ev _ (by omega) hcell hk).mono ?_
 rintro e w2 ⟨N,rfl,_,_,hb⟩
 clear hcell hk
 go_wp2_with fail
 go_ret2
 exact ⟨N,rfl,hf.trans hb⟩
theorem PU16_ok (t : ByteArray) (h0 : 0 < t.size) (hs : t.size ≤ 1000000) (hd : ∀ i,i < t.size → hexc (bt t i) = true) (hv : val 16 t 0 t.size < top) (w : World) :
 Calls prog 258 #[.string t,.int .i64 16,.int .i64 64] w fun e w' => e = .returned (.tuple #[.int .u64 (val 16 t 0 t.size : Nat),.nilIface]) ∧ Fr w w' := by
 obtain ⟨x,hx⟩ : ∃ x : Int,x = (val 16 t 0 t.size : Nat) := ⟨_,rfl⟩
 have HV := h_ (pu_ok (b := 16) hv)
 rw [← hx]
 have HX := h_ hx
 clear hx hv
 go_enter func258,ntmps258
 go_wp2_with fail
 refine (iParse16 t h0 hs hd _).mono ?_
 rintro e w1 ⟨rfl,hf⟩
 rw [HV.out.1,HV.out.2,← HX.out]
 clear hd
 go_wp2_with fail
 go_ret2
 exact ⟨rfl,hf⟩
theorem PU16_big (t : ByteArray) (h0 : 0 < t.size) (hs : t.size ≤ 1000000) (hd : ∀ i,i < t.size → hexc (bt t i) = true) (hv : ¬ val 16 t 0 t.size < top) (w : World) (hev : Ev w) :
 Calls prog 258 #[.string t,.int .i64 16,.int .i64 64] w fun e w' => ∃ N,e = .returned (.tuple #[.int .u64 18446744073709551615,.iface 197 (.pointer (some ⟨N,0,none⟩))]) ∧ Fr w w' := by
 have HV := h_ (pu_big (b := 16) (by decide) (Nat.le_refl t.size) (by omega))
 have HE := h_ hev
 clear hv
 go_enter func258,ntmps258
 go_wp2_with fail
 refine (iParse16 t h0 hs hd _).mono ?_
 rintro e w1 ⟨rfl,hf⟩
 rw [HV.out.1,HV.out.2]
 clear hd
 go_wp2_with fail
 obtain ⟨ev,hcell,hk⟩ := Ev.fr HE.out hf
 refine (Tryz.strconv_toError_range _ t _ _ ev _ (by omega) hcell hk).mono ?_
 rintro e w2 ⟨N,rfl,_,_,hb⟩
 clear hcell hk
 go_wp2_with fail
 go_ret2
 exact ⟨N,rfl,hf.trans hb⟩
theorem val_ext (b : Nat) (s : ByteArray) (x y : Nat) (hy : y ≤ s.size) : ∀ k,k ≤ y - x → val b (s.extract x y) 0 k = val b s x k := by
 intro k
 induction k with
 | zero => intro _; rfl
 | succ k ih => intro hk; rw [val,val,ih (by omega),Nat.zero_add,ext_bt s x y k hy (by omega)]
theorem run_fit (p : Nat → Bool) (s : ByteArray) : ∀ n a,n = s.size - a → ∀ i,a ≤ i → i < run p s a → p (bt s i) = true := by
 intro n
 induction n with
 | zero => intro a h i h1 h2; rw [run_end (by omega)] at h2; omega
 | succ n ih =>
  intro a h i h1 h2
  cases hp : p (bt s a) with
  | true =>
   by_cases e : i = a
   ·rw [e]; exact hp
   ·rw [run_inside (by omega) hp] at h2; exact ih (a + 1) (by omega) i (by omega) h2
  | false => rw [run_out hp] at h2; omega
theorem number_any (s : ByteArray) (hs : s.size ≤ 1000000) (mp g a : Nat) (ha : a < s.size) (hd : digit (bt s a) = true) (w : World) (hev : Ev w) :
 Calls prog 233 #[.agg #[.string s,.map (some mp),.slice (some ⟨g,0,none⟩) 28 28],.int .i64 a] w fun e w' =>
  e = .returned (.tuple #[.agg #[.int .i64 (numT s a).k,.string (numT s a).t,.int .i64 (numT s a).n,.int .i64 0],.int .i64 (numT s a).e,.int .i64 (numT s a).er]) ∧ Fr w w' := by
 have hbd := run_bd digit s _ (a + 1) rfl (by omega)
 rw [← run_inside ha hd] at hbd
 obtain ⟨b,hb⟩ : ∃ b,b = run digit s a := ⟨_,rfl⟩
 rw [← hb] at hbd
 obtain ⟨b1,b2⟩ := hbd
 have HB := h_ hb
 have hxs := ext_size s a b b2
 have hfit : ∀ i,i < (s.extract a b).size → digit (bt (s.extract a b) i) = true := fun i hi => by
  rw [hxs] at hi
  rw [ext_bt s a b i b2 hi]
  exact run_fit digit s _ a rfl (a + i) (by omega) (by rw [← hb]; omega)
 have hval : val 10 (s.extract a b) 0 (s.extract a b).size = val 10 s a (b - a) := by rw [hxs]; exact val_ext 10 s a b b2 _ (Nat.le_refl _)
 have hab : a ≤ b := by omega
 have HF := h_ hfit
 obtain ⟨x,hx⟩ : ∃ x,x = val 10 s a (b - a) := ⟨_,rfl⟩
 rw [← hx] at hval
 have HX := h_ hx
 have HV := h_ hval
 obtain ⟨w0,hw0⟩ : ∃ w0,w0 = ((w.alloc (.cells #[.string s,.map (some mp),.slice (some ⟨g,0,none⟩) 28 28] 145)).alloc (.cells #[.int .i64 0,.string ⟨#[]⟩,.int .i64 0,.int .i64 0] 98)) := ⟨_,rfl⟩
 have hf0 : Fr w w0 := by rw [hw0]; exact ((Fr.refl w).alloc _).alloc _
 have HS0 := h_ (show Sb w0 w.heap.size s mp g by rw [hw0]; exact (Sb.new w s mp g 145).fr ((Fr.refl _).alloc _))
 obtain ⟨c0,c1,c2⟩ := HS0.out
 have HT0 := h_ (show Tb w0 (w.heap.size + 1) (.int .i64 0) (.string ⟨#[]⟩) (.int .i64 0) (.int .i64 0) by rw [hw0]; exact Tb.new1 w (.cells #[.string s,.map (some mp),.slice (some ⟨g,0,none⟩) 28 28] 145) (.int .i64 0) (.string ⟨#[]⟩) (.int .i64 0) (.int .i64 0))
 have HW0 := h_ hw0
 have HE0 := h_ (hev.fr hf0)
 clear hw0
 by_cases hbig : x < top
 ·by_cases h31 : 2147483647 < x
  ·have HC : Hid (numT s a = bad 22) := h_ (by unfold numT; rw [← hb,← hx,if_pos h31])
   have hd1 : decide ((2147483647 : Int) < (x : Int)) = true := decide_eq_true (by omega)
   have HBG := h_ hbig
   clear hb hx hval hfit hd hbig h31 hxs
   go_enter func233,ntmps233
   go_wp2_with fail
   rw [← HW0.out]
   refine (behindDigit_any s a (by omega) (by omega) _).mono ?_; rintro e w' ⟨rfl,rfl⟩
   rw [← HB.out]
   go_wp2_with fail
   refine (PU10_ok _ (by rw [ext_size s a b b2]; omega) (by rw [ext_size s a b b2]; omega) HF.out (by rw [HV.out]; exact HBG.out) _).mono ?_
   rintro e w2 ⟨rfl,hf2⟩
   rw [HV.out]
   have HT2 := h_ (HT0.out.fr hf2)
   obtain ⟨t0,t1,t2,t3⟩ := HT2.out.cells
   have z0 := HT2.out.free 0
   have z1 := HT2.out.free 1
   have z2 := HT2.out.free 2
   have z3 := HT2.out.free 3
   clear c0 c1 c2
   go_wp2_with fail
   exact bodyPost_ret (v := .tuple #[.agg #[.int .i64 0,.string ⟨#[]⟩,.int .i64 0,.int .i64 0],.int .i64 0,.int .i64 22]) (by simp [results,results233,go_sem,t0,t1,t2,t3]) rfl ⟨by rw [HC.out]; rfl,tok_fr (hf0.trans hf2) _ _ _ _⟩
  ·have HC : Hid (numT s a = ⟨2,nul,(x : Nat),b,0⟩) := h_ (by unfold numT; rw [← hb,← hx,if_neg h31])
   have hd1 : decide ((2147483647 : Int) < (x : Int)) = false := decide_eq_false (by omega)
   have hx31 : (x : Int) ≤ 2147483647 := by omega
   have HBG := h_ hbig
   clear hb hx hval hfit hd hbig h31 hxs
   go_enter func233,ntmps233
   go_wp2_with fail
   rw [← HW0.out]
   refine (behindDigit_any s a (by omega) (by omega) _).mono ?_; rintro e w' ⟨rfl,rfl⟩
   rw [← HB.out]
   go_wp2_with fail
   refine (PU10_ok _ (by rw [ext_size s a b b2]; omega) (by rw [ext_size s a b b2]; omega) HF.out (by rw [HV.out]; exact HBG.out) _).mono ?_
   rintro e w2 ⟨rfl,hf2⟩
   rw [HV.out]
   have HT2 := h_ (HT0.out.fr hf2)
   obtain ⟨t0,t1,t2,t3⟩ := HT2.out.cells
   have z0 := HT2.out.free 0
   have z1 := HT2.out.free 1
   have z2 := HT2.out.free 2
   have z3 := HT2.out.free 3
   clear c0 c1 c2
   go_wp2_with fail
   exact bodyPost_ret (v := .tuple #[.agg #[.int .i64 2,.string ⟨#[]⟩,.int .i64 (x : Nat),.int .i64 0],.int .i64 b,.int .i64 0]) (by simp [results,results233,go_sem,t0,t1,t2,t3]) rfl ⟨by rw [HC.out]; rfl,tok_fr (hf0.trans hf2) _ _ _ _⟩
 ·have HC : Hid (numT s a = bad 22) := h_ (by unfold numT; rw [← hb,← hx,if_pos (by unfold top at hbig; omega)])
  have HBG := h_ hbig
  clear hb hx hval hfit hd hbig hxs
  go_enter func233,ntmps233
  go_wp2_with fail
  rw [← HW0.out]
  refine (behindDigit_any s a (by omega) (by omega) _).mono ?_; rintro e w' ⟨rfl,rfl⟩
  rw [← HB.out]
  go_wp2_with fail
  refine (PU10_big _ (by rw [ext_size s a b b2]; omega) (by rw [ext_size s a b b2]; omega) HF.out (by rw [HV.out]; exact HBG.out) _ HE0.out).mono ?_
  rintro e w2 ⟨N,rfl,hf2⟩
  have HT2 := h_ (HT0.out.fr hf2)
  obtain ⟨t0,t1,t2,t3⟩ := HT2.out.cells
  have z0 := HT2.out.free 0
  have z1 := HT2.out.free 1
  have z2 := HT2.out.free 2
  have z3 := HT2.out.free 3
  clear c0 c1 c2
  go_wp2_with fail
  exact bodyPost_ret (v := .tuple #[.agg #[.int .i64 0,.string ⟨#[]⟩,.int .i64 0,.int .i64 0],.int .i64 0,.int .i64 22]) (by simp [results,results233,go_sem,t0,t1,t2,t3]) rfl ⟨by rw [HC.out]; rfl,tok_fr (hf0.trans hf2) _ _ _ _⟩
theorem base16_any (s : ByteArray) (hs : s.size ≤ 1000000) (mp g a : Nat) (ha : a < s.size) (w : World) (hev : Ev w) :
 Calls prog 234 #[.agg #[.string s,.map (some mp),.slice (some ⟨g,0,none⟩) 28 28],.int .i64 a] w fun e w' =>
  e = .returned (.tuple #[.agg #[.int .i64 (hexT s a).k,.string (hexT s a).t,.int .i64 (hexT s a).n,.int .i64 0],.int .i64 (hexT s a).e,.int .i64 (hexT s a).er]) ∧ Fr w w' := by
 have hbd := run_bd hexc s _ (a + 1) rfl (by omega)
 obtain ⟨b,hb⟩ : ∃ b,b = run hexc s (a + 1) := ⟨_,rfl⟩
 rw [← hb] at hbd
 obtain ⟨b1,b2⟩ := hbd
 have HB := h_ hb
 have ha1 : (a : Int) + 1 = ((a + 1 : Nat) : Int) := by omega
 have HA1 := h_ ha1
 have hxs := ext_size s (a + 1) b b2
 have hfit : ∀ i,i < (s.extract (a + 1) b).size → hexc (bt (s.extract (a + 1) b) i) = true := fun i hi => by
  rw [hxs] at hi
  rw [ext_bt s (a + 1) b i b2 hi]
  exact run_fit hexc s _ (a + 1) rfl (a + 1 + i) (by omega) (by rw [← hb]; omega)
 have hval : val 16 (s.extract (a + 1) b) 0 (s.extract (a + 1) b).size = val 16 s (a + 1) (b - (a + 1)) := by rw [hxs]; exact val_ext 16 s (a + 1) b b2 _ (Nat.le_refl _)
 have HF := h_ hfit
 obtain ⟨x,hx⟩ : ∃ x,x = val 16 s (a + 1) (b - (a + 1)) := ⟨_,rfl⟩
 rw [← hx] at hval
 have HX := h_ hx
 have HV := h_ hval
 obtain ⟨w0,hw0⟩ : ∃ w0,w0 = ((w.alloc (.cells #[.string s,.map (some mp),.slice (some ⟨g,0,none⟩) 28 28] 145)).alloc (.cells #[.int .i64 0,.string ⟨#[]⟩,.int .i64 0,.int .i64 0] 98)) := ⟨_,rfl⟩
 have hf0 : Fr w w0 := by rw [hw0]; exact ((Fr.refl w).alloc _).alloc _
 have HS0 := h_ (show Sb w0 w.heap.size s mp g by rw [hw0]; exact (Sb.new w s mp g 145).fr ((Fr.refl _).alloc _))
 obtain ⟨c0,c1,c2⟩ := HS0.out
 have HT0 := h_ (show Tb w0 (w.heap.size + 1) (.int .i64 0) (.string ⟨#[]⟩) (.int .i64 0) (.int .i64 0) by rw [hw0]; exact Tb.new1 w (.cells #[.string s,.map (some mp),.slice (some ⟨g,0,none⟩) 28 28] 145) (.int .i64 0) (.string ⟨#[]⟩) (.int .i64 0) (.int .i64 0))
 have HW0 := h_ hw0
 have HE0 := h_ (hev.fr hf0)
 clear hw0
 by_cases hemp : b = a + 1
 ·have HC : Hid (hexT s a = bad 20) := h_ (by unfold hexT; rw [← hb,if_pos hemp])
  have hd1 : ((b : Int) == (a : Int) + 1) = true := by rw [beq_iff_eq]; omega
  have HT2 := h_ (HT0.out.fr (Fr.refl _))
  obtain ⟨t0,t1,t2,t3⟩ := HT2.out.cells
  have z0 := HT2.out.free 0
  have z1 := HT2.out.free 1
  have z2 := HT2.out.free 2
  have z3 := HT2.out.free 3
  clear hb hx hval hfit hxs ha1 hemp
  go_enter func234,ntmps234
  go_wp2_with fail
  rw [← HW0.out,HA1.out]
  refine (behindHex_any s (a + 1) (by omega) (by omega) _).mono ?_; rintro e w' ⟨rfl,rfl⟩
  rw [← HB.out]
  go_wp2_with fail
  exact bodyPost_ret (v := .tuple #[.agg #[.int .i64 0,.string ⟨#[]⟩,.int .i64 0,.int .i64 0],.int .i64 0,.int .i64 20]) (by simp [results,results234,go_sem,t0,t1,t2,t3]) rfl ⟨by rw [HC.out]; rfl,tok_fr hf0 _ _ _ _⟩
 ·have hd1 : ((b : Int) == (a : Int) + 1) = false := by rw [beq_eq_false_iff_ne]; omega
  have hlt1 : a + 1 < b := by omega
  have hsl : ∀ W : World,(Instr.slice 9 (.string s) (some (.int .i64 ((a : Int) + 1))) (some (.int .i64 (b : Int))) none).run prog W = .ok (.string (s.extract (a + 1) b)) W := fun W => by
   have h := run_slice_string (P := prog) W 9 s .i64 .i64 ((a : Int) + 1) (b : Int) underlying9 (by omega) (by omega) (by omega)
   rw [h,show ((a : Int) + 1).toNat = a + 1 from by omega,show ((b : Int)).toNat = b from by omega]
  by_cases hbig : x < top
  ·by_cases h32 : 4294967295 < x
   ·have HC : Hid (hexT s a = bad 22) := h_ (by unfold hexT; rw [← hb,← hx,if_neg hemp,if_pos h32])
    have hd2 : decide ((4294967295 : Int) < (x : Int)) = true := decide_eq_true (by omega)
    have HBG := h_ hbig
    clear hb hx hval hfit hbig h32 hxs ha1 hemp
    go_enter func234,ntmps234
    go_wp2_with fail
    rw [← HW0.out,HA1.out]
    refine (behindHex_any s (a + 1) (by omega) (by omega) _).mono ?_; rintro e w' ⟨rfl,rfl⟩
    rw [← HB.out]
    go_wp2_with fail
    refine (PU16_ok _ (by rw [ext_size s (a + 1) b b2]; omega) (by rw [ext_size s (a + 1) b b2]; omega) HF.out (by rw [HV.out]; exact HBG.out) _).mono ?_
    rintro e w2 ⟨rfl,hf2⟩
    rw [HV.out]
    have HT2 := h_ (HT0.out.fr hf2)
    obtain ⟨t0,t1,t2,t3⟩ := HT2.out.cells
    have z0 := HT2.out.free 0
    have z1 := HT2.out.free 1
    have z2 := HT2.out.free 2
    have z3 := HT2.out.free 3
    clear c0 c1 c2
    go_wp2_with fail
    exact bodyPost_ret (v := .tuple #[.agg #[.int .i64 0,.string ⟨#[]⟩,.int .i64 0,.int .i64 0],.int .i64 0,.int .i64 22]) (by simp [results,results234,go_sem,t0,t1,t2,t3]) rfl ⟨by rw [HC.out]; rfl,tok_fr (hf0.trans hf2) _ _ _ _⟩
   ·have HC : Hid (hexT s a = ⟨2,nul,sg x,b,0⟩) := h_ (by unfold hexT; rw [← hb,← hx,if_neg hemp,if_neg h32])
    have hd2 : decide ((4294967295 : Int) < (x : Int)) = false := decide_eq_false (by omega)
    have hw32 : IntKind.i32.wrap (x : Int) = sg x := by
     rw [IntKind.wrap_i32]; unfold sg; split <;> omega
    have hsg : -2147483648 ≤ sg x ∧ sg x ≤ 2147483647 := by unfold sg; split <;> omega
    obtain ⟨sg1,sg2⟩ := hsg
    have HBG := h_ hbig
    clear hb hx hval hfit hbig h32 hxs ha1 hemp
    go_enter func234,ntmps234
    go_wp2_with fail
    rw [← HW0.out,HA1.out]
    refine (behindHex_any s (a + 1) (by omega) (by omega) _).mono ?_; rintro e w' ⟨rfl,rfl⟩
    rw [← HB.out]
    go_wp2_with fail
    refine (PU16_ok _ (by rw [ext_size s (a + 1) b b2]; omega) (by rw [ext_size s (a + 1) b b2]; omega) HF.out (by rw [HV.out]; exact HBG.out) _).mono ?_
    rintro e w2 ⟨rfl,hf2⟩
    rw [HV.out]
    have HT2 := h_ (HT0.out.fr hf2)
    obtain ⟨t0,t1,t2,t3⟩ := HT2.out.cells
    have z0 := HT2.out.free 0
    have z1 := HT2.out.free 1
    have z2 := HT2.out.free 2
    have z3 := HT2.out.free 3
    clear c0 c1 c2
    go_wp2_with fail
    exact bodyPost_ret (v := .tuple #[.agg #[.int .i64 2,.string ⟨#[]⟩,.int .i64 (sg x),.int .i64 0],.int .i64 b,.int .i64 0]) (by simp [results,results234,go_sem,t0,t1,t2,t3]) rfl ⟨by rw [HC.out]; rfl,tok_fr (hf0.trans hf2) _ _ _ _⟩
  ·have HC : Hid (hexT s a = bad 22) := h_ (by unfold hexT; rw [← hb,← hx,if_neg hemp,if_pos (by unfold top at hbig; omega)])
   have HBG := h_ hbig
   clear hb hx hval hfit hbig hxs ha1 hemp
   go_enter func234,ntmps234
   go_wp2_with fail
   rw [← HW0.out,HA1.out]
   refine (behindHex_any s (a + 1) (by omega) (by omega) _).mono ?_; rintro e w' ⟨rfl,rfl⟩
   rw [← HB.out]
   go_wp2_with fail
   refine (PU16_big _ (by rw [ext_size s (a + 1) b b2]; omega) (by rw [ext_size s (a + 1) b b2]; omega) HF.out (by rw [HV.out]; exact HBG.out) _ HE0.out).mono ?_
   rintro e w2 ⟨N,rfl,hf2⟩
   have HT2 := h_ (HT0.out.fr hf2)
   obtain ⟨t0,t1,t2,t3⟩ := HT2.out.cells
   have z0 := HT2.out.free 0
   have z1 := HT2.out.free 1
   have z2 := HT2.out.free 2
   have z3 := HT2.out.free 3
   clear c0 c1 c2
   go_wp2_with fail
   exact bodyPost_ret (v := .tuple #[.agg #[.int .i64 0,.string ⟨#[]⟩,.int .i64 0,.int .i64 0],.int .i64 0,.int .i64 22]) (by simp [results,results234,go_sem,t0,t1,t2,t3]) rfl ⟨by rw [HC.out]; rfl,tok_fr (hf0.trans hf2) _ _ _ _⟩
theorem sign_any (s : ByteArray) (hs : s.size ≤ 1000000) (mp g a : Nat) (ha : a < s.size) (w : World) (hk : Ks w mp g) :
 Calls prog 237 #[.agg #[.string s,.map (some mp),.slice (some ⟨g,0,none⟩) 28 28],.int .i64 a] w fun e w' =>
  e = .returned (.tuple #[.agg #[.int .i64 (sgnT s a).k,.string (sgnT s a).t,.int .i64 (sgnT s a).n,.int .i64 0],.int .i64 (sgnT s a).e,.int .i64 (sgnT s a).er]) ∧ Fr w w' := by
 obtain ⟨w0,hw0⟩ : ∃ w0,w0 = ((w.alloc (.cells #[.string s,.map (some mp),.slice (some ⟨g,0,none⟩) 28 28] 145)).alloc (.cells #[.int .i64 0,.string ⟨#[]⟩,.int .i64 0,.int .i64 0] 98)) := ⟨_,rfl⟩
 have hf0 : Fr w w0 := by rw [hw0]; exact ((Fr.refl w).alloc _).alloc _
 obtain ⟨c0,c1,c2⟩ : Sb w0 w.heap.size s mp g := by rw [hw0]; exact (Sb.new w s mp g 145).fr ((Fr.refl _).alloc _)
 have HT0 := h_ (show Tb w0 (w.heap.size + 1) (.int .i64 0) (.string ⟨#[]⟩) (.int .i64 0) (.int .i64 0) by rw [hw0]; exact Tb.new1 w (.cells #[.string s,.map (some mp),.slice (some ⟨g,0,none⟩) 28 28] 145) (.int .i64 0) (.string ⟨#[]⟩) (.int .i64 0) (.int .i64 0))
 have HW0 := h_ hw0
 have HK := h_ (hk.fr hf0).2
 obtain ⟨t0,t1,t2,t3⟩ := HT0.out.cells
 have z0 := HT0.out.free 0
 have z1 := HT0.out.free 1
 have z2 := HT0.out.free 2
 have z3 := HT0.out.free 3
 clear hw0
 go_enter func237,ntmps237
 go_wp2_with fail
 rw [← HW0.out]
 go_loop [7,13] (fun v i => ∃ (k : Nat) (t : ByteArray),k ≤ 28 ∧ i = .int .i64 k ∧ v = .string t ∧ t.size ≤ 2 ∧ Lng s a k t) (fun _ i => 28 - (intOf i).toNat)
 case atStart => exact ⟨0,⟨#[]⟩,by omega,rfl,rfl,by decide,.inl ⟨rfl,fun i hi => absurd hi (by omega)⟩⟩
 case round =>
  obtain ⟨k,t,hk28,rfl,rfl,ht2,hl⟩ := hrel
  have HL := h_ hl
  clear hl
  by_cases hlt : k < 28
  ·have hcell := HK.out.cell hlt
   have hz := sgn_size k hlt
   have HST := h_ (Lng.step hlt HL.out)
   by_cases hlen : t.size < (sgnB k).size
   ·have hd : decide (t.size < (sgnB k).size) = true := decide_eq_true hlen
    cases hp : pre (s.extract a s.size) (sgnB k) with
    | true =>
     have HP := h_ hp
     clear hp
     go_wp2_with fail
     refine (HasPrefix_any _ _ (by rw [ext_size _ _ _ (Nat.le_refl _)]; omega) (by omega) _).mono ?_; rintro e w' ⟨rfl,rfl⟩
     rw [HP.out]
     go_wp2_with fail
     go_round
     case rel => exact ⟨k + 1,sgnB k,by omega,by go_num,rfl,by omega,HST.out.1 hlen HP.out⟩
     case measure => simp [intOf]; omega
    | false =>
     have HP := h_ hp
     clear hp
     go_wp2_with fail
     refine (HasPrefix_any _ _ (by rw [ext_size _ _ _ (Nat.le_refl _)]; omega) (by omega) _).mono ?_; rintro e w' ⟨rfl,rfl⟩
     rw [HP.out]
     go_wp2_with fail
     go_round
     case rel => exact ⟨k + 1,t,by omega,by go_num,rfl,ht2,HST.out.2.1 hlen HP.out⟩
     case measure => simp [intOf]; omega
   ·have hd : decide (t.size < (sgnB k).size) = false := decide_eq_false hlen
    go_wp2_with fail
    go_round
    case rel => exact ⟨k + 1,t,by omega,by go_num,rfl,ht2,HST.out.2.2 hlen⟩
    case measure => simp [intOf]; omega
  ·obtain rfl : k = 28 := by omega
   have hsg := HL.out.sgnT ha
   by_cases h0 : t.size = 0
   ·have HC : Hid (sgnT s a = bad 20) := h_ (by rw [hsg,if_pos h0])
    obtain rfl : t = ⟨#[]⟩ := bt_ext h0 (fun i hi => by omega)
    clear hsg
    go_wp2_with fail
    exact bodyPost_ret (v := .tuple #[.agg #[.int .i64 0,.string ⟨#[]⟩,.int .i64 0,.int .i64 0],.int .i64 0,.int .i64 20]) (by simp [results,results237,go_sem,t0,t1,t2,t3]) rfl ⟨by rw [HC.out]; rfl,tok_fr hf0 _ _ _ _⟩
   ·have HC : Hid (sgnT s a = ⟨5,t,0,a + t.size,0⟩) := h_ (by rw [hsg,if_neg h0])
    have he : t.toList.isEmpty = false := by
     rw [Bool.eq_false_iff]
     intro e
     rw [ByteArray.toList_eq,List.isEmpty_iff_length_eq_zero] at e
     exact h0 (by simpa using e)
    clear hsg
    go_wp2_with fail
    exact bodyPost_ret (v := .tuple #[.agg #[.int .i64 5,.string t,.int .i64 0,.int .i64 0],.int .i64 ((a : Int) + t.size),.int .i64 0]) (by simp [results,results237,go_sem,t0,t1,t2,t3]) rfl ⟨by rw [HC.out]; rfl,tok_fr hf0 _ _ _ _⟩
theorem Below.grow0 {a b : World} (h : Fr a b) : a.grownBy b none := ⟨h.os,h.tape,h.output,h.size,fun k hk _ => h.block k hk⟩
theorem map_ne {P : Program} {w1 : World} {k : TypeId} {R : Value → Option (DataW Unit × List MemPlace)} {b m : Nat} {D : DataW Unit} {g n : Nat} {T : TypeId} {f : Nat → Value} (h : w1.ownsMap P k R b m D) (hr : w1.rowIs g T n f) : g ≠ b := by
 rintro rfl
 obtain ⟨es,clock,hb,_⟩ := h
 obtain ⟨cs,hc,_⟩ := hr
 rw [hb] at hc; cases hc
theorem bool_inv {P : Program} {e : TypeId} (he : P.underlying e = some .bool) {v : Value} {z : DataW Unit × List MemPlace} (h : plainElem P e v = some z) : ∃ x,v = .bool x ∧ z = (.lit (.bool x),[]) := by
 unfold plainElem at h
 rw [he] at h
 cases v <;> simp at h
 exact ⟨_,rfl,h.symm⟩
def KwIs (D : DataW Unit) (k : Nat) : Prop := Maps.IsMap D ∧ ∀ s : ByteArray,D.atKey (.string s.data.toList) (.lit (.bool false)) = .lit (.bool (hasB k keyB s))
theorem Kw0 : KwIs (.map []) 0 := ⟨Maps.isMap_empty,fun s => by rw [hasB_no (fun i hi => absurd hi (by omega))]; rfl⟩
theorem str_inj {a b : ByteArray} (h : a.data.toList = b.data.toList) : a = b := ByteArray.ext (Array.ext' h)
theorem KwS {D : DataW Unit} {k : Nat} (h : KwIs D k) : KwIs (D.put (.string (keyB k).data.toList) (.lit (.bool true))) (k + 1) := by
 refine ⟨h.1.put _ _,fun s => ?_⟩
 by_cases e : keyB k = s
 ·subst e
  rw [Maps.atKey_put_same h.1 (show WideAt.IsKeyLit (.string _) from trivial),hasB_yes (Nat.lt_succ_self k) rfl]
 ·rw [Maps.atKey_put_other (fun x => e (by injection x with x; exact (str_inj x).symm)),h.2 s]
  congr 2
  unfold hasB
  rw [decide_eq_decide]
  exact ⟨fun ⟨i,hi,ei⟩ => ⟨i,by omega,ei⟩,fun ⟨i,hi,ei⟩ => ⟨i,by
   by_cases x : i = k
   ·subst x; exact absurd ei e
   ·omega,ei⟩⟩
theorem Tryz.zeroBool (W : World) : (zeroValue 4).run prog W = .ok (.bool false) W := by kernel_rfl
theorem kw_look {W : World} {b n : Nat} {D : DataW Unit} (h : W.ownsMap prog 9 (plainElem prog 4) b n D) (hD : KwIs D 43) (s : ByteArray) (hs : s.size ≤ 1000000) :
 (Instr.lookup 94 (.map (some b)) (.string s) false).run prog W = .ok (.bool (hasB 43 keyB s)) W := by
 obtain ⟨v,ps,hrun,hv⟩ := h.lookup (Maps.string_keyed underlying9) underlying94 (Tryz.zeroBool W) (plainElem_bool underlying4 false) (key := .string s) (Go.WideMaps.keyOf_string_mk underlying9 (show s.size ≤ maxLen by unfold maxLen; omega))
 obtain ⟨x,rfl,hz⟩ := bool_inv underlying4 hv
 rw [hD.2 s] at hz
 generalize hasB 43 keyB s = y at *
 simp only [Prod.mk.injEq,DataW.lit.injEq,Lit.bool.injEq] at hz
 rw [hrun,hz.1]
theorem keywords_any (w : World) : Calls prog 186 #[] w fun e w' => ∃ mp : Nat,e = .returned (.map (some mp)) ∧ (∀ W,Fr w' W → ∀ s : ByteArray,s.size ≤ 1000000 → (Instr.lookup 94 (.map (some mp)) (.string s) false).run prog W = .ok (.bool (hasB 43 keyB s)) W) ∧ Fr w w' := by
 have hmm := @run_makeMap prog
 go_enter func186,ntmps186
 go_wp2_with fail
 refine (Keys_any _).mono ?_
 rintro e w1 ⟨g1,rfl,hr1,hf1⟩
 have HO1 := h_ ((World.ownsMap_made (H := Unit) w prog 9 (plainElem prog 4)).kept (Below.grow0 hf1) (by simp))
 have HR1 := h_ hr1
 have hfw1 : Fr w w1 := ((Fr.refl w).alloc _).trans hf1
 have hne1 : g1 ≠ w.heap.size := map_ne HO1.out hr1
 clear hr1 hmm
 go_wp2_with fail
 go_loopw [7] (fun i wr => ∃ (k : Nat) (D : DataW Unit),k ≤ 43 ∧ i = .int .i64 k ∧ wr.ownsMap prog 9 (plainElem prog 4) w.heap.size k D ∧ KwIs D k ∧ wr.rowIs g1 9 43 (fun i => .string (keyB i)) ∧ Fr w wr) (fun i _ => 43 - (intOf i).toNat)
 case atStart => exact ⟨0,_,by omega,rfl,HO1.out,Kw0,HR1.out,hfw1⟩
 case round =>
  obtain ⟨k,D,hk,rfl,hown,hD,hrow,hfr⟩ := hrel
  have HO := h_ hown
  have HD := h_ hD
  have HR := h_ hrow
  clear hown hD hrow
  by_cases hlt : k < 43
  ·have hc := HR.out.cell hlt
   have hz := key_le k hlt
   go_wp2_with (at_mapUpdate; refine wpList_mapUpdate_own _ rfl _ _ _ 94 rfl 9 4 (Maps.string_keyed underlying9) underlying94 _ w.heap.size k D rfl HO.out (by unfold maxLen; omega) (.string (keyB k)) (.bool true) (.string (keyB k).data.toList) rfl rfl (Go.WideMaps.keyOf_string_mk underlying9 (by unfold maxLen; omega)) (.lit (.bool true)) [] (plainElem_bool underlying4 true) ?_; intro w2 hown2 hg2)
   go_roundw
   case rel =>
    have hr2 := HR.out.of_block (hg2.block g1 HR.out.lt (by simp; exact hne1))
    have hf2 : Fr w w2 := Below.grown hfr hg2 hfr.size (fun k hk => by simp at hk; omega)
    exact ⟨k + 1,_,by omega,by go_num,hown2,KwS HD.out,hr2,hf2⟩
   case measure => simp [intOf]; omega
  ·obtain rfl : k = 43 := by omega
   go_wp2_with fail
   go_ret
   exact ⟨w.heap.size,rfl,fun W hW s hs => kw_look (HO.out.kept (Below.grow0 hW) (by simp)) HD.out s hs,hfr⟩
def tfn (c : Nat) : Nat := if small c = true then 231 else if digit c = true then 233 else if c = 35 then 234 else if c = 39 then 235 else if c = 34 then 236 else 237
theorem tellerOf_any (s : ByteArray) (mp g c : Nat) (w : World) :
 Calls prog 189 #[.agg #[.string s,.map (some mp),.slice (some ⟨g,0,none⟩) 28 28],.int .u8 c] w fun e w' => e = .returned (.func (.func (tfn c)) #[.agg #[.string s,.map (some mp),.slice (some ⟨g,0,none⟩) 28 28]] #[]) ∧ Fr w w' := by
 obtain ⟨F,hF⟩ : ∃ F,F = tfn c := ⟨_,rfl⟩
 rw [← hF]
 unfold tfn at hF
 by_cases h1 : small c = true
 ·rw [if_pos h1] at hF; subst hF
  have H1 := h_ h1
  clear h1
  go_enter func189,ntmps189
  go_wp2_with (go_at_call 230; refine (isSmall_any _ _).mono ?_; rintro e w' ⟨rfl,rfl⟩; rw [H1.out])
  go_ret
  exact ⟨rfl,(Fr.refl _).alloc _⟩
 rw [if_neg h1] at hF
 have H1 := h_ (show small c = false by simpa using h1)
 clear h1
 by_cases h2 : digit c = true
 ·rw [if_pos h2] at hF; subst hF
  have H2 := h_ h2
  clear h2
  go_enter func189,ntmps189
  go_wp2_with (first | (go_at_call 230; refine (isSmall_any _ _).mono ?_; rintro e w' ⟨rfl,rfl⟩; rw [H1.out]) | (go_at_call 232; refine (isDigit_any _ _).mono ?_; rintro e w' ⟨rfl,rfl⟩; rw [H2.out]))
  go_ret
  exact ⟨rfl,(Fr.refl _).alloc _⟩
 rw [if_neg h2] at hF
 have H2 := h_ (show digit c = false by simpa using h2)
 clear h2
 by_cases h3 : c = 35
 ·rw [if_pos h3] at hF; subst hF
  subst h3
  go_enter func189,ntmps189
  go_wp2_with (first | (go_at_call 230; refine (isSmall_any 35 _).mono ?_; rintro e w' ⟨rfl,rfl⟩; rw [H1.out]) | (go_at_call 232; refine (isDigit_any 35 _).mono ?_; rintro e w' ⟨rfl,rfl⟩; rw [H2.out]))
  go_ret
  exact ⟨rfl,(Fr.refl _).alloc _⟩
 rw [if_neg h3] at hF
 by_cases h4 : c = 39
 ·rw [if_pos h4] at hF; subst hF
  subst h4
  clear h3
  go_enter func189,ntmps189
  go_wp2_with (first | (go_at_call 230; refine (isSmall_any 39 _).mono ?_; rintro e w' ⟨rfl,rfl⟩; rw [H1.out]) | (go_at_call 232; refine (isDigit_any 39 _).mono ?_; rintro e w' ⟨rfl,rfl⟩; rw [H2.out]))
  go_ret
  exact ⟨rfl,(Fr.refl _).alloc _⟩
 rw [if_neg h4] at hF
 by_cases h5 : c = 34
 ·rw [if_pos h5] at hF; subst hF
  subst h5
  clear h3 h4
  go_enter func189,ntmps189
  go_wp2_with (first | (go_at_call 230; refine (isSmall_any 34 _).mono ?_; rintro e w' ⟨rfl,rfl⟩; rw [H1.out]) | (go_at_call 232; refine (isDigit_any 34 _).mono ?_; rintro e w' ⟨rfl,rfl⟩; rw [H2.out]))
  go_ret
  exact ⟨rfl,(Fr.refl _).alloc _⟩
 rw [if_neg h5] at hF; subst hF
 have e3 : ((c : Int) == 35) = false := by rw [beq_eq_false_iff_ne]; omega
 have e4 : ((c : Int) == 39) = false := by rw [beq_eq_false_iff_ne]; omega
 have e5 : ((c : Int) == 34) = false := by rw [beq_eq_false_iff_ne]; omega
 clear h3 h4 h5
 go_enter func189,ntmps189
 go_wp2_with (first | (go_at_call 230; refine (isSmall_any _ _).mono ?_; rintro e w' ⟨rfl,rfl⟩; rw [H1.out]) | (go_at_call 232; refine (isDigit_any _ _).mono ?_; rintro e w' ⟨rfl,rfl⟩; rw [H2.out]))
 go_ret
 exact ⟨rfl,(Fr.refl _).alloc _⟩
theorem teller_any (s : ByteArray) (hs : s.size ≤ 1000000) (mp g a : Nat) (ha : a < s.size) (w : World) (hk : Ks w mp g) (hev : Ev w) :
 Calls prog (tfn (bt s a)) #[.agg #[.string s,.map (some mp),.slice (some ⟨g,0,none⟩) 28 28],.int .i64 a] w fun e w' =>
  e = .returned (.tuple #[.agg #[.int .i64 (tokAt s a).k,.string (tokAt s a).t,.int .i64 (tokAt s a).n,.int .i64 0],.int .i64 (tokAt s a).e,.int .i64 (tokAt s a).er]) ∧ Fr w w' := by
 unfold tfn tokAt
 by_cases h1 : small (bt s a) = true
 ·rw [if_pos h1,if_pos h1]; exact word_any s hs mp g a ha w hk
 rw [if_neg h1,if_neg h1]
 by_cases h2 : digit (bt s a) = true
 ·rw [if_pos h2,if_pos h2]; exact number_any s hs mp g a ha h2 w hev
 rw [if_neg h2,if_neg h2]
 by_cases h3 : bt s a = 35
 ·rw [if_pos h3,if_pos h3]; exact base16_any s hs mp g a ha w hev
 rw [if_neg h3,if_neg h3]
 by_cases h4 : bt s a = 39
 ·rw [if_pos h4,if_pos h4]; exact char_any s hs mp g a (by omega) w
 rw [if_neg h4,if_neg h4]
 by_cases h5 : bt s a = 34
 ·rw [if_pos h5,if_pos h5]; exact text_any s hs mp g a ha w
 rw [if_neg h5,if_neg h5]
 exact sign_any s hs mp g a ha w hk
theorem tfn_enter (c : Nat) : ∀ args w,(callFunc (tfn c) args).run prog w = .ok (.enter (tfn c) args) w := by
 intro args w
 unfold tfn
 repeat' split
 all_goals kernel_rfl
theorem Tryz.infoTok : (prog.info? 98).map (fun i => (i.zero,i.size,i.bytes)) = some (some (.agg #[.int .i64 0,.string ⟨#[]⟩,.int .i64 0,.int .i64 0]),4,40) := by kernel_rfl
def cellsT (t : Tp) : List Value := [.int .i64 t.k,.string t.t,.int .i64 t.n,.int .i64 t.a]
def toks (l : List Tp) : List Value := l.flatMap cellsT
theorem toks_len (l : List Tp) : (toks l).length = l.length * 4 := by
 unfold toks
 induction l with
 | nil => rfl
 | cons t l ih => rw [List.flatMap_cons,List.length_append,ih,List.length_cons]; show 4 + _ = _; omega
theorem toks_snoc (l : List Tp) (t : Tp) : toks (l ++ [t]) = toks l ++ cellsT t := by unfold toks; rw [List.flatMap_append]; simp
def TkV (w : World) (v : Value) (l : List Tp) : Prop := ∃ a cap,v = .slice a l.length cap ∧ l.length ≤ cap ∧ (0 < l.length → ∃ b off,a = some ⟨b,off,none⟩ ∧ ∀ j x,(toks l)[j]? = some x → w.cell? ⟨b,off + j,none⟩ = some x)
theorem TkV.nil (w : World) : TkV w (.slice none 0 0) [] := ⟨none,0,rfl,Nat.le_refl _,fun h => absurd h (by decide)⟩
theorem TkV.fr {w w' : World} {v : Value} {l : List Tp} (h : TkV w v l) (k : Fr w w') : TkV w' v l := by
 obtain ⟨a,c,hv,hle,hr⟩ := h
 exact ⟨a,c,hv,hle,fun hl => by obtain ⟨b,off,ha,hc⟩ := hr hl; exact ⟨b,off,ha,fun j x hx => k.cell (hc j x hx)⟩⟩
theorem TkV.own {w : World} {B : Nat} {v : Value} {l : List Tp} (h : w.ownsRow B 98 4 v l.length (toks l)) : TkV w v l := by
 rcases h.2 with ⟨rfl,h0⟩ | ⟨g,cap,cur,rfl,hb,hg,hm,_,hsz,ht⟩
 ·obtain rfl : l = [] := List.eq_nil_of_length_eq_zero h0
  exact TkV.nil w
 ·refine ⟨_,cap,rfl,hm,fun _ => ⟨g,0,rfl,fun j x hx => ?_⟩⟩
  rw [Nat.zero_add]
  have hj : j < l.length * 4 := by
   have := (List.getElem?_eq_some_iff.1 hx).1
   rw [toks_len] at this; exact this
  rw [← ht,List.getElem?_take_of_lt hj] at hx
  simp only [World.cell?,hg]
  simpa using hx
theorem mkS {w1 W : World} {b : Nat} {s : ByteArray} {mp g : Nat} (h : Sb w1 b s mp g) (k : Fr w1 W) : W.cell? ⟨b,0,none⟩ = some (.string s) ∧ W.cell? ⟨b,1,none⟩ = some (.map (some mp)) ∧ W.cell? ⟨b,2,none⟩ = some (.slice (some ⟨g,0,none⟩) 28 28) ∧ Fr w1 W :=
 ⟨k.cell h.1,k.cell h.2.1,k.cell h.2.2,k⟩
theorem tok_fr4 {w0 w1 : World} {b : Nat} (h : Fr w0 w1) (hb : w0.heap.size ≤ b) (x y z t : Value) : Fr w0 ((((w1.setCell ⟨b,0,none⟩ x).setCell ⟨b,1,none⟩ y).setCell ⟨b,2,none⟩ z).setCell ⟨b,3,none⟩ t) :=
 (((h.setCell hb x).setCell hb y).setCell hb z).setCell hb t
theorem Tb.set4 {w : World} {b : Nat} {x0 x1 x2 x3 : Value} (h : Tb w b x0 x1 x2 x3) (y0 y1 y2 y3 : Value) : Tb ((((w.setCell ⟨b,0,none⟩ y0).setCell ⟨b,1,none⟩ y1).setCell ⟨b,2,none⟩ y2).setCell ⟨b,3,none⟩ y3) b y0 y1 y2 y3 := by
 unfold Tb at h ⊢
 simp only [World.setCell,Array.getElem?_modify,if_true,h,Option.map_some]
 rfl
theorem Scan_any (s : ByteArray) (hs : s.size ≤ 9223372036854775807) (w : World) (hev : Ev w) :
 Calls prog 95 #[.string s] w fun e w' => ∃ v : Value,e = .returned (.tuple #[v,.int .i64 (scan s).er,.int .i64 (scan s).a]) ∧ TkV w' v (scan s).l ∧ Fr w w' := by
 by_cases h4 : 40000 < s.size
 ·have HC : Hid (scan s = ⟨[],2,0⟩) := h_ (by unfold scan; rw [if_pos h4])
  have hd : decide ((40000 : Int) < s.size) = true := decide_eq_true (by omega)
  go_enter func95,ntmps95
  go_wp2_with fail
  go_ret3
  rw [HC.out]
  exact ⟨_,rfl,TkV.nil _,Fr.refl _⟩
 have hd : decide ((40000 : Int) < s.size) = false := decide_eq_false (by omega)
 have hsz : s.size ≤ 40000 := by omega
 have HSC : Hid (scan s = scG s [] (skp s 0)) := h_ (by unfold scan; rw [if_neg h4])
 have HE := h_ hev
 obtain ⟨i0,hi0,hz0,hz1,hz2⟩ := info_parts Tryz.infoTok
 have HI := h_ (And.intro hi0 (And.intro hz0 (And.intro hz1 hz2)))
 have hsk := skp_bd s _ 0 rfl (Nat.zero_le _)
 obtain ⟨q0,hq0⟩ : ∃ q,q = skp s 0 := ⟨_,rfl⟩
 rw [← hq0] at hsk
 have HQ0 := h_ hq0
 obtain ⟨_,hq1⟩ := hsk
 clear hi0 hz0 hz1 hz2 h4 hs hq0
 go_enter func95,ntmps95
 go_wp2_with fail
 refine (keywords_any _).mono ?_
 rintro e w1 ⟨mp,rfl,hlk,hf1⟩
 have HL1 := h_ hlk
 clear hlk
 go_wp2_with fail
 refine (Signs_any _).mono ?_
 rintro e w2 ⟨g,rfl,hrow,hf2⟩
 have HK2 := h_ (show Ks w2 mp g from ⟨fun W hW => HL1.out W (hf2.trans hW),hrow⟩)
 have hfw2 := hf1.trans hf2
 clear hrow
 go_wp2_with fail
 refine (skip_any s (by omega) mp g 0 (Nat.zero_le _) _).mono ?_
 rintro e w3 ⟨rfl,hf3⟩
 rw [← HQ0.out]
 have HS3 := h_ (Sb.fr (Sb.new w2 s mp g 145) hf3)
 have hfw3 := hfw2.trans (((Fr.refl w2).alloc _).trans hf3)
 have HK3 := h_ (HK2.out.fr (((Fr.refl w2).alloc _).trans hf3))
 have HE3 := h_ (HE.out.fr hfw3)
 go_wp2_with fail
 go_loopw [6,7] (fun v i wr => ∃ (acc : List Tp) (q : Nat),q ≤ s.size ∧ i = .int .i64 q ∧ acc.length ≤ 20000 ∧ scan s = scG s acc q ∧ wr.ownsRow w3.heap.size 98 4 v acc.length (toks acc) ∧ Fr w3 wr) (fun _ i _ => s.size - (intOf i).toNat)
 case atStart => exact ⟨[],q0,hq1,rfl,by simp,by rw [HSC.out,HQ0.out],World.ownsRow_nil _ _ _ _,Fr.refl _⟩
 case round =>
  obtain ⟨acc,q,hq,rfl,hacc,hsc,hown,hfr⟩ := hrel
  have HSQ := h_ hsc
  have HO := h_ hown
  have HK := h_ (HK3.out.fr hfr)
  have HEV := h_ (HE3.out.fr hfr)
  have HSB := h_ (HS3.out.fr hfr)
  have hfwr := hfw3.trans hfr
  clear hsc hown
  by_cases hlt : q < s.size
  ·obtain ⟨T,hT⟩ : ∃ T,T = tokAt s q := ⟨_,rfl⟩
   have hTe := @tokAt_e s q hlt
   rw [← hT] at hTe
   have HTE := h_ hTe
   have HT := h_ hT
   obtain ⟨ei,hei⟩ : ∃ ei : Int,ei = (T.er : Nat) := ⟨_,rfl⟩
   have HEI := h_ hei
   have hb := bt_at s q hlt
   obtain ⟨F,hF⟩ : ∃ F,F = tfn (bt s q) := ⟨_,rfl⟩
   have hen := tfn_enter (bt s q)
   rw [← hF] at hen
   have HF := h_ hF
   have hq0 : Fr wr wr.drew := (Fr.refl wr).drew
   have hqs : decide (q < s.size) = true := decide_eq_true hlt
   have b0 : (0 : Int) ≤ (q : Int) := by omega
   have b1 : (q : Int) < (s.size : Int) := by omega
   have HTL := h_ (show ∀ W,Fr wr W → Calls prog F #[.agg #[.string s,.map (some mp),.slice (some ⟨g,0,none⟩) 28 28],.int .i64 q] W fun e w' => e = .returned (.tuple #[.agg #[.int .i64 T.k,.string T.t,.int .i64 T.n,.int .i64 0],.int .i64 T.e,.int .i64 ei]) ∧ Fr W w' from fun W hW => by
    rw [hF,hei,hT]; exact teller_any s (by omega) mp g q hlt W (HK.out.fr hW) (HEV.out.fr hW))
   clear hT hTe hF hei
   go_wp2_with fail
   go_region_held3 (fun W' => W'.cell? ⟨w2.heap.size,0,none⟩ = some (.string s) ∧ W'.cell? ⟨w2.heap.size,1,none⟩ = some (.map (some mp)) ∧ W'.cell? ⟨w2.heap.size,2,none⟩ = some (.slice (some ⟨g,0,none⟩) 28 28) ∧ Fr wr W')
    (first | exact mkS HSB.out (by assumption) | exact mkS HSB.out (Fr.alloc (by assumption) _) | exact mkS HSB.out (((Fr.refl wr).alloc _).drew) | exact mkS HSB.out (tok_fr4 (by assumption) (Nat.le_refl _) _ _ _ _) | exact mkS HSB.out (tok_fr4 (by assumption) (Below.size hq4) _ _ _ _))
    ((first
     | (go_at_call 189; refine (tellerOf_any s mp g (bt s q) _).mono ?_; rintro e w4 ⟨rfl,hf4⟩; rw [← HF.out]; have hq4 := Fr.trans (by first | assumption | exact ((Fr.refl wr).alloc _).drew) hf4; try (have hTB4 : Tb w4 wr.heap.size (.int .i64 0) (.string ⟨#[]⟩) (.int .i64 0) (.int .i64 0) := Tb.fr (w := (wr.alloc _).drew) (Tb.new wr _ _ _ _) hf4))
     | (refine (HTL.out _ (by assumption)).mono ?_; rintro e w5 ⟨rfl,hf5⟩; have hq5 := Fr.trans (by assumption) hf5; have hTB5 : Tb w5 wr.heap.size (.int .i64 0) (.string ⟨#[]⟩) (.int .i64 0) (.int .i64 0) := Tb.fr hTB4 hf5; obtain ⟨t0,t1,t2,t3⟩ := Tb.cells hTB5; have z0 := Tb.free hTB5 0; have z1 := Tb.free hTB5 1; have z2 := Tb.free hTB5 2; have z3 := Tb.free hTB5 3)
     | (refine (HTL.out _ (Fr.alloc (by assumption) _)).mono ?_; rintro e w5 ⟨rfl,hf5⟩; have hq5 := Fr.trans (Fr.alloc (by assumption) _) hf5; have hTB5 : Tb w5 w4.heap.size (.int .i64 0) (.string ⟨#[]⟩) (.int .i64 0) (.int .i64 0) := Tb.fr (Tb.new w4 _ _ _ _) hf5; obtain ⟨t0,t1,t2,t3⟩ := Tb.cells hTB5; have z0 := Tb.free hTB5 0; have z1 := Tb.free hTB5 1; have z2 := Tb.free hTB5 2; have z3 := Tb.free hTB5 3)
     | (refine (HTL.out _ (by assumption)).mono ?_; rintro e w5 ⟨rfl,hf5⟩; have hq5 := Fr.trans (by assumption) hf5)))
   all_goals (rename_i hH; have hW6 := hH.2.2.2; first
    | (have hT6 := Tb.set4 (b := wr.heap.size) hTB5 (.int .i64 T.k) (.string T.t) (.int .i64 T.n) (.int .i64 0); clear hH t0 t1 t2 t3 z0 z1 z2 z3 hTB5; generalize ((((w5.setCell ⟨wr.heap.size,0,none⟩ (.int .i64 T.k)).setCell ⟨wr.heap.size,1,none⟩ (.string T.t)).setCell ⟨wr.heap.size,2,none⟩ (.int .i64 T.n)).setCell ⟨wr.heap.size,3,none⟩ (.int .i64 0)) = W at hT6 hW6 ⊢; generalize hb : wr.heap.size = b at hT6 ⊢; have hb6 : wr.heap.size ≤ b := Nat.le_of_eq hb)
    | (have hT6 := Tb.set4 (b := w4.heap.size) hTB5 (.int .i64 T.k) (.string T.t) (.int .i64 T.n) (.int .i64 0); clear hH t0 t1 t2 t3 z0 z1 z2 z3 hTB5; generalize ((((w5.setCell ⟨w4.heap.size,0,none⟩ (.int .i64 T.k)).setCell ⟨w4.heap.size,1,none⟩ (.string T.t)).setCell ⟨w4.heap.size,2,none⟩ (.int .i64 T.n)).setCell ⟨w4.heap.size,3,none⟩ (.int .i64 0)) = W at hT6 hW6 ⊢; generalize hb : w4.heap.size = b at hT6 ⊢; have hb6 : wr.heap.size ≤ b := by (have h4 := Below.size hq4; omega))
    | (have hT6 := Tb.new w5 (.int .i64 T.k) (.string T.t) (.int .i64 T.n) (.int .i64 0); clear hH; generalize w5.alloc (.cells #[.int .i64 T.k,.string T.t,.int .i64 T.n,.int .i64 0] 98) = W at hT6 hW6 ⊢; generalize hb : w5.heap.size = b at hT6 ⊢; have hb6 : wr.heap.size ≤ b := by (have h5 := Below.size hq5; omega)))
   all_goals clear hb hf4 hf5 hq4 hq5
   all_goals
    by_cases hz : ei = 0
    ·subst hz
     have h0 : (tokAt s q).er = 0 := by rw [← HT.out]; have := HEI.out; omega
     obtain ⟨A0,c0,rfl⟩ := own_form HO.out
     by_cases hfull : acc.length = 20000
     ·have HC := h_ (show scan s = ⟨[],2,q⟩ by rw [HSQ.out]; exact scG_full hlt h0 hfull)
      have hd2 : ((acc.length : Int) == 20000) = true := by rw [beq_iff_eq]; omega
      clear h0 hfull
      go_wp2_with fail
      go_ret3
      rw [HC.out]
      exact ⟨_,rfl,TkV.nil _,hfwr.trans hW6⟩
     ·have hd2 : ((acc.length : Int) == 20000) = false := by rw [beq_eq_false_iff_ne]; omega
      have HC := h_ (show scan s = scG s (acc ++ [⟨T.k,T.t,T.n,q⟩]) (skp s T.e) by rw [HSQ.out,scG_step hlt h0 hfull,HT.out])
      obtain ⟨te1,te2⟩ := HTE.out (by rw [HT.out]; exact h0)
      obtain ⟨t0,t1,t2,t3⟩ := hT6.cells
      have z3 := hT6.free 3
      clear h0
      have hw3 := hfr.size
      have hfW := (((hfr.trans hW6).setCell (p := ⟨b,3,none⟩) (Nat.le_trans hw3 hb6) (.int .i64 q)).alloc (.cells #[.int .i64 T.k,.string T.t,.int .i64 T.n,.int .i64 q] 98))
      have HOW := h_ (own_keep HO.out ((hW6.setCell (p := ⟨b,3,none⟩) hb6 (.int .i64 q)).alloc (.cells #[.int .i64 T.k,.string T.t,.int .i64 T.n,.int .i64 q] 98)))
      go_wp2_with (with_reducible refine stop_append ?_)
      unfold Stop
      refine wpList_append_own _ rfl (.tmp 48) (.tmp 50) 55 rfl w3.heap.size 98 i0 (.agg #[.int .i64 0,.string ⟨#[]⟩,.int .i64 0,.int .i64 0]) 4 40 underlying55 HI.out.1 HI.out.2.1 HI.out.2.2.1 HI.out.2.2.2 rfl (by decide) _ _ _ rfl HOW.out ⟨W.heap.size,0,none⟩ 1 1 (cellsT ⟨T.k,T.t,T.n,q⟩) rfl rfl ?c1 ?c2 ?c3 ?c4 ?c5 ?_
      case c1 =>
       intro j u hu
       have hbk := Tb.new (W.setCell ⟨b,3,none⟩ (.int .i64 q)) (.int .i64 T.k) (.string T.t) (.int .i64 T.n) (.int .i64 q)
       obtain ⟨y0,y1,y2,y3⟩ := hbk.cells
       have hz5 : (W.setCell ⟨b,3,none⟩ (.int .i64 q)).heap.size = W.heap.size := by simp
       rw [hz5] at y0 y1 y2 y3
       rw [ap_add,Nat.zero_add]
       match j,hu with
       | 0,hu => obtain rfl : _ = u := Option.some.inj hu; exact y0
       | 1,hu => obtain rfl : _ = u := Option.some.inj hu; exact y1
       | 2,hu => obtain rfl : _ = u := Option.some.inj hu; exact y2
       | 3,hu => obtain rfl : _ = u := Option.some.inj hu; exact y3
      case c2 =>
       intro u hu
       simp only [cellsT,List.mem_cons,List.not_mem_nil,or_false] at hu
       rcases hu with rfl | rfl | rfl | rfl <;> rfl
      case c3 => unfold maxLen; omega
      case c4 => omega
      case c5 => exact Nat.le_trans hfW.size (Nat.le_refl _)
      intro v' wA hownA hgA _
      have hown2 : wA.ownsRow w3.heap.size 98 4 v' (acc ++ [(⟨T.k,T.t,T.n,q⟩ : Tp)]).length (toks (acc ++ [⟨T.k,T.t,T.n,q⟩])) := by
       rw [toks_snoc,List.length_append]; exact hownA
      have HOA := h_ hown2
      have hfA : Fr w3 wA := own_fr hfW HOW.out hgA
      obtain ⟨c0',c1',c2'⟩ := HS3.out.fr hfA
      clear hownA hgA hown2 hfW t0 t1 t2 t3 z3
      go_wp2_with fail
      refine (skip_any s (by omega) mp g T.e te2 _).mono ?_
      rintro e w7 ⟨rfl,hf7⟩
      have hsk := skp_bd s _ T.e rfl te2
      have HO7 := h_ (show w7.ownsRow w3.heap.size 98 4 v' (acc ++ [(⟨T.k,T.t,T.n,q⟩ : Tp)]).length (toks (acc ++ [⟨T.k,T.t,T.n,q⟩])) from own_keep HOA.out hf7)
      have hf37 := hfA.trans hf7
      go_wp2_with fail
      go_roundw
      case rel => exact ⟨acc ++ [⟨T.k,T.t,T.n,q⟩],skp s T.e,hsk.2,rfl,by rw [List.length_append,List.length_singleton]; omega,HC.out,HO7.out,hf37⟩
      case measure => simp [intOf]; omega
    ·have hz2 : (ei == 0) = false := by rw [beq_eq_false_iff_ne]; exact hz
     have h0 : (tokAt s q).er ≠ 0 := by rw [← HT.out]; have := HEI.out; omega
     have HC := h_ (show scan s = ⟨[],T.er,q⟩ by rw [HSQ.out,scG_err hlt h0,HT.out])
     clear h0
     go_wp2_with fail
     go_ret3
     rw [HC.out]
     exact ⟨.slice none 0 0,(by rw [← HEI.out]; rfl),TkV.nil _,hfwr.trans hW6⟩
  ·have hqs : decide ((q : Int) < (s.size : Int)) = false := decide_eq_false (by omega)
   obtain ⟨A0,c0,rfl⟩ := own_form HO.out
   by_cases hfull : acc.length = 20000
   ·have HC := h_ (show scan s = ⟨[],2,s.size⟩ by rw [HSQ.out]; exact scG_over hlt hfull)
    have hd2 : ((acc.length : Int) == 20000) = true := by rw [beq_iff_eq]; omega
    clear hfull
    go_wp2_with fail
    go_ret3
    rw [HC.out]
    exact ⟨_,rfl,TkV.nil _,hfwr⟩
   ·have HC := h_ (show scan s = ⟨acc ++ [⟨0,nul,0,s.size⟩],0,0⟩ by rw [HSQ.out]; exact scG_end hlt hfull)
    have hd2 : ((acc.length : Int) == 20000) = false := by rw [beq_eq_false_iff_ne]; omega
    have hfW := hfr.alloc (.cells #[.int .i64 0,.string ⟨#[]⟩,.int .i64 0,.int .i64 s.size] 98)
    have HOW := h_ (own_keep HO.out ((Fr.refl wr).alloc (.cells #[.int .i64 0,.string ⟨#[]⟩,.int .i64 0,.int .i64 s.size] 98)))
    go_wp2_with (with_reducible refine stop_append ?_)
    unfold Stop
    refine wpList_append_own _ rfl (.tmp 60) (.tmp 64) 55 rfl w3.heap.size 98 i0 (.agg #[.int .i64 0,.string ⟨#[]⟩,.int .i64 0,.int .i64 0]) 4 40 underlying55 HI.out.1 HI.out.2.1 HI.out.2.2.1 HI.out.2.2.2 rfl (by decide) _ _ _ rfl HOW.out ⟨wr.heap.size,0,none⟩ 1 1 (cellsT ⟨0,nul,0,s.size⟩) rfl rfl ?c1 ?c2 ?c3 ?c4 ?c5 ?_
    case c1 =>
     intro j u hu
     obtain ⟨y0,y1,y2,y3⟩ := (Tb.new wr (.int .i64 0) (.string ⟨#[]⟩) (.int .i64 0) (.int .i64 s.size)).cells
     rw [ap_add,Nat.zero_add]
     match j,hu with
     | 0,hu => obtain rfl : _ = u := Option.some.inj hu; exact y0
     | 1,hu => obtain rfl : _ = u := Option.some.inj hu; exact y1
     | 2,hu => obtain rfl : _ = u := Option.some.inj hu; exact y2
     | 3,hu => obtain rfl : _ = u := Option.some.inj hu; exact y3
    case c2 =>
     intro u hu
     simp only [cellsT,List.mem_cons,List.not_mem_nil,or_false] at hu
     rcases hu with rfl | rfl | rfl | rfl <;> rfl
    case c3 => unfold maxLen; omega
    case c4 => omega
    case c5 => exact Nat.le_trans hfW.size (Nat.le_refl _)
    intro v' wA hownA hgA _
    have hown2 : wA.ownsRow w3.heap.size 98 4 v' (acc ++ [(⟨0,nul,0,s.size⟩ : Tp)]).length (toks (acc ++ [⟨0,nul,0,s.size⟩])) := by
     rw [toks_snoc,List.length_append]; exact hownA
    have HOA := h_ hown2
    have hfA : Fr w3 wA := own_fr hfW HOW.out hgA
    clear hownA hgA hown2 hfW
    go_wp2_with fail
    go_ret3
    rw [HC.out]
    exact ⟨_,rfl,TkV.own HOA.out,hfw3.trans hfA⟩
theorem has_yes {L : Nat} {f : Nat → ByteArray} {s : ByteArray} (i : Nat) (h : i < L) (e : f i = s) : hasB L f s = true := hasB_yes h e
open Classical in
theorem has_not {L : Nat} {f : Nat → ByteArray} {s : ByteArray} (h : ∀ i,i < L → f i ≠ s) : hasB L f s = false := by
 unfold hasB
 exact decide_eq_false fun ⟨i,hi,e⟩ => h i hi e
def neAll (L : Nat) (f : Nat → ByteArray) (s : ByteArray) : Bool := (List.range L).all fun i => (f i).data.toList != s.data.toList
theorem neAll_of {L : Nat} {f : Nat → ByteArray} {s : ByteArray} (h : neAll L f s = true) : ∀ i,i < L → f i ≠ s := by
 intro i hi e
 have := List.all_eq_true.1 h i (List.mem_range.2 hi)
 rw [e] at this
 simp at this
theorem skp_self {s : ByteArray} {a : Nat} (h : blank (bt s a) = false) (h2 : slash s a = false) : skp s a = a := by
 have e := run_out (p := blank) (s := s) (i := a) h
 rw [skp_stop (by rw [e]; exact h2),e]
end Go.Proofs.YtbaelbafhdjlnaaGreatDoor
