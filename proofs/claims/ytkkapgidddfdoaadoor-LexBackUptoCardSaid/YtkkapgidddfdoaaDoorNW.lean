/- How a number is written by the base 16: the contract of the library's function, for 32 bits with the highest set. -/
import Derived.Test.YtkkapgidddfdoaaDoorQ
import Derived.Test.YtkkapgidddfdoaaDoorPU
import Derived.Test.YtkkapgidddfdoaaDoorSH3
import Derived.Lib.LaidTab
import Derived.Lib.AppendIntMem
namespace Go.Proofs.YtkkapgidddfdoaaDoor
open Go.RowKit
set_option linter.unusedVariables false

/-- What numbers that are written need: the library's error, its powers of 10, and one cell of its table of bits. -/
def Nv (w : World) : Prop := Ev w ∧ Lib.TabIs Tryd.prog w "internal/strconv.uint64pow10" .u64 Lib.pow10Tab ∧ w.cell? ⟨5, 15, none⟩ = some (.int .u8 4)
theorem Nv.fr {w w' : World} (h : Nv w) (k : Fr w w') : Nv w' := ⟨h.1.fr k, Lib.tabBelow_of_tabIs h.2.1 w' k, k.cell h.2.2⟩
theorem fr_grow (w : World) (k : Nat) (os : Array Obj) : Fr w (Sort.grow (w.drewN k) os) := by
  refine ⟨rfl, rfl, rfl, by simp [Sort.grow], fun j hj => ?_⟩
  show (w.heap ++ os)[j]? = _
  rw [Array.getElem?_append_left hj]
/-- A digit of the base 16, and eight of them. -/
def hx (d : Nat) : Nat := if d < 10 then 48 + d else 87 + d
def hex8 (v : Nat) : List Nat := (List.range 8).map fun j => hx (v / 16 ^ (7 - j) % 16)
def Ar (w : World) (B v k : Nat) : Prop := ∃ arr : Array Value, w.heap[B]? = some (.cells arr 97 (0, 0)) ∧ arr.size = 65 ∧ ∀ j, j < k → arr[64 - j]? = some (.int .u8 (hx (v / 16 ^ j % 16) : Nat))
theorem Ar.fr {w w' : World} {B v k : Nat} (h : Ar w B v k) (f : Fr w w') : Ar w' B v k := by
  obtain ⟨arr, h1, h2⟩ := h
  exact ⟨arr, (f.block B (Array.getElem?_eq_some_iff.1 h1).1).trans h1, h2⟩
theorem Ar.put {w : World} {B v k : Nat} (h : Ar w B v k) (hk : k < 65) : Ar (w.setCell ⟨B, 64 - k, none⟩ (.int .u8 (hx (v / 16 ^ k % 16) : Nat))) B v (k + 1) := by
  obtain ⟨arr, h1, h2, h3⟩ := h
  refine ⟨arr.setIfInBounds (64 - k) (.int .u8 (hx (v / 16 ^ k % 16) : Nat)), ?_, by simp [h2], fun j hj => ?_⟩
  · simp only [World.setCell, Array.getElem?_modify, if_true, h1, Option.map_some]
    rfl
  · by_cases e : j = k
    · subst e
      rw [Array.getElem?_setIfInBounds_self_of_lt (by omega)]
    · rw [Array.getElem?_setIfInBounds_ne (by omega), h3 j (by omega)]
theorem Ar.at_ {w : World} {B v k : Nat} (h : Ar w B v k) (i : Nat) (hi : i < 65) : (∃ y, w.cell? ⟨B, i, none⟩ = some y) ∧ w.frozen? ⟨B, i, none⟩ = false := by
  obtain ⟨arr, h1, h2, _⟩ := h
  refine ⟨⟨arr[i]'(by omega), ?_⟩, by simp [World.frozen?, h1]⟩
  simp [World.cell?, h1, h2, hi]
theorem Ar.got {w : World} {B v k : Nat} (h : Ar w B v k) (j : Nat) (hj : j < k) (hk : k ≤ 65) : w.cell? ⟨B, 64 - j, none⟩ = some (.int .u8 (hx (v / 16 ^ j % 16) : Nat)) := by
  obtain ⟨arr, h1, h2, h3⟩ := h
  simp only [World.cell?, h1]
  exact h3 j hj
def d36 : ByteArray := ⟨#[48, 49, 50, 51, 52, 53, 54, 55, 56, 57, 97, 98, 99, 100, 101, 102, 103, 104, 105, 106, 107, 108, 109, 110, 111, 112, 113, 114, 115, 116, 117, 118, 119, 120, 121, 122]⟩
theorem d36_at (d : Nat) (h : d < 16) : ((d36[d]'(show d < 36 by omega)).toNat : Nat) = hx d := by
  have : d = 0 ∨ d = 1 ∨ d = 2 ∨ d = 3 ∨ d = 4 ∨ d = 5 ∨ d = 6 ∨ d = 7 ∨ d = 8 ∨ d = 9 ∨ d = 10 ∨ d = 11 ∨ d = 12 ∨ d = 13 ∨ d = 14 ∨ d = 15 := by omega
  rcases this with rfl | rfl | rfl | rfl | rfl | rfl | rfl | rfl | rfl | rfl | rfl | rfl | rfl | rfl | rfl | rfl <;> rfl
theorem bits_u64_15 (x : Nat) (h : x < 18446744073709551616) : bits .and .u64 (x : Int) 15 = ((x % 16 : Nat) : Int) := by
  have e1 : (BitVec.ofInt 64 15).toNat = 2 ^ 4 - 1 := rfl
  have key : (BitVec.ofInt 64 (x : Int) &&& BitVec.ofInt 64 15).toNat = x % 16 := by
    rw [BitVec.toNat_and, e1, Nat.and_two_pow_sub_one_eq_mod, BitVec.toNat_ofInt]
    have : ((x : Int) % ((2 ^ 64 : Nat) : Int)).toNat = x := by
      rw [Int.emod_eq_of_lt (by omega) (by omega)]; rfl
    rw [this]
  show IntKind.u64.wrap ((BitVec.ofInt 64 (x : Int) &&& BitVec.ofInt 64 15).toNat : Nat) = _
  rw [key, IntKind.wrap_u64]
  omega
theorem conv8 {w : World} {B v : Nat} (h : Ar w B v 8) : (convert 53 9 (.slice (some ⟨B, 57, none⟩) 8 8)).run Tryd.prog w = .ok (.string (ofL (hex8 v))) w := by
  refine run_convert_bytes_arg w 53 5 Tryd.underlying53 Tryd.underlying5 B 57 8 8 ((hex8 v).map fun (c : Nat) => (c : Int)) (by simp [hex8]) (fun i hi => ?_) 9 Tryd.underlying9
  have e : 57 + i = 64 - (7 - i) := by omega
  rw [e, h.got (7 - i) (by omega) (by omega)]
  simp [hex8, List.getD, hi]
theorem tz64 (w : World) (hdb : w.cell? ⟨5, 15, none⟩ = some (.int .u8 4)) : Calls Tryd.prog 118 #[.int .u64 16] w fun e w' => e = .returned (.int .i64 4) ∧ Fr w w' := by
  have e0 : IntKind.u64.wrap (-16) = 18446744073709551600 := by rw [IntKind.wrap_u64]; decide
  have e1 : bits .and .u64 16 18446744073709551600 = 16 := by decide
  have e2 : IntKind.u64.wrap (16 * 285870213051353865) = 4573923408821661840 := by rw [IntKind.wrap_u64]; decide
  have e3 : (4573923408821661840 / 288230376151711744 : Int) = 15 := by decide
  go_enter Tryd.func118, Tryd.ntmps118
  go_wp2
  go_ret
  exact ⟨rfl, Fr.refl _⟩
theorem tz (w : World) (hdb : w.cell? ⟨5, 15, none⟩ = some (.int .u8 4)) : Calls Tryd.prog 103 #[.int .u64 16] w fun e w' => e = .returned (.int .i64 4) ∧ Fr w w' := by
  go_enter Tryd.func103, Tryd.ntmps103
  go_wp2_with (go_at_call 118; refine (tz64 _ hdb).mono ?_; rintro e w' ⟨rfl, hf⟩)
  go_ret
  exact ⟨rfl, hf⟩
theorem p2_16 (w : World) : Calls Tryd.prog 102 #[.int .i64 16] w fun e w' => e = .returned (.bool true) ∧ w = w' := by
  have e1 : bits .and .i64 16 15 = 0 := by decide
  go_enter Tryd.func102, Tryd.ntmps102
  go_wp2
  go_ret
  exact ⟨rfl, rfl⟩
set_option maxRecDepth 100000 in
set_option maxHeartbeats 2000000 in
theorem fbits_any (v : Nat) (h1 : 2147483648 ≤ v) (h2 : v < 4294967296) (w : World) (hdb : w.cell? ⟨5, 15, none⟩ = some (.int .u8 4)) :
    Calls Tryd.prog 91 #[.slice none 0 0, .int .u64 v, .int .i64 16, .bool false, .bool false] w fun e w' => e = .returned (.tuple #[.slice none 0 0, .string (ofL (hex8 v))]) ∧ Fr w w' := by
  have HDB := Lib.hid hdb
  go_enter Tryd.func91, Tryd.ntmps91
  go_wp2_with (first
    | (go_at_call 102; refine (p2_16 _).mono ?_; rintro e w' ⟨rfl, rfl⟩)
    | (go_at_call 103; refine (tz _ (Fr.cell ((Fr.refl w).alloc _) HDB.out)).mono ?_; rintro e w1 ⟨rfl, hf1⟩))
  have HA0 : Ar w1 w.heap.size v 0 := Ar.fr (w := w.alloc (.cells Tryd.zeroCells97 97)) ⟨_, heap_alloc_new w _, by rfl, fun j hj => absurd hj (by omega)⟩ hf1
  have HF0 := Lib.hid (((Fr.refl w).alloc _).trans hf1)
  go_loopw [1, 13] (fun u i wr => ∃ q : Nat, 57 ≤ q ∧ q ≤ 64 ∧ u = .int .u64 (v / 16 ^ (64 - q) : Nat) ∧ i = .int .i64 ((q : Int) + 1) ∧ Ar wr w.heap.size v (64 - q) ∧ Fr w wr) (fun _ i _ => (intOf i).toNat)
  case atStart => exact ⟨64, by omega, by omega, by rw [Nat.sub_self, Nat.pow_zero, Nat.div_one], rfl, HA0, HF0.out⟩
  case round =>
    obtain ⟨q, hq57, hq64, rfl, rfl, har, hfr⟩ := hrel
    have HA := Lib.hid har
    clear HA0 har
    by_cases hlast : q = 57
    · subst hlast
      obtain ⟨⟨y, hy⟩, hz⟩ := HA.out.at_ 57 (by omega)
      have HP := Lib.hid (HA.out.put (k := 7) (by omega))
      have hx1 : v / 16 ^ 7 < 16 := by omega
      have hx3 : v / 16 ^ 7 % 16 = v / 16 ^ 7 := by omega
      rw [hx3] at HP
      obtain ⟨x, hx⟩ : ∃ x, x = v / 16 ^ 7 := ⟨_, rfl⟩
      rw [← hx] at hx1 HP
      rw [show v / 16 ^ (64 - 57) = x from hx.symm]
      have hdi := d36_at x hx1
      unfold d36 at hdi
      have hg : decide ((16 : Int) ≤ (x : Int)) = false := decide_eq_false (by omega)
      have hcv := conv8 HP.out
      clear hx3 hx hq57 hq64
      go_wp2
      go_ret2
      exact ⟨rfl, hfr.setCell (Nat.le_refl _) _⟩
    · obtain ⟨k, hk⟩ : ∃ k, k = 64 - q := ⟨_, rfl⟩
      rw [← hk] at HA ⊢
      have hqk : q = 64 - k := by omega
      have hk6 : k ≤ 6 := by omega
      obtain ⟨⟨y, hy⟩, hz⟩ := HA.out.at_ q (by omega)
      have HP := Lib.hid (HA.out.put (by omega))
      rw [← hqk] at HP
      have hpw : 16 ^ k ≤ 16 ^ 6 := Nat.pow_le_pow_right (by decide) hk6
      have hp0 : 0 < 16 ^ k := Nat.pow_pos (by decide)
      have hx1 : 16 ≤ v / 16 ^ k := by
        rw [Nat.le_div_iff_mul_le hp0]; omega
      have hx2 : v / 16 ^ k ≤ v := Nat.div_le_self _ _
      have HX3 : Hid (v / 16 ^ (k + 1) = v / 16 ^ k / 16) := Lib.hid (by rw [Nat.pow_succ, Nat.div_div_eq_div_mul])
      obtain ⟨x, hx⟩ : ∃ x, x = v / 16 ^ k := ⟨_, rfl⟩
      rw [← hx] at hx1 hx2 HP HX3 ⊢
      have ha := bits_u64_15 x (by omega)
      obtain ⟨d, hd⟩ : ∃ d, d = x % 16 := ⟨_, rfl⟩
      have hd16 : d < 16 := by omega
      rw [← hd] at ha HP
      have hdi := d36_at d hd16
      unfold d36 at hdi
      have HK := Lib.hid (And.intro hk hqk)
      have hg : decide ((16 : Int) ≤ (x : Int)) = true := decide_eq_true (by omega)
      clear hx hd hk hqk hpw hp0
      go_wp2
      have e := HK.out
      refine ⟨⟨q - 1, by omega, by omega, ?_, by first | rfl | go_num, ?_, hfr.setCell (Nat.le_refl _) _⟩, by simp [intOf]⟩
      · rw [show 64 - (q - 1) = k + 1 by omega, HX3.out]; congr 1
      · rw [show 64 - (q - 1) = k + 1 by omega]; exact HP.out
end Go.Proofs.YtkkapgidddfdoaaDoor
