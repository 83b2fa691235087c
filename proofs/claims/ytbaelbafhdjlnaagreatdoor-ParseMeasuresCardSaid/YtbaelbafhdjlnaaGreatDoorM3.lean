/- Merged by program: NW NB MO RQ. -/
import Derived.Test.YtbaelbafhdjlnaaGreatDoorM1
import Derived.Test.YtbaelbafhdjlnaaGreatDoorM2
import Derived.Test.YtbaelbafhdjlnaaGreatDoorSH3
import Derived.Lib.LaidTab
import Derived.Lib.AppendIntMem
import Derived.Laws.Concat
/- How a number is written by the base 16: the contract of the library's function, for 32 bits with the highest set. -/
namespace Go.Proofs.YtbaelbafhdjlnaaGreatDoor
open Go.RowKit
set_option linter.unusedVariables false

/-- What numbers that are written need: the library's error, its powers of 10, and one cell of its table of bits. -/
def Nv (w : World) : Prop := Ev w ∧ Lib.TabIs Tryz.prog w "internal/strconv.uint64pow10" .u64 Lib.pow10Tab ∧ w.cell? ⟨5, 15, none⟩ = some (.int .u8 4)
theorem Nv.fr {w w' : World} (h : Nv w) (k : Fr w w') : Nv w' := ⟨h.1.fr k, Lib.tabBelow_of_tabIs h.2.1 w' k, k.cell h.2.2⟩
theorem fr_grow (w : World) (k : Nat) (os : Array Obj) : Fr w (Sort.grow (w.drewN k) os) := by
  refine ⟨rfl, rfl, rfl, by simp [Sort.grow], fun j hj => ?_⟩
  show (w.heap ++ os)[j]? = _
  rw [Array.getElem?_append_left hj]
/-- A digit of the base 16, and eight of them. -/
def hx (d : Nat) : Nat := if d < 10 then 48 + d else 87 + d
def hex8 (v : Nat) : List Nat := (List.range 8).map fun j => hx (v / 16 ^ (7 - j) % 16)
def Ar (w : World) (B v k : Nat) : Prop := ∃ arr : Array Value, w.heap[B]? = some (.cells arr 216 (0, 0)) ∧ arr.size = 65 ∧ ∀ j, j < k → arr[64 - j]? = some (.int .u8 (hx (v / 16 ^ j % 16) : Nat))
theorem Ar.fr {w w' : World} {B v k : Nat} (h : Ar w B v k) (f : Fr w w') : Ar w' B v k := by
  obtain ⟨arr, h1, h2⟩ := h
  exact ⟨arr, (f.block B (Array.getElem?_eq_some_iff.1 h1).1).trans h1, h2⟩
theorem Ar.put {w : World} {B v k : Nat} (h : Ar w B v k) (hk : k < 65) : Ar (w.setCell ⟨B, 64 - k, none⟩ (.int .u8 (hx (v / 16 ^ k % 16) : Nat))) B v (k + 1) := by
  obtain ⟨arr, h1, h2, h3⟩ := h
  refine ⟨arr.setIfInBounds (64 - k) (.int .u8 (hx (v / 16 ^ k % 16) : Nat)), ?_, by simp [h2], fun j hj => ?_⟩
  · simp only [World.setCell, Array.getElem?_modify, if_true, h1, Option.map_some]
    rfl
  · by_cases e : j = k
    · subst e
      rw [Array.getElem?_setIfInBounds_self_of_lt (by omega)]
    · rw [Array.getElem?_setIfInBounds_ne (by omega), h3 j (by omega)]
theorem Ar.at_ {w : World} {B v k : Nat} (h : Ar w B v k) (i : Nat) (hi : i < 65) : (∃ y, w.cell? ⟨B, i, none⟩ = some y) ∧ w.frozen? ⟨B, i, none⟩ = false := by
  obtain ⟨arr, h1, h2, _⟩ := h
  refine ⟨⟨arr[i]'(by omega), ?_⟩, by simp [World.frozen?, h1]⟩
  simp [World.cell?, h1, h2, hi]
theorem Ar.got {w : World} {B v k : Nat} (h : Ar w B v k) (j : Nat) (hj : j < k) (hk : k ≤ 65) : w.cell? ⟨B, 64 - j, none⟩ = some (.int .u8 (hx (v / 16 ^ j % 16) : Nat)) := by
  obtain ⟨arr, h1, h2, h3⟩ := h
  simp only [World.cell?, h1]
  exact h3 j hj
def d36 : ByteArray := ⟨#[48, 49, 50, 51, 52, 53, 54, 55, 56, 57, 97, 98, 99, 100, 101, 102, 103, 104, 105, 106, 107, 108, 109, 110, 111, 112, 113, 114, 115, 116, 117, 118, 119, 120, 121, 122]⟩
theorem d36_at (d : Nat) (h : d < 16) : ((d36[d]'(show d < 36 by omega)).toNat : Nat) = hx d := by
  have : d = 0 ∨ d = 1 ∨ d = 2 ∨ d = 3 ∨ d = 4 ∨ d = 5 ∨ d = 6 ∨ d = 7 ∨ d = 8 ∨ d = 9 ∨ d = 10 ∨ d = 11 ∨ d = 12 ∨ d = 13 ∨ d = 14 ∨ d = 15 := by omega
  rcases this with rfl | rfl | rfl | rfl | rfl | rfl | rfl | rfl | rfl | rfl | rfl | rfl | rfl | rfl | rfl | rfl <;> rfl
theorem bits_u64_15 (x : Nat) (h : x < 18446744073709551616) : bits .and .u64 (x : Int) 15 = ((x % 16 : Nat) : Int) := by
  have e1 : (BitVec.ofInt 64 15).toNat = 2 ^ 4 - 1 := rfl
  have key : (BitVec.ofInt 64 (x : Int) &&& BitVec.ofInt 64 15).toNat = x % 16 := by
    rw [BitVec.toNat_and, e1, Nat.and_two_pow_sub_one_eq_mod, BitVec.toNat_ofInt]
    have : ((x : Int) % ((2 ^ 64 : Nat) : Int)).toNat = x := by
      rw [Int.emod_eq_of_lt (by omega) (by omega)]; rfl
    rw [this]
  show IntKind.u64.wrap ((BitVec.ofInt 64 (x : Int) &&& BitVec.ofInt 64 15).toNat : Nat) = _
  rw [key, IntKind.wrap_u64]
  omega
theorem conv8 {w : World} {B v : Nat} (h : Ar w B v 8) : (convert 54 9 (.slice (some ⟨B, 57, none⟩) 8 8)).run Tryz.prog w = .ok (.string (ofL (hex8 v))) w := by
  refine run_convert_bytes_arg w 54 5 Tryz.underlying54 Tryz.underlying5 B 57 8 8 ((hex8 v).map fun (c : Nat) => (c : Int)) (by simp [hex8]) (fun i hi => ?_) 9 Tryz.underlying9
  have e : 57 + i = 64 - (7 - i) := by omega
  rw [e, h.got (7 - i) (by omega) (by omega)]
  simp [hex8, List.getD, hi]
theorem tz64 (w : World) (hdb : w.cell? ⟨5, 15, none⟩ = some (.int .u8 4)) : Calls Tryz.prog 297 #[.int .u64 16] w fun e w' => e = .returned (.int .i64 4) ∧ Fr w w' := by
  have e0 : IntKind.u64.wrap (-16) = 18446744073709551600 := by rw [IntKind.wrap_u64]; decide
  have e1 : bits .and .u64 16 18446744073709551600 = 16 := by decide
  have e2 : IntKind.u64.wrap (16 * 285870213051353865) = 4573923408821661840 := by rw [IntKind.wrap_u64]; decide
  have e3 : (4573923408821661840 / 288230376151711744 : Int) = 15 := by decide
  go_enter Tryz.func297, Tryz.ntmps297
  go_wp2
  go_ret
  exact ⟨rfl, Fr.refl _⟩
theorem tz (w : World) (hdb : w.cell? ⟨5, 15, none⟩ = some (.int .u8 4)) : Calls Tryz.prog 295 #[.int .u64 16] w fun e w' => e = .returned (.int .i64 4) ∧ Fr w w' := by
  go_enter Tryz.func295, Tryz.ntmps295
  go_wp2_with (go_at_call 297; refine (tz64 _ hdb).mono ?_; rintro e w' ⟨rfl, hf⟩)
  go_ret
  exact ⟨rfl, hf⟩
theorem p2_16 (w : World) : Calls Tryz.prog 294 #[.int .i64 16] w fun e w' => e = .returned (.bool true) ∧ w = w' := by
  have e1 : bits .and .i64 16 15 = 0 := by decide
  go_enter Tryz.func294, Tryz.ntmps294
  go_wp2
  go_ret
  exact ⟨rfl, rfl⟩
set_option maxRecDepth 100000 in
set_option maxHeartbeats 2000000 in
theorem fbits_any (v : Nat) (h1 : 2147483648 ≤ v) (h2 : v < 4294967296) (w : World) (hdb : w.cell? ⟨5, 15, none⟩ = some (.int .u8 4)) :
    Calls Tryz.prog 290 #[.slice none 0 0, .int .u64 v, .int .i64 16, .bool false, .bool false] w fun e w' => e = .returned (.tuple #[.slice none 0 0, .string (ofL (hex8 v))]) ∧ Fr w w' := by
  have HDB := Lib.hid hdb
  go_enter Tryz.func290, Tryz.ntmps290
  go_wp2_with (first
    | (go_at_call 294; refine (p2_16 _).mono ?_; rintro e w' ⟨rfl, rfl⟩)
    | (go_at_call 295; refine (tz _ (Fr.cell ((Fr.refl w).alloc _) HDB.out)).mono ?_; rintro e w1 ⟨rfl, hf1⟩))
  have HA0 : Ar w1 w.heap.size v 0 := Ar.fr (w := w.alloc (.cells Tryz.zeroCells216 216)) ⟨_, heap_alloc_new w _, by rfl, fun j hj => absurd hj (by omega)⟩ hf1
  have HF0 := Lib.hid (((Fr.refl w).alloc _).trans hf1)
  go_loopw [1, 13] (fun u i wr => ∃ q : Nat, 57 ≤ q ∧ q ≤ 64 ∧ u = .int .u64 (v / 16 ^ (64 - q) : Nat) ∧ i = .int .i64 ((q : Int) + 1) ∧ Ar wr w.heap.size v (64 - q) ∧ Fr w wr) (fun _ i _ => (intOf i).toNat)
  case atStart => exact ⟨64, by omega, by omega, by rw [Nat.sub_self, Nat.pow_zero, Nat.div_one], rfl, HA0, HF0.out⟩
  case round =>
    obtain ⟨q, hq57, hq64, rfl, rfl, har, hfr⟩ := hrel
    have HA := Lib.hid har
    clear HA0 har
    by_cases hlast : q = 57
    · subst hlast
      obtain ⟨⟨y, hy⟩, hz⟩ := HA.out.at_ 57 (by omega)
      have HP := Lib.hid (HA.out.put (k := 7) (by omega))
      have hx1 : v / 16 ^ 7 < 16 := by omega
      have hx3 : v / 16 ^ 7 % 16 = v / 16 ^ 7 := by omega
      rw [hx3] at HP
      obtain ⟨x, hx⟩ : ∃ x, x = v / 16 ^ 7 := ⟨_, rfl⟩
      rw [← hx] at hx1 HP
      rw [show v / 16 ^ (64 - 57) = x from hx.symm]
      have hdi := d36_at x hx1
      unfold d36 at hdi
      have hg : decide ((16 : Int) ≤ (x : Int)) = false := decide_eq_false (by omega)
      have hcv := conv8 HP.out
      clear hx3 hx hq57 hq64
      go_wp2
      go_ret2
      exact ⟨rfl, hfr.setCell (Nat.le_refl _) _⟩
    · obtain ⟨k, hk⟩ : ∃ k, k = 64 - q := ⟨_, rfl⟩
      rw [← hk] at HA ⊢
      have hqk : q = 64 - k := by omega
      have hk6 : k ≤ 6 := by omega
      obtain ⟨⟨y, hy⟩, hz⟩ := HA.out.at_ q (by omega)
      have HP := Lib.hid (HA.out.put (by omega))
      rw [← hqk] at HP
      have hpw : 16 ^ k ≤ 16 ^ 6 := Nat.pow_le_pow_right (by decide) hk6
      have hp0 : 0 < 16 ^ k := Nat.pow_pos (by decide)
      have hx1 : 16 ≤ v / 16 ^ k := by
        rw [Nat.le_div_iff_mul_le hp0]; omega
      have hx2 : v / 16 ^ k ≤ v := Nat.div_le_self _ _
      have HX3 : Hid (v / 16 ^ (k + 1) = v / 16 ^ k / 16) := Lib.hid (by rw [Nat.pow_succ, Nat.div_div_eq_div_mul])
      obtain ⟨x, hx⟩ : ∃ x, x = v / 16 ^ k := ⟨_, rfl⟩
      rw [← hx] at hx1 hx2 HP HX3 ⊢
      have ha := bits_u64_15 x (by omega)
      obtain ⟨d, hd⟩ : ∃ d, d = x % 16 := ⟨_, rfl⟩
      have hd16 : d < 16 := by omega
      rw [← hd] at ha HP
      have hdi := d36_at d hd16
      unfold d36 at hdi
      have HK := Lib.hid (And.intro hk hqk)
      have hg : decide ((16 : Int) ≤ (x : Int)) = true := decide_eq_true (by omega)
      clear hx hd hk hqk hpw hp0
      go_wp2
      have e := HK.out
      refine ⟨⟨q - 1, by omega, by omega, ?_, by first | rfl | go_num, ?_, hfr.setCell (Nat.le_refl _) _⟩, by simp [intOf]⟩
      · rw [show 64 - (q - 1) = k + 1 by omega, HX3.out]; congr 1
      · rw [show 64 - (q - 1) = k + 1 by omega]; exact HP.out
end Go.Proofs.YtbaelbafhdjlnaaGreatDoor

/- How a number is written: the contract of the function that writes it. -/
namespace Go.Proofs.YtbaelbafhdjlnaaGreatDoor
open Go.RowKit
set_option linter.unusedVariables false

theorem iFormat_any (v : Nat) (h1 : 2147483648 ≤ v) (h2 : v < 4294967296) (w : World) (hdb : w.cell? ⟨5, 15, none⟩ = some (.int .u8 4)) :
    Calls Tryz.prog 283 #[.int .u64 v, .int .i64 16] w fun e w' => e = .returned (.string (ofL (hex8 v))) ∧ Fr w w' := by
  go_enter Tryz.func283, Tryz.ntmps283
  go_wp2_with (go_at_call 290; refine (fbits_any v h1 h2 _ hdb).mono ?_; rintro e w' ⟨rfl, hf⟩)
  go_ret
  exact ⟨rfl, hf⟩
theorem Format_any (v : Nat) (h1 : 2147483648 ≤ v) (h2 : v < 4294967296) (w : World) (hdb : w.cell? ⟨5, 15, none⟩ = some (.int .u8 4)) :
    Calls Tryz.prog 275 #[.int .u64 v, .int .i64 16] w fun e w' => e = .returned (.string (ofL (hex8 v))) ∧ Fr w w' := by
  go_enter Tryz.func275, Tryz.ntmps275
  go_wp2_with (go_at_call 283; refine (iFormat_any v h1 h2 _ hdb).mono ?_; rintro e w' ⟨rfl, hf⟩)
  go_ret
  exact ⟨rfl, hf⟩
def dec (n : Nat) : ByteArray := ⟨(Lib.decDigits n).toArray⟩
def num (n : Int) : Tx :=
  if n < -2147483648 ∨ 2147483647 < n then ⟨nul, 1⟩ else if 0 ≤ n then ⟨dec n.toNat, 0⟩ else ⟨⟨#[35]⟩ ++ ofL (hex8 (n + 4294967296).toNat), 0⟩
theorem ofL_size (l : List Nat) : (ofL l).size = l.length := by
  unfold ofL strOfNums
  simp [ByteArray.size]
theorem Number_any (n : Int) (h0 : -9223372036854775808 ≤ n) (h1 : n ≤ 9223372036854775807) (w : World) (hn : Nv w) :
    Calls Tryz.prog 266 #[.int .i64 n] w fun e w' => e = .returned (.tuple #[.string (num n).t, .int .i64 (num n).e]) ∧ Fr w w' := by
  by_cases hlo : n < -2147483648
  · have hd : decide (n < -2147483648) = true := decide_eq_true hlo
    rw [show num n = ⟨nul, 1⟩ by unfold num; rw [if_pos (Or.inl hlo)]]
    go_enter Tryz.func266, Tryz.ntmps266
    go_wp2_with fail
    go_ret2
    exact ⟨rfl, Fr.refl _⟩
  have hd : decide (n < -2147483648) = false := decide_eq_false hlo
  by_cases hhi : 2147483647 < n
  · have hd2 : decide (2147483647 < n) = true := decide_eq_true hhi
    rw [show num n = ⟨nul, 1⟩ by unfold num; rw [if_pos (Or.inr hhi)]]
    go_enter Tryz.func266, Tryz.ntmps266
    go_wp2_with fail
    go_ret2
    exact ⟨rfl, Fr.refl _⟩
  have hd2 : decide (2147483647 < n) = false := decide_eq_false hhi
  have HN := Lib.hid hn
  by_cases hp : 0 ≤ n
  · obtain ⟨m, rfl⟩ : ∃ m : Nat, n = m := ⟨n.toNat, by omega⟩
    have hd3 : decide ((0 : Int) ≤ (m : Int)) = true := decide_eq_true hp
    have hit := Tryz.strconv_Itoa (m : Int) h0 h1 w hn.2.1
    rw [Lib.itoa_nonneg] at hit
    rw [show num (m : Int) = ⟨dec m, 0⟩ by unfold num; rw [if_neg (by omega), if_pos hp, Int.toNat_natCast]]
    clear hlo hhi hp hn h0 h1
    go_enter Tryz.func266, Tryz.ntmps266
    go_wp2_with (go_at_call 274; refine hit.mono ?_; rintro e w' ⟨rfl, k, os, rfl⟩)
    go_ret2
    exact ⟨rfl, fr_grow w k os⟩
  · have hd3 : decide ((0 : Int) ≤ n) = false := decide_eq_false hp
    obtain ⟨v, hv⟩ : ∃ v : Nat, v = (n + 4294967296).toNat := ⟨_, rfl⟩
    rw [show num n = ⟨⟨#[35]⟩ ++ ofL (hex8 v), 0⟩ by unfold num; rw [if_neg (by omega), if_neg hp, hv]]
    have hw1 : IntKind.u32.wrap n = (v : Int) := by rw [IntKind.wrap_u32]; omega
    have hw2 : IntKind.u64.wrap (v : Int) = (v : Int) := by rw [IntKind.wrap_u64]; omega
    have hfm := Format_any v (by omega) (by omega) w hn.2.2
    have hadd : ∀ w, (Op.stringOp .add (⟨#[35]⟩ : ByteArray) (ofL (hex8 v))).run Tryz.prog w = .ok (.string (⟨#[35]⟩ ++ ofL (hex8 v))) w := fun w => run_string_add_sum w _ _ (by rw [ofL_size]; simp [hex8]; decide)
    clear hlo hhi hp hn h0 h1 hv
    go_enter Tryz.func266, Tryz.ntmps266
    go_wp2_with (go_at_call 275; refine hfm.mono ?_; rintro e w' ⟨rfl, hf⟩)
    go_ret2
    exact ⟨rfl, hf⟩
end Go.Proofs.YtbaelbafhdjlnaaGreatDoor

/- A word of a text that ends with the text or ahead of a blank: numbers and strings, as they are written, are told as these. Nothing here speaks of a program. -/
namespace Go.Proofs.YtbaelbafhdjlnaaGreatDoor
open Go.RowKit
set_option linter.unusedVariables false

structure At (s : ByteArray) (a : Nat) (w : ByteArray) : Prop where
  lt : a + w.size ≤ s.size
  at_ : ∀ i, i < w.size → bt s (a + i) = bt w i
  en : a + w.size = s.size ∨ bt s (a + w.size) = 32
theorem At.out {s : ByteArray} {a : Nat} {w : ByteArray} (h : At s a w) {p : Nat → Bool} (hp : p 32 = false) : run p s (a + w.size) = a + w.size := by
  rcases h.en with e | e
  · exact run_end (by omega)
  · exact run_out (by rw [e]; exact hp)
theorem run_span {p : Nat → Bool} {s : ByteArray} : ∀ m a, a + m ≤ s.size → (∀ i, i < m → p (bt s (a + i)) = true) → run p s (a + m) = a + m → run p s a = a + m := by
  intro m
  induction m with
  | zero => intro a _ _ h; exact h
  | succ m ih =>
    intro a ha hp hr
    rw [run_inside (by omega) (by have := hp 0 (by omega); rwa [Nat.add_zero] at this)]
    have := ih (a + 1) (by omega) (fun i hi => by have := hp (i + 1) (by omega); rwa [show a + (i + 1) = a + 1 + i by omega] at this) (by rw [show a + 1 + m = a + (m + 1) by omega]; exact hr)
    rw [this]; omega
theorem bt_ofL (l : List Nat) (i : Nat) (hi : i < l.length) (h : l[i] < 256) : bt (ofL l) i = l[i] := by
  unfold bt ofL strOfNums
  simp [hi]
  omega
theorem At.ex {s : ByteArray} {a : Nat} {w : ByteArray} (h : At s a w) : s.extract a (a + w.size) = w := by
  refine bt_ext (by rw [ext_size _ _ _ h.lt]; omega) (fun i hi => ?_)
  rw [ext_size _ _ _ h.lt] at hi
  rw [ext_bt _ _ _ _ h.lt hi, h.at_ i (by omega)]
/-- The digits of a number, as a list of numbers. -/
theorem dec_lt10 {n : Nat} (h : n < 10) : dec n = ofL [48 + n] := by
  unfold dec
  rw [Lib.decDigits_one h]
  rfl
theorem dec_bt : ∀ n i, i < (dec n).size → 48 ≤ bt (dec n) i ∧ bt (dec n) i ≤ 57 := by
  intro n
  induction n using Nat.strongRecOn with
  | ind n ih =>
    intro i hi
    by_cases h : n < 10
    · rw [dec_lt10 h] at hi ⊢
      rw [ofL_size] at hi
      obtain rfl : i = 0 := by simpa using hi
      rw [bt_ofL _ _ (by simp) (by simp; omega)]
      simp; omega
    · have hd : Lib.decDigits n = Lib.decDigits (n / 10) ++ [UInt8.ofNat (48 + n % 10)] := by rw [Lib.decDigits, dif_neg h]
      unfold dec bt at *
      have hs : i < (Lib.decDigits n).length := by simpa [ByteArray.size] using hi
      rw [hd] at hs ⊢
      rw [List.length_append, List.length_singleton] at hs
      by_cases hl : i < (Lib.decDigits (n / 10)).length
      · have := ih (n / 10) (by omega) i (by simpa [ByteArray.size] using hl)
        simp only [Array.getD_eq_getD_getElem?, List.getElem?_toArray, List.getElem?_append_left hl] at this ⊢
        exact this
      · simp only [Array.getD_eq_getD_getElem?, List.getElem?_toArray]
        rw [List.getElem?_append_right (by omega), show i - (Lib.decDigits (n / 10)).length = 0 by omega]
        simp
        omega
theorem dec_size (n : Nat) : (dec n).size = (Lib.decDigits n).length := by unfold dec; simp [ByteArray.size]
theorem dec_pos (n : Nat) : 1 ≤ (dec n).size := by
  rw [dec_size, Lib.decDigits]
  split <;> simp
theorem dec_short : ∀ k n, 1 ≤ k → n < 10 ^ k → (dec n).size ≤ k := by
  intro k
  induction k with
  | zero => intro n h; omega
  | succ k ih =>
    intro n _ hn
    rw [dec_size, Lib.decDigits]
    split
    · simp
    · rename_i h
      rw [List.length_append, List.length_singleton, ← dec_size]
      by_cases hk : k = 0
      · subst hk; omega
      · have := ih (n / 10) (by omega) (by rw [Nat.div_lt_iff_lt_mul (by decide), ← Nat.pow_succ]; exact hn)
        omega
theorem dec_val (s : ByteArray) (a : Nat) : ∀ n, (∀ i, i < (dec n).size → bt s (a + i) = bt (dec n) i) → val 10 s a (dec n).size = n := by
  intro n
  induction n using Nat.strongRecOn with
  | ind n ih =>
    intro hb
    by_cases h : n < 10
    · rw [dec_lt10 h] at hb ⊢
      rw [ofL_size] at hb ⊢
      show val 10 s a 1 = n
      have := hb 0 (by simp)
      rw [bt_ofL _ _ (by simp) (by simp; omega)] at this
      rw [val, val, this]
      show 0 * 10 + dig (48 + n) = n
      unfold dig
      rw [if_pos (by omega)]; omega
    · have hd : Lib.decDigits n = Lib.decDigits (n / 10) ++ [UInt8.ofNat (48 + n % 10)] := by rw [Lib.decDigits, dif_neg h]
      have hs : (dec n).size = (dec (n / 10)).size + 1 := by rw [dec_size, dec_size, hd, List.length_append, List.length_singleton]
      have h1 : ∀ i, i < (dec (n / 10)).size → bt (dec n) i = bt (dec (n / 10)) i := fun i hi => by
        unfold dec bt
        rw [dec_size] at hi
        rw [hd]
        simp only [Array.getD_eq_getD_getElem?, List.getElem?_toArray, List.getElem?_append_left hi]
      have h2 : bt (dec n) (dec (n / 10)).size = 48 + n % 10 := by
        rw [dec_size]
        unfold dec bt
        rw [hd]
        simp only [Array.getD_eq_getD_getElem?, List.getElem?_toArray]
        rw [List.getElem?_append_right (Nat.le_refl _), Nat.sub_self]
        simp
        omega
      have h3 := ih (n / 10) (by omega) (fun i hi => by rw [hb i (by omega), h1 i hi])
      rw [hs, val, h3, hb _ (by omega), h2]
      unfold dig
      rw [if_pos (by omega)]
      omega
theorem hx_lt {d : Nat} (h : d < 16) : hx d < 256 := by unfold hx; split <;> omega
theorem hx_hex {d : Nat} (h : d < 16) : hexc (hx d) = true := by
  have : d = 0 ∨ d = 1 ∨ d = 2 ∨ d = 3 ∨ d = 4 ∨ d = 5 ∨ d = 6 ∨ d = 7 ∨ d = 8 ∨ d = 9 ∨ d = 10 ∨ d = 11 ∨ d = 12 ∨ d = 13 ∨ d = 14 ∨ d = 15 := by omega
  rcases this with rfl | rfl | rfl | rfl | rfl | rfl | rfl | rfl | rfl | rfl | rfl | rfl | rfl | rfl | rfl | rfl <;> rfl
theorem hx_dig {d : Nat} (h : d < 16) : dig (hx d) = d := by
  have : d = 0 ∨ d = 1 ∨ d = 2 ∨ d = 3 ∨ d = 4 ∨ d = 5 ∨ d = 6 ∨ d = 7 ∨ d = 8 ∨ d = 9 ∨ d = 10 ∨ d = 11 ∨ d = 12 ∨ d = 13 ∨ d = 14 ∨ d = 15 := by omega
  rcases this with rfl | rfl | rfl | rfl | rfl | rfl | rfl | rfl | rfl | rfl | rfl | rfl | rfl | rfl | rfl | rfl <;> rfl
theorem hex_bt (v i : Nat) (hi : i < 8) : bt (ofL (hex8 v)) i = hx (v / 16 ^ (7 - i) % 16) := by
  have hl : i < (hex8 v).length := by simpa [hex8] using hi
  have he : (hex8 v)[i] = hx (v / 16 ^ (7 - i) % 16) := by simp [hex8]
  rw [bt_ofL _ _ hl (by rw [he]; exact hx_lt (by omega)), he]
/-- What stands in front of no comment and is no blank. -/
def First (s : ByteArray) (a : Nat) : Prop := blank (bt s a) = false ∧ slash s a = false
theorem First.of {s : ByteArray} {a : Nat} (h1 : bt s a ≠ 32) (h2 : bt s a ≠ 9) (h3 : bt s a ≠ 10) (h4 : bt s a ≠ 47) : First s a :=
  ⟨decide_eq_false (by omega), decide_eq_false (fun h => h4 h.2.1)⟩
theorem num_tok {s : ByteArray} {a : Nat} {n : Int} (h0 : (num n).e = 0) (h : At s a (num n).t) :
    tokAt s a = ⟨2, nul, n, a + (num n).t.size, 0⟩ ∧ First s a ∧ 1 ≤ (num n).t.size ∧ (num n).t.size ≤ 10 := by
  unfold num at h0 h ⊢
  by_cases h1 : n < -2147483648 ∨ 2147483647 < n
  · rw [if_pos h1] at h0; simp at h0
  rw [if_neg h1] at h0 h ⊢
  by_cases hp : 0 ≤ n
  · rw [if_pos hp] at h0 h ⊢
    obtain ⟨m, rfl⟩ : ∃ m : Nat, n = m := ⟨n.toNat, by omega⟩
    rw [Int.toNat_natCast] at h ⊢
    simp only at h ⊢
    have hpos := dec_pos m
    have hsh := dec_short 10 m (by decide) (by omega)
    have hb : ∀ i, i < (dec m).size → digit (bt s (a + i)) = true := fun i hi => by
      rw [h.at_ i hi]
      have := dec_bt m i hi
      exact digit_yes this.1 this.2
    have hr := run_span (p := digit) (s := s) (dec m).size a h.lt hb (h.out rfl)
    have hv := dec_val s a m h.at_
    have h0 := dec_bt m 0 (by omega)
    rw [← h.at_ 0 (by omega), Nat.add_zero] at h0
    refine ⟨?_, First.of (by omega) (by omega) (by omega) (by omega), hpos, hsh⟩
    unfold tokAt
    rw [if_neg (by rw [small_no (by omega)]; decide), if_pos (digit_yes h0.1 h0.2)]
    unfold numT
    rw [hr, Nat.add_sub_cancel_left, hv, if_neg (by omega)]
  · rw [if_neg hp] at h0 h ⊢
    simp only at h ⊢
    obtain ⟨v, hv⟩ : ∃ v : Nat, v = (n + 4294967296).toNat := ⟨_, rfl⟩
    rw [← hv] at h ⊢
    have hsz : ((⟨#[35]⟩ : ByteArray) ++ ofL (hex8 v)).size = 9 := by rw [ByteArray.size_append, ofL_size]; rfl
    have hb0 : bt s a = 35 := by
      have := h.at_ 0 (by omega)
      rw [Nat.add_zero] at this
      rw [this]
      rfl
    have hb : ∀ i, i < 8 → bt s (a + 1 + i) = hx (v / 16 ^ (7 - i) % 16) := fun i hi => by
      have := h.at_ (1 + i) (by omega)
      rw [show a + (1 + i) = a + 1 + i by omega] at this
      rw [this, ← hex_bt v i hi]
      unfold bt
      congr 1
      simp only [ByteArray.data_append, Array.getD_eq_getD_getElem?]
      rw [Array.getElem?_append_right (by simp)]
      simp
    have hlt := h.lt
    have hout := h.out (p := hexc) rfl
    rw [hsz] at hlt hout ⊢
    have hr : run hexc s (a + 1) = a + 9 := by
      have := run_span (p := hexc) (s := s) 8 (a + 1) (by omega) (fun i hi => by rw [hb i hi]; exact hx_hex (by omega)) (by rw [show a + 1 + 8 = a + 9 by omega]; exact hout)
      rw [this]
    have hval : val 16 s (a + 1) 8 = v := by
      have e : ∀ i, i < 8 → dig (bt s (a + 1 + i)) = v / 16 ^ (7 - i) % 16 := fun i hi => by rw [hb i hi, hx_dig (by omega)]
      have e0 := e 0 (by omega)
      have e1 := e 1 (by omega)
      have e2 := e 2 (by omega)
      have e3 := e 3 (by omega)
      have e4 := e 4 (by omega)
      have e5 := e 5 (by omega)
      have e6 := e 6 (by omega)
      have e7 := e 7 (by omega)
      simp only [val, e0, e1, e2, e3, e4, e5, e6, e7]
      omega
    refine ⟨?_, First.of (by omega) (by omega) (by omega) (by omega), by omega, by omega⟩
    unfold tokAt
    rw [hb0, if_neg (by decide), if_neg (by decide), if_pos rfl]
    unfold hexT
    rw [hr, if_neg (by omega), show a + 9 - (a + 1) = 8 by omega, hval, if_neg (by omega)]
    unfold sg
    rw [if_pos (by omega)]
    congr 1
    omega
/-- The list of a text's bytes from a place on. -/
def tl (t : ByteArray) (k : Nat) : List Nat := (List.range (t.size - k)).map fun i => bt t (k + i)
theorem tl_end (t : ByteArray) : tl t t.size = [] := by unfold tl; rw [Nat.sub_self]; rfl
theorem tl_step (t : ByteArray) (k : Nat) (h : k < t.size) : tl t k = bt t k :: tl t (k + 1) := by
  unfold tl
  rw [show t.size - k = (t.size - (k + 1)) + 1 by omega, List.range_succ_eq_map, List.map_cons, List.map_map]
  congr 1
  apply List.map_congr_left
  intro i _
  show bt t (k + (i + 1)) = _
  congr 1
  omega
theorem tl_all (t : ByteArray) : ofL (tl t 0) = t := by
  refine bt_ext (by rw [ofL_size]; simp [tl]) (fun i hi => ?_)
  rw [ofL_size] at hi
  have e : (tl t 0)[i] = bt t i := by simp [tl]
  rw [bt_ofL _ _ hi (by rw [e]; exact bt_lt _ _), e]
theorem qk_pre (t : ByteArray) (k : Nat) : ∀ m, k ≤ m → qk t k <+: qk t m := by
  intro m
  induction m with
  | zero => intro h; obtain rfl : k = 0 := (by omega); exact List.prefix_rfl
  | succ m ih =>
    intro h
    by_cases e : k = m + 1
    · rw [e]; exact List.prefix_rfl
    · rw [qk]
      exact (ih (by omega)).trans (List.prefix_append _ _)
theorem eo_esc {c : Nat} (h : eOk c = true) : esc (eo c) = c ∧ escOk (eo c) = true ∧ eo c < 256 := by
  have := of_decide_eq_true h
  rcases this with rfl | rfl | rfl | rfl <;> exact ⟨rfl, rfl, by decide⟩
theorem qk_at {t : ByteArray} {k : Nat} (hk : k < t.size) {j : Nat} (hj : j < (eq1 (bt t k)).length) : ∃ h : (qk t k).length + j < (qk t t.size ++ [34]).length, (qk t t.size ++ [34])[(qk t k).length + j] = (eq1 (bt t k))[j] := by
  have hp := (qk_pre t (k + 1) t.size (by omega)).trans (List.prefix_append _ [34])
  obtain ⟨r, hr⟩ := hp
  have hl : (qk t k).length + j < (qk t (k + 1)).length := by rw [qk, List.length_append]; omega
  refine ⟨by rw [← hr, List.length_append]; omega, ?_⟩
  simp only [← hr]
  rw [List.getElem_append_left hl]
  simp only [qk]
  rw [List.getElem_append_right (by omega)]
  congr 1
  omega
theorem str_go {s t : ByteArray} {a : Nat} (hall : ∀ i, i < t.size → okq (bt t i) = true) (h : At s a (ofL (qk t t.size ++ [34]))) :
    ∀ n k, n = t.size - k → k ≤ t.size → strO s (a + (qk t k).length) = some (tl t k, a + (qk t t.size).length) := by
  have hsz : (ofL (qk t t.size ++ [34])).size = (qk t t.size).length + 1 := by rw [ofL_size, List.length_append]; rfl
  have hlt := h.lt
  rw [hsz] at hlt
  have hle : ∀ k, k ≤ t.size → (qk t k).length ≤ (qk t t.size).length := fun k hk => (qk_pre t k t.size hk).length_le
  intro n
  induction n with
  | zero =>
    intro k hn hk
    obtain rfl : k = t.size := by omega
    have hb : bt s (a + (qk t t.size).length) = 34 := by
      rw [h.at_ _ (by omega), bt_ofL _ _ (by simp) (by simp)]
      simp
    rw [strO_end (decide_eq_true ⟨by omega, hb⟩), tl_end]
  | succ n ih =>
    intro k hn hk
    have hkl : k < t.size := by omega
    have hih := ih (k + 1) (by omega) (by omega)
    have hl1 := hle (k + 1) (by omega)
    rw [tl_step t k hkl]
    obtain ⟨c, hc⟩ : ∃ c, c = bt t k := ⟨_, rfl⟩
    have hc256 : c < 256 := by rw [hc]; exact bt_lt _ _
    have hok := hall k hkl
    have hq : qk t (k + 1) = qk t k ++ eq1 (bt t k) := rfl
    have hb : ∀ j (hj : j < (eq1 (bt t k)).length), (eq1 (bt t k))[j] < 256 → bt s (a + (qk t k).length + j) = (eq1 (bt t k))[j] := fun j hj hv => by
      obtain ⟨h1, h2⟩ := qk_at hkl hj
      rw [show a + (qk t k).length + j = a + ((qk t k).length + j) by omega, h.at_ _ (by rw [ofL_size]; exact h1), bt_ofL _ _ h1 (by rw [h2]; exact hv), h2]
    rw [hq, List.length_append] at hl1 hih
    rw [← hc] at hok hb hl1 hih ⊢
    cases he : eOk c with
    | true =>
      obtain ⟨e1, e2, e3⟩ := eo_esc he
      have hq1 : eq1 c = [42, eo c] := by unfold eq1; rw [if_pos he]
      rw [hq1] at hl1 hih
      have hb0 : bt s (a + (qk t k).length) = 42 := by
        have := hb 0 (by rw [hq1]; simp) (by simp [hq1])
        simpa [hq1] using this
      have hb1 : bt s (a + (qk t k).length + 1) = eo c := by
        have := hb 1 (by rw [hq1]; simp) (by simp [hq1]; exact e3)
        simpa [hq1] using this
      have hl2 : ([42, eo c] : List Nat).length = 2 := rfl
      rw [hl2] at hl1 hih
      have hins : ins s (a + (qk t k).length) 34 = ⟨c, a + (qk t k).length + 2, true⟩ := by
        unfold ins
        rw [if_neg (by omega), if_pos hb0, if_neg (by omega), hb1, e1, e2]
      rw [strO_step (decide_eq_false (by omega)) (by rw [hins]), hins]
      simp only
      rw [show a + (qk t k).length + 2 = a + ((qk t k).length + 2) by omega, hih]
      rfl
    | false =>
      have hpl : plain c = true := by
        unfold okq at hok; rw [he] at hok; simpa using hok
      have hne : c ≠ 42 ∧ c ≠ 34 := by
        have := of_decide_eq_false he; omega
      have hq1 : eq1 c = [c] := by unfold eq1; rw [if_neg (by rw [he]; decide)]
      rw [hq1] at hl1 hih
      have hb0 : bt s (a + (qk t k).length) = c := by
        have := hb 0 (by rw [hq1]; simp) (by simp [hq1]; exact hc256)
        simpa [hq1] using this
      have hl2 : ([c] : List Nat).length = 1 := rfl
      rw [hl2] at hl1 hih
      have hins : ins s (a + (qk t k).length) 34 = ⟨c, a + (qk t k).length + 1, true⟩ := by
        unfold ins
        rw [if_neg (by omega), if_neg (by omega), hb0, hpl]
        simp [hne.2]
      rw [strO_step (decide_eq_false (by omega)) (by rw [hins]), hins]
      simp only
      rw [show a + (qk t k).length + 1 = a + ((qk t k).length + 1) by omega, hih]
      rfl
theorem quo_tok {s t : ByteArray} {a : Nat} (h0 : (quo t).e = 0) (h : At s a (quo t).t) :
    tokAt s a = ⟨3, t, 0, a + (quo t).t.size, 0⟩ ∧ First s a ∧ 1 ≤ (quo t).t.size ∧ (quo t).t.size ≤ 202 := by
  have hr : run okq t 0 = t.size := by
    have := run_bd okq t _ 0 rfl (Nat.zero_le _)
    unfold quo at h0
    by_cases hc : run okq t 0 < t.size
    · rw [if_pos hc] at h0; simp at h0
    · omega
  have h100 : ¬ 100 < t.size := by
    intro hc
    unfold quo at h0
    rw [if_neg (by omega), if_pos hc] at h0
    simp at h0
  have hq : (quo t).t = ofL (qk t t.size ++ [34]) := by unfold quo; rw [if_neg (by omega), if_neg h100]
  rw [hq] at h ⊢
  have hall : ∀ i, i < t.size → okq (bt t i) = true := fun i hi => (run_all okq t _ 0 rfl (Nat.zero_le _)).1 hr i (Nat.zero_le _) hi
  have hgo := str_go hall h _ 0 rfl (Nat.zero_le _)
  have hsz : (ofL (qk t t.size ++ [34])).size = (qk t t.size).length + 1 := by rw [ofL_size, List.length_append]; rfl
  have hlen := qk_len t t.size
  have hb0 : bt s a = 34 := by
    have := h.at_ 0 (by omega)
    rw [Nat.add_zero] at this
    obtain ⟨r, hr⟩ := qk_pre t 0 t.size (Nat.zero_le _)
    have e : (qk t t.size ++ [34])[0]'(by simp) = 34 := by
      simp only [← hr]
      rfl
    rw [this, bt_ofL _ _ (by simp) (by rw [e]; decide), e]
  refine ⟨?_, First.of (by omega) (by omega) (by omega) (by omega), by omega, by omega⟩
  unfold tokAt
  rw [hb0, if_neg (by decide), if_neg (by decide), if_neg (by decide), if_neg (by decide), if_pos rfl]
  unfold strT
  have h1 : (qk t 0).length = 1 := rfl
  rw [h1] at hgo
  rw [hgo]
  have hl : (tl t 0).length = t.size := by simp [tl]
  simp only
  rw [if_neg (by omega), tl_all, hsz]
  rfl
/-- A text that is one word. -/
theorem scan_one {s : ByteArray} {k : Nat} {t : ByteArray} {n : Int} (h : tokAt s 0 = ⟨k, t, n, s.size, 0⟩) (hf : First s 0) (h1 : 1 ≤ s.size) (h4 : s.size ≤ 40000) :
    scan s = ⟨[⟨k, t, n, 0⟩, ⟨0, nul, 0, s.size⟩], 0, 0⟩ := by
  unfold scan
  rw [if_neg (by omega), skp_self hf.1 hf.2, scG_step (by omega) (by rw [h]) (by simp), h]
  have he : skp s s.size = s.size := by
    have e := run_end (p := blank) (s := s) (i := s.size) (Nat.le_refl _)
    rw [skp_stop (by rw [e]; exact decide_eq_false (by omega)), e]
  rw [show skp s (Tk.e ⟨k, t, n, s.size, 0⟩) = s.size from he, scG_end (by omega) (by simp)]
  rfl
theorem At.self (s : ByteArray) : At s 0 s := ⟨by omega, fun i _ => by rw [Nat.zero_add], Or.inl (Nat.zero_add _)⟩
theorem scan_num {n : Int} (h0 : (num n).e = 0) : scan (num n).t = ⟨[⟨2, nul, n, 0⟩, ⟨0, nul, 0, (num n).t.size⟩], 0, 0⟩ := by
  obtain ⟨h1, h2, h3, h4⟩ := num_tok h0 (At.self _)
  exact scan_one (by rw [h1, Nat.zero_add]) h2 h3 (by omega)
theorem scan_quo {t : ByteArray} (h0 : (quo t).e = 0) : scan (quo t).t = ⟨[⟨3, t, 0, 0⟩, ⟨0, nul, 0, (quo t).t.size⟩], 0, 0⟩ := by
  obtain ⟨h1, h2, h3, h4⟩ := quo_tok h0 (At.self _)
  exact scan_one (by rw [h1, Nat.zero_add]) h2 h3 (by omega)
end Go.Proofs.YtbaelbafhdjlnaaGreatDoor

/- How a string is written by the document's own function: its contract. -/
namespace Go.Proofs.YtbaelbafhdjlnaaGreatDoor
open Go.RowKit
set_option linter.unusedVariables false

theorem ofL_app (l m : List Nat) : ofL l ++ ofL m = ofL (l ++ m) := by
  unfold ofL strOfNums
  apply ByteArray.ext
  simp [ByteArray.data_append]
theorem ext_one (s : ByteArray) (k : Nat) (hk : k < s.size) : s.extract k (k + 1) = ofL [bt s k] := by
  refine bt_ext (by rw [ext_size _ _ _ (by omega), ofL_size]; simp) (fun i hi => ?_)
  rw [ext_size _ _ _ (by omega)] at hi
  obtain rfl : i = 0 := by omega
  rw [ext_bt _ _ _ _ (by omega) (by omega), bt_ofL _ _ (by simp) (by simp; exact bt_lt _ _)]
  simp
theorem slice_one (s : ByteArray) (k : Nat) (hk : k < s.size) (hs : s.size ≤ 2000000) (W : World) :
    (Instr.slice 9 (.string s) (some (.int .i64 k)) (some (.int .i64 ((k : Int) + 1))) none).run Tryz.prog W = .ok (.string (ofL [bt s k])) W := by
  have h := run_slice_string (P := Tryz.prog) W 9 s .i64 .i64 (k : Int) ((k : Int) + 1) Tryz.underlying9 (by omega) (by omega) (by omega)
  rw [← ext_one s k hk]
  have e1 : (k : Int).toNat = k := Int.toNat_natCast k
  have e2 : ((k : Int) + 1).toNat = k + 1 := by omega
  rw [e1, e2] at h
  exact h
set_option maxHeartbeats 2000000 in
theorem RQuote_any (s : ByteArray) (hs : s.size ≤ 2000000) (w : World) :
    Calls Tryz.prog 77 #[.string s] w fun e w' => e = .returned (.tuple #[.string (quo s).t, .int .i64 (quo s).e]) ∧ Fr w w' := by
  go_enter Tryz.func77, Tryz.ntmps77
  go_wp2_with fail
  go_loop [4, 5] (fun o i => ∃ k : Nat, k ≤ s.size ∧ i = .int .i64 k ∧ Hid (run okq s 0 = run okq s k) ∧ o = .string (ofL (qk s k))) (fun _ i => s.size - (intOf i).toNat)
  case atStart => exact ⟨0, Nat.zero_le _, rfl, Lib.hid rfl, rfl⟩
  case round =>
    obtain ⟨k, hk, rfl, HR, rfl⟩ := hrel
    have HL := qk_len s k
    by_cases hlt : k < s.size
    · have hb := bt_at s k hlt
      have hsl := slice_one s k hlt hs
      have hbl := bt_lt s k
      have HQ1 : Hid (qk s (k + 1) = qk s k ++ eq1 (bt s k)) := Lib.hid rfl
      have HRN : okq (bt s k) = true → Hid (run okq s 0 = run okq s (k + 1)) := fun h => Lib.hid (run_step_ok HR.out hlt h)
      have HRX : okq (bt s k) = false → quo s = ⟨nul, 3⟩ := fun h => by
        have : run okq s 0 = k := by rw [HR.out, run_out h]
        unfold quo; rw [this, if_pos hlt]
      obtain ⟨c, hc⟩ : ∃ c, c = bt s k := ⟨_, rfl⟩
      rw [← hc] at hb hbl hsl HQ1 HRN HRX
      have hsz : (ofL (qk s k)).size = (qk s k).length := ofL_size _
      have add : ∀ m : List Nat, m.length ≤ 10 → ∀ w, (Op.stringOp .add (ofL (qk s k)) (ofL m)).run Tryz.prog w = .ok (.string (ofL (qk s k ++ m))) w := fun m hm w => by
        rw [← ofL_app]; exact run_string_add_sum w _ _ (by rw [hsz, ofL_size]; omega)
      clear hc
      by_cases h10 : c = 10
      · subst h10
        have HRN2 := HRN (by decide)
        have hadd : ∀ w, (Op.stringOp .add (ofL (qk s k)) ⟨#[42, 110]⟩).run Tryz.prog w = .ok (.string (ofL (qk s (k + 1)))) w := fun w => by
          rw [HQ1.out]; exact add [42, 110] (by simp) w
        clear HQ1 HRN HRX add
        go_wp2_with fail
        go_round
        case rel => exact ⟨k + 1, by omega, by go_num, HRN2, rfl⟩
        case measure => simp [intOf]; omega
      have n10 : ((c : Int) == 10) = false := by rw [beq_eq_false_iff_ne]; omega
      by_cases h9 : c = 9
      · subst h9
        have HRN2 := HRN (by decide)
        have hadd : ∀ w, (Op.stringOp .add (ofL (qk s k)) ⟨#[42, 116]⟩).run Tryz.prog w = .ok (.string (ofL (qk s (k + 1)))) w := fun w => by
          rw [HQ1.out]; exact add [42, 116] (by simp) w
        clear HQ1 HRN HRX add
        go_wp2_with fail
        go_round
        case rel => exact ⟨k + 1, by omega, by go_num, HRN2, rfl⟩
        case measure => simp [intOf]; omega
      have n9 : ((c : Int) == 9) = false := by rw [beq_eq_false_iff_ne]; omega
      by_cases h42 : c = 42
      · subst h42
        have HRN2 := HRN (by decide)
        have hadd : ∀ w, (Op.stringOp .add (ofL (qk s k)) (ofL [42, 42])).run Tryz.prog w = .ok (.string (ofL (qk s (k + 1)))) w := fun w => by
          rw [HQ1.out]; exact add [42, 42] (by simp) w
        have hadd0 : ∀ w, (Op.stringOp .add ⟨#[42]⟩ (ofL [42])).run Tryz.prog w = .ok (.string (ofL [42, 42])) w := fun w => run_string_add_sum w _ _ (by rw [ofL_size]; decide)
        clear HQ1 HRN HRX add
        go_wp2_with fail
        go_round
        case rel => exact ⟨k + 1, by omega, by go_num, HRN2, rfl⟩
        case measure => simp [intOf]; omega
      have n42 : ((c : Int) == 42) = false := by rw [beq_eq_false_iff_ne]; omega
      by_cases h34 : c = 34
      · subst h34
        have HRN2 := HRN (by decide)
        have hadd : ∀ w, (Op.stringOp .add (ofL (qk s k)) (ofL [42, 34])).run Tryz.prog w = .ok (.string (ofL (qk s (k + 1)))) w := fun w => by
          rw [HQ1.out]; exact add [42, 34] (by simp) w
        have hadd0 : ∀ w, (Op.stringOp .add ⟨#[42]⟩ (ofL [34])).run Tryz.prog w = .ok (.string (ofL [42, 34])) w := fun w => run_string_add_sum w _ _ (by rw [ofL_size]; decide)
        clear HQ1 HRN HRX add
        go_wp2_with fail
        go_round
        case rel => exact ⟨k + 1, by omega, by go_num, HRN2, rfl⟩
        case measure => simp [intOf]; omega
      have n34 : ((c : Int) == 34) = false := by rw [beq_eq_false_iff_ne]; omega
      have he : eOk c = false := decide_eq_false (by omega)
      have hq1 : eq1 c = [c] := by unfold eq1; rw [if_neg (by rw [he]; decide)]
      by_cases hlo : c < 32
      · have d1 : decide ((c : Int) < 32) = true := decide_eq_true (by omega)
        have HN := Lib.hid (HRX (by unfold okq; rw [he]; exact decide_eq_false (by omega)))
        clear HQ1 HRN HRX add hq1 he
        go_wp2_with fail
        go_ret2
        rw [HN.out]
        exact ⟨rfl, Fr.refl _⟩
      have d1 : decide ((c : Int) < 32) = false := decide_eq_false (by omega)
      by_cases hhi : 126 < c
      · have d2 : decide ((126 : Int) < (c : Int)) = true := decide_eq_true (by omega)
        have HN := Lib.hid (HRX (by unfold okq; rw [he]; exact decide_eq_false (by omega)))
        clear HQ1 HRN HRX add hq1 he
        go_wp2_with fail
        go_ret2
        rw [HN.out]
        exact ⟨rfl, Fr.refl _⟩
      have d2 : decide ((126 : Int) < (c : Int)) = false := decide_eq_false (by omega)
      have HRN2 := HRN (by unfold okq; rw [he]; exact decide_eq_true (by omega))
      have hadd : ∀ w, (Op.stringOp .add (ofL (qk s k)) (ofL [c])).run Tryz.prog w = .ok (.string (ofL (qk s (k + 1)))) w := fun w => by
        rw [HQ1.out, hq1]; exact add [c] (by simp) w
      clear HQ1 HRN HRX add hq1 he hlo hhi
      go_wp2_with fail
      go_round
      case rel => exact ⟨k + 1, by omega, by go_num, HRN2, rfl⟩
      case measure => simp [intOf]; omega
    · obtain rfl : k = s.size := by omega
      have hr0 : run okq s 0 = s.size := by rw [HR.out, run_end (Nat.le_refl _)]
      by_cases h100 : 100 < s.size
      · have HN : Hid (quo s = ⟨nul, 2⟩) := Lib.hid (by unfold quo; rw [hr0, if_neg (by omega), if_pos h100])
        have hd2 : decide ((100 : Int) < (s.size : Int)) = true := decide_eq_true (by omega)
        clear hr0
        go_wp2_with fail
        go_ret2
        rw [HN.out]
        exact ⟨rfl, Fr.refl _⟩
      · have HN : Hid (quo s = ⟨ofL (qk s s.size ++ [34]), 0⟩) := Lib.hid (by unfold quo; rw [hr0, if_neg (by omega), if_neg h100])
        have hd2 : decide ((100 : Int) < (s.size : Int)) = false := decide_eq_false (by omega)
        have hadd : ∀ w, (Op.stringOp .add (ofL (qk s s.size)) ⟨#[34]⟩).run Tryz.prog w = .ok (.string (ofL (qk s s.size ++ [34]))) w := fun w => by
          rw [← ofL_app]; exact run_string_add_sum w _ _ (by rw [ofL_size]; show _ + 1 ≤ _; omega)
        clear hr0
        go_wp2_with fail
        go_ret2
        rw [HN.out]
        exact ⟨rfl, Fr.refl _⟩
end Go.Proofs.YtbaelbafhdjlnaaGreatDoor
