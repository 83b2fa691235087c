/- A part of the proof that the law ParsePrints holds for every input. -/
import Derived.Test.YtbaelbafhdjlnaaGreatDoorM1
import Derived.Test.YtbaelbafhdjlnaaGreatDoorM2
import Derived.Test.YtbaelbafhdjlnaaGreatDoorSH3
import Derived.Lib.LaidTab
import Derived.Lib.AppendIntMem
import Derived.Laws.Concat
namespace Go.Proofs.YtbaelbafhdjlnaaGreatDoor
open Go.RowKit _root_.Go.Proofs.Tryz
set_option linter.unusedVariables false
set_option linter.unusedSimpArgs false
set_option maxRecDepth 100000
set_option maxHeartbeats 2000000
def Nv (w : World) : Prop := Ev w ∧ Lib.TabIs prog w "internal/strconv.uint64pow10" .u64 Lib.pow10Tab ∧ w.cell? ⟨5,15,none⟩ = some (.int .u8 4)
theorem Nv.fr {w w' : World} (h : Nv w) (k : Fr w w') : Nv w' := ⟨h.1.fr k,Lib.tabBelow_of_tabIs h.2.1 w' k,k.cell h.2.2⟩
theorem fr_grow (w : World) (k : Nat) (os : Array Obj) : Fr w (Sort.grow (w.drewN k) os) := by
 refine ⟨rfl,rfl,rfl,by simp [Sort.grow],fun j hj => ?_⟩
 show (w.heap ++ os)[j]? = _
 rw [Array.getElem?_append_left hj]
def hx (d : Nat) : Nat := if d < 10 then 48 + d else 87 + d
def hex8 (v : Nat) : List Nat := (List.range 8).map fun j => hx (v / 16 ^ (7 - j) % 16)
def Ar (w : World) (B v k : Nat) : Prop := ∃ arr : Array Value,w.heap[B]? = some (.cells arr 216 (0,0)) ∧ arr.size = 65 ∧ ∀ j,j < k → arr[64 - j]? = some (.int .u8 (hx (v / 16 ^ j % 16) : Nat))
theorem Ar.fr {w w' : World} {B v k : Nat} (h : Ar w B v k) (f : Fr w w') : Ar w' B v k := by
 obtain ⟨arr,h1,h2⟩ := h
 exact ⟨arr,(f.block B (Array.getElem?_eq_some_iff.1 h1).1).trans h1,h2⟩
theorem Ar.put {w : World} {B v k : Nat} (h : Ar w B v k) (hk : k < 65) : Ar (w.setCell ⟨B,64 - k,none⟩ (.int .u8 (hx (v / 16 ^ k % 16) : Nat))) B v (k + 1) := by
 obtain ⟨arr,h1,h2,h3⟩ := h
 refine ⟨arr.setIfInBounds (64 - k) (.int .u8 (hx (v / 16 ^ k % 16) : Nat)),?_,by simp [h2],fun j hj => ?_⟩
 ·simp only [World.setCell,Array.getElem?_modify,if_true,h1,Option.map_some]
  rfl
 ·by_cases e : j = k
  ·subst e
   rw [Array.getElem?_setIfInBounds_self_of_lt (by omega)]
  ·rw [Array.getElem?_setIfInBounds_ne (by omega),h3 j (by omega)]
theorem Ar.at_ {w : World} {B v k : Nat} (h : Ar w B v k) (i : Nat) (hi : i < 65) : (∃ y,w.cell? ⟨B,i,none⟩ = some y) ∧ w.frozen? ⟨B,i,none⟩ = false := by
 obtain ⟨arr,h1,h2,_⟩ := h
 refine ⟨⟨arr[i]'(by omega),?_⟩,by simp [World.frozen?,h1]⟩
 simp [World.cell?,h1,h2,hi]
theorem Ar.got {w : World} {B v k : Nat} (h : Ar w B v k) (j : Nat) (hj : j < k) (hk : k ≤ 65) : w.cell? ⟨B,64 - j,none⟩ = some (.int .u8 (hx (v / 16 ^ j % 16) : Nat)) := by
 obtain ⟨arr,h1,h2,h3⟩ := h
 simp only [World.cell?,h1]
 exact h3 j hj
def d36 : ByteArray := ⟨#[48,49,50,51,52,53,54,55,56,57,97,98,99,100,101,102,103,104,105,106,107,108,109,110,111,112,113,114,115,116,117,118,119,120,121,122]⟩
theorem d36_at (d : Nat) (h : d < 16) : ((d36[d]'(show d < 36 by omega)).toNat : Nat) = hx d := by
 have : d = 0 ∨ d = 1 ∨ d = 2 ∨ d = 3 ∨ d = 4 ∨ d = 5 ∨ d = 6 ∨ d = 7 ∨ d = 8 ∨ d = 9 ∨ d = 10 ∨ d = 11 ∨ d = 12 ∨ d = 13 ∨ d = 14 ∨ d = 15 := by omega
 rcases this with rfl | rfl | rfl | rfl | rfl | rfl | rfl | rfl | rfl | rfl | rfl | rfl | rfl | rfl | rfl | rfl <;> rfl
theorem bits_u64_15 (x : Nat) (h : x < 18446744073709551616) : bits .and .u64 (x : Int) 15 = ((x % 16 : Nat) : Int) := by
 have e1 : (BitVec.ofInt 64 15).toNat = 2 ^ 4 - 1 := rfl
 have key : (BitVec.ofInt 64 (x : Int) &&& BitVec.ofInt 64 15).toNat = x % 16 := by
  rw [BitVec.toNat_and,e1,Nat.and_two_pow_sub_one_eq_mod,BitVec.toNat_ofInt]
  have : ((x : Int) % ((2 ^ 64 : Nat) : Int)).toNat = x := by
   rw [Int.emod_eq_of_lt (by omega) (by omega)]; rfl
  rw [this]
 show IntKind.u64.wrap ((BitVec.ofInt 64 (x : Int) &&& BitVec.ofInt 64 15).toNat : Nat) = _
 rw [key,IntKind.wrap_u64]
 omega
theorem conv8 {w : World} {B v : Nat} (h : Ar w B v 8) : (convert 54 9 (.slice (some ⟨B,57,none⟩) 8 8)).run prog w = .ok (.string (ofL (hex8 v))) w := by
 refine run_convert_bytes_arg w 54 5 underlying54 underlying5 B 57 8 8 ((hex8 v).map fun (c : Nat) => (c : Int)) (by simp [hex8]) (fun i hi => ?_) 9 underlying9
 have e : 57 + i = 64 - (7 - i) := by omega
 rw [e,h.got (7 - i) (by omega) (by omega)]
 simp [hex8,List.getD,hi]
theorem tz64 (w : World) (hdb : w.cell? ⟨5,15,none⟩ = some (.int .u8 4)) : Calls prog 297 #[.int .u64 16] w fun e w' => e = .returned (.int .i64 4) ∧ Fr w w' := by
 have e0 : IntKind.u64.wrap (-16) = 18446744073709551600 := by rw [IntKind.wrap_u64]; decide
 have e1 : bits .and .u64 16 18446744073709551600 = 16 := by decide
 have e2 : IntKind.u64.wrap (16 * 285870213051353865) = 4573923408821661840 := by rw [IntKind.wrap_u64]; decide
 have e3 : (4573923408821661840 / 288230376151711744 : Int) = 15 := by decide
 go_enter func297,ntmps297
 go_wp2
 go_ret
 exact ⟨rfl,Fr.refl _⟩
theorem tz (w : World) (hdb : w.cell? ⟨5,15,none⟩ = some (.int .u8 4)) : Calls prog 295 #[.int .u64 16] w fun e w' => e = .returned (.int .i64 4) ∧ Fr w w' := by
 go_enter func295,ntmps295
 go_wp2_with (go_at_call 297; refine (tz64 _ hdb).mono ?_; rintro e w' ⟨rfl,hf⟩)
 go_ret
 exact ⟨rfl,hf⟩
theorem p2_16 (w : World) : Calls prog 294 #[.int .i64 16] w fun e w' => e = .returned (.bool true) ∧ w = w' := by
 have e1 : bits .and .i64 16 15 = 0 := by decide
 go_enter func294,ntmps294
 go_wp2
 go_ret
 exact ⟨rfl,rfl⟩
theorem fbits_any (v : Nat) (h1 : 2147483648 ≤ v) (h2 : v < 4294967296) (w : World) (hdb : w.cell? ⟨5,15,none⟩ = some (.int .u8 4)) :
 Calls prog 290 #[.slice none 0 0,.int .u64 v,.int .i64 16,.bool false,.bool false] w fun e w' => e = .returned (.tuple #[.slice none 0 0,.string (ofL (hex8 v))]) ∧ Fr w w' := by
 have HDB := h_ hdb
 go_enter func290,ntmps290
 go_wp2_with (first
  | (go_at_call 294; refine (p2_16 _).mono ?_; rintro e w' ⟨rfl,rfl⟩)
  | (go_at_call 295; refine (tz _ (Fr.cell ((Fr.refl w).alloc _) HDB.out)).mono ?_; rintro e w1 ⟨rfl,hf1⟩))
 have HA0 : Ar w1 w.heap.size v 0 := Ar.fr (w := w.alloc (.cells Tryz.zeroCells216 216)) ⟨_,heap_alloc_new w _,by rfl,fun j hj => absurd hj (by omega)⟩ hf1
 have HF0 := h_ (((Fr.refl w).alloc _).trans hf1)
 go_loopw [1,13] (fun u i wr => ∃ q : Nat,57 ≤ q ∧ q ≤ 64 ∧ u = .int .u64 (v / 16 ^ (64 - q) : Nat) ∧ i = .int .i64 ((q : Int) + 1) ∧ Ar wr w.heap.size v (64 - q) ∧ Fr w wr) (fun _ i _ => (intOf i).toNat)
 case atStart => exact ⟨64,by omega,by omega,by rw [Nat.sub_self,Nat.pow_zero,Nat.div_one],rfl,HA0,HF0.out⟩
 case round =>
  obtain ⟨q,hq57,hq64,rfl,rfl,har,hfr⟩ := hrel
  have HA := h_ har
  clear HA0 har
  by_cases hlast : q = 57
  ·subst hlast
   obtain ⟨⟨y,hy⟩,hz⟩ := HA.out.at_ 57 (by omega)
   have HP := h_ (HA.out.put (k := 7) (by omega))
   have hx1 : v / 16 ^ 7 < 16 := by omega
   have hx3 : v / 16 ^ 7 % 16 = v / 16 ^ 7 := by omega
   rw [hx3] at HP
   obtain ⟨x,hx⟩ : ∃ x,x = v / 16 ^ 7 := ⟨_,rfl⟩
   rw [← hx] at hx1 HP
   rw [show v / 16 ^ (64 - 57) = x from hx.symm]
   have hdi := d36_at x hx1
   unfold d36 at hdi
   have hg : decide ((16 : Int) ≤ (x : Int)) = false := decide_eq_false (by omega)
   have hcv := conv8 HP.out
   clear hx3 hx hq57 hq64
   go_wp2
   go_ret2
   exact ⟨rfl,hfr.setCell (Nat.le_refl _) _⟩
  ·obtain ⟨k,hk⟩ : ∃ k,k = 64 - q := ⟨_,rfl⟩
   rw [← hk] at HA ⊢
   have hqk : q = 64 - k := by omega
   have hk6 : k ≤ 6 := by omega
   obtain ⟨⟨y,hy⟩,hz⟩ := HA.out.at_ q (by omega)
   have HP := h_ (HA.out.put (by omega))
   rw [← hqk] at HP
   have hpw : 16 ^ k ≤ 16 ^ 6 := Nat.pow_le_pow_right (by decide) hk6
   have hp0 : 0 < 16 ^ k := Nat.pow_pos (by decide)
   have hx1 : 16 ≤ v / 16 ^ k := by
    rw [Nat.le_div_iff_mul_le hp0]; omega
   have hx2 : v / 16 ^ k ≤ v := Nat.div_le_self _ _
   have HX3 : Hid (v / 16 ^ (k + 1) = v / 16 ^ k / 16) := h_ (by rw [Nat.pow_succ,Nat.div_div_eq_div_mul])
   obtain ⟨x,hx⟩ : ∃ x,x = v / 16 ^ k := ⟨_,rfl⟩
   rw [← hx] at hx1 hx2 HP HX3 ⊢
   have ha := bits_u64_15 x (by omega)
   obtain ⟨d,hd⟩ : ∃ d,d = x % 16 := ⟨_,rfl⟩
   have hd16 : d < 16 := by omega
   rw [← hd] at ha HP
   have hdi := d36_at d hd16
   unfold d36 at hdi
   have HK := h_ (And.intro hk hqk)
   have hg : decide ((16 : Int) ≤ (x : Int)) = true := decide_eq_true (by omega)
   clear hx hd hk hqk hpw hp0
   go_wp2
   have e := HK.out
   refine ⟨⟨q - 1,by omega,by omega,?_,by first | rfl | go_num,?_,hfr.setCell (Nat.le_refl _) _⟩,by simp [intOf]⟩
   ·rw [show 64 - (q - 1) = k + 1 by omega,HX3.out]; congr 1
   ·rw [show 64 - (q - 1) = k + 1 by omega]; exact HP.out
theorem iFormat_any (v : Nat) (h1 : 2147483648 ≤ v) (h2 : v < 4294967296) (w : World) (hdb : w.cell? ⟨5,15,none⟩ = some (.int .u8 4)) :
 Calls prog 283 #[.int .u64 v,.int .i64 16] w fun e w' => e = .returned (.string (ofL (hex8 v))) ∧ Fr w w' := by
 go_enter func283,ntmps283
 go_wp2_with (go_at_call 290; refine (fbits_any v h1 h2 _ hdb).mono ?_; rintro e w' ⟨rfl,hf⟩)
 go_ret
 exact ⟨rfl,hf⟩
theorem Format_any (v : Nat) (h1 : 2147483648 ≤ v) (h2 : v < 4294967296) (w : World) (hdb : w.cell? ⟨5,15,none⟩ = some (.int .u8 4)) :
 Calls prog 275 #[.int .u64 v,.int .i64 16] w fun e w' => e = .returned (.string (ofL (hex8 v))) ∧ Fr w w' := by
 go_enter func275,ntmps275
 go_wp2_with (go_at_call 283; refine (iFormat_any v h1 h2 _ hdb).mono ?_; rintro e w' ⟨rfl,hf⟩)
 go_ret
 exact ⟨rfl,hf⟩
def dec (n : Nat) : ByteArray := ⟨(Lib.decDigits n).toArray⟩
def num (n : Int) : Tx :=
 if n < -2147483648 ∨ 2147483647 < n then ⟨nul,1⟩ else if 0 ≤ n then ⟨dec n.toNat,0⟩ else ⟨⟨#[35]⟩ ++ ofL (hex8 (n + 4294967296).toNat),0⟩
theorem ofL_size (l : List Nat) : (ofL l).size = l.length := by
 unfold ofL strOfNums
 simp [ByteArray.size]
theorem Number_any (n : Int) (h0 : -9223372036854775808 ≤ n) (h1 : n ≤ 9223372036854775807) (w : World) (hn : Nv w) :
 Calls prog 266 #[.int .i64 n] w fun e w' => e = .returned (.tuple #[.string (num n).t,.int .i64 (num n).e]) ∧ Fr w w' := by
 by_cases hlo : n < -2147483648
 ·have hd : decide (n < -2147483648) = true := decide_eq_true hlo
  rw [show num n = ⟨nul,1⟩ by unfold num; rw [if_pos (Or.inl hlo)]]
  go_enter func266,ntmps266
  go_wp2_with fail
  go_ret2
  exact ⟨rfl,Fr.refl _⟩
 have hd : decide (n < -2147483648) = false := decide_eq_false hlo
 by_cases hhi : 2147483647 < n
 ·have hd2 : decide (2147483647 < n) = true := decide_eq_true hhi
  rw [show num n = ⟨nul,1⟩ by unfold num; rw [if_pos (Or.inr hhi)]]
  go_enter func266,ntmps266
  go_wp2_with fail
  go_ret2
  exact ⟨rfl,Fr.refl _⟩
 have hd2 : decide (2147483647 < n) = false := decide_eq_false hhi
 have HN := h_ hn
 by_cases hp : 0 ≤ n
 ·obtain ⟨m,rfl⟩ : ∃ m : Nat,n = m := ⟨n.toNat,by omega⟩
  have hd3 : decide ((0 : Int) ≤ (m : Int)) = true := decide_eq_true hp
  have hit := Tryz.strconv_Itoa (m : Int) h0 h1 w hn.2.1
  rw [Lib.itoa_nonneg] at hit
  rw [show num (m : Int) = ⟨dec m,0⟩ by unfold num; rw [if_neg (by omega),if_pos hp,Int.toNat_natCast]]
  clear hlo hhi hp hn h0 h1
  go_enter func266,ntmps266
  go_wp2_with (go_at_call 274; refine hit.mono ?_; rintro e w' ⟨rfl,k,os,rfl⟩)
  go_ret2
  exact ⟨rfl,fr_grow w k os⟩
 ·have hd3 : decide ((0 : Int) ≤ n) = false := decide_eq_false hp
  obtain ⟨v,hv⟩ : ∃ v : Nat,v = (n + 4294967296).toNat := ⟨_,rfl⟩
  rw [show num n = ⟨⟨#[35]⟩ ++ ofL (hex8 v),0⟩ by unfold num; rw [if_neg (by omega),if_neg hp,hv]]
  have hw1 : IntKind.u32.wrap n = (v : Int) := by rw [IntKind.wrap_u32]; omega
  have hw2 : IntKind.u64.wrap (v : Int) = (v : Int) := by rw [IntKind.wrap_u64]; omega
  have hfm := Format_any v (by omega) (by omega) w hn.2.2
  have hadd : ∀ w,(Op.stringOp .add (⟨#[35]⟩ : BA) (ofL (hex8 v))).run prog w = .ok (.string (⟨#[35]⟩ ++ ofL (hex8 v))) w := fun w => run_string_add_sum w _ _ (by rw [ofL_size]; simp [hex8]; decide)
  clear hlo hhi hp hn h0 h1 hv
  go_enter func266,ntmps266
  go_wp2_with (go_at_call 275; refine hfm.mono ?_; rintro e w' ⟨rfl,hf⟩)
  go_ret2
  exact ⟨rfl,hf⟩
structure At (s : ByteArray) (a : Nat) (w : ByteArray) : Prop where
 lt : a + w.size ≤ s.size
 at_ : ∀ i,i < w.size → bt s (a + i) = bt w i
 en : a + w.size = s.size ∨ bt s (a + w.size) = 32
theorem At.out {s : ByteArray} {a : Nat} {w : ByteArray} (h : At s a w) {p : Nat → Bool} (hp : p 32 = false) : run p s (a + w.size) = a + w.size := by
 rcases h.en with e | e
 ·exact run_end (by omega)
 ·exact run_out (by rw [e]; exact hp)
theorem bt_ofL (l : List Nat) (i : Nat) (hi : i < l.length) (h : l[i] < 256) : bt (ofL l) i = l[i] := by
 unfold bt ofL strOfNums
 simp [hi]
 omega
theorem dec_lt10 {n : Nat} (h : n < 10) : dec n = ofL [48 + n] := by
 unfold dec
 rw [Lib.decDigits_one h]
 rfl
theorem dec_bt : ∀ n i,i < (dec n).size → 48 ≤ bt (dec n) i ∧ bt (dec n) i ≤ 57 := by
 intro n
 induction n using Nat.strongRecOn with
 | ind n ih =>
  intro i hi
  by_cases h : n < 10
  ·rw [dec_lt10 h] at hi ⊢
   rw [ofL_size] at hi
   obtain rfl : i = 0 := by simpa using hi
   rw [bt_ofL _ _ (by simp) (by simp; omega)]
   simp; omega
  ·have hd : Lib.decDigits n = Lib.decDigits (n / 10) ++ [UInt8.ofNat (48 + n % 10)] := by rw [Lib.decDigits,dif_neg h]
   unfold dec bt at *
   have hs : i < (Lib.decDigits n).length := by simpa [ByteArray.size] using hi
   rw [hd] at hs ⊢
   rw [List.length_append,List.length_singleton] at hs
   by_cases hl : i < (Lib.decDigits (n / 10)).length
   ·have := ih (n / 10) (by omega) i (by simpa [ByteArray.size] using hl)
    simp only [Array.getD_eq_getD_getElem?,List.getElem?_toArray,List.getElem?_append_left hl] at this ⊢
    exact this
   ·simp only [Array.getD_eq_getD_getElem?,List.getElem?_toArray]
    rw [List.getElem?_append_right (by omega),show i - (Lib.decDigits (n / 10)).length = 0 by omega]
    simp
    omega
theorem dec_size (n : Nat) : (dec n).size = (Lib.decDigits n).length := by unfold dec; simp [ByteArray.size]
theorem dec_pos (n : Nat) : 1 ≤ (dec n).size := by
 rw [dec_size,Lib.decDigits]
 split <;> simp
theorem dec_short : ∀ k n,1 ≤ k → n < 10 ^ k → (dec n).size ≤ k := by
 intro k
 induction k with
 | zero => intro n h; omega
 | succ k ih =>
  intro n _ hn
  rw [dec_size,Lib.decDigits]
  split
  ·simp
  ·rename_i h
   rw [List.length_append,List.length_singleton,← dec_size]
   by_cases hk : k = 0
   ·subst hk; omega
   ·have := ih (n / 10) (by omega) (by rw [Nat.div_lt_iff_lt_mul (by decide),← Nat.pow_succ]; exact hn)
    omega
theorem hx_lt {d : Nat} (h : d < 16) : hx d < 256 := by unfold hx; split <;> omega
theorem hex_bt (v i : Nat) (hi : i < 8) : bt (ofL (hex8 v)) i = hx (v / 16 ^ (7 - i) % 16) := by
 have hl : i < (hex8 v).length := by simpa [hex8] using hi
 have he : (hex8 v)[i] = hx (v / 16 ^ (7 - i) % 16) := by simp [hex8]
 rw [bt_ofL _ _ hl (by rw [he]; exact hx_lt (by omega)),he]
def First (s : ByteArray) (a : Nat) : Prop := blank (bt s a) = false ∧ slash s a = false
theorem First.of {s : ByteArray} {a : Nat} (h1 : bt s a ≠ 32) (h2 : bt s a ≠ 9) (h3 : bt s a ≠ 10) (h4 : bt s a ≠ 47) : First s a :=
 ⟨decide_eq_false (by omega),decide_eq_false (fun h => h4 h.2.1)⟩
def tl (t : ByteArray) (k : Nat) : List Nat := (List.range (t.size - k)).map fun i => bt t (k + i)
theorem ofL_app (l m : List Nat) : ofL l ++ ofL m = ofL (l ++ m) := by
 unfold ofL strOfNums
 apply ByteArray.ext
 simp [ByteArray.data_append]
theorem ext_one (s : ByteArray) (k : Nat) (hk : k < s.size) : s.extract k (k + 1) = ofL [bt s k] := by
 refine bt_ext (by rw [ext_size _ _ _ (by omega),ofL_size]; simp) (fun i hi => ?_)
 rw [ext_size _ _ _ (by omega)] at hi
 obtain rfl : i = 0 := by omega
 rw [ext_bt _ _ _ _ (by omega) (by omega),bt_ofL _ _ (by simp) (by simp; exact bt_lt _ _)]
 simp
theorem slice_one (s : ByteArray) (k : Nat) (hk : k < s.size) (hs : s.size ≤ 2000000) (W : World) :
 (Instr.slice 9 (.string s) (some (.int .i64 k)) (some (.int .i64 ((k : Int) + 1))) none).run prog W = .ok (.string (ofL [bt s k])) W := by
 have h := run_slice_string (P := prog) W 9 s .i64 .i64 (k : Int) ((k : Int) + 1) underlying9 (by omega) (by omega) (by omega)
 rw [← ext_one s k hk]
 have e1 : (k : Int).toNat = k := Int.toNat_natCast k
 have e2 : ((k : Int) + 1).toNat = k + 1 := by omega
 rw [e1,e2] at h
 exact h
theorem RQuote_any (s : ByteArray) (hs : s.size ≤ 2000000) (w : World) :
 Calls prog 77 #[.string s] w fun e w' => e = .returned (.tuple #[.string (quo s).t,.int .i64 (quo s).e]) ∧ Fr w w' := by
 go_enter func77,ntmps77
 go_wp2_with fail
 go_loop [4,5] (fun o i => ∃ k : Nat,k ≤ s.size ∧ i = .int .i64 k ∧ Hid (run okq s 0 = run okq s k) ∧ o = .string (ofL (qk s k))) (fun _ i => s.size - (intOf i).toNat)
 case atStart => exact ⟨0,Nat.zero_le _,rfl,h_ rfl,rfl⟩
 case round =>
  obtain ⟨k,hk,rfl,HR,rfl⟩ := hrel
  have HL := qk_len s k
  by_cases hlt : k < s.size
  ·have hb := bt_at s k hlt
   have hsl := slice_one s k hlt hs
   have hbl := bt_lt s k
   have HQ1 : Hid (qk s (k + 1) = qk s k ++ eq1 (bt s k)) := h_ rfl
   have HRN : okq (bt s k) = true → Hid (run okq s 0 = run okq s (k + 1)) := fun h => h_ (run_step_ok HR.out hlt h)
   have HRX : okq (bt s k) = false → quo s = ⟨nul,3⟩ := fun h => by
    have : run okq s 0 = k := by rw [HR.out,run_out h]
    unfold quo; rw [this,if_pos hlt]
   obtain ⟨c,hc⟩ : ∃ c,c = bt s k := ⟨_,rfl⟩
   rw [← hc] at hb hbl hsl HQ1 HRN HRX
   have hsz : (ofL (qk s k)).size = (qk s k).length := ofL_size _
   have add : ∀ m : List Nat,m.length ≤ 10 → ∀ w,(Op.stringOp .add (ofL (qk s k)) (ofL m)).run prog w = .ok (.string (ofL (qk s k ++ m))) w := fun m hm w => by
    rw [← ofL_app]; exact run_string_add_sum w _ _ (by rw [hsz,ofL_size]; omega)
   clear hc
   by_cases h10 : c = 10
   ·subst h10
    have HRN2 := HRN (by decide)
    have hadd : ∀ w,(Op.stringOp .add (ofL (qk s k)) ⟨#[42,110]⟩).run prog w = .ok (.string (ofL (qk s (k + 1)))) w := fun w => by
     rw [HQ1.out]; exact add [42,110] (by simp) w
    clear HQ1 HRN HRX add
    go_wp2_with fail
    go_round
    case rel => exact ⟨k + 1,by omega,by go_num,HRN2,rfl⟩
    case measure => simp [intOf]; omega
   have n10 : ((c : Int) == 10) = false := by rw [beq_eq_false_iff_ne]; omega
   by_cases h9 : c = 9
   ·subst h9
    have HRN2 := HRN (by decide)
    have hadd : ∀ w,(Op.stringOp .add (ofL (qk s k)) ⟨#[42,116]⟩).run prog w = .ok (.string (ofL (qk s (k + 1)))) w := fun w => by
     rw [HQ1.out]; exact add [42,116] (by simp) w
    clear HQ1 HRN HRX add
    go_wp2_with fail
    go_round
    case rel => exact ⟨k + 1,by omega,by go_num,HRN2,rfl⟩
    case measure => simp [intOf]; omega
   have n9 : ((c : Int) == 9) = false := by rw [beq_eq_false_iff_ne]; omega
   by_cases h42 : c = 42
   ·subst h42
    have HRN2 := HRN (by decide)
    have hadd : ∀ w,(Op.stringOp .add (ofL (qk s k)) (ofL [42,42])).run prog w = .ok (.string (ofL (qk s (k + 1)))) w := fun w => by
     rw [HQ1.out]; exact add [42,42] (by simp) w
    have hadd0 : ∀ w,(Op.stringOp .add ⟨#[42]⟩ (ofL [42])).run prog w = .ok (.string (ofL [42,42])) w := fun w => run_string_add_sum w _ _ (by rw [ofL_size]; decide)
    clear HQ1 HRN HRX add
    go_wp2_with fail
    go_round
    case rel => exact ⟨k + 1,by omega,by go_num,HRN2,rfl⟩
    case measure => simp [intOf]; omega
   have n42 : ((c : Int) == 42) = false := by rw [beq_eq_false_iff_ne]; omega
   by_cases h34 : c = 34
   ·subst h34
    have HRN2 := HRN (by decide)
    have hadd : ∀ w,(Op.stringOp .add (ofL (qk s k)) (ofL [42,34])).run prog w = .ok (.string (ofL (qk s (k + 1)))) w := fun w => by
     rw [HQ1.out]; exact add [42,34] (by simp) w
    have hadd0 : ∀ w,(Op.stringOp .add ⟨#[42]⟩ (ofL [34])).run prog w = .ok (.string (ofL [42,34])) w := fun w => run_string_add_sum w _ _ (by rw [ofL_size]; decide)
    clear HQ1 HRN HRX add
    go_wp2_with fail
    go_round
    case rel => exact ⟨k + 1,by omega,by go_num,HRN2,rfl⟩
    case measure => simp [intOf]; omega
   have n34 : ((c : Int) == 34) = false := by rw [beq_eq_false_iff_ne]; omega
   have he : eOk c = false := decide_eq_false (by omega)
   have hq1 : eq1 c = [c] := by unfold eq1; rw [if_neg (by rw [he]; decide)]
   by_cases hlo : c < 32
   ·have d1 : decide ((c : Int) < 32) = true := decide_eq_true (by omega)
    have HN := h_ (HRX (by unfold okq; rw [he]; exact decide_eq_false (by omega)))
    clear HQ1 HRN HRX add hq1 he
    go_wp2_with fail
    go_ret2
    rw [HN.out]
    exact ⟨rfl,Fr.refl _⟩
   have d1 : decide ((c : Int) < 32) = false := decide_eq_false (by omega)
   by_cases hhi : 126 < c
   ·have d2 : decide ((126 : Int) < (c : Int)) = true := decide_eq_true (by omega)
    have HN := h_ (HRX (by unfold okq; rw [he]; exact decide_eq_false (by omega)))
    clear HQ1 HRN HRX add hq1 he
    go_wp2_with fail
    go_ret2
    rw [HN.out]
    exact ⟨rfl,Fr.refl _⟩
   have d2 : decide ((126 : Int) < (c : Int)) = false := decide_eq_false (by omega)
   have HRN2 := HRN (by unfold okq; rw [he]; exact decide_eq_true (by omega))
   have hadd : ∀ w,(Op.stringOp .add (ofL (qk s k)) (ofL [c])).run prog w = .ok (.string (ofL (qk s (k + 1)))) w := fun w => by
    rw [HQ1.out,hq1]; exact add [c] (by simp) w
   clear HQ1 HRN HRX add hq1 he hlo hhi
   go_wp2_with fail
   go_round
   case rel => exact ⟨k + 1,by omega,by go_num,HRN2,rfl⟩
   case measure => simp [intOf]; omega
  ·obtain rfl : k = s.size := by omega
   have hr0 : run okq s 0 = s.size := by rw [HR.out,run_end (Nat.le_refl _)]
   by_cases h100 : 100 < s.size
   ·have HN : Hid (quo s = ⟨nul,2⟩) := h_ (by unfold quo; rw [hr0,if_neg (by omega),if_pos h100])
    have hd2 : decide ((100 : Int) < (s.size : Int)) = true := decide_eq_true (by omega)
    clear hr0
    go_wp2_with fail
    go_ret2
    rw [HN.out]
    exact ⟨rfl,Fr.refl _⟩
   ·have HN : Hid (quo s = ⟨ofL (qk s s.size ++ [34]),0⟩) := h_ (by unfold quo; rw [hr0,if_neg (by omega),if_neg h100])
    have hd2 : decide ((100 : Int) < (s.size : Int)) = false := decide_eq_false (by omega)
    have hadd : ∀ w,(Op.stringOp .add (ofL (qk s s.size)) ⟨#[34]⟩).run prog w = .ok (.string (ofL (qk s s.size ++ [34]))) w := fun w => by
     rw [← ofL_app]; exact run_string_add_sum w _ _ (by rw [ofL_size]; show _ + 1 ≤ _; omega)
    clear hr0
    go_wp2_with fail
    go_ret2
    rw [HN.out]
    exact ⟨rfl,Fr.refl _⟩
end Go.Proofs.YtbaelbafhdjlnaaGreatDoor
