/- How a number is written by the document's own function: its contract. -/
import Derived.Test.YtkkapgidddfdoaaDoorRQ
import Derived.Test.YtkkapgidddfdoaaDoorNB
namespace Go.Proofs.YtkkapgidddfdoaaDoor
open Go.RowKit
set_option linter.unusedVariables false

def d16 : ByteArray := ⟨#[48, 49, 50, 51, 52, 53, 54, 55, 56, 57, 97, 98, 99, 100, 101, 102]⟩
theorem d16_at (d : Nat) (h : d < 16) : ((d16[d]'(show d < 16 by omega)).toNat : Nat) = hx d := by
  have : d = 0 ∨ d = 1 ∨ d = 2 ∨ d = 3 ∨ d = 4 ∨ d = 5 ∨ d = 6 ∨ d = 7 ∨ d = 8 ∨ d = 9 ∨ d = 10 ∨ d = 11 ∨ d = 12 ∨ d = 13 ∨ d = 14 ∨ d = 15 := by omega
  rcases this with rfl | rfl | rfl | rfl | rfl | rfl | rfl | rfl | rfl | rfl | rfl | rfl | rfl | rfl | rfl | rfl <;> rfl
def decN (n : Nat) : List Nat := (Lib.decDigits n).map (·.toNat)
theorem dec_ofL (n : Nat) : dec n = ofL (decN n) := by
  have : ∀ l : List UInt8, ((l.map (·.toNat)).map fun (c : Nat) => (c : Int)).map (fun n : Int => UInt8.ofNat n.toNat) = l := fun l => by
    induction l with
    | nil => rfl
    | cons x l ih => simp only [List.map_cons, ih]; simp
  unfold dec decN ofL strOfNums
  rw [this]
theorem decN_lt {n : Nat} (h : n < 10) : decN n = [48 + n] := by
  unfold decN
  rw [Lib.decDigits_one h]
  simp
  omega
theorem decN_ge {n : Nat} (h : ¬ n < 10) : decN n = decN (n / 10) ++ [48 + n % 10] := by
  unfold decN
  rw [Lib.decDigits, dif_neg h, List.map_append]
  simp
  omega
/-- What has been written so far, from the right, and what is left. -/
def Jd (N m : Nat) (l : List Nat) : Prop := (0 < m ∧ decN N = decN m ++ l) ∨ (m = 0 ∧ 0 < l.length ∧ l = decN N) ∨ (m = 0 ∧ l = [] ∧ N = 0)
theorem Jd.start (N : Nat) : Jd N N [] := by
  by_cases h : N = 0
  · exact .inr (.inr ⟨h, rfl, h⟩)
  · exact .inl ⟨by omega, by simp⟩
theorem Jd.step {N m : Nat} {l : List Nat} (h : Jd N m l) (hg : 0 < m ∨ l.length < 1) : Jd N (m / 10) ((48 + m % 10) :: l) := by
  rcases h with ⟨h1, h2⟩ | ⟨h1, h2, h3⟩ | ⟨h1, h2, h3⟩
  · by_cases hm : m < 10
    · refine .inr (.inl ⟨by omega, by simp, ?_⟩)
      rw [h2, decN_lt hm, Nat.mod_eq_of_lt hm]; rfl
    · exact .inl ⟨by omega, by rw [h2, decN_ge hm, List.append_assoc]; rfl⟩
  · omega
  · subst h1 h2 h3
    exact .inr (.inl ⟨rfl, by simp, by rw [decN_lt (by omega)]⟩)
theorem Jd.fin {N m : Nat} {l : List Nat} (h : Jd N m l) (hg : ¬ (0 < m ∨ l.length < 1)) : l = decN N := by
  rcases h with ⟨h1, h2⟩ | ⟨h1, h2, h3⟩ | ⟨h1, h2, h3⟩
  · omega
  · exact h3
  · subst h2; simp at hg
theorem Jd.len {N m : Nat} {l : List Nat} (h : Jd N m l) (hN : N < 10 ^ 19) : l.length ≤ 19 := by
  have hs := dec_short 19 N (by decide) hN
  rw [dec_ofL, ofL_size] at hs
  rcases h with ⟨h1, h2⟩ | ⟨h1, h2, h3⟩ | ⟨h1, h2, h3⟩
  · rw [h2, List.length_append] at hs; omega
  · rw [h3]; exact hs
  · rw [h2]; simp
theorem conv_one (W : World) (d : Nat) (T : TypeId) : (convert 53 9 (.slice (some ⟨W.heap.size, 0, none⟩) 1 1)).run Tryd.prog (W.alloc (.cells #[.int .u8 (d : Nat)] T)) = .ok (.string (ofL [d])) (W.alloc (.cells #[.int .u8 (d : Nat)] T)) := by
  refine run_convert_bytes_arg _ 53 5 Tryd.underlying53 Tryd.underlying5 W.heap.size 0 1 1 [(d : Int)] rfl (fun i hi => ?_) 9 Tryd.underlying9
  obtain rfl : i = 0 := by omega
  simp
theorem ofL_cons (d : Nat) (l : List Nat) : ofL [d] ++ ofL l = ofL (d :: l) := by rw [ofL_app]; rfl
def strLen : Value → Nat
  | .string s => s.size
  | _ => 0
set_option maxHeartbeats 2000000 in
set_option maxRecDepth 100000 in
theorem digits10 (N : Nat) (hN : N < 4294967296) (w : World) :
    Calls Tryd.prog 36 #[.int .i64 N, .int .i64 10, .int .i64 1] w fun e w' => e = .returned (.string (dec N)) ∧ Fr w w' := by
  go_enter Tryd.func36, Tryd.ntmps36
  go_wp2_with fail
  go_loopw [0, 7] (fun n o wr => ∃ (m : Nat) (l : List Nat), m ≤ N ∧ n = .int .i64 m ∧ Jd N m l ∧ o = .string (ofL l) ∧ Fr w wr) (fun n o _ => (intOf n).toNat + (1 - strLen o))
  case atStart => exact ⟨N, [], Nat.le_refl _, rfl, Jd.start N, rfl, Fr.refl _⟩
  case round =>
    obtain ⟨m, l, hm, rfl, hj, rfl, hfr⟩ := hrel
    have hl := hj.len (by omega)
    have hsz := ofL_size l
    by_cases hg : 0 < m ∨ l.length < 1
    · have HJ := Lib.hid (hj.step hg)
      obtain ⟨d, hd⟩ : ∃ d, d = m % 10 := ⟨_, rfl⟩
      have hd16 : d < 16 := by omega
      have hdi := d16_at d hd16
      unfold d16 at hdi
      have hhx : hx d = 48 + d := by unfold hx; rw [if_pos (by omega)]
      rw [← hd, ← hhx] at HJ
      obtain ⟨x, hx⟩ : ∃ x, x = hx d := ⟨_, rfl⟩
      rw [← hx] at HJ hdi
      have hrem : (m : Int).tmod 10 = (d : Int) := by
        rw [Int.tmod_eq_emod_of_nonneg (by omega)]; omega
      obtain ⟨q, hq⟩ : ∃ q, q = m / 10 := ⟨_, rfl⟩
      have hquo : (m : Int).tdiv 10 = (q : Int) := by
        rw [Int.tdiv_eq_ediv_of_nonneg (by omega)]; omega
      rw [← hq] at HJ
      have hcv := conv_one wr x 5
      have hadd : ∀ w, (Op.stringOp .add (ofL [x]) (ofL l)).run Tryd.prog w = .ok (.string (ofL (x :: l))) w := fun w => by
        have h := run_string_add_sum (P := Tryd.prog) w (ofL [x]) (ofL l) (by rw [ofL_size, ofL_size, List.length_singleton]; omega)
        rw [ofL_cons] at h; exact h
      have hqb : q ≤ N := by omega
      by_cases hm0 : 0 < m
      · have HM := Lib.hid (show q < m by omega)
        clear hd hhx hj hg hq hsz hx
        go_wp2_with fail
        exact ⟨⟨q, _, hqb, rfl, HJ.out, rfl, hfr.alloc _⟩, by have := HM.out; simp only [intOf, strLen, ofL_size, List.length_cons]; omega⟩
      · have hd2 : decide (((ofL l).size : Int) < 1) = true := decide_eq_true (by omega)
        have HM := Lib.hid (show q = 0 ∧ m = 0 ∧ l.length = 0 by omega)
        clear hd hhx hj hg hq hsz hx
        go_wp2_with fail
        exact ⟨⟨q, _, hqb, rfl, HJ.out, rfl, hfr.alloc _⟩, by have := HM.out; simp only [intOf, strLen, ofL_size, List.length_cons]; omega⟩
    · obtain rfl : m = 0 := by omega
      have HJ := Lib.hid (hj.fin hg)
      have hl1 : 1 ≤ l.length := by omega
      have hd1 : decide (((ofL l).size : Int) < 1) = false := decide_eq_false (by omega)
      clear hj hg
      go_wp2_with fail
      go_ret
      exact ⟨by rw [dec_ofL, ← HJ.out]; rfl, hfr⟩
def hexl (v : Nat) : Nat → List Nat
  | 0 => []
  | j + 1 => hx (v / 16 ^ j % 16) :: hexl v j
theorem hexl_len (v : Nat) : ∀ j, (hexl v j).length = j
  | 0 => rfl
  | j + 1 => by rw [hexl, List.length_cons, hexl_len v j]
theorem hexl_8 (v : Nat) : hexl v 8 = hex8 v := rfl
set_option maxRecDepth 100000 in
theorem digits16 (v : Nat) (h1 : 2147483648 ≤ v) (h2 : v < 4294967296) (w : World) :
    Calls Tryd.prog 36 #[.int .i64 v, .int .i64 16, .int .i64 8] w fun e w' => e = .returned (.string (ofL (hex8 v))) ∧ Fr w w' := by
  go_enter Tryd.func36, Tryd.ntmps36
  go_wp2_with fail
  go_loopw [0, 7] (fun n o wr => ∃ j : Nat, j ≤ 8 ∧ n = .int .i64 (v / 16 ^ j : Nat) ∧ o = .string (ofL (hexl v j)) ∧ Fr w wr) (fun n o _ => 8 - strLen o)
  case atStart => exact ⟨0, by omega, by rw [Nat.pow_zero, Nat.div_one], rfl, Fr.refl _⟩
  case round =>
    obtain ⟨j, hj, rfl, rfl, hfr⟩ := hrel
    have hsz : (ofL (hexl v j)).size = j := by rw [ofL_size, hexl_len]
    have HL : Hid (hexl v (j + 1) = hx (v / 16 ^ j % 16) :: hexl v j) := Lib.hid rfl
    have HE : j = 8 → ofL (hexl v j) = ofL (hex8 v) := fun h => by rw [h, hexl_8]
    have hlen := hexl_len v j
    have HLN : Hid ((ofL (hexl v (j + 1))).size = j + 1) := Lib.hid (by rw [ofL_size, hexl_len])
    have hpw : 16 ^ j ≤ 16 ^ 8 := Nat.pow_le_pow_right (by decide) hj
    have hp0 : 0 < 16 ^ j := Nat.pow_pos (by decide)
    have hle : v / 16 ^ j ≤ v := Nat.div_le_self _ _
    have hnx : v / 16 ^ (j + 1) = v / 16 ^ j / 16 := by rw [Nat.pow_succ, Nat.div_div_eq_div_mul]
    have hpos : j < 8 → 0 < v / 16 ^ j := fun h => by
      have h7 : 16 ^ j ≤ 16 ^ 7 := Nat.pow_le_pow_right (by decide) (by omega)
      exact Nat.div_pos (by omega) hp0
    have hzero : j = 8 → v / 16 ^ j = 0 := fun h => by subst h; omega
    obtain ⟨m, hm⟩ : ∃ m, m = v / 16 ^ j := ⟨_, rfl⟩
    obtain ⟨t, ht⟩ : ∃ t, t = hexl v j := ⟨_, rfl⟩
    obtain ⟨q, hq⟩ : ∃ q, q = v / 16 ^ (j + 1) := ⟨_, rfl⟩
    rw [← hm] at HL hle hnx hpos hzero ⊢
    rw [← ht] at hsz HL HE hlen ⊢
    rw [← hq] at hnx
    have HQ := Lib.hid hq
    by_cases h8 : j = 8
    · have hm0 := hzero h8
      have hd2 : decide (((ofL t).size : Int) < 8) = false := decide_eq_false (by omega)
      have HR := Lib.hid (HE h8)
      subst hm0
      clear HE hpos hzero hm ht hq hnx hpw hp0 hle hsz hlen hj h8
      go_wp2_with fail
      go_ret
      exact ⟨by rw [HR.out]; rfl, hfr⟩
    · have hm0 := hpos (by omega)
      obtain ⟨d, hd⟩ : ∃ d, d = m % 16 := ⟨_, rfl⟩
      have hd16 : d < 16 := by omega
      have hdi := d16_at d hd16
      unfold d16 at hdi
      rw [← hd] at HL
      obtain ⟨x, hx⟩ : ∃ x, x = hx d := ⟨_, rfl⟩
      rw [← hx] at HL hdi
      have hrem : (m : Int).tmod 16 = (d : Int) := by
        rw [Int.tmod_eq_emod_of_nonneg (by omega)]; omega
      have hquo : (m : Int).tdiv 16 = (q : Int) := by
        rw [Int.tdiv_eq_ediv_of_nonneg (by omega)]; omega
      have hcv := conv_one wr x 5
      have hadd : ∀ w, (Op.stringOp .add (ofL [x]) (ofL t)).run Tryd.prog w = .ok (.string (ofL (x :: t))) w := fun w => by
        have h := run_string_add_sum (P := Tryd.prog) w (ofL [x]) (ofL t) (by rw [ofL_size, ofL_size, List.length_singleton]; omega)
        rw [ofL_cons] at h; exact h
      have hqb : q ≤ v := by omega
      have HJ := Lib.hid (show j < 8 by omega)
      have HZ := Lib.hid hsz
      clear HE hpos hzero hm ht hq hnx hpw hp0 hd hx hsz hlen hj h8
      go_wp2_with fail
      exact ⟨⟨j + 1, by have := HJ.out; omega, by rw [HQ.out], by rw [HL.out], hfr.alloc _⟩, by have := HJ.out; have h5 := HZ.out; have h6 := HLN.out; rw [HL.out] at h6; simp only [strLen]; omega⟩
theorem RNumber_any (n : Int) (h0 : -9223372036854775808 ≤ n) (h1 : n ≤ 9223372036854775807) (w : World) :
    Calls Tryd.prog 20 #[.int .i64 n] w fun e w' => e = .returned (.tuple #[.string (num n).t, .int .i64 (num n).e]) ∧ Fr w w' := by
  by_cases hlo : n < -2147483648
  · have hd : decide (n < -2147483648) = true := decide_eq_true hlo
    rw [show num n = ⟨nul, 1⟩ by unfold num; rw [if_pos (Or.inl hlo)]]
    go_enter Tryd.func20, Tryd.ntmps20
    go_wp2_with fail
    go_ret2
    exact ⟨rfl, Fr.refl _⟩
  have hd : decide (n < -2147483648) = false := decide_eq_false hlo
  by_cases hhi : 2147483647 < n
  · have hd2 : decide (2147483647 < n) = true := decide_eq_true hhi
    rw [show num n = ⟨nul, 1⟩ by unfold num; rw [if_pos (Or.inr hhi)]]
    go_enter Tryd.func20, Tryd.ntmps20
    go_wp2_with fail
    go_ret2
    exact ⟨rfl, Fr.refl _⟩
  have hd2 : decide (2147483647 < n) = false := decide_eq_false hhi
  by_cases hp : 0 ≤ n
  · obtain ⟨m, rfl⟩ : ∃ m : Nat, n = m := ⟨n.toNat, by omega⟩
    have hd3 : decide ((m : Int) < 0) = false := decide_eq_false (by omega)
    have hit := digits10 m (by omega)
    rw [show num (m : Int) = ⟨dec m, 0⟩ by unfold num; rw [if_neg (by omega), if_pos hp, Int.toNat_natCast]]
    clear hlo hhi hp h0 h1
    go_enter Tryd.func20, Tryd.ntmps20
    go_wp2_with (go_at_call 36; refine (hit _).mono ?_; rintro e w' ⟨rfl, hf⟩)
    go_ret2
    exact ⟨rfl, hf⟩
  · have hd3 : decide (n < 0) = true := decide_eq_true (by omega)
    obtain ⟨v, hv⟩ : ∃ v : Nat, v = (n + 4294967296).toNat := ⟨_, rfl⟩
    rw [show num n = ⟨⟨#[35]⟩ ++ ofL (hex8 v), 0⟩ by unfold num; rw [if_neg (by omega), if_neg hp, hv]]
    have hw1 : IntKind.i64.wrap (n + 4294967296) = (v : Int) := by
      have : IntKind.i64.wrap (n + 4294967296) = n + 4294967296 := IntWalk.i64_in _ (by omega)
      rw [this]; omega
    have hfm := digits16 v (by omega) (by omega)
    have hadd : ∀ w, (Op.stringOp .add (⟨#[35]⟩ : ByteArray) (ofL (hex8 v))).run Tryd.prog w = .ok (.string (⟨#[35]⟩ ++ ofL (hex8 v))) w := fun w => run_string_add_sum w _ _ (by rw [ofL_size]; simp [hex8]; decide)
    clear hlo hhi hp h0 h1 hv
    go_enter Tryd.func20, Tryd.ntmps20
    go_wp2_with (go_at_call 36; refine (hfm _).mono ?_; rintro e w' ⟨rfl, hf⟩)
    go_ret2
    exact ⟨rfl, hf⟩
end Go.Proofs.YtkkapgidddfdoaaDoor
