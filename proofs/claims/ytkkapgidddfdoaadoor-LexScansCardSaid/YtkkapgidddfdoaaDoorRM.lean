/- The document's own scanner: numbers. -/
import Derived.Test.YtkkapgidddfdoaaDoorRO
namespace Go.Proofs.YtkkapgidddfdoaaDoor
open Go.RowKit
set_option linter.unusedVariables false

def nib (c : Nat) : Int := if 48 ≤ c ∧ c ≤ 57 then (c : Int) - 48 else if 97 ≤ c ∧ c ≤ 102 then (c : Int) - 87 else if 65 ≤ c ∧ c ≤ 70 then (c : Int) - 55 else -1
set_option maxHeartbeats 1000000 in
theorem Rnibble_any (c : Nat) (hc : c < 256) (w : World) : Calls Tryd.prog 59 #[.int .u8 c] w fun e w' => e = .returned (.int .i64 (nib c)) ∧ w = w' := by
  by_cases h1 : 48 ≤ c ∧ c ≤ 57
  · have HD := Lib.hid (show digit c = true from decide_eq_true h1)
    have HN : Hid (nib c = (c : Int) - 48) := Lib.hid (by unfold nib; rw [if_pos h1])
    obtain ⟨h2, h3⟩ := h1
    go_enter Tryd.func59, Tryd.ntmps59
    go_wp2_with (go_at_call 57; refine (RisDigit_any _ _).mono ?_; rintro e w' ⟨rfl, rfl⟩; rw [HD.out])
    go_ret
    exact ⟨ret_int (by rw [HN.out]), rfl⟩
  have HD := Lib.hid (show digit c = false from decide_eq_false h1)
  by_cases h2 : 97 ≤ c ∧ c ≤ 102
  · have HN : Hid (nib c = (c : Int) - 87) := Lib.hid (by unfold nib; rw [if_neg h1, if_pos h2])
    obtain ⟨h3, h4⟩ := h2
    have d1 : decide ((97 : Int) ≤ (c : Int)) = true := decide_eq_true (by omega)
    have d2 : decide ((c : Int) ≤ 102) = true := decide_eq_true (by omega)
    clear h1
    go_enter Tryd.func59, Tryd.ntmps59
    go_wp2_with (go_at_call 57; refine (RisDigit_any _ _).mono ?_; rintro e w' ⟨rfl, rfl⟩; rw [HD.out])
    go_ret
    exact ⟨ret_int (by rw [HN.out]; omega), rfl⟩
  by_cases h3 : 65 ≤ c ∧ c ≤ 70
  · have HN : Hid (nib c = (c : Int) - 55) := Lib.hid (by unfold nib; rw [if_neg h1, if_neg h2, if_pos h3])
    obtain ⟨h4, h5⟩ := h3
    have d1 : decide ((97 : Int) ≤ (c : Int)) = false := decide_eq_false (by omega)
    have d3 : decide ((65 : Int) ≤ (c : Int)) = true := decide_eq_true (by omega)
    have d4 : decide ((c : Int) ≤ 70) = true := decide_eq_true (by omega)
    clear h1 h2
    go_enter Tryd.func59, Tryd.ntmps59
    go_wp2_with (go_at_call 57; refine (RisDigit_any _ _).mono ?_; rintro e w' ⟨rfl, rfl⟩; rw [HD.out])
    go_ret
    exact ⟨ret_int (by rw [HN.out]; omega), rfl⟩
  have HN : Hid (nib c = -1) := Lib.hid (by unfold nib; rw [if_neg h1, if_neg h2, if_neg h3])
  by_cases h4 : 97 ≤ c
  · have d1 : decide ((97 : Int) ≤ (c : Int)) = true := decide_eq_true (by omega)
    have d2 : decide ((c : Int) ≤ 102) = false := decide_eq_false (by omega)
    have d3 : decide ((65 : Int) ≤ (c : Int)) = true := decide_eq_true (by omega)
    have d4 : decide ((c : Int) ≤ 70) = false := decide_eq_false (by omega)
    clear h1 h2 h3
    go_enter Tryd.func59, Tryd.ntmps59
    go_wp2_with (go_at_call 57; refine (RisDigit_any _ _).mono ?_; rintro e w' ⟨rfl, rfl⟩; rw [HD.out])
    go_ret
    exact ⟨ret_int (by rw [HN.out]), rfl⟩
  · have d1 : decide ((97 : Int) ≤ (c : Int)) = false := decide_eq_false (by omega)
    by_cases h5 : 65 ≤ c
    · have d3 : decide ((65 : Int) ≤ (c : Int)) = true := decide_eq_true (by omega)
      have d4 : decide ((c : Int) ≤ 70) = false := decide_eq_false (by omega)
      clear h1 h2 h3
      go_enter Tryd.func59, Tryd.ntmps59
      go_wp2_with (go_at_call 57; refine (RisDigit_any _ _).mono ?_; rintro e w' ⟨rfl, rfl⟩; rw [HD.out])
      go_ret
      exact ⟨ret_int (by rw [HN.out]), rfl⟩
    · have d3 : decide ((65 : Int) ≤ (c : Int)) = false := decide_eq_false (by omega)
      clear h1 h2 h3
      go_enter Tryd.func59, Tryd.ntmps59
      go_wp2_with (go_at_call 57; refine (RisDigit_any _ _).mono ?_; rintro e w' ⟨rfl, rfl⟩; rw [HD.out])
      go_ret
      exact ⟨ret_int (by rw [HN.out]), rfl⟩
theorem nib_hex {c : Nat} (h : hexc c = true) : nib c = (dig c : Nat) ∧ dig c < 16 := by
  unfold hexc at h
  simp only [Bool.or_eq_true, decide_eq_true_eq] at h
  have h' : (48 ≤ c ∧ c ≤ 57) ∨ (97 ≤ c ∧ c ≤ 102) ∨ (65 ≤ c ∧ c ≤ 70) := by
    rcases h with (h | h) | h
    · exact .inl (of_decide_eq_true h)
    · exact .inr (.inl h)
    · exact .inr (.inr h)
  unfold nib dig
  repeat' split
  all_goals omega
theorem nib_nohex {c : Nat} (h : hexc c = false) : nib c = -1 := by
  unfold hexc at h
  simp only [Bool.or_eq_false_iff, decide_eq_false_iff_not] at h
  have h1 := of_decide_eq_false h.1.1
  unfold nib
  rw [if_neg h1, if_neg h.1.2, if_neg h.2]
theorem nib_digit {c : Nat} (h : digit c = true) : nib c = (dig c : Nat) ∧ dig c < 10 := by
  have h1 := of_decide_eq_true h
  unfold nib dig
  rw [if_pos h1, if_pos h1.2]
  omega
theorem nib_nodigit {c : Nat} (h : digit c = false) : nib c = -1 ∨ 10 ≤ nib c ∧ nib c ≤ 15 := by
  have h1 := of_decide_eq_false h
  unfold nib
  rw [if_neg h1]
  repeat' split
  all_goals omega
/-- What has been gathered, and the value of the digits so far. -/
def Gn (M b x v : Nat) : Prop := (x = v ∨ (M < x ∧ M < v)) ∧ x ≤ (M + 1) * b
theorem Gn.small {M b x v : Nat} (h : Gn M b x v) (hx : x ≤ M) : x = v := by
  rcases h.1 with h | h
  · exact h
  · omega
theorem Gn.big {M b x v : Nat} (h : Gn M b x v) (hx : M < x) : M < v := by
  rcases h.1 with h | h
  · omega
  · exact h.2
theorem Gn.step {M b x v d : Nat} (h : Gn M b x v) (hx : x ≤ M) (hd : d < b) : Gn M b (x * b + d) (v * b + d) := by
  have e := h.small hx
  subst e
  refine ⟨.inl rfl, ?_⟩
  have : x * b ≤ M * b := Nat.mul_le_mul_right _ hx
  rw [Nat.add_mul, Nat.one_mul]
  omega
theorem Gn.stay {M b x v d : Nat} (h : Gn M b x v) (hx : M < x) (hb : 1 ≤ b) : Gn M b x (v * b + d) := by
  refine ⟨.inr ⟨hx, ?_⟩, h.2⟩
  have h1 := h.big hx
  have : v * 1 ≤ v * b := Nat.mul_le_mul_left _ hb
  omega
set_option maxRecDepth 100000 in
set_option maxHeartbeats 4000000 in
theorem Rnumber10_any (s : ByteArray) (hs : s.size ≤ 1000000) (a f : Nat) (ha : a < s.size) (hf : f ≤ s.size) (T : Tk) (hT : T = if 2147483647 < val 10 s f (run digit s f - f) then bad 22 else ⟨2, nul, ((val 10 s f (run digit s f - f)) : Nat), run digit s f, 0⟩) (w : World) :
    Calls Tryd.prog 58 #[.string s, .int .i64 a, .int .i64 f, .int .i64 10, .int .i64 2147483647] w fun e w' => e = .returned (rtok T a) ∧ Fr w w' := by
  obtain ⟨w0, hw0⟩ : ∃ w0, w0 = w.alloc (.cells #[.int .i64 0, .string ⟨#[]⟩, .int .i64 0, .int .i64 0] 38) := ⟨_, rfl⟩
  have hf0 : Fr w w0 := by rw [hw0]; exact (Fr.refl w).alloc _
  have HT0 := Lib.hid (show Tb w0 w.heap.size (.int .i64 0) (.string ⟨#[]⟩) (.int .i64 0) (.int .i64 0) by rw [hw0]; exact Tb.new w (.int .i64 0) (.string ⟨#[]⟩) (.int .i64 0) (.int .i64 0))
  have HW0 := Lib.hid hw0
  have HT := Lib.hid hT
  clear hw0 hT
  go_enter Tryd.func58, Tryd.ntmps58
  go_wp2_with fail
  rw [← HW0.out]
  go_loop [13, 14] (fun n i => ∃ q x : Nat, f ≤ q ∧ q ≤ s.size ∧ i = .int .i64 q ∧ n = .int .i64 x ∧ Hid (run digit s f = run digit s q) ∧ Hid (Gn 2147483647 10 x (val 10 s f (q - f)))) (fun _ i => s.size - (intOf i).toNat)
  case atStart => exact ⟨f, 0, Nat.le_refl _, hf, rfl, rfl, Lib.hid rfl, Lib.hid ⟨.inl (by rw [Nat.sub_self]; rfl), by decide⟩⟩
  case round =>
    obtain ⟨q, x, hfq, hq, rfl, rfl, HR, HG⟩ := hrel
    have hxb : x ≤ (2147483647 + 1) * 10 := HG.out.2
    by_cases hgo : q < s.size ∧ digit (bt s q) = true
    · obtain ⟨hlt, hp⟩ := hgo
      have hbt := bt_at s q hlt
      have hbl := bt_lt s q
      have HRN := Lib.hid (show run digit s f = run digit s (q + 1) by rw [HR.out]; exact run_inside hlt hp)
      have HV : Hid (val 10 s f (q + 1 - f) = val 10 s f (q - f) * 10 + dig (bt s q)) := Lib.hid (by rw [show q + 1 - f = (q - f) + 1 by omega, val, show f + (q - f) = q by omega])
      obtain ⟨hn1, hn2⟩ := nib_digit hp
      have hnb := Rnibble_any (bt s q) hbl
      obtain ⟨c, hc⟩ : ∃ c, c = bt s q := ⟨_, rfl⟩
      rw [← hc] at hbt hn1 hn2 hnb HV
      obtain ⟨d, hd⟩ : ∃ d, d = dig c := ⟨_, rfl⟩
      rw [← hd] at hn1 hn2 HV
      rw [hn1] at hnb
      have d1 : decide ((d : Int) < 0) = false := decide_eq_false (by omega)
      have d2 : decide ((10 : Int) ≤ (d : Int)) = false := decide_eq_false (by omega)
      clear hp hn1 hd hc hbl
      by_cases hx : x ≤ 2147483647
      · have d3 : decide ((x : Int) ≤ 2147483647) = true := decide_eq_true (by omega)
        have HGN : Hid (Gn 2147483647 10 (x * 10 + d) (val 10 s f (q + 1 - f))) := Lib.hid (by rw [HV.out]; exact HG.out.step hx hn2)
        clear HV HG
        go_wp2_with (go_at_call 59; refine (hnb _).mono ?_; rintro e w' ⟨rfl, rfl⟩)
        go_round
        case rel => exact ⟨q + 1, x * 10 + d, by omega, by omega, by go_num, by first | rfl | go_num, HRN, HGN⟩
        case measure => simp [intOf]; omega
      · have d3 : decide ((x : Int) ≤ 2147483647) = false := decide_eq_false (by omega)
        have HGN : Hid (Gn 2147483647 10 x (val 10 s f (q + 1 - f))) := Lib.hid (by rw [HV.out]; exact HG.out.stay (by omega) (by decide))
        clear HV HG
        go_wp2_with (go_at_call 59; refine (hnb _).mono ?_; rintro e w' ⟨rfl, rfl⟩)
        go_round
        case rel => exact ⟨q + 1, x, by omega, by omega, by go_num, rfl, HRN, HGN⟩
        case measure => simp [intOf]; omega
    · have hrun : run digit s f = q := by
        rw [HR.out]
        by_cases h1 : q < s.size
        · exact run_out (by cases h : digit (bt s q) with | false => rfl | true => exact absurd ⟨h1, h⟩ hgo)
        · exact run_end (by omega)
      rw [hrun] at HT
      obtain ⟨v, hv⟩ : ∃ v, v = val 10 s f (q - f) := ⟨_, rfl⟩
      rw [← hv] at HT HG
      clear HR hrun hv
      obtain ⟨t0, t1, t2, t3⟩ := HT0.out.cells
      have z0 := HT0.out.free 0
      have z1 := HT0.out.free 1
      have z2 := HT0.out.free 2
      have z3 := HT0.out.free 3
      by_cases hlt : q < s.size
      · have hbt := bt_at s q hlt
        have hbl := bt_lt s q
        have hp : digit (bt s q) = false := by cases h : digit (bt s q) with | false => rfl | true => exact absurd ⟨hlt, h⟩ hgo
        have hnb := Rnibble_any (bt s q) hbl
        have hno := nib_nodigit hp
        obtain ⟨c, hc⟩ : ∃ c, c = bt s q := ⟨_, rfl⟩
        rw [← hc] at hbt hno hnb
        obtain ⟨e, he⟩ : ∃ e, e = nib c := ⟨_, rfl⟩
        rw [← he] at hno hnb
        clear hp hgo hc he hbl
        rcases hno with rfl | ⟨he1, he2⟩
        · skip
          by_cases hx : x ≤ 2147483647
          · have hxv := HG.out.small hx
            have d3 : decide ((2147483647 : Int) < (x : Int)) = false := decide_eq_false (by omega)
            have HC : Hid (T = ⟨2, nul, (x : Int), q, 0⟩) := Lib.hid (by rw [HT.out, if_neg (by omega)]; rw [hxv])
            have d4 : decide ((2147483648 : Int) ≤ (x : Int)) = false := decide_eq_false (by omega)
            clear hxv
            go_wp2_with (go_at_call 59; refine (hnb _).mono ?_; rintro e w' ⟨rfl, rfl⟩)
            exact bodyPost_ret (v := .tuple #[.agg #[.int .i64 2, .string ⟨#[]⟩, .int .i64 ((x : Int)), .int .i64 a], .int .i64 q, .int .i64 0]) (by simp [results, Tryd.results58, go_sem, t0, t1, t2, t3]) rfl ⟨by rw [HC.out]; rfl, tok_fr5 hf0 _ _ _ _⟩
          · have hxv := HG.out.big (by omega)
            have d3 : decide ((2147483647 : Int) < (x : Int)) = true := decide_eq_true (by omega)
            have HC : Hid (T = bad 22) := Lib.hid (by rw [HT.out, if_pos hxv])
            clear hxv
            go_wp2_with (go_at_call 59; refine (hnb _).mono ?_; rintro e w' ⟨rfl, rfl⟩)
            exact bodyPost_ret (v := .tuple #[.agg #[.int .i64 0, .string ⟨#[]⟩, .int .i64 0, .int .i64 0], .int .i64 a, .int .i64 22]) (by simp [results, Tryd.results58, go_sem, t0, t1, t2, t3]) rfl ⟨by rw [HC.out]; rfl, tok_fr5 hf0 _ _ _ _⟩
        · have d1 : decide (e < 0) = false := decide_eq_false (by omega)
          have d2 : decide ((10 : Int) ≤ e) = true := decide_eq_true (by omega)
          by_cases hx : x ≤ 2147483647
          · have hxv := HG.out.small hx
            have d3 : decide ((2147483647 : Int) < (x : Int)) = false := decide_eq_false (by omega)
            have HC : Hid (T = ⟨2, nul, (x : Int), q, 0⟩) := Lib.hid (by rw [HT.out, if_neg (by omega)]; rw [hxv])
            have d4 : decide ((2147483648 : Int) ≤ (x : Int)) = false := decide_eq_false (by omega)
            clear hxv
            go_wp2_with (go_at_call 59; refine (hnb _).mono ?_; rintro e w' ⟨rfl, rfl⟩)
            exact bodyPost_ret (v := .tuple #[.agg #[.int .i64 2, .string ⟨#[]⟩, .int .i64 ((x : Int)), .int .i64 a], .int .i64 q, .int .i64 0]) (by simp [results, Tryd.results58, go_sem, t0, t1, t2, t3]) rfl ⟨by rw [HC.out]; rfl, tok_fr5 hf0 _ _ _ _⟩
          · have hxv := HG.out.big (by omega)
            have d3 : decide ((2147483647 : Int) < (x : Int)) = true := decide_eq_true (by omega)
            have HC : Hid (T = bad 22) := Lib.hid (by rw [HT.out, if_pos hxv])
            clear hxv
            go_wp2_with (go_at_call 59; refine (hnb _).mono ?_; rintro e w' ⟨rfl, rfl⟩)
            exact bodyPost_ret (v := .tuple #[.agg #[.int .i64 0, .string ⟨#[]⟩, .int .i64 0, .int .i64 0], .int .i64 a, .int .i64 22]) (by simp [results, Tryd.results58, go_sem, t0, t1, t2, t3]) rfl ⟨by rw [HC.out]; rfl, tok_fr5 hf0 _ _ _ _⟩
      · obtain rfl : q = s.size := by omega
        clear hgo
        by_cases hx : x ≤ 2147483647
        · have hxv := HG.out.small hx
          have d3 : decide ((2147483647 : Int) < (x : Int)) = false := decide_eq_false (by omega)
          have HC : Hid (T = ⟨2, nul, (x : Int), s.size, 0⟩) := Lib.hid (by rw [HT.out, if_neg (by omega)]; rw [hxv])
          have d4 : decide ((2147483648 : Int) ≤ (x : Int)) = false := decide_eq_false (by omega)
          clear hxv
          go_wp2_with fail
          exact bodyPost_ret (v := .tuple #[.agg #[.int .i64 2, .string ⟨#[]⟩, .int .i64 ((x : Int)), .int .i64 a], .int .i64 s.size, .int .i64 0]) (by simp [results, Tryd.results58, go_sem, t0, t1, t2, t3]) rfl ⟨by rw [HC.out]; rfl, tok_fr5 hf0 _ _ _ _⟩
        · have hxv := HG.out.big (by omega)
          have d3 : decide ((2147483647 : Int) < (x : Int)) = true := decide_eq_true (by omega)
          have HC : Hid (T = bad 22) := Lib.hid (by rw [HT.out, if_pos hxv])
          clear hxv
          go_wp2_with fail
          exact bodyPost_ret (v := .tuple #[.agg #[.int .i64 0, .string ⟨#[]⟩, .int .i64 0, .int .i64 0], .int .i64 a, .int .i64 22]) (by simp [results, Tryd.results58, go_sem, t0, t1, t2, t3]) rfl ⟨by rw [HC.out]; rfl, tok_fr5 hf0 _ _ _ _⟩
set_option maxRecDepth 100000 in
set_option maxHeartbeats 4000000 in
theorem Rnumber16_any (s : ByteArray) (hs : s.size ≤ 1000000) (a f : Nat) (ha : a < s.size) (hf : f ≤ s.size) (T : Tk) (hT : T = if 4294967295 < val 16 s f (run hexc s f - f) then bad 22 else ⟨2, nul, sg (val 16 s f (run hexc s f - f)), run hexc s f, 0⟩) (w : World) :
    Calls Tryd.prog 58 #[.string s, .int .i64 a, .int .i64 f, .int .i64 16, .int .i64 4294967295] w fun e w' => e = .returned (rtok T a) ∧ Fr w w' := by
  obtain ⟨w0, hw0⟩ : ∃ w0, w0 = w.alloc (.cells #[.int .i64 0, .string ⟨#[]⟩, .int .i64 0, .int .i64 0] 38) := ⟨_, rfl⟩
  have hf0 : Fr w w0 := by rw [hw0]; exact (Fr.refl w).alloc _
  have HT0 := Lib.hid (show Tb w0 w.heap.size (.int .i64 0) (.string ⟨#[]⟩) (.int .i64 0) (.int .i64 0) by rw [hw0]; exact Tb.new w (.int .i64 0) (.string ⟨#[]⟩) (.int .i64 0) (.int .i64 0))
  have HW0 := Lib.hid hw0
  have HT := Lib.hid hT
  clear hw0 hT
  go_enter Tryd.func58, Tryd.ntmps58
  go_wp2_with fail
  rw [← HW0.out]
  go_loop [13, 14] (fun n i => ∃ q x : Nat, f ≤ q ∧ q ≤ s.size ∧ i = .int .i64 q ∧ n = .int .i64 x ∧ Hid (run hexc s f = run hexc s q) ∧ Hid (Gn 4294967295 16 x (val 16 s f (q - f)))) (fun _ i => s.size - (intOf i).toNat)
  case atStart => exact ⟨f, 0, Nat.le_refl _, hf, rfl, rfl, Lib.hid rfl, Lib.hid ⟨.inl (by rw [Nat.sub_self]; rfl), by decide⟩⟩
  case round =>
    obtain ⟨q, x, hfq, hq, rfl, rfl, HR, HG⟩ := hrel
    have hxb : x ≤ (4294967295 + 1) * 16 := HG.out.2
    by_cases hgo : q < s.size ∧ hexc (bt s q) = true
    · obtain ⟨hlt, hp⟩ := hgo
      have hbt := bt_at s q hlt
      have hbl := bt_lt s q
      have HRN := Lib.hid (show run hexc s f = run hexc s (q + 1) by rw [HR.out]; exact run_inside hlt hp)
      have HV : Hid (val 16 s f (q + 1 - f) = val 16 s f (q - f) * 16 + dig (bt s q)) := Lib.hid (by rw [show q + 1 - f = (q - f) + 1 by omega, val, show f + (q - f) = q by omega])
      obtain ⟨hn1, hn2⟩ := nib_hex hp
      have hnb := Rnibble_any (bt s q) hbl
      obtain ⟨c, hc⟩ : ∃ c, c = bt s q := ⟨_, rfl⟩
      rw [← hc] at hbt hn1 hn2 hnb HV
      obtain ⟨d, hd⟩ : ∃ d, d = dig c := ⟨_, rfl⟩
      rw [← hd] at hn1 hn2 HV
      rw [hn1] at hnb
      have d1 : decide ((d : Int) < 0) = false := decide_eq_false (by omega)
      have d2 : decide ((16 : Int) ≤ (d : Int)) = false := decide_eq_false (by omega)
      clear hp hn1 hd hc hbl
      by_cases hx : x ≤ 4294967295
      · have d3 : decide ((x : Int) ≤ 4294967295) = true := decide_eq_true (by omega)
        have HGN : Hid (Gn 4294967295 16 (x * 16 + d) (val 16 s f (q + 1 - f))) := Lib.hid (by rw [HV.out]; exact HG.out.step hx hn2)
        clear HV HG
        go_wp2_with (go_at_call 59; refine (hnb _).mono ?_; rintro e w' ⟨rfl, rfl⟩)
        go_round
        case rel => exact ⟨q + 1, x * 16 + d, by omega, by omega, by go_num, by first | rfl | go_num, HRN, HGN⟩
        case measure => simp [intOf]; omega
      · have d3 : decide ((x : Int) ≤ 4294967295) = false := decide_eq_false (by omega)
        have HGN : Hid (Gn 4294967295 16 x (val 16 s f (q + 1 - f))) := Lib.hid (by rw [HV.out]; exact HG.out.stay (by omega) (by decide))
        clear HV HG
        go_wp2_with (go_at_call 59; refine (hnb _).mono ?_; rintro e w' ⟨rfl, rfl⟩)
        go_round
        case rel => exact ⟨q + 1, x, by omega, by omega, by go_num, rfl, HRN, HGN⟩
        case measure => simp [intOf]; omega
    · have hrun : run hexc s f = q := by
        rw [HR.out]
        by_cases h1 : q < s.size
        · exact run_out (by cases h : hexc (bt s q) with | false => rfl | true => exact absurd ⟨h1, h⟩ hgo)
        · exact run_end (by omega)
      rw [hrun] at HT
      obtain ⟨v, hv⟩ : ∃ v, v = val 16 s f (q - f) := ⟨_, rfl⟩
      rw [← hv] at HT HG
      clear HR hrun hv
      obtain ⟨t0, t1, t2, t3⟩ := HT0.out.cells
      have z0 := HT0.out.free 0
      have z1 := HT0.out.free 1
      have z2 := HT0.out.free 2
      have z3 := HT0.out.free 3
      by_cases hlt : q < s.size
      · have hbt := bt_at s q hlt
        have hbl := bt_lt s q
        have hp : hexc (bt s q) = false := by cases h : hexc (bt s q) with | false => rfl | true => exact absurd ⟨hlt, h⟩ hgo
        have hnb := Rnibble_any (bt s q) hbl
        have hno := nib_nohex hp
        obtain ⟨c, hc⟩ : ∃ c, c = bt s q := ⟨_, rfl⟩
        rw [← hc] at hbt hno hnb
        obtain ⟨e, he⟩ : ∃ e, e = nib c := ⟨_, rfl⟩
        rw [← he] at hno hnb
        clear hp hgo hc he hbl
        subst hno
        by_cases hx : x ≤ 4294967295
        · have hxv := HG.out.small hx
          have d3 : decide ((4294967295 : Int) < (x : Int)) = false := decide_eq_false (by omega)
          by_cases h31 : 2147483648 ≤ x
          · have HC : Hid (T = ⟨2, nul, (x : Int) - 4294967296, q, 0⟩) := Lib.hid (by rw [HT.out, if_neg (by omega)]; unfold sg; rw [if_pos (by omega), hxv])
            have d4 : decide ((2147483648 : Int) ≤ (x : Int)) = true := decide_eq_true (by omega)
            clear hxv
            go_wp2_with (go_at_call 59; refine (hnb _).mono ?_; rintro e w' ⟨rfl, rfl⟩)
            exact bodyPost_ret (v := .tuple #[.agg #[.int .i64 2, .string ⟨#[]⟩, .int .i64 ((x : Int) - 4294967296), .int .i64 a], .int .i64 q, .int .i64 0]) (by simp [results, Tryd.results58, go_sem, t0, t1, t2, t3]) rfl ⟨by rw [HC.out]; rfl, tok_fr5 hf0 _ _ _ _⟩
          · have HC : Hid (T = ⟨2, nul, (x : Int), q, 0⟩) := Lib.hid (by rw [HT.out, if_neg (by omega)]; unfold sg; rw [if_neg (by omega), hxv])
            have d4 : decide ((2147483648 : Int) ≤ (x : Int)) = false := decide_eq_false (by omega)
            clear hxv
            go_wp2_with (go_at_call 59; refine (hnb _).mono ?_; rintro e w' ⟨rfl, rfl⟩)
            exact bodyPost_ret (v := .tuple #[.agg #[.int .i64 2, .string ⟨#[]⟩, .int .i64 ((x : Int)), .int .i64 a], .int .i64 q, .int .i64 0]) (by simp [results, Tryd.results58, go_sem, t0, t1, t2, t3]) rfl ⟨by rw [HC.out]; rfl, tok_fr5 hf0 _ _ _ _⟩
        · have hxv := HG.out.big (by omega)
          have d3 : decide ((4294967295 : Int) < (x : Int)) = true := decide_eq_true (by omega)
          have HC : Hid (T = bad 22) := Lib.hid (by rw [HT.out, if_pos hxv])
          clear hxv
          go_wp2_with (go_at_call 59; refine (hnb _).mono ?_; rintro e w' ⟨rfl, rfl⟩)
          exact bodyPost_ret (v := .tuple #[.agg #[.int .i64 0, .string ⟨#[]⟩, .int .i64 0, .int .i64 0], .int .i64 a, .int .i64 22]) (by simp [results, Tryd.results58, go_sem, t0, t1, t2, t3]) rfl ⟨by rw [HC.out]; rfl, tok_fr5 hf0 _ _ _ _⟩
      · obtain rfl : q = s.size := by omega
        clear hgo
        by_cases hx : x ≤ 4294967295
        · have hxv := HG.out.small hx
          have d3 : decide ((4294967295 : Int) < (x : Int)) = false := decide_eq_false (by omega)
          by_cases h31 : 2147483648 ≤ x
          · have HC : Hid (T = ⟨2, nul, (x : Int) - 4294967296, s.size, 0⟩) := Lib.hid (by rw [HT.out, if_neg (by omega)]; unfold sg; rw [if_pos (by omega), hxv])
            have d4 : decide ((2147483648 : Int) ≤ (x : Int)) = true := decide_eq_true (by omega)
            clear hxv
            go_wp2_with fail
            exact bodyPost_ret (v := .tuple #[.agg #[.int .i64 2, .string ⟨#[]⟩, .int .i64 ((x : Int) - 4294967296), .int .i64 a], .int .i64 s.size, .int .i64 0]) (by simp [results, Tryd.results58, go_sem, t0, t1, t2, t3]) rfl ⟨by rw [HC.out]; rfl, tok_fr5 hf0 _ _ _ _⟩
          · have HC : Hid (T = ⟨2, nul, (x : Int), s.size, 0⟩) := Lib.hid (by rw [HT.out, if_neg (by omega)]; unfold sg; rw [if_neg (by omega), hxv])
            have d4 : decide ((2147483648 : Int) ≤ (x : Int)) = false := decide_eq_false (by omega)
            clear hxv
            go_wp2_with fail
            exact bodyPost_ret (v := .tuple #[.agg #[.int .i64 2, .string ⟨#[]⟩, .int .i64 ((x : Int)), .int .i64 a], .int .i64 s.size, .int .i64 0]) (by simp [results, Tryd.results58, go_sem, t0, t1, t2, t3]) rfl ⟨by rw [HC.out]; rfl, tok_fr5 hf0 _ _ _ _⟩
        · have hxv := HG.out.big (by omega)
          have d3 : decide ((4294967295 : Int) < (x : Int)) = true := decide_eq_true (by omega)
          have HC : Hid (T = bad 22) := Lib.hid (by rw [HT.out, if_pos hxv])
          clear hxv
          go_wp2_with fail
          exact bodyPost_ret (v := .tuple #[.agg #[.int .i64 0, .string ⟨#[]⟩, .int .i64 0, .int .i64 0], .int .i64 a, .int .i64 22]) (by simp [results, Tryd.results58, go_sem, t0, t1, t2, t3]) rfl ⟨by rw [HC.out]; rfl, tok_fr5 hf0 _ _ _ _⟩
end Go.Proofs.YtkkapgidddfdoaaDoor
