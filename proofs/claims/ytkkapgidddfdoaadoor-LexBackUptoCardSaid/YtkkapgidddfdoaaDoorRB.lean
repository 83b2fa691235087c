/- The document's own scanner: what is behind blanks and comments, letters. -/
import Derived.Test.YtkkapgidddfdoaaDoorRQ
namespace Go.Proofs.YtkkapgidddfdoaaDoor
open Go.RowKit
set_option linter.unusedVariables false

theorem skp_congr {s : ByteArray} {a b : Nat} (h : run blank s a = run blank s b) : skp s a = skp s b := by
  cases hs : slash s (run blank s a) with
  | true => rw [skp_go hs, skp_go (a := b) (by rw [← h]; exact hs), h]
  | false => rw [skp_stop hs, skp_stop (a := b) (by rw [← h]; exact hs), h]
theorem skp_end {s : ByteArray} {a : Nat} (h : s.size ≤ a) : skp s a = a := by
  have e := run_end (p := blank) (s := s) (i := a) h
  rw [skp_stop (by rw [e]; exact decide_eq_false (by omega)), e]
theorem skp_line {s : ByteArray} {a : Nat} (hb : blank (bt s a) = false) (hs : slash s a = true) : skp s a = skp s (run inl s a) := by
  have e := run_out (p := blank) (s := s) (i := a) hb
  rw [skp_go (by rw [e]; exact hs), e]
set_option maxRecDepth 100000 in
set_option maxHeartbeats 2000000 in
theorem Rbehind_any (s : ByteArray) (hs : s.size ≤ 1000000) (a : Nat) (ha : a ≤ s.size) (w : World) :
    Calls Tryd.prog 30 #[.string s, .int .i64 a] w fun e w' => e = .returned (.int .i64 (skp s a)) ∧ w = w' := by
  go_enter Tryd.func30, Tryd.ntmps30
  go_wp2_with fail
  go_loop [1] (fun i => ∃ q : Nat, q ≤ s.size ∧ i = .int .i64 q ∧ Hid (skp s a = skp s q)) (fun i => s.size - (intOf i).toNat)
  case atStart => exact ⟨a, ha, rfl, Lib.hid rfl⟩
  case round =>
    obtain ⟨q, hq, rfl, HK⟩ := hrel
    by_cases hlt : q < s.size
    · have hb := bt_at s q hlt
      have hbl := bt_lt s q
      have HB : blank (bt s q) = true → Hid (skp s a = skp s (q + 1)) := fun h => Lib.hid (by rw [HK.out]; exact skp_congr (run_inside hlt h))
      have HS : blank (bt s q) = false → slash s q = false → Hid (skp s a = q) := fun h h2 => Lib.hid (by rw [HK.out]; exact skp_self h h2)
      have HG : blank (bt s q) = false → slash s q = true → Hid (skp s a = skp s (run inl s q)) := fun h h2 => Lib.hid (by rw [HK.out]; exact skp_line h h2)
      have HSL : slash s q = decide (q + 2 ≤ s.size ∧ bt s q = 47 ∧ bt s (q + 1) = 47) := rfl
      obtain ⟨c, hc⟩ : ∃ c, c = bt s q := ⟨_, rfl⟩
      rw [← hc] at hb hbl HB HS HG HSL
      by_cases h1 : c = 32 ∨ c = 9 ∨ c = 10
      · have HN := HB (decide_eq_true h1)
        clear HB HS HG HSL hc
        rcases h1 with rfl | rfl | rfl
        all_goals
          go_wp2_with fail
          go_round
          case rel => exact ⟨q + 1, by omega, by go_num, HN⟩
          case measure => simp [intOf]; omega
      have hnb : blank c = false := decide_eq_false h1
      have n1 : ((c : Int) == 32) = false := by rw [beq_eq_false_iff_ne]; omega
      have n2 : ((c : Int) == 9) = false := by rw [beq_eq_false_iff_ne]; omega
      have n3 : ((c : Int) == 10) = false := by rw [beq_eq_false_iff_ne]; omega
      by_cases h2 : c = 47
      · subst h2
        by_cases h3 : q + 1 < s.size
        · have hb2 := bt_at s (q + 1) h3
          obtain ⟨c2, hc2⟩ : ∃ c, c = bt s (q + 1) := ⟨_, rfl⟩
          rw [← hc2] at hb2 HSL
          have d3 : decide ((s.size : Int) ≤ (q : Int) + 1) = false := decide_eq_false (by omega)
          by_cases h4 : c2 = 47
          · subst h4
            have HN := HG hnb (by rw [HSL]; exact decide_eq_true ⟨by omega, rfl, rfl⟩)
            have HLT := Lib.hid (slash_line (s := s) (a := q) (by rw [HSL]; exact decide_eq_true ⟨by omega, rfl, rfl⟩))
            clear HB HS HG HSL hc hc2 h1 hnb n1 n2 n3
            go_wp2_with fail
            go_loop [1] (fun i => ∃ r : Nat, q ≤ r ∧ r ≤ s.size ∧ i = .int .i64 r ∧ Hid (run inl s q = run inl s r)) (fun i => s.size - (intOf i).toNat)
            case atStart => exact ⟨q, Nat.le_refl _, hq, rfl, Lib.hid rfl⟩
            case round =>
              obtain ⟨r, hqr, hr, rfl, HR⟩ := hrel
              by_cases hrl : r < s.size
              · have hb3 := bt_at s r hrl
                have HIN : inl (bt s r) = true → Hid (run inl s q = run inl s (r + 1)) := fun h => Lib.hid (by rw [HR.out]; exact run_inside hrl h)
                have HOUT : inl (bt s r) = false → Hid (run inl s q = r) := fun h => Lib.hid (by rw [HR.out]; exact run_out h)
                obtain ⟨c3, hc3⟩ : ∃ c, c = bt s r := ⟨_, rfl⟩
                rw [← hc3] at hb3 HIN HOUT
                clear hc3
                by_cases h10 : c3 = 10
                · subst h10
                  have HX := HOUT (by decide)
                  clear HIN HOUT
                  go_wp2_with fail
                  go_round
                  case rel => exact ⟨r, hr, rfl, by rw [← HX.out]; exact HN⟩
                  case measure => have := HLT.out; rw [HX.out] at this; simp [intOf]; omega
                · have n5 : ((c3 : Int) == 10) = false := by rw [beq_eq_false_iff_ne]; omega
                  have HX := HIN (decide_eq_true h10)
                  clear HIN HOUT
                  go_wp2_with fail
                  go_round
                  case rel => exact ⟨r + 1, by omega, by omega, by go_num, HX⟩
                  case measure => simp [intOf]; omega
              · obtain rfl : r = s.size := by omega
                have HX : Hid (run inl s q = s.size) := Lib.hid (by rw [HR.out, run_end (Nat.le_refl _)])
                go_wp2_with fail
                go_round
                case rel => exact ⟨s.size, hr, rfl, by rw [← HX.out]; exact HN⟩
                case measure => have := HLT.out; rw [HX.out] at this; simp [intOf]; omega
          · have n4 : ((c2 : Int) == 47) = false := by rw [beq_eq_false_iff_ne]; omega
            have HN := HS hnb (by rw [HSL]; exact decide_eq_false (by omega))
            clear HB HS HG HSL hc hc2 h1 hnb
            go_wp2_with fail
            go_ret
            exact ⟨by rw [HN.out]; rfl, rfl⟩
        · have d3 : decide ((s.size : Int) ≤ (q : Int) + 1) = true := decide_eq_true (by omega)
          have HN := HS hnb (by rw [HSL]; exact decide_eq_false (by omega))
          clear HB HS HG HSL hc h1 hnb
          go_wp2_with fail
          go_ret
          exact ⟨by rw [HN.out]; rfl, rfl⟩
      · have n4 : ((c : Int) == 47) = false := by rw [beq_eq_false_iff_ne]; omega
        have HN := HS hnb (by rw [HSL]; exact decide_eq_false (by omega))
        clear HB HS HG HSL hc h1 hnb
        go_wp2_with fail
        go_ret
        exact ⟨by rw [HN.out]; rfl, rfl⟩
    · obtain rfl : q = s.size := by omega
      have HN : Hid (skp s a = s.size) := Lib.hid (by rw [HK.out, skp_end (Nat.le_refl _)])
      go_wp2_with fail
      go_ret
      exact ⟨by rw [HN.out]; rfl, rfl⟩
end Go.Proofs.YtkkapgidddfdoaaDoor
