/- A string and a number written, then scanned: the law's walk. -/
import Derived.Test.YtkkapgidddfdoaaDoorMO
import Derived.Test.YtkkapgidddfdoaaDoorYA
import Derived.Test.YtkkapgidddfdoaaDoorMP
namespace Go.Proofs.YtkkapgidddfdoaaDoor
open Go.RowKit
set_option linter.unusedVariables false

theorem quo_e (s : ByteArray) : (quo s).e = 0 ∨ (quo s).e = 2 ∨ (quo s).e = 3 := by
  unfold quo
  repeat' split
  all_goals simp
theorem num_e (n : Int) : (num n).e = 0 ∨ (num n).e = 1 := by
  unfold num
  repeat' split
  all_goals simp
theorem two_cells {w : World} {v : Value} {x y : Tp} (h : TkV w v [x, y]) : ∃ b off cap, v = .slice (some ⟨b, off, none⟩) 2 cap ∧ w.cell? ⟨b, off, none⟩ = some (.int .i64 x.k) ∧ w.cell? ⟨b, off + 1, none⟩ = some (.string x.t) ∧ w.cell? ⟨b, off + 2, none⟩ = some (.int .i64 x.n) ∧ w.cell? ⟨b, off + 3, none⟩ = some (.int .i64 x.a) := by
  obtain ⟨a, cap, rfl, _, hr⟩ := h
  obtain ⟨b, off, rfl, hc⟩ := hr (Nat.succ_pos _)
  exact ⟨b, off, cap, rfl, hc 0 _ rfl, hc 1 _ rfl, hc 2 _ rfl, hc 3 _ rfl⟩
set_option maxRecDepth 100000 in
set_option maxHeartbeats 4000000 in
theorem one_walk (s : ByteArray) (n : Int) (hs : s.size ≤ 1048576) (wn : (Lit.int .i64 n).wf = true) (W : World) (hnv : Nv W) :
    Calls Tryd.prog 8 #[.string s, .int .i64 n] W fun e w' => e = .returned (.bool true) ∧ Fr W w' := by
  have hx : -9223372036854775808 ≤ n ∧ n ≤ 9223372036854775807 := by simpa [Lit.wf, IntKind.min, IntKind.max, IntKind.signed, IntKind.bits] using wn
  have HV := Lib.hid hnv
  have HX := Lib.hid hx
  have hqe := quo_e s
  have hq0 := @scan_quo s
  have hne := num_e n
  have hn0 := @scan_num n
  have hQ := Quote_any s (by omega)
  have hN := Number_any n hx.1 hx.2
  obtain ⟨⟨qt, qe⟩, hq⟩ : ∃ q, q = quo s := ⟨_, rfl⟩
  obtain ⟨⟨nt, ne⟩, hn⟩ : ∃ q, q = num n := ⟨_, rfl⟩
  rw [← hq] at hqe hq0 hQ
  rw [← hn] at hne hn0 hN
  simp only at hqe hq0 hQ hne hn0 hN
  have ez : ∀ x : Int, (x == x) = true := fun x => by simp
  have e1 := ez n
  have e2 : (s.toList == s.toList) = true := by simp
  clear hq hn wn hx hnv ez
  rcases hqe with rfl | rfl | rfl
  · have HQ0 := Lib.hid (hq0)
    have HQ := Lib.hid hQ
    have HN := Lib.hid hN
    have HN0 := Lib.hid hn0
    clear hq0 hQ hN hn0
    rcases hne with rfl | rfl
    · go_enter Tryd.func8, Tryd.ntmps8
      go_wp2_with fail
      refine (HQ.out _).mono ?_
      rintro e w1 ⟨rfl, hf1⟩
      have HF := Lib.hid hf1
      clear hf1
      go_wp2_with fail
      have hsc := HQ0.out trivial
      refine (Scan_any qt (by have := scan_shape (s := qt) (by rw [hsc]); omega) _ (HV.out.1.fr HF.out)).mono ?_
      rintro e w2 ⟨v2, rfl, hv2, hf2⟩
      rw [hsc] at hv2 ⊢
      clear hsc
      obtain ⟨b, off, cap, rfl, c0, c1, c2, c3⟩ := two_cells hv2
      clear hv2
      have HF2 := Lib.hid (HF.out.trans hf2)
      clear hf2 HF
      go_wp2_with fail
      clear c0 c1 c2 c3
      have HF := HF2
      refine (HN.out _ (HV.out.fr HF.out)).mono ?_
      rintro e w3 ⟨rfl, hf3⟩
      have HF3 := Lib.hid (HF.out.trans hf3)
      clear hf3
      go_wp2_with fail
      have hsc := HN0.out trivial
      refine (Scan_any nt (by have := scan_shape (s := nt) (by rw [hsc]); omega) _ (HV.out.1.fr HF3.out)).mono ?_
      rintro e w4 ⟨v4, rfl, hv4, hf4⟩
      rw [hsc] at hv4 ⊢
      clear hsc
      obtain ⟨b4, off4, cap4, rfl, c0, c1', c2, c3⟩ := two_cells hv4
      have c1 : w4.cell? ⟨b4, off4 + 1, none⟩ = some (Value.string ⟨#[]⟩) := c1'
      clear c1'
      clear hv4
      have HF4 := Lib.hid (HF3.out.trans hf4)
      clear hf4
      go_wp2_with (go_at_call 16; refine (awake_any _ (HV.out.1.fr HF4.out)).mono ?_; rintro e w9 ⟨rfl, hf9⟩)
      go_ret
      exact ⟨rfl, HF4.out.trans hf9⟩
    · go_enter Tryd.func8, Tryd.ntmps8
      go_wp2_with fail
      refine (HQ.out _).mono ?_
      rintro e w1 ⟨rfl, hf1⟩
      have HF := Lib.hid hf1
      clear hf1
      go_wp2_with fail
      have hsc := HQ0.out trivial
      refine (Scan_any qt (by have := scan_shape (s := qt) (by rw [hsc]); omega) _ (HV.out.1.fr HF.out)).mono ?_
      rintro e w2 ⟨v2, rfl, hv2, hf2⟩
      rw [hsc] at hv2 ⊢
      clear hsc
      obtain ⟨b, off, cap, rfl, c0, c1, c2, c3⟩ := two_cells hv2
      clear hv2
      have HF2 := Lib.hid (HF.out.trans hf2)
      clear hf2 HF
      go_wp2_with fail
      clear c0 c1 c2 c3
      have HF := HF2
      refine (HN.out _ (HV.out.fr HF.out)).mono ?_
      rintro e w3 ⟨rfl, hf3⟩
      have HF3 := Lib.hid (HF.out.trans hf3)
      clear hf3
      go_wp2_with (go_at_call 16; refine (awake_any _ (HV.out.1.fr HF3.out)).mono ?_; rintro e w9 ⟨rfl, hf9⟩)
      go_ret
      exact ⟨rfl, HF3.out.trans hf9⟩
  · have HQ0 := Lib.hid (hq0)
    have HQ := Lib.hid hQ
    have HN := Lib.hid hN
    have HN0 := Lib.hid hn0
    clear hq0 hQ hN hn0
    rcases hne with rfl | rfl
    · go_enter Tryd.func8, Tryd.ntmps8
      go_wp2_with fail
      refine (HQ.out _).mono ?_
      rintro e w1 ⟨rfl, hf1⟩
      have HF := Lib.hid hf1
      clear hf1
      go_wp2_with fail
      refine (HN.out _ (HV.out.fr HF.out)).mono ?_
      rintro e w3 ⟨rfl, hf3⟩
      have HF3 := Lib.hid (HF.out.trans hf3)
      clear hf3
      go_wp2_with fail
      have hsc := HN0.out trivial
      refine (Scan_any nt (by have := scan_shape (s := nt) (by rw [hsc]); omega) _ (HV.out.1.fr HF3.out)).mono ?_
      rintro e w4 ⟨v4, rfl, hv4, hf4⟩
      rw [hsc] at hv4 ⊢
      clear hsc
      obtain ⟨b4, off4, cap4, rfl, c0, c1', c2, c3⟩ := two_cells hv4
      have c1 : w4.cell? ⟨b4, off4 + 1, none⟩ = some (Value.string ⟨#[]⟩) := c1'
      clear c1'
      clear hv4
      have HF4 := Lib.hid (HF3.out.trans hf4)
      clear hf4
      go_wp2_with (go_at_call 16; refine (awake_any _ (HV.out.1.fr HF4.out)).mono ?_; rintro e w9 ⟨rfl, hf9⟩)
      go_ret
      exact ⟨rfl, HF4.out.trans hf9⟩
    · go_enter Tryd.func8, Tryd.ntmps8
      go_wp2_with fail
      refine (HQ.out _).mono ?_
      rintro e w1 ⟨rfl, hf1⟩
      have HF := Lib.hid hf1
      clear hf1
      go_wp2_with fail
      refine (HN.out _ (HV.out.fr HF.out)).mono ?_
      rintro e w3 ⟨rfl, hf3⟩
      have HF3 := Lib.hid (HF.out.trans hf3)
      clear hf3
      go_wp2_with (go_at_call 16; refine (awake_any _ (HV.out.1.fr HF3.out)).mono ?_; rintro e w9 ⟨rfl, hf9⟩)
      go_ret
      exact ⟨rfl, HF3.out.trans hf9⟩
  · have HQ0 := Lib.hid (hq0)
    have HQ := Lib.hid hQ
    have HN := Lib.hid hN
    have HN0 := Lib.hid hn0
    clear hq0 hQ hN hn0
    rcases hne with rfl | rfl
    · go_enter Tryd.func8, Tryd.ntmps8
      go_wp2_with fail
      refine (HQ.out _).mono ?_
      rintro e w1 ⟨rfl, hf1⟩
      have HF := Lib.hid hf1
      clear hf1
      go_wp2_with fail
      refine (HN.out _ (HV.out.fr HF.out)).mono ?_
      rintro e w3 ⟨rfl, hf3⟩
      have HF3 := Lib.hid (HF.out.trans hf3)
      clear hf3
      go_wp2_with fail
      have hsc := HN0.out trivial
      refine (Scan_any nt (by have := scan_shape (s := nt) (by rw [hsc]); omega) _ (HV.out.1.fr HF3.out)).mono ?_
      rintro e w4 ⟨v4, rfl, hv4, hf4⟩
      rw [hsc] at hv4 ⊢
      clear hsc
      obtain ⟨b4, off4, cap4, rfl, c0, c1', c2, c3⟩ := two_cells hv4
      have c1 : w4.cell? ⟨b4, off4 + 1, none⟩ = some (Value.string ⟨#[]⟩) := c1'
      clear c1'
      clear hv4
      have HF4 := Lib.hid (HF3.out.trans hf4)
      clear hf4
      go_wp2_with (go_at_call 16; refine (awake_any _ (HV.out.1.fr HF4.out)).mono ?_; rintro e w9 ⟨rfl, hf9⟩)
      go_ret
      exact ⟨rfl, HF4.out.trans hf9⟩
    · go_enter Tryd.func8, Tryd.ntmps8
      go_wp2_with fail
      refine (HQ.out _).mono ?_
      rintro e w1 ⟨rfl, hf1⟩
      have HF := Lib.hid hf1
      clear hf1
      go_wp2_with fail
      refine (HN.out _ (HV.out.fr HF.out)).mono ?_
      rintro e w3 ⟨rfl, hf3⟩
      have HF3 := Lib.hid (HF.out.trans hf3)
      clear hf3
      go_wp2_with (go_at_call 16; refine (awake_any _ (HV.out.1.fr HF3.out)).mono ?_; rintro e w9 ⟨rfl, hf9⟩)
      go_ret
      exact ⟨rfl, HF3.out.trans hf9⟩
end Go.Proofs.YtkkapgidddfdoaaDoor
