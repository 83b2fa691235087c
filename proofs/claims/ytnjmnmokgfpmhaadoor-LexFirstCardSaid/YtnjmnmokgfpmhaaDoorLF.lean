/- A source that cannot be scanned, with more behind a line feed: the law's walk. -/
import Derived.Test.YtnjmnmokgfpmhaaDoorMF
import Derived.Test.YtnjmnmokgfpmhaaDoorYA
import Derived.Laws.Concat
import Derived.IntWalk
namespace Go.Proofs.YtnjmnmokgfpmhaaDoor
open Go.RowKit
set_option linter.unusedVariables false

set_option maxRecDepth 100000 in
set_option maxHeartbeats 2000000 in
theorem first_walk (a b : ByteArray) (ha : a.size ≤ 140737488351232) (hb : b.size ≤ 140737488351232) (W : World) (hev : Ev W) :
    Calls Tryd.prog 12 #[.string a, .string b] W fun e w' => e = .returned (.bool true) ∧ Fr W w' := by
  have HE := Lib.hid hev
  have hsum : IntKind.i64.wrap ((a.size : Int) + (b.size : Int)) = (a.size : Int) + b.size := by
    exact IntWalk.i64_in _ (by omega)
  by_cases h4 : (40000 : Int) ≤ (a.size : Int) + b.size
  · have hd : decide ((40000 : Int) ≤ (a.size : Int) + b.size) = true := decide_eq_true h4
    go_enter Tryd.func12, Tryd.ntmps12
    go_wp2_with (go_at_call 16; refine (awake_any _ HE.out).mono ?_; rintro e w' ⟨rfl, hf⟩)
    go_ret
    exact ⟨rfl, hf⟩
  have hd : decide ((40000 : Int) ≤ (a.size : Int) + b.size) = false := decide_eq_false h4
  obtain ⟨z, hz⟩ : ∃ z, z = a ++ (⟨#[10]⟩ : ByteArray) ++ b := ⟨_, rfl⟩
  have hzs : z.size = a.size + 1 + b.size := by rw [hz, ByteArray.size_append, ByteArray.size_append]; rfl
  have HP := Lib.hid (show Pf a z by rw [hz]; exact cat_pf a b)
  have HZ := Lib.hid hz
  have HSP := Lib.hid (HP.out.scan (by omega))
  obtain ⟨ea, hea⟩ : ∃ x, x = (scan a).er := ⟨_, rfl⟩
  obtain ⟨pa, hpa⟩ : ∃ x, x = (scan a).a := ⟨_, rfl⟩
  rw [← hea, ← hpa] at HSP
  have HEA := Lib.hid hea
  have HPA := Lib.hid hpa
  clear hz hea hpa
  go_enter Tryd.func12, Tryd.ntmps12
  go_wp2_with fail
  refine (Scan_any a (by omega) _ HE.out).mono ?_
  rintro e w1 ⟨v1, rfl, _, hf1⟩
  rw [← HEA.out, ← HPA.out]
  have hadd1 : ∀ w, (Op.stringOp .add a ⟨#[10]⟩).run Tryd.prog w = .ok (.string (a ++ ⟨#[10]⟩)) w := fun w => run_string_add_sum w a ⟨#[10]⟩ (by show a.size + 1 ≤ _; omega)
  have hadd2 : ∀ w, (Op.stringOp .add (a ++ ⟨#[10]⟩) b).run Tryd.prog w = .ok (.string z) w := fun w => by rw [HZ.out]; exact run_string_add_sum w _ b (by rw [ByteArray.size_append]; show a.size + 1 + b.size ≤ _; omega)
  go_wp2_with fail
  refine (Scan_any z (by omega) _ (HE.out.fr hf1)).mono ?_
  rintro e w2 ⟨v2, rfl, _, hf2⟩
  have hf := hf1.trans hf2
  have HE2 := Lib.hid (HE.out.fr hf)
  by_cases h0 : ea = 0
  · have e0 : ((ea : Int) == 0) = true := by rw [beq_iff_eq]; omega
    go_wp2_with (go_at_call 16; refine (awake_any _ HE2.out).mono ?_; rintro e w' ⟨rfl, hf3⟩)
    go_ret
    exact ⟨rfl, hf.trans hf3⟩
  have e0 : ((ea : Int) == 0) = false := by rw [beq_eq_false_iff_ne]; omega
  by_cases h2 : ea = 2 ∧ pa = a.size
  · have e1 : ((ea : Int) == 2) = true := by rw [beq_iff_eq]; omega
    have e2 : ((pa : Int) == (a.size : Int)) = true := by rw [beq_iff_eq]; omega
    go_wp2_with (go_at_call 16; refine (awake_any _ HE2.out).mono ?_; rintro e w' ⟨rfl, hf3⟩)
    go_ret
    exact ⟨rfl, hf.trans hf3⟩
  have hsc := HSP.out h0 h2
  have r1 : (scan z).er = ea := by rw [hsc, HEA.out]
  have r2 : (scan z).a = pa := by rw [hsc, HPA.out]
  rw [r1, r2]
  have e5 : ((ea : Int) == (ea : Int)) = true := by rw [beq_iff_eq]
  have e6 : ((pa : Int) == (pa : Int)) = true := by rw [beq_iff_eq]
  clear hsc r1 r2
  by_cases h3 : ea = 2
  · have e1 : ((ea : Int) == 2) = true := by rw [beq_iff_eq]; omega
    have e2 : ((pa : Int) == (a.size : Int)) = false := by rw [beq_eq_false_iff_ne]; omega
    go_wp2_with (go_at_call 16; refine (awake_any _ HE2.out).mono ?_; rintro e w' ⟨rfl, hf3⟩)
    go_ret
    exact ⟨rfl, hf.trans hf3⟩
  have e1 : ((ea : Int) == 2) = false := by rw [beq_eq_false_iff_ne]; omega
  go_wp2_with (go_at_call 16; refine (awake_any _ HE2.out).mono ?_; rintro e w' ⟨rfl, hf3⟩)
  go_ret
  exact ⟨rfl, hf.trans hf3⟩
end Go.Proofs.YtnjmnmokgfpmhaaDoor
