/- The text of tokens is as the document says: the law's walk. -/
import Derived.Test.YtkkapgidddfdoaaDoorRV
import Derived.Test.YtkkapgidddfdoaaDoorYA
namespace Go.Proofs.YtkkapgidddfdoaaDoor
open Go.RowKit
set_option linter.unusedVariables false

theorem GV.fr {w w' : World} {v : Value} {L : List Tg} (h : GV w v L) (k : Fr w w') : GV w' v L := by
  obtain ⟨a, c, hv, hc, hr⟩ := h
  exact ⟨a, c, hv, hc, fun hl => by obtain ⟨b, off, ha, hg⟩ := hr hl; exact ⟨b, off, ha, hg.fr k⟩⟩
set_option maxRecDepth 100000 in
set_option maxHeartbeats 2000000 in
theorem texts_walk (v : Value) (L : List Tg) (W : World) (hv : GV W v L) (ho : okG L) (hnv : Nv W) :
    Calls Tryd.prog 6 #[v] W fun e w' => e = .returned (.bool true) ∧ Fr W w' := by
  have HV := Lib.hid hnv
  have HG := Lib.hid hv
  have HT := fun hl w k => Text_any v L w (HG.out.fr k) ho hl (HV.out.fr k)
  have HR := fun hl w k => RText_any v L w (HG.out.fr k) ho hl (HV.out.fr k)
  obtain ⟨a, cap, rfl, _, _⟩ := hv
  obtain ⟨⟨tt, te⟩, ht⟩ : ∃ q, q = txt L := ⟨_, rfl⟩
  rw [← ht] at HT HR
  simp only at HT HR
  by_cases hl : 20000 < L.length
  · have hd : decide ((20000 : Int) < (L.length : Int)) = true := decide_eq_true (by omega)
    clear HT HR hnv ht
    go_enter Tryd.func6, Tryd.ntmps6
    go_wp2_with (go_at_call 16; refine (awake_any _ HV.out.1).mono ?_; rintro e w9 ⟨rfl, hf9⟩)
    go_ret
    exact ⟨rfl, hf9⟩
  have hd : decide ((20000 : Int) < (L.length : Int)) = false := decide_eq_false (by omega)
  have HT' := Lib.hid (HT (by omega))
  have HR' := Lib.hid (HR (by omega))
  have e1 : (tt.toList == tt.toList) = true := by simp
  have e2 : ((te : Int) == (te : Int)) = true := by simp
  clear HT HR hnv ht ho
  go_enter Tryd.func6, Tryd.ntmps6
  go_wp2_with fail
  refine (HT'.out _ (Fr.refl _)).mono ?_
  rintro e w1 ⟨rfl, hf1⟩
  have HF1 := Lib.hid hf1
  clear hf1
  go_wp2_with fail
  refine (HR'.out _ HF1.out).mono ?_
  rintro e w2 ⟨rfl, hf2⟩
  have HF2 := Lib.hid (HF1.out.trans hf2)
  clear hf2
  go_wp2_with (go_at_call 16; refine (awake_any _ (HV.out.1.fr HF2.out)).mono ?_; rintro e w9 ⟨rfl, hf9⟩)
  go_ret
  exact ⟨rfl, HF2.out.trans hf9⟩
end Go.Proofs.YtkkapgidddfdoaaDoor
