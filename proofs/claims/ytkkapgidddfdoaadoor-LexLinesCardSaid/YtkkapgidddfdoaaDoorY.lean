/- The laws' own small source is scanned as it should. -/
import Derived.Test.YtkkapgidddfdoaaDoorSN
namespace Go.Proofs.YtkkapgidddfdoaaDoor
open Go.RowKit
set_option linter.unusedVariables false

def aw : ByteArray := ⟨#[120, 58, 61, 35, 102, 102]⟩
theorem has_yes {L : Nat} {f : Nat → ByteArray} {s : ByteArray} (i : Nat) (h : i < L) (e : f i = s) : hasB L f s = true := hasB_yes h e
open Classical in
theorem has_not {L : Nat} {f : Nat → ByteArray} {s : ByteArray} (h : ∀ i, i < L → f i ≠ s) : hasB L f s = false := by
  unfold hasB
  exact decide_eq_false fun ⟨i, hi, e⟩ => h i hi e
def neAll (L : Nat) (f : Nat → ByteArray) (s : ByteArray) : Bool := (List.range L).all fun i => (f i).data.toList != s.data.toList
theorem neAll_of {L : Nat} {f : Nat → ByteArray} {s : ByteArray} (h : neAll L f s = true) : ∀ i, i < L → f i ≠ s := by
  intro i hi e
  have := List.all_eq_true.1 h i (List.mem_range.2 hi)
  rw [e] at this
  simp at this
theorem aw_size : aw.size = 6 := rfl
theorem aw0 : bt aw 0 = 120 := rfl
theorem aw1 : bt aw 1 = 58 := rfl
theorem aw2 : bt aw 2 = 61 := rfl
theorem aw3 : bt aw 3 = 35 := rfl
theorem aw4 : bt aw 4 = 102 := rfl
theorem aw5 : bt aw 5 = 102 := rfl
theorem skp_self {s : ByteArray} {a : Nat} (h : blank (bt s a) = false) (h2 : slash s a = false) : skp s a = a := by
  have e := run_out (p := blank) (s := s) (i := a) h
  rw [skp_stop (by rw [e]; exact h2), e]
theorem aw_x : tokAt aw 0 = ⟨1, ⟨#[120]⟩, 0, 1, 0⟩ := by
  have hr : run part aw 0 = 1 := by rw [run_inside (by decide) (by rw [aw0]; rfl), run_out (by rw [aw1]; rfl)]
  have he : aw.extract 0 1 = ⟨#[120]⟩ := by rfl
  unfold tokAt
  rw [if_pos (by rw [aw0]; rfl)]
  unfold wordT
  rw [hr, he, if_neg (by rw [has_not (neAll_of (by decide))]; decide), if_neg (by decide)]
theorem aw_sgn : hasB 28 sgnB ⟨#[58, 61]⟩ = true := has_yes 26 (by decide) rfl
theorem aw_s : tokAt aw 1 = ⟨5, ⟨#[58, 61]⟩, 0, 3, 0⟩ := by
  have he : aw.extract 1 3 = ⟨#[58, 61]⟩ := by rfl
  unfold tokAt
  rw [aw1, if_neg (by decide), if_neg (by decide), if_neg (by decide), if_neg (by decide), if_neg (by decide)]
  unfold sgnT
  rw [he, if_pos ⟨by decide, aw_sgn⟩]
theorem aw_h : tokAt aw 3 = ⟨2, nul, 255, 6, 0⟩ := by
  have hr : run hexc aw 4 = 6 := by rw [run_inside (by decide) (by rw [aw4]; rfl), run_inside (by decide) (by rw [aw5]; rfl), run_end (by decide)]
  unfold tokAt
  rw [aw3, if_neg (by decide), if_neg (by decide), if_pos rfl]
  unfold hexT
  rw [hr, if_neg (by decide), if_neg (by decide)]
  rfl
theorem aw_scan : scan aw = ⟨[⟨1, ⟨#[120]⟩, 0, 0⟩, ⟨5, ⟨#[58, 61]⟩, 0, 1⟩, ⟨2, nul, 255, 3⟩, ⟨0, nul, 0, 6⟩], 0, 0⟩ := by
  unfold scan
  rw [if_neg (by decide), skp_self (by rw [aw0]; rfl) (by decide)]
  rw [scG_step (by decide) (by rw [aw_x]) (by decide), aw_x]
  rw [show skp aw (Tk.e ⟨1, ⟨#[120]⟩, 0, 1, 0⟩) = 1 from skp_self (by rw [aw1]; rfl) (by decide)]
  rw [scG_step (by decide) (by rw [aw_s]) (by decide), aw_s]
  rw [show skp aw (Tk.e ⟨5, ⟨#[58, 61]⟩, 0, 3, 0⟩) = 3 from skp_self (by rw [aw3]; rfl) (by decide)]
  rw [scG_step (by decide) (by rw [aw_h]) (by decide), aw_h]
  rw [show skp aw (Tk.e ⟨2, nul, 255, 6, 0⟩) = 6 from by
    have e := run_end (p := blank) (s := aw) (i := 6) (by decide)
    rw [skp_stop (by rw [e]; decide), e]]
  rw [scG_end (by decide) (by decide)]
  rfl
end Go.Proofs.YtkkapgidddfdoaaDoor
