/- Contracts of the comparison of lists of numbers. -/
import Derived.Test.YtflkcelgbnojaaaW
import Derived.Test.YtflkcelgbnojaaaV
namespace Go.Proofs.Ytflkcelgbnojaaa
open Go.RowKit
set_option linter.unusedVariables false

/-- Two lists of numbers are alike. -/
def eqL (L1 L2 : Nat) (f g : Nat → Int) : Bool := decide (L1 = L2 ∧ ∀ i, i < L1 → f i = g i)
/-- A slice value of so many elements, which lie in memory as said. -/
def SlV (w : World) (v : Value) (L : Nat) (f : Nat → Value) : Prop := ∃ a cap, v = .slice a L cap ∧ (0 < L → ∃ b off, a = some ⟨b, off, none⟩ ∧ Row w b off L f)
theorem SlV.fr {w w' : World} {v : Value} {L : Nat} {f : Nat → Value} (h : SlV w v L f) (k : Fr w w') : SlV w' v L f := by
  obtain ⟨a, cap, rfl, h⟩ := h
  exact ⟨a, cap, rfl, fun hL => by obtain ⟨b, off, rfl, hr⟩ := h hL; exact ⟨b, off, rfl, hr.fr k⟩⟩
theorem SlV.row {w : World} {g : Nat} {T : TypeId} {L cap : Nat} {f : Nat → Value} (h : w.rowIs g T L f) : SlV w (.slice (some ⟨g, 0, none⟩) L cap) L f :=
  ⟨_, cap, rfl, fun _ => ⟨g, 0, rfl, fun i hi => by rw [Nat.zero_add]; exact h.cell hi⟩⟩
theorem SlV.nil (w : World) (f : Nat → Value) : SlV w (.slice none 0 0) 0 f := ⟨none, 0, rfl, fun h => absurd h (by decide)⟩

theorem eq_len (a b : Option Addr) (L1 L2 c1 c2 : Nat) (h : L1 ≠ L2) (w : World) : Calls Try.prog 30 #[.slice a L1 c1, .slice b L2 c2] w fun e w' => e = .returned (.bool false) ∧ Fr w w' := by
  have h1 : ((L1 : Int) != L2) = true := by rw [bne_iff_ne]; omega
  go_enter Try.func30, Try.ntmps30
  go_wp2
  go_ret
  exact ⟨rfl, Fr.refl _⟩
theorem eq_none (a b : Option Addr) (c1 c2 : Nat) (w : World) : Calls Try.prog 30 #[.slice a 0 c1, .slice b 0 c2] w fun e w' => e = .returned (.bool true) ∧ Fr w w' := by
  go_enter Try.func30, Try.ntmps30
  go_wp2
  go_loop [5] (fun i => i = .int .i64 0) (fun _ => 0)
  case atStart => rfl
  case round =>
    subst hrel
    go_wp2
    go_ret
    exact ⟨rfl, Fr.refl _⟩
set_option maxHeartbeats 1000000 in
theorem eq_some (b1 o1 b2 o2 L c1 c2 : Nat) (f g : Nat → Int) (hL : L ≤ 16777216) (w : World) (h1 : Row w b1 o1 L (fun i => .int .i64 (f i))) (h2 : Row w b2 o2 L (fun i => .int .i64 (g i))) :
    Calls Try.prog 30 #[.slice (some ⟨b1, o1, none⟩) L c1, .slice (some ⟨b2, o2, none⟩) L c2] w fun e w' => e = .returned (.bool (eqL L L f g)) ∧ Fr w w' := by
  have H1 := Lib.hid h1
  have H2 := Lib.hid h2
  clear h1 h2
  obtain ⟨r, hr⟩ : ∃ r, r = eqL L L f g := ⟨_, rfl⟩
  rw [← hr]
  have HR := Lib.hid hr
  clear hr
  go_enter Try.func30, Try.ntmps30
  go_wp2
  go_loopw [5] (fun i wr => ∃ k : Nat, k ≤ L ∧ i = .int .i64 k ∧ (∀ j, j < k → f j = g j) ∧ Fr w wr) (fun i _ => L - (intOf i).toNat)
  case atStart => exact ⟨0, Nat.zero_le _, rfl, fun j hj => absurd hj (by omega), Fr.refl _⟩
  case round =>
    obtain ⟨k, hk, rfl, hall, hfr⟩ := hrel
    have HALL := Lib.hid hall
    clear hall
    by_cases hlt : k < L
    · have hc1 := (H1.out.fr hfr) k hlt
      have hc2 := (H2.out.fr hfr) k hlt
      by_cases hfg : f k = g k
      · have ht : ((f k : Int) != g k) = false := by rw [hfg]; simp
        have HFG := Lib.hid hfg
        clear hfg
        go_wp2
        go_quiet (fail)
        go_wp2
        go_roundw
        case rel => exact ⟨k + 1, by omega, by go_num, fun j hj => by by_cases hjk : j = k; { subst hjk; exact HFG.out }; exact HALL.out j (by omega), hfr.drewN _⟩
        case measure => simp [intOf]; omega
      · have ht : ((f k : Int) != g k) = true := by rw [bne_iff_ne]; exact hfg
        have hr : r = false := by
          rw [HR.out]; unfold eqL
          exact decide_eq_false fun h => hfg (h.2 k hlt)
        have HR' := Lib.hid hr
        clear hfg hr
        go_wp2
        go_quiet (fail)
        go_wp2
        go_ret
        exact ⟨by rw [HR'.out]; rfl, hfr.drewN _⟩
    · obtain rfl : k = L := by omega
      have hr : r = true := by
        rw [HR.out]; unfold eqL
        exact decide_eq_true ⟨rfl, HALL.out⟩
      have HR' := Lib.hid hr
      clear hr
      go_wp2
      go_ret
      exact ⟨by rw [HR'.out]; rfl, hfr⟩
theorem EqInts_any {v1 v2 : Value} {L1 L2 : Nat} {f g : Nat → Int} (hL : L1 ≤ 16777216) (w : World) (h1 : SlV w v1 L1 (fun i => .int .i64 (f i))) (h2 : SlV w v2 L2 (fun i => .int .i64 (g i))) :
    Calls Try.prog 30 #[v1, v2] w fun e w' => e = .returned (.bool (eqL L1 L2 f g)) ∧ Fr w w' := by
  obtain ⟨a, c1, rfl, h1⟩ := h1
  obtain ⟨b, c2, rfl, h2⟩ := h2
  by_cases h : L1 = L2
  · subst h
    by_cases h0 : L1 = 0
    · subst h0
      rw [show eqL 0 0 f g = true from decide_eq_true ⟨rfl, fun i hi => absurd hi (by omega)⟩]
      exact eq_none a b c1 c2 w
    · obtain ⟨b1, o1, rfl, hr1⟩ := h1 (by omega)
      obtain ⟨b2, o2, rfl, hr2⟩ := h2 (by omega)
      exact eq_some b1 o1 b2 o2 L1 c1 c2 f g hL w hr1 hr2
  · rw [show eqL L1 L2 f g = false from decide_eq_false fun x => h x.1]
    exact eq_len a b L1 L2 c1 c2 h w
end Go.Proofs.Ytflkcelgbnojaaa
