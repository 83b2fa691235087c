/- Packing by any form; numbers copied. -/
import Derived.Test.YtflkcelgbnojaaaWM
import Derived.Test.YtflkcelgbnojaaaAP
import Derived.Test.YtflkcelgbnojaaaPR
import Derived.Test.YtflkcelgbnojaaaPC
namespace Go.Proofs.Ytflkcelgbnojaaa
open Go.RowKit
set_option linter.unusedVariables false

theorem Pack_any {n : Int} (hn : OkB n) {sz : Nat} (hsz : (sz : Int) = szI n) (big : Bool) (s : ByteArray) (hs : s.size ≤ 255) (w : World) :
    Calls Try.prog 31 #[.string s, .agg #[.int .i64 n, .bool big]] w fun e w' =>
      ∃ g m : Nat, m = (s.size + sz) / sz ∧ e = .returned (.tuple #[.slice (some ⟨g, 0, none⟩) m m, .int .i64 0]) ∧ w.heap.size ≤ g ∧ w'.rowIs g 3 m (fun j => .int .i64 (nrm (wv (pβ s) n big (m * sz) j) n)) ∧ Fr w w' := by
  rcases hn with rfl | rfl | rfl
  · obtain rfl : sz = 2 := by have h : (sz : Int) = 2 := hsz; omega
    exact (Pack_16 big s hs w).mono fun e w' ⟨g, m, hm, he, hg, hr, hf⟩ => ⟨g, m, by omega, he, hg, hr, hf⟩
  · obtain rfl : sz = 3 := by have h : (sz : Int) = 3 := hsz; omega
    exact (Pack_24 big s hs w).mono fun e w' ⟨g, m, hm, he, hg, hr, hf⟩ => ⟨g, m, by omega, he, hg, hr, hf⟩
  · obtain rfl : sz = 4 := by have h : (sz : Int) = 4 := hsz; omega
    exact (Pack_32 big s hs w).mono fun e w' ⟨g, m, hm, he, hg, hr, hf⟩ => ⟨g, m, by omega, he, hg, hr, hf⟩
theorem CopyInts_any (v : Value) (L : Nat) (hL : L ≤ 1000000) (f : Nat → Int) (w : World) (hv : SlV w v L (fun i => .int .i64 (f i))) :
    Calls Try.prog 43 #[v] w fun e w' => ∃ v' : Value, e = .returned v' ∧ w'.ownsRow w.heap.size 3 1 v' L (many L (fun i => .int .i64 (f i))) ∧ Fr w w' := by
  obtain ⟨i0, hi0, hz0, hz1, hz2⟩ := info_parts Try.infoInt
  have HI := Lib.hid (And.intro hi0 (And.intro hz0 (And.intro hz1 hz2)))
  have HV := Lib.hid (hv.fr ((Fr.refl w).alloc (.cells #[] 3)))
  have HO := Lib.hid (show (w.alloc (.cells #[] 3)).ownsRow w.heap.size 3 1 (.slice (some ⟨w.heap.size, 0, none⟩) 0 0) 0 [] from ⟨rfl, .inr ⟨w.heap.size, 0, #[], rfl, Nat.le_refl _, heap_new2 w _, Nat.le_refl _, by decide, rfl, rfl⟩⟩)
  clear hi0 hz0 hz1 hz2 hv
  go_enter Try.func43, Try.ntmps43
  go_wp2_with (with_reducible refine stop_append ?_)
  unfold Stop
  refine wpList_append_sl rfl (.tmp 3) (.tmp 4) 37 rfl w.heap.size 3 i0 _ 8 Try.underlying37 HI.out.1 HI.out.2.1 HI.out.2.2.1 HI.out.2.2.2 rfl _ 0 [] rfl HO.out v L _ rfl HV.out (fun _ => rfl) (by unfold maxLen; omega) (by omega) (by simp) ?_
  intro v' w' hown hg
  rw [Nat.zero_add, List.nil_append] at hown
  have HW := Lib.hid hown
  clear hown
  go_wp2_with fail
  go_ret
  exact ⟨v', rfl, HW.out, Fr.new (Nat.le_refl _) (((Fr.refl w).alloc _).gr w.heap.size |>.trans hg)⟩
theorem slv_some {w : World} {a : Option Addr} {L cap : Nat} {f : Nat → Value} (h : SlV w (.slice a L cap) L f) (hk : 0 < L) : ∃ b off, a = some ⟨b, off, none⟩ ∧ Row w b off L f := by
  obtain ⟨a', c', hv, hr⟩ := h
  injection hv with h1 _ _
  subst h1
  exact hr hk
theorem own_row {w : World} {B g cap : Nat} {T : TypeId} {m : Nat} {xs : List Value} {f : Nat → Value} (h : w.ownsRow B T 1 (.slice (some ⟨g, 0, none⟩) m cap) m xs) (hm : 0 < m) (hx : ∀ j, j < m → xs[j]? = some (f j)) : Row w g 0 m f := by
  obtain ⟨a, c, hv, hr⟩ := own_slv h hx
  injection hv with h1 _ _
  subst h1
  obtain ⟨b, off, hb, hrow⟩ := hr hm
  injection hb with hb
  injection hb with h1 h2 _
  subst h1; subst h2
  exact hrow
theorem cat_at {t : ByteArray} {n : Int} {big : Bool} {m sz L : Nat} {f : Nat → Int} (j : Nat) (hj : j < m + L) :
    (many m (fun j => Value.int .i64 (nrm (wv (pβ t) n big (m * sz) j) n)) ++ many L (fun j => Value.int .i64 (f j)))[j]? = some (.int .i64 (catF t n big m sz f j)) := by
  unfold catF
  by_cases h : j < m
  · rw [List.getElem?_append_left (by rw [many_len]; exact h), many_at h, if_pos h]
  · rw [List.getElem?_append_right (by rw [many_len]; omega), many_len, many_at (by omega), if_neg h]
end Go.Proofs.Ytflkcelgbnojaaa
