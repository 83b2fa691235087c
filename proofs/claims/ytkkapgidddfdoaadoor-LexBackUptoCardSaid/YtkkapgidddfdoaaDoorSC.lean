/- Which method tells which token; the contract of Scan. -/
import Derived.Test.YtkkapgidddfdoaaDoorN
import Derived.Test.YtkkapgidddfdoaaDoorG
import Derived.Deep.RegionHeld3
namespace Go.Proofs.YtkkapgidddfdoaaDoor
open Go.RowKit
set_option linter.unusedVariables false

def tfn (c : Nat) : Nat := if small c = true then 48 else if digit c = true then 50 else if c = 35 then 51 else if c = 39 then 52 else if c = 34 then 53 else 54
set_option maxRecDepth 100000 in
theorem tellerOf_any (s : ByteArray) (mp g c : Nat) (w : World) :
    Calls Tryd.prog 29 #[.agg #[.string s, .map (some mp), .slice (some ⟨g, 0, none⟩) 28 28], .int .u8 c] w fun e w' => e = .returned (.func (.func (tfn c)) #[.agg #[.string s, .map (some mp), .slice (some ⟨g, 0, none⟩) 28 28]] #[]) ∧ Fr w w' := by
  obtain ⟨F, hF⟩ : ∃ F, F = tfn c := ⟨_, rfl⟩
  rw [← hF]
  unfold tfn at hF
  by_cases h1 : small c = true
  · rw [if_pos h1] at hF; subst hF
    have H1 := Lib.hid h1
    clear h1
    go_enter Tryd.func29, Tryd.ntmps29
    go_wp2_with (go_at_call 47; refine (isSmall_any _ _).mono ?_; rintro e w' ⟨rfl, rfl⟩; rw [H1.out])
    go_ret
    exact ⟨rfl, (Fr.refl _).alloc _⟩
  rw [if_neg h1] at hF
  have H1 := Lib.hid (show small c = false by simpa using h1)
  clear h1
  by_cases h2 : digit c = true
  · rw [if_pos h2] at hF; subst hF
    have H2 := Lib.hid h2
    clear h2
    go_enter Tryd.func29, Tryd.ntmps29
    go_wp2_with (first | (go_at_call 47; refine (isSmall_any _ _).mono ?_; rintro e w' ⟨rfl, rfl⟩; rw [H1.out]) | (go_at_call 49; refine (isDigit_any _ _).mono ?_; rintro e w' ⟨rfl, rfl⟩; rw [H2.out]))
    go_ret
    exact ⟨rfl, (Fr.refl _).alloc _⟩
  rw [if_neg h2] at hF
  have H2 := Lib.hid (show digit c = false by simpa using h2)
  clear h2
  by_cases h3 : c = 35
  · rw [if_pos h3] at hF; subst hF
    subst h3
    go_enter Tryd.func29, Tryd.ntmps29
    go_wp2_with (first | (go_at_call 47; refine (isSmall_any 35 _).mono ?_; rintro e w' ⟨rfl, rfl⟩; rw [H1.out]) | (go_at_call 49; refine (isDigit_any 35 _).mono ?_; rintro e w' ⟨rfl, rfl⟩; rw [H2.out]))
    go_ret
    exact ⟨rfl, (Fr.refl _).alloc _⟩
  rw [if_neg h3] at hF
  by_cases h4 : c = 39
  · rw [if_pos h4] at hF; subst hF
    subst h4
    clear h3
    go_enter Tryd.func29, Tryd.ntmps29
    go_wp2_with (first | (go_at_call 47; refine (isSmall_any 39 _).mono ?_; rintro e w' ⟨rfl, rfl⟩; rw [H1.out]) | (go_at_call 49; refine (isDigit_any 39 _).mono ?_; rintro e w' ⟨rfl, rfl⟩; rw [H2.out]))
    go_ret
    exact ⟨rfl, (Fr.refl _).alloc _⟩
  rw [if_neg h4] at hF
  by_cases h5 : c = 34
  · rw [if_pos h5] at hF; subst hF
    subst h5
    clear h3 h4
    go_enter Tryd.func29, Tryd.ntmps29
    go_wp2_with (first | (go_at_call 47; refine (isSmall_any 34 _).mono ?_; rintro e w' ⟨rfl, rfl⟩; rw [H1.out]) | (go_at_call 49; refine (isDigit_any 34 _).mono ?_; rintro e w' ⟨rfl, rfl⟩; rw [H2.out]))
    go_ret
    exact ⟨rfl, (Fr.refl _).alloc _⟩
  rw [if_neg h5] at hF; subst hF
  have e3 : ((c : Int) == 35) = false := by rw [beq_eq_false_iff_ne]; omega
  have e4 : ((c : Int) == 39) = false := by rw [beq_eq_false_iff_ne]; omega
  have e5 : ((c : Int) == 34) = false := by rw [beq_eq_false_iff_ne]; omega
  clear h3 h4 h5
  go_enter Tryd.func29, Tryd.ntmps29
  go_wp2_with (first | (go_at_call 47; refine (isSmall_any _ _).mono ?_; rintro e w' ⟨rfl, rfl⟩; rw [H1.out]) | (go_at_call 49; refine (isDigit_any _ _).mono ?_; rintro e w' ⟨rfl, rfl⟩; rw [H2.out]))
  go_ret
  exact ⟨rfl, (Fr.refl _).alloc _⟩
theorem teller_any (s : ByteArray) (hs : s.size ≤ 1000000) (mp g a : Nat) (ha : a < s.size) (w : World) (hk : Ks w mp g) (hev : Ev w) :
    Calls Tryd.prog (tfn (bt s a)) #[.agg #[.string s, .map (some mp), .slice (some ⟨g, 0, none⟩) 28 28], .int .i64 a] w fun e w' =>
      e = .returned (.tuple #[.agg #[.int .i64 (tokAt s a).k, .string (tokAt s a).t, .int .i64 (tokAt s a).n, .int .i64 0], .int .i64 (tokAt s a).e, .int .i64 (tokAt s a).er]) ∧ Fr w w' := by
  unfold tfn tokAt
  by_cases h1 : small (bt s a) = true
  · rw [if_pos h1, if_pos h1]; exact word_any s hs mp g a ha w hk
  rw [if_neg h1, if_neg h1]
  by_cases h2 : digit (bt s a) = true
  · rw [if_pos h2, if_pos h2]; exact number_any s hs mp g a ha h2 w hev
  rw [if_neg h2, if_neg h2]
  by_cases h3 : bt s a = 35
  · rw [if_pos h3, if_pos h3]; exact base16_any s hs mp g a ha w hev
  rw [if_neg h3, if_neg h3]
  by_cases h4 : bt s a = 39
  · rw [if_pos h4, if_pos h4]; exact char_any s hs mp g a (by omega) w
  rw [if_neg h4, if_neg h4]
  by_cases h5 : bt s a = 34
  · rw [if_pos h5, if_pos h5]; exact text_any s hs mp g a ha w
  rw [if_neg h5, if_neg h5]
  exact sign_any s hs mp g a ha w hk
theorem tfn_enter (c : Nat) : ∀ args w, (callFunc (tfn c) args).run Tryd.prog w = .ok (.enter (tfn c) args) w := by
  intro args w
  unfold tfn
  repeat' split
  all_goals kernel_rfl
theorem Tryd.infoTok : (Tryd.prog.info? 38).map (fun i => (i.zero, i.size, i.bytes)) = some (some (.agg #[.int .i64 0, .string ⟨#[]⟩, .int .i64 0, .int .i64 0]), 4, 40) := by kernel_rfl
/-- The cells of tokens. -/
def cellsT (t : Tp) : List Value := [.int .i64 t.k, .string t.t, .int .i64 t.n, .int .i64 t.a]
def toks (l : List Tp) : List Value := l.flatMap cellsT
theorem toks_len (l : List Tp) : (toks l).length = l.length * 4 := by
  unfold toks
  induction l with
  | nil => rfl
  | cons t l ih => rw [List.flatMap_cons, List.length_append, ih, List.length_cons]; show 4 + _ = _; omega
theorem toks_snoc (l : List Tp) (t : Tp) : toks (l ++ [t]) = toks l ++ cellsT t := by unfold toks; rw [List.flatMap_append]; simp
/-- A slice of tokens that lie in memory as said. -/
def TkV (w : World) (v : Value) (l : List Tp) : Prop := ∃ a cap, v = .slice a l.length cap ∧ l.length ≤ cap ∧ (0 < l.length → ∃ b off, a = some ⟨b, off, none⟩ ∧ ∀ j x, (toks l)[j]? = some x → w.cell? ⟨b, off + j, none⟩ = some x)
theorem TkV.nil (w : World) : TkV w (.slice none 0 0) [] := ⟨none, 0, rfl, Nat.le_refl _, fun h => absurd h (by decide)⟩
theorem TkV.fr {w w' : World} {v : Value} {l : List Tp} (h : TkV w v l) (k : Fr w w') : TkV w' v l := by
  obtain ⟨a, c, hv, hle, hr⟩ := h
  exact ⟨a, c, hv, hle, fun hl => by obtain ⟨b, off, ha, hc⟩ := hr hl; exact ⟨b, off, ha, fun j x hx => k.cell (hc j x hx)⟩⟩
theorem TkV.own {w : World} {B : Nat} {v : Value} {l : List Tp} (h : w.ownsRow B 38 4 v l.length (toks l)) : TkV w v l := by
  rcases h.2 with ⟨rfl, h0⟩ | ⟨g, cap, cur, rfl, hb, hg, hm, _, hsz, ht⟩
  · obtain rfl : l = [] := List.eq_nil_of_length_eq_zero h0
    exact TkV.nil w
  · refine ⟨_, cap, rfl, hm, fun _ => ⟨g, 0, rfl, fun j x hx => ?_⟩⟩
    rw [Nat.zero_add]
    have hj : j < l.length * 4 := by
      have := (List.getElem?_eq_some_iff.1 hx).1
      rw [toks_len] at this; exact this
    rw [← ht, List.getElem?_take_of_lt hj] at hx
    simp only [World.cell?, hg]
    simpa using hx
end Go.Proofs.YtkkapgidddfdoaaDoor
