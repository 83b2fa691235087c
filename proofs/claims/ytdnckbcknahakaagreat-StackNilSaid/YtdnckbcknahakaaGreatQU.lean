/- Pruned by program from: tpl3/K tpl3/C tpl3/D tpl3/T tpl3/S tpl3/U tpl3/V tpl3/X tpl3/Q. -/
import Derived.Test.YtdnckbcknahakaaGreatB
import Derived.Test.YtdnckbcknahakaaGreatRows
import Derived.WalkKit
import Derived.LoopTactic
import Derived.Deep.QuietTactic
import Derived.BigQuiet
import Derived.Outline
import Derived.Laws.BytesArg
import Derived.Lib.Strings
import Derived.Lib.IndexBytes
import Derived.Test.YtdnckbcknahakaaGreatAP
import Derived.Laws.EntriesVeiled
/- The lists of keys and signs, as bytes. Nothing here speaks of a program. -/
namespace Go.Proofs.YtdnckbcknahakaaGreat
open Go.RowKit
set_option linter.unusedVariables false
/-- Byte i of a string. -/
def bt (s : ByteArray) (i : Nat) : Nat := (s.data.getD i 0).toNat
theorem bt_lt (s : ByteArray) (i : Nat) : bt s i < 256 := UInt8.toNat_lt _
theorem bt_at (s : ByteArray) (i : Nat) (h : i < s.size) : (s[i]).toNat = bt s i := by
  unfold bt
  rw [Array.getD_eq_getD_getElem?, Array.getElem?_eq_getElem h]; rfl
open Classical in
open Classical in
open Classical in
/-- Where the bytes that fit come to an end. -/
def run (p : Nat → Bool) (s : ByteArray) (i : Nat) : Nat := if i < s.size then (if p (bt s i) then run p s (i + 1) else i) else i
termination_by s.size - i
theorem run_inside {p : Nat → Bool} {s : ByteArray} {i : Nat} (h : i < s.size) (hp : p (bt s i) = true) : run p s i = run p s (i + 1) := by rw [run, if_pos h, if_pos hp]
theorem run_out {p : Nat → Bool} {s : ByteArray} {i : Nat} (hp : p (bt s i) = false) : run p s i = i := by rw [run]; split <;> simp [hp]
theorem run_end {p : Nat → Bool} {s : ByteArray} {i : Nat} (h : s.size ≤ i) : run p s i = i := by rw [run, if_neg (by omega)]
open Classical in
/- The lists of keys and signs; classes of bytes; lists asked for a string. -/
/- Classes of bytes, and where bytes of a class come to an end. -/
def plain (c : Nat) : Bool := decide (32 ≤ c ∧ c ≤ 126)
theorem isPlain_any (c : Nat) (w : World) : Calls Tryz.prog 134 #[.int .u8 c] w fun e w' => e = .returned (.bool (plain c)) ∧ w = w' := by
  by_cases h1 : 32 ≤ c
  · by_cases h2 : c ≤ 126
    · rw [show plain c = true from decide_eq_true ⟨h1, h2⟩]
      have h3 : decide ((c : Int) ≤ 126) = true := decide_eq_true (by omega)
      have h4 : decide ((32 : Int) ≤ c) = true := decide_eq_true (by omega)
      go_enter Tryz.func134, Tryz.ntmps134
      go_wp2
      go_ret
      exact ⟨rfl, rfl⟩
    · rw [show plain c = false from decide_eq_false (by omega)]
      have h3 : decide ((c : Int) ≤ 126) = false := decide_eq_false (by omega)
      have h4 : decide ((32 : Int) ≤ c) = true := decide_eq_true (by omega)
      go_enter Tryz.func134, Tryz.ntmps134
      go_wp2
      go_ret
      exact ⟨rfl, rfl⟩
  · rw [show plain c = false from decide_eq_false (by omega)]
    have h4 : decide ((32 : Int) ≤ c) = false := decide_eq_false (by omega)
    go_enter Tryz.func134, Tryz.ntmps134
    go_wp2
    go_ret
    exact ⟨rfl, rfl⟩
/- What a source's tokens are. Nothing here speaks of a program. -/
def nul : ByteArray := ⟨#[]⟩
def ofL (l : List Nat) : ByteArray := strOfNums (l.map fun (c : Nat) => (c : Int))
/- Contracts of the scanner's small methods. -/
/- Contracts of the scanner's methods that tell characters. -/
/- The contract of the method that tells a character. -/
/- The contract of the method that tells a text. -/
theorem Tryz.infoU8 : (Tryz.prog.info? 5).map (fun i => (i.zero, i.size, i.bytes)) = some (some (.int .u8 0), 1, 1) := by kernel_rfl
def Stop (p : Prop) : Prop := p
theorem stop_append {P : Program} {ops : Array Oper} {rest : List Oper} {x y dst ty pos aft g} {a : Act} {w : World} {Q : Exit → Act → World → Prop}
    (h : Stop (wpList P ops Q (⟨dst, .call { callee := .builtin .append, args := x, argTypes := y }, ty, pos, aft, g⟩ :: rest) a w)) : wpList P ops Q (⟨dst, .call { callee := .builtin .append, args := x, argTypes := y }, ty, pos, aft, g⟩ :: rest) a w := h
theorem own_fr {w0 wr w' : World} {v : Value} {T : TypeId} {z m : Nat} {xs : List Value} (h : Fr w0 wr) (ho : wr.ownsRow w0.heap.size T z v m xs) (hg : wr.grownBy w' v.ownBlock) : Fr w0 w' :=
  Below.grown h hg h.size (fun k hk => (ho.lt k hk).1)
theorem Fr.grow {a b : World} (h : Fr a b) : a.grownBy b none := ⟨h.os, h.tape, h.output, h.size, fun k hk _ => h.block k hk⟩
theorem own_keep {w0 wr w' : World} {v : Value} {T : TypeId} {z m : Nat} {xs : List Value} (ho : wr.ownsRow w0.heap.size T z v m xs) (h : Fr wr w') : w'.ownsRow w0.heap.size T z v m xs :=
  ho.kept (Fr.grow h) (by cases v.ownBlock <;> simp)
theorem sl_one (W : World) (x : Value) (T : TypeId) : SlV (W.alloc (.cells #[x] T)) (.slice (some ⟨W.heap.size, 0, none⟩) 1 1) 1 (fun _ => x) :=
  ⟨_, 1, rfl, fun _ => ⟨W.heap.size, 0, rfl, fun i hi => by obtain rfl : i = 0 := (by omega); simp⟩⟩
def u8s (l : List Nat) : List Value := l.map fun (c : Nat) => Value.int .u8 (c : Int)
theorem conv_list {P : Program} {w : World} {B : Nat} {src e : TypeId} {v : Value} {l : List Nat} (hs : P.underlying src = some (.slice e)) (he : P.underlying e = some (.int .u8)) (h : w.ownsRow B e 1 v l.length (u8s l)) :
    ∀ dst, P.underlying dst = some .string → (convert src dst v).run P w = .ok (.string (ofL l)) w := by
  intro dst hd
  rcases h.2 with ⟨rfl, h0⟩ | ⟨g, cap, cur, rfl, hb, hg, hm, _, hsz, ht⟩
  · obtain rfl : l = [] := List.eq_nil_of_length_eq_zero h0
    exact run_convert_bytes_nil w src e hs he 0 0 dst hd
  · refine run_convert_bytes_arg w src e hs he g 0 l.length cap _ (by simp) (fun i hi => ?_) dst hd
    have h1 : (u8s l)[i]? = some (.int .u8 (l[i] : Nat)) := by unfold u8s; simp [hi]
    rw [← ht, Nat.mul_one, List.getElem?_take_of_lt hi] at h1
    rw [Nat.zero_add]
    simp only [World.cell?, hg]
    simpa [List.getD, hi] using h1
/- How a string is written: the contract of the function that writes it. -/
/-- The letter of the escape of a byte, and whether there is one. -/
def eo (c : Nat) : Nat := if c = 10 then 110 else if c = 9 then 116 else if c = 42 ∨ c = 34 then c else 0
def eOk (c : Nat) : Bool := decide (c = 10 ∨ c = 9 ∨ c = 42 ∨ c = 34)
theorem eo_le {c : Nat} (h : c < 256) : eo c < 256 := by
  unfold eo
  repeat' split
  all_goals omega
theorem escapeOf_any (c : Nat) (w : World) : Calls Tryz.prog 133 #[.int .u8 c] w fun e w' => e = .returned (.tuple #[.int .u8 (eo c : Nat), .bool (eOk c)]) ∧ w = w' := by
  by_cases h1 : c = 10
  · subst h1; go_enter Tryz.func133, Tryz.ntmps133
    go_wp2; go_ret2; exact ⟨rfl, rfl⟩
  by_cases h2 : c = 9
  · subst h2; go_enter Tryz.func133, Tryz.ntmps133
    go_wp2; go_ret2; exact ⟨rfl, rfl⟩
  by_cases h4 : c = 42
  · subst h4; go_enter Tryz.func133, Tryz.ntmps133
    go_wp2; go_ret2; exact ⟨rfl, rfl⟩
  by_cases h6 : c = 34
  · subst h6; go_enter Tryz.func133, Tryz.ntmps133
    go_wp2; go_ret2; exact ⟨rfl, rfl⟩
  rw [show eo c = 0 from by unfold eo; rw [if_neg h1, if_neg h2, if_neg (by omega)], show eOk c = false from decide_eq_false (by omega)]
  have e1 : ((c : Int) == 10) = false := by rw [beq_eq_false_iff_ne]; omega
  have e2 : ((c : Int) == 9) = false := by rw [beq_eq_false_iff_ne]; omega
  have e4 : ((c : Int) == 42) = false := by rw [beq_eq_false_iff_ne]; omega
  have e6 : ((c : Int) == 34) = false := by rw [beq_eq_false_iff_ne]; omega
  clear h1 h2 h4 h6
  go_enter Tryz.func133, Tryz.ntmps133
  go_wp2; go_ret2; exact ⟨rfl, rfl⟩
/-- Whether a byte may stand in a string, and how it is written. -/
def okq (c : Nat) : Bool := eOk c || plain c
def eq1 (c : Nat) : List Nat := if eOk c = true then [42, eo c] else [c]
/-- The mark, and the first k bytes. -/
def qk (s : ByteArray) : Nat → List Nat
  | 0 => [34]
  | k + 1 => qk s k ++ eq1 (bt s k)
theorem eq1_len (c : Nat) : 1 ≤ (eq1 c).length ∧ (eq1 c).length ≤ 2 := by unfold eq1; split <;> simp
theorem qk_len (s : ByteArray) : ∀ k, 1 + k ≤ (qk s k).length ∧ (qk s k).length ≤ 1 + 2 * k
  | 0 => by simp [qk]
  | k + 1 => by
    have h1 := qk_len s k
    have h2 := eq1_len (bt s k)
    rw [qk, List.length_append]; omega
structure Tx where
  t : ByteArray
  e : Nat
def quo (s : ByteArray) : Tx := if run okq s 0 < s.size then ⟨nul, 3⟩ else if 100 < s.size then ⟨nul, 2⟩ else ⟨ofL (qk s s.size ++ [34]), 0⟩
theorem sl_two (W : World) (x y : Value) (T : TypeId) : SlV (W.alloc (.cells #[x, y] T)) (.slice (some ⟨W.heap.size, 0, none⟩) 2 2) 2 (fun i => if i = 0 then x else y) :=
  ⟨_, 2, rfl, fun _ => ⟨W.heap.size, 0, rfl, fun i hi => by
    have : i = 0 ∨ i = 1 := by omega
    rcases this with rfl | rfl <;> simp⟩⟩
theorem u8s_app (l m : List Nat) : u8s (l ++ m) = u8s l ++ u8s m := by unfold u8s; rw [List.map_append]
theorem run_step_ok {p : Nat → Bool} {s : ByteArray} {k : Nat} (hr : run p s 0 = run p s k) (hk : k < s.size) (h : p (bt s k) = true) : run p s 0 = run p s (k + 1) := by
  rw [hr, run_inside hk h]
set_option maxHeartbeats 2000000 in
theorem Quote_any (s : ByteArray) (hs : s.size ≤ 2000000) (w : World) :
    Calls Tryz.prog 106 #[.string s] w fun e w' => e = .returned (.tuple #[.string (quo s).t, .int .i64 (quo s).e]) ∧ Fr w w' := by
  obtain ⟨u0, hi0, hz0, hz1, hz2⟩ := info_parts Tryz.infoU8
  have HU := Lib.hid (And.intro hi0 (And.intro hz0 (And.intro hz1 hz2)))
  obtain ⟨w0, hw0⟩ : ∃ w0, w0 = w.alloc (.cells #[.int .u8 34] 5) := ⟨_, rfl⟩
  have hf0 : Fr w w0 := by rw [hw0]; exact (Fr.refl w).alloc _
  have HO0 : Hid (w0.ownsRow w.heap.size 5 1 (.slice (some ⟨w.heap.size, 0, none⟩) 1 1) (qk s 0).length (u8s (qk s 0))) := Lib.hid (by rw [hw0]; exact World.ownsRow_lit w #[.int .u8 34] 1 (Nat.le_refl _) (by decide) rfl)
  have HF0 := Lib.hid hf0
  have HW0 := Lib.hid hw0
  clear hi0 hz0 hz1 hz2 hw0 hf0
  go_enter Tryz.func106, Tryz.ntmps106
  go_wp2_with fail
  rw [← HW0.out]
  go_loopw [4, 12] (fun o i wr => ∃ k : Nat, k ≤ s.size ∧ i = .int .i64 k ∧ Hid (run okq s 0 = run okq s k) ∧ wr.ownsRow w.heap.size 5 1 o (qk s k).length (u8s (qk s k)) ∧ Fr w wr) (fun _ i _ => s.size - (intOf i).toNat)
  case atStart => exact ⟨0, Nat.zero_le _, rfl, Lib.hid rfl, HO0.out, HF0.out⟩
  case round =>
    obtain ⟨k, hk, rfl, HR, hown, hfr⟩ := hrel
    have HO := Lib.hid hown
    have HL := Lib.hid (qk_len s k)
    clear hown
    by_cases hlt : k < s.size
    · have hb := bt_at s k hlt
      have hd : decide ((k : Int) < (s.size : Int)) = true := decide_eq_true (by omega)
      have hbl := bt_lt s k
      obtain ⟨c, hc⟩ : ∃ c, c = bt s k := ⟨_, rfl⟩
      rw [← hc] at hb hbl
      have HC := Lib.hid hc
      clear hc
      cases he : eOk c with
      | true =>
        have HE := Lib.hid he
        have HQ : Hid (qk s (k + 1) = qk s k ++ [42, eo c]) := Lib.hid (by rw [qk, ← HC.out]; unfold eq1; rw [if_pos he])
        have HRN := Lib.hid (Lib.hid (run_step_ok HR.out hlt (by rw [← HC.out]; unfold okq; rw [he]; rfl)))
        have hel := eo_le hbl
        clear he
        go_wp2_with fail
        refine (escapeOf_any c _).mono ?_
        rintro e w1 ⟨rfl, rfl⟩
        rw [HE.out]
        go_wp2_with (with_reducible refine stop_append ?_)
        unfold Stop
        refine wpList_append_sl rfl (.tmp 25) (.tmp 27) 70 rfl w.heap.size 5 u0 _ 1 Tryz.underlying70 HU.out.1 HU.out.2.1 HU.out.2.2.1 HU.out.2.2.2 rfl _ (qk s k).length _ rfl (own_keep HO.out ((Fr.refl _).alloc _)) _ 2 (fun i => if i = 0 then .int .u8 42 else .int .u8 (eo c : Nat)) rfl (sl_two _ _ _ _) (fun j => by split <;> rfl) (by have := HL.out; unfold maxLen; omega) (by have := HL.out; omega) (Nat.le_trans (hfr.alloc _).size (Nat.le_refl _)) ?_
        intro v' wA hown hg
        have hown2 : wA.ownsRow w.heap.size 5 1 v' (qk s k ++ [42, eo c]).length (u8s (qk s k ++ [42, eo c])) := by
          rw [u8s_app, List.length_append]; exact hown
        have HOA := Lib.hid hown2
        have hfA := own_fr (hfr.alloc _) (own_keep HO.out ((Fr.refl _).alloc _)) hg
        clear hown hg hown2
        go_wp2_with fail
        go_roundw
        case rel => exact ⟨k + 1, by omega, by go_num, HRN.out, by rw [HQ.out]; exact HOA.out, hfA⟩
        case measure => simp [intOf]; omega
      | false =>
        have HE := Lib.hid he
        cases hp : plain c with
        | true =>
          have HP := Lib.hid hp
          have HQ : Hid (qk s (k + 1) = qk s k ++ [c]) := Lib.hid (by rw [qk, ← HC.out]; unfold eq1; rw [if_neg (by rw [he]; decide)])
          have HRN := Lib.hid (Lib.hid (run_step_ok HR.out hlt (by rw [← HC.out]; unfold okq; rw [hp, Bool.or_true])))
          clear he hp
          go_wp2_with fail
          refine (escapeOf_any c _).mono ?_
          rintro e w1 ⟨rfl, rfl⟩
          rw [HE.out]
          go_wp2_with fail
          refine (isPlain_any c _).mono ?_
          rintro e w1 ⟨rfl, rfl⟩
          rw [HP.out]
          go_wp2_with (with_reducible refine stop_append ?_)
          unfold Stop
          refine wpList_append_sl rfl (.tmp 32) (.tmp 34) 70 rfl w.heap.size 5 u0 _ 1 Tryz.underlying70 HU.out.1 HU.out.2.1 HU.out.2.2.1 HU.out.2.2.2 rfl _ (qk s k).length _ rfl (own_keep HO.out ((Fr.refl _).alloc _)) _ 1 (fun _ => .int .u8 (c : Nat)) rfl (sl_one _ _ _) (fun _ => rfl) (by have := HL.out; unfold maxLen; omega) (by have := HL.out; omega) (Nat.le_trans (hfr.alloc _).size (Nat.le_refl _)) ?_
          intro v' wA hown hg
          have hown2 : wA.ownsRow w.heap.size 5 1 v' (qk s k ++ [c]).length (u8s (qk s k ++ [c])) := by
            rw [u8s_app, List.length_append]; exact hown
          have HOA := Lib.hid hown2
          have hfA := own_fr (hfr.alloc _) (own_keep HO.out ((Fr.refl _).alloc _)) hg
          clear hown hg hown2
          go_wp2_with fail
          go_roundw
          case rel => exact ⟨k + 1, by omega, by go_num, HRN.out, by rw [HQ.out]; exact HOA.out, hfA⟩
          case measure => simp [intOf]; omega
        | false =>
          have HP := Lib.hid hp
          have HN : Hid (quo s = ⟨nul, 3⟩) := Lib.hid (by
            have : run okq s 0 = k := by rw [HR.out, run_out (by rw [← HC.out]; unfold okq; rw [he, hp]; rfl)]
            unfold quo; rw [this, if_pos hlt])
          clear he hp
          go_wp2_with fail
          refine (escapeOf_any c _).mono ?_
          rintro e w1 ⟨rfl, rfl⟩
          rw [HE.out]
          go_wp2_with fail
          refine (isPlain_any c _).mono ?_
          rintro e w1 ⟨rfl, rfl⟩
          rw [HP.out]
          go_wp2_with fail
          go_ret2
          rw [HN.out]
          exact ⟨rfl, hfr⟩
    · have hd : decide ((k : Int) < (s.size : Int)) = false := decide_eq_false (by omega)
      obtain rfl : k = s.size := by omega
      have hr0 : run okq s 0 = s.size := by rw [HR.out, run_end (Nat.le_refl _)]
      by_cases h100 : 100 < s.size
      · have HN : Hid (quo s = ⟨nul, 2⟩) := Lib.hid (by unfold quo; rw [hr0, if_neg (by omega), if_pos h100])
        have hd2 : decide ((100 : Int) < (s.size : Int)) = true := decide_eq_true (by omega)
        clear hr0
        go_wp2_with fail
        go_ret2
        rw [HN.out]
        exact ⟨rfl, hfr⟩
      · have HN : Hid (quo s = ⟨ofL (qk s s.size ++ [34]), 0⟩) := Lib.hid (by unfold quo; rw [hr0, if_neg (by omega), if_neg h100])
        have hd2 : decide ((100 : Int) < (s.size : Int)) = false := decide_eq_false (by omega)
        clear hr0
        go_wp2_with (with_reducible refine stop_append ?_)
        unfold Stop
        refine wpList_append_sl rfl (.tmp 40) (.tmp 41) 70 rfl w.heap.size 5 u0 _ 1 Tryz.underlying70 HU.out.1 HU.out.2.1 HU.out.2.2.1 HU.out.2.2.2 rfl _ (qk s s.size).length _ rfl (own_keep HO.out ((Fr.refl _).alloc _)) _ 1 (fun _ => .int .u8 34) rfl (sl_one _ _ _) (fun _ => rfl) (by have := HL.out; unfold maxLen; omega) (by have := HL.out; omega) (Nat.le_trans (hfr.alloc _).size (Nat.le_refl _)) ?_
        intro v' wA hown hg
        have hown2 : wA.ownsRow w.heap.size 5 1 v' (qk s s.size ++ [34]).length (u8s (qk s s.size ++ [34])) := by
          rw [u8s_app, List.length_append]; exact hown
        have HOA := Lib.hid hown2
        have hfA := own_fr (hfr.alloc _) (own_keep HO.out ((Fr.refl _).alloc _)) hg
        clear hown hg hown2
        have hcv := conv_list (P := Tryz.prog) Tryz.underlying70 Tryz.underlying5 HOA.out 9 Tryz.underlying9
        go_wp2_with fail
        go_ret2
        rw [HN.out]
        exact ⟨rfl, hfA⟩
end Go.Proofs.YtdnckbcknahakaaGreat
