/- The document's own scanner: the contract of Scan. -/
import Derived.Test.YtkkapgidddfdoaaDoorRX
import Derived.Test.YtkkapgidddfdoaaDoorSN
namespace Go.Proofs.YtkkapgidddfdoaaDoor
open Go.RowKit
set_option linter.unusedVariables false

theorem rtok_ok {T : Tk} {a : Nat} (h : T.er = 0) : rtok T a = .tuple #[.agg #[.int .i64 T.k, .string T.t, .int .i64 T.n, .int .i64 a], .int .i64 T.e, .int .i64 0] := by
  unfold rtok; rw [h, if_pos rfl, if_pos rfl]; rfl
set_option maxRecDepth 100000 in
set_option maxHeartbeats 4000000 in
theorem RScan_any (s : ByteArray) (hs : s.size ≤ 9223372036854775807) (w : World) :
    Calls Tryd.prog 14 #[.string s] w fun e w' => ∃ v : Value, e = .returned (.tuple #[v, .int .i64 (scan s).er, .int .i64 (scan s).a]) ∧ TkV w' v (scan s).l ∧ Fr w w' := by
  by_cases h4 : 40000 < s.size
  · have HC : Hid (scan s = ⟨[], 2, 0⟩) := Lib.hid (by unfold scan; rw [if_pos h4])
    have hd : decide ((40000 : Int) < s.size) = true := decide_eq_true (by omega)
    go_enter Tryd.func14, Tryd.ntmps14
    go_wp2_with fail
    go_ret3
    rw [HC.out]
    exact ⟨_, rfl, TkV.nil _, Fr.refl _⟩
  have hd : decide ((40000 : Int) < s.size) = false := decide_eq_false (by omega)
  have hsz : s.size ≤ 40000 := by omega
  have HSC : Hid (scan s = scG s [] (skp s 0)) := Lib.hid (by unfold scan; rw [if_neg h4])
  obtain ⟨i0, hi0, hz0, hz1, hz2⟩ := info_parts Tryd.infoTok
  have HI := Lib.hid (And.intro hi0 (And.intro hz0 (And.intro hz1 hz2)))
  have hsk := skp_bd s _ 0 rfl (Nat.zero_le _)
  obtain ⟨q0, hq0⟩ : ∃ q, q = skp s 0 := ⟨_, rfl⟩
  rw [← hq0] at hsk
  have HQ0 := Lib.hid hq0
  obtain ⟨_, hq1⟩ := hsk
  clear hi0 hz0 hz1 hz2 h4 hs hq0
  go_enter Tryd.func14, Tryd.ntmps14
  go_wp2_with fail
  refine (Rbehind_any s (by omega) 0 (Nat.zero_le _) _).mono ?_
  rintro e w1 ⟨rfl, rfl⟩
  rw [← HQ0.out]
  go_wp2_with fail
  go_loopw [5, 6] (fun v i wr => ∃ (acc : List Tp) (q : Nat), q ≤ s.size ∧ i = .int .i64 q ∧ acc.length ≤ 20000 ∧ scan s = scG s acc q ∧ wr.ownsRow w.heap.size 38 4 v acc.length (toks acc) ∧ Fr w wr) (fun _ i _ => s.size - (intOf i).toNat)
  case atStart => exact ⟨[], q0, hq1, rfl, by simp, by rw [HSC.out, HQ0.out], World.ownsRow_nil _ _ _ _, Fr.refl _⟩
  case round =>
    obtain ⟨acc, q, hq, rfl, hacc, hsc, hown, hfr⟩ := hrel
    have HSQ := Lib.hid hsc
    have HO := Lib.hid hown
    clear hsc hown
    by_cases hlt : q < s.size
    · obtain ⟨T, hT⟩ : ∃ T, T = tokAt s q := ⟨_, rfl⟩
      have hTe := @tokAt_e s q hlt
      rw [← hT] at hTe
      have HTE := Lib.hid hTe
      have HT := Lib.hid hT
      have HNX := Lib.hid (fun w => Rnext_any s (by omega) q hlt w)
      have hqs : decide ((q : Int) < (s.size : Int)) = true := decide_eq_true (by omega)
      obtain ⟨A0, c0, rfl⟩ := own_form HO.out
      clear hT hTe
      by_cases hz : T.er = 0
      · have h0 : (tokAt s q).er = 0 := by rw [← HT.out]; exact hz
        have hrt := rtok_ok (a := q) hz
        obtain ⟨te1, te2⟩ := HTE.out hz
        go_wp2_with fail
        refine (HNX.out _).mono ?_
        rintro e w5 ⟨rfl, hf5⟩
        rw [← HT.out, hrt]
        clear hrt
        have HF5 := Lib.hid (hfr.trans hf5)
        have HO5 := Lib.hid (own_keep HO.out hf5)
        by_cases hfull : acc.length = 20000
        · have HC := Lib.hid (show scan s = ⟨[], 2, q⟩ by rw [HSQ.out]; exact scG_full hlt h0 hfull)
          have hd2 : decide ((20000 : Int) ≤ (acc.length : Int)) = true := decide_eq_true (by omega)
          clear h0 hfull hz
          go_wp2_with fail
          go_ret3
          rw [HC.out]
          exact ⟨_, rfl, TkV.nil _, HF5.out.alloc _⟩
        · have hd2 : decide ((20000 : Int) ≤ (acc.length : Int)) = false := decide_eq_false (by omega)
          have HC := Lib.hid (show scan s = scG s (acc ++ [⟨T.k, T.t, T.n, q⟩]) (skp s T.e) by rw [HSQ.out, scG_step hlt h0 hfull, HT.out])
          obtain ⟨w6, hw6⟩ : ∃ W, W = w5.alloc (.cells #[.int .i64 T.k, .string T.t, .int .i64 T.n, .int .i64 q] 38) := ⟨_, rfl⟩
          have hsz6 : w6.heap.size = w5.heap.size + 1 := by rw [hw6]; simp
          have hT6 : Tb w6 w5.heap.size (.int .i64 T.k) (.string T.t) (.int .i64 T.n) (.int .i64 q) := by rw [hw6]; exact Tb.new w5 _ _ _ _
          have HF6 := Lib.hid (show Fr w w6 by rw [hw6]; exact HF5.out.alloc _)
          have HO6 := Lib.hid (own_keep HO5.out (show Fr w5 w6 by rw [hw6]; exact (Fr.refl _).alloc _))
          have hfW := HF6.out.alloc (.cells #[.int .i64 T.k, .string T.t, .int .i64 T.n, .int .i64 q] 38)
          have HOW := Lib.hid (own_keep HO6.out ((Fr.refl w6).alloc (.cells #[.int .i64 T.k, .string T.t, .int .i64 T.n, .int .i64 q] 38)))
          clear h0 hz
          go_wp2_with (with_reducible refine stop_append ?_)
          rw [← hw6]
          unfold Stop
          refine wpList_append_own _ rfl (.tmp 37) (.tmp 39) 22 rfl w.heap.size 38 i0 (.agg #[.int .i64 0, .string ⟨#[]⟩, .int .i64 0, .int .i64 0]) 4 40 Tryd.underlying22 HI.out.1 HI.out.2.1 HI.out.2.2.1 HI.out.2.2.2 rfl (by decide) _ _ _ rfl HOW.out ⟨w5.heap.size + 1, 0, none⟩ 1 1 (cellsT ⟨T.k, T.t, T.n, q⟩) rfl rfl ?c1 ?c2 ?c3 ?c4 ?c5 ?_
          case c1 =>
            intro j u hu
            have hbk := Tb.new w6 (.int .i64 T.k) (.string T.t) (.int .i64 T.n) (.int .i64 q)
            obtain ⟨y0, y1, y2, y3⟩ := hbk.cells
            rw [ap_add, Nat.zero_add, ← hsz6]
            match j, hu with
            | 0, hu => obtain rfl : _ = u := Option.some.inj hu; exact y0
            | 1, hu => obtain rfl : _ = u := Option.some.inj hu; exact y1
            | 2, hu => obtain rfl : _ = u := Option.some.inj hu; exact y2
            | 3, hu => obtain rfl : _ = u := Option.some.inj hu; exact y3
          case c2 =>
            intro u hu
            simp only [cellsT, List.mem_cons, List.not_mem_nil, or_false] at hu
            rcases hu with rfl | rfl | rfl | rfl <;> rfl
          case c3 => unfold maxLen; omega
          case c4 => omega
          case c5 => exact Nat.le_trans hfW.size (Nat.le_refl _)
          intro v' wA hownA hgA _
          have hown2 : wA.ownsRow w.heap.size 38 4 v' (acc ++ [(⟨T.k, T.t, T.n, q⟩ : Tp)]).length (toks (acc ++ [⟨T.k, T.t, T.n, q⟩])) := by
            rw [toks_snoc, List.length_append]; exact hownA
          have HOA := Lib.hid hown2
          have hfA : Fr w wA := own_fr hfW HOW.out hgA
          clear hownA hgA hown2 hfW hw6 hT6 hsz6
          go_wp2_with fail
          refine (Rbehind_any s (by omega) T.e te2 _).mono ?_
          rintro e w7 ⟨rfl, rfl⟩
          have hsk := skp_bd s _ T.e rfl te2
          go_wp2_with fail
          go_roundw
          case rel => exact ⟨acc ++ [⟨T.k, T.t, T.n, q⟩], skp s T.e, hsk.2, rfl, by rw [List.length_append, List.length_singleton]; omega, HC.out, HOA.out, hfA⟩
          case measure => simp [intOf]; omega
      · have h0 : (tokAt s q).er ≠ 0 := by rw [← HT.out]; exact hz
        have HC := Lib.hid (show scan s = ⟨[], T.er, q⟩ by rw [HSQ.out, scG_err hlt h0, HT.out])
        obtain ⟨x, y, hxy⟩ := rtok_form T q
        obtain ⟨ei, hei⟩ : ∃ ei : Int, ei = (T.er : Nat) := ⟨_, rfl⟩
        rw [← hei] at hxy
        have hz2 : (ei == 0) = false := by rw [beq_eq_false_iff_ne]; omega
        have HEI := Lib.hid hei
        clear h0 hz hei
        go_wp2_with fail
        refine (HNX.out _).mono ?_
        rintro e w5 ⟨rfl, hf5⟩
        rw [← HT.out, hxy]
        clear hxy
        have HF5 := Lib.hid (hfr.trans hf5)
        go_wp2_with fail
        go_ret3
        rw [HC.out]
        exact ⟨.slice none 0 0, (by rw [← HEI.out]; rfl), TkV.nil _, HF5.out.alloc _⟩
    · have hqs : decide ((q : Int) < (s.size : Int)) = false := decide_eq_false (by omega)
      obtain ⟨A0, c0, rfl⟩ := own_form HO.out
      by_cases hfull : acc.length = 20000
      · have HC := Lib.hid (show scan s = ⟨[], 2, s.size⟩ by rw [HSQ.out]; exact scG_over hlt hfull)
        have hd2 : decide ((20000 : Int) ≤ (acc.length : Int)) = true := decide_eq_true (by omega)
        clear hfull
        go_wp2_with fail
        go_ret3
        rw [HC.out]
        exact ⟨_, rfl, TkV.nil _, hfr⟩
      · have HC := Lib.hid (show scan s = ⟨acc ++ [⟨0, nul, 0, s.size⟩], 0, 0⟩ by rw [HSQ.out]; exact scG_end hlt hfull)
        have hd2 : decide ((20000 : Int) ≤ (acc.length : Int)) = false := decide_eq_false (by omega)
        have hfW := hfr.alloc (.cells #[.int .i64 0, .string ⟨#[]⟩, .int .i64 0, .int .i64 s.size] 38)
        have HOW := Lib.hid (own_keep HO.out ((Fr.refl wr).alloc (.cells #[.int .i64 0, .string ⟨#[]⟩, .int .i64 0, .int .i64 s.size] 38)))
        go_wp2_with (with_reducible refine stop_append ?_)
        unfold Stop
        refine wpList_append_own _ rfl (.tmp 49) (.tmp 53) 22 rfl w.heap.size 38 i0 (.agg #[.int .i64 0, .string ⟨#[]⟩, .int .i64 0, .int .i64 0]) 4 40 Tryd.underlying22 HI.out.1 HI.out.2.1 HI.out.2.2.1 HI.out.2.2.2 rfl (by decide) _ _ _ rfl HOW.out ⟨wr.heap.size, 0, none⟩ 1 1 (cellsT ⟨0, nul, 0, s.size⟩) rfl rfl ?c1 ?c2 ?c3 ?c4 ?c5 ?_
        case c1 =>
          intro j u hu
          obtain ⟨y0, y1, y2, y3⟩ := (Tb.new wr (.int .i64 0) (.string ⟨#[]⟩) (.int .i64 0) (.int .i64 s.size)).cells
          rw [ap_add, Nat.zero_add]
          match j, hu with
          | 0, hu => obtain rfl : _ = u := Option.some.inj hu; exact y0
          | 1, hu => obtain rfl : _ = u := Option.some.inj hu; exact y1
          | 2, hu => obtain rfl : _ = u := Option.some.inj hu; exact y2
          | 3, hu => obtain rfl : _ = u := Option.some.inj hu; exact y3
        case c2 =>
          intro u hu
          simp only [cellsT, List.mem_cons, List.not_mem_nil, or_false] at hu
          rcases hu with rfl | rfl | rfl | rfl <;> rfl
        case c3 => unfold maxLen; omega
        case c4 => omega
        case c5 => exact Nat.le_trans hfW.size (Nat.le_refl _)
        intro v' wA hownA hgA _
        have hown2 : wA.ownsRow w.heap.size 38 4 v' (acc ++ [(⟨0, nul, 0, s.size⟩ : Tp)]).length (toks (acc ++ [⟨0, nul, 0, s.size⟩])) := by
          rw [toks_snoc, List.length_append]; exact hownA
        have HOA := Lib.hid hown2
        have hfA : Fr w wA := own_fr hfW HOW.out hgA
        clear hownA hgA hown2 hfW
        go_wp2_with fail
        go_ret3
        rw [HC.out]
        exact ⟨_, rfl, TkV.own HOA.out, hfA⟩
end Go.Proofs.YtkkapgidddfdoaaDoor
