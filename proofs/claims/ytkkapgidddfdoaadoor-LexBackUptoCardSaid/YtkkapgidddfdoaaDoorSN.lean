/- The contract of Scan. -/
import Derived.Test.YtkkapgidddfdoaaDoorSC
import Derived.Outline
namespace Go.Proofs.YtkkapgidddfdoaaDoor
open Go.RowKit
set_option linter.unusedVariables false

theorem Sb.blk {w : World} {b : Nat} {s : ByteArray} {mp g : Nat} (h : w.heap[b]? = some (.cells #[.string s, .map (some mp), .slice (some ⟨g, 0, none⟩) 28 28] 45 (0, 0))) : Sb w b s mp g := by
  unfold Sb; simp [World.cell?, h]
theorem mkS {w1 W : World} {b : Nat} {s : ByteArray} {mp g : Nat} (h : Sb w1 b s mp g) (k : Fr w1 W) : W.cell? ⟨b, 0, none⟩ = some (.string s) ∧ W.cell? ⟨b, 1, none⟩ = some (.map (some mp)) ∧ W.cell? ⟨b, 2, none⟩ = some (.slice (some ⟨g, 0, none⟩) 28 28) ∧ Fr w1 W :=
  ⟨k.cell h.1, k.cell h.2.1, k.cell h.2.2, k⟩
theorem tok_fr4 {w0 w1 : World} {b : Nat} (h : Fr w0 w1) (hb : w0.heap.size ≤ b) (x y z t : Value) : Fr w0 ((((w1.setCell ⟨b, 0, none⟩ x).setCell ⟨b, 1, none⟩ y).setCell ⟨b, 2, none⟩ z).setCell ⟨b, 3, none⟩ t) :=
  (((h.setCell hb x).setCell hb y).setCell hb z).setCell hb t
theorem Tb.set4 {w : World} {b : Nat} {x0 x1 x2 x3 : Value} (h : Tb w b x0 x1 x2 x3) (y0 y1 y2 y3 : Value) : Tb ((((w.setCell ⟨b, 0, none⟩ y0).setCell ⟨b, 1, none⟩ y1).setCell ⟨b, 2, none⟩ y2).setCell ⟨b, 3, none⟩ y3) b y0 y1 y2 y3 := by
  unfold Tb at h ⊢
  simp only [World.setCell, Array.getElem?_modify, if_true, h, Option.map_some]
  rfl
set_option maxRecDepth 100000 in
set_option maxHeartbeats 4000000 in
theorem Scan_any (s : ByteArray) (hs : s.size ≤ 9223372036854775807) (w : World) (hev : Ev w) :
    Calls Tryd.prog 13 #[.string s] w fun e w' => ∃ v : Value, e = .returned (.tuple #[v, .int .i64 (scan s).er, .int .i64 (scan s).a]) ∧ TkV w' v (scan s).l ∧ Fr w w' := by
  by_cases h4 : 40000 < s.size
  · have HC : Hid (scan s = ⟨[], 2, 0⟩) := Lib.hid (by unfold scan; rw [if_pos h4])
    have hd : decide ((40000 : Int) < s.size) = true := decide_eq_true (by omega)
    go_enter Tryd.func13, Tryd.ntmps13
    go_wp2_with fail
    go_ret3
    rw [HC.out]
    exact ⟨_, rfl, TkV.nil _, Fr.refl _⟩
  have hd : decide ((40000 : Int) < s.size) = false := decide_eq_false (by omega)
  have hsz : s.size ≤ 40000 := by omega
  have HSC : Hid (scan s = scG s [] (skp s 0)) := Lib.hid (by unfold scan; rw [if_neg h4])
  have HE := Lib.hid hev
  obtain ⟨i0, hi0, hz0, hz1, hz2⟩ := info_parts Tryd.infoTok
  have HI := Lib.hid (And.intro hi0 (And.intro hz0 (And.intro hz1 hz2)))
  have hsk := skp_bd s _ 0 rfl (Nat.zero_le _)
  obtain ⟨q0, hq0⟩ : ∃ q, q = skp s 0 := ⟨_, rfl⟩
  rw [← hq0] at hsk
  have HQ0 := Lib.hid hq0
  obtain ⟨_, hq1⟩ := hsk
  clear hi0 hz0 hz1 hz2 h4 hs hq0
  go_enter Tryd.func13, Tryd.ntmps13
  go_wp2_with fail
  refine (keywords_any _).mono ?_
  rintro e w1 ⟨mp, rfl, hlk, hf1⟩
  have HL1 := Lib.hid hlk
  clear hlk
  go_wp2_with fail
  refine (Signs_any _).mono ?_
  rintro e w2 ⟨g, rfl, hrow, hf2⟩
  have HK2 := Lib.hid (show Ks w2 mp g from ⟨fun W hW => HL1.out W (hf2.trans hW), hrow⟩)
  have hfw2 := hf1.trans hf2
  clear hrow
  go_wp2_with fail
  refine (skip_any s (by omega) mp g 0 (Nat.zero_le _) _).mono ?_
  rintro e w3 ⟨rfl, hf3⟩
  rw [← HQ0.out]
  have HS3 := Lib.hid (Sb.fr (Sb.new w2 s mp g 45) hf3)
  have hfw3 := hfw2.trans (((Fr.refl w2).alloc _).trans hf3)
  have HK3 := Lib.hid (HK2.out.fr (((Fr.refl w2).alloc _).trans hf3))
  have HE3 := Lib.hid (HE.out.fr hfw3)
  go_wp2_with fail
  go_loopw [6, 7] (fun v i wr => ∃ (acc : List Tp) (q : Nat), q ≤ s.size ∧ i = .int .i64 q ∧ acc.length ≤ 20000 ∧ scan s = scG s acc q ∧ wr.ownsRow w3.heap.size 38 4 v acc.length (toks acc) ∧ Fr w3 wr) (fun _ i _ => s.size - (intOf i).toNat)
  case atStart => exact ⟨[], q0, hq1, rfl, by simp, by rw [HSC.out, HQ0.out], World.ownsRow_nil _ _ _ _, Fr.refl _⟩
  case round =>
    obtain ⟨acc, q, hq, rfl, hacc, hsc, hown, hfr⟩ := hrel
    have HSQ := Lib.hid hsc
    have HO := Lib.hid hown
    have HK := Lib.hid (HK3.out.fr hfr)
    have HEV := Lib.hid (HE3.out.fr hfr)
    have HSB := Lib.hid (HS3.out.fr hfr)
    have hfwr := hfw3.trans hfr
    clear hsc hown
    by_cases hlt : q < s.size
    · obtain ⟨T, hT⟩ : ∃ T, T = tokAt s q := ⟨_, rfl⟩
      have hTe := @tokAt_e s q hlt
      rw [← hT] at hTe
      have HTE := Lib.hid hTe
      have HT := Lib.hid hT
      obtain ⟨ei, hei⟩ : ∃ ei : Int, ei = (T.er : Nat) := ⟨_, rfl⟩
      have HEI := Lib.hid hei
      have hb := bt_at s q hlt
      obtain ⟨F, hF⟩ : ∃ F, F = tfn (bt s q) := ⟨_, rfl⟩
      have hen := tfn_enter (bt s q)
      rw [← hF] at hen
      have HF := Lib.hid hF
      have hq0 : Fr wr wr.drew := (Fr.refl wr).drew
      have hqs : decide (q < s.size) = true := decide_eq_true hlt
      have b0 : (0 : Int) ≤ (q : Int) := by omega
      have b1 : (q : Int) < (s.size : Int) := by omega
      have HTL := Lib.hid (show ∀ W, Fr wr W → Calls Tryd.prog F #[.agg #[.string s, .map (some mp), .slice (some ⟨g, 0, none⟩) 28 28], .int .i64 q] W fun e w' => e = .returned (.tuple #[.agg #[.int .i64 T.k, .string T.t, .int .i64 T.n, .int .i64 0], .int .i64 T.e, .int .i64 ei]) ∧ Fr W w' from fun W hW => by
        rw [hF, hei, hT]; exact teller_any s (by omega) mp g q hlt W (HK.out.fr hW) (HEV.out.fr hW))
      clear hT hTe hF hei
      go_wp2_with fail
      go_region_held3 (fun W' => W'.cell? ⟨w2.heap.size, 0, none⟩ = some (.string s) ∧ W'.cell? ⟨w2.heap.size, 1, none⟩ = some (.map (some mp)) ∧ W'.cell? ⟨w2.heap.size, 2, none⟩ = some (.slice (some ⟨g, 0, none⟩) 28 28) ∧ Fr wr W')
        (first | exact mkS HSB.out (by assumption) | exact mkS HSB.out (Fr.alloc (by assumption) _) | exact mkS HSB.out (((Fr.refl wr).alloc _).drew) | exact mkS HSB.out (tok_fr4 (by assumption) (Nat.le_refl _) _ _ _ _) | exact mkS HSB.out (tok_fr4 (by assumption) (Below.size hq4) _ _ _ _))
        ((first
          | (go_at_call 29; refine (tellerOf_any s mp g (bt s q) _).mono ?_; rintro e w4 ⟨rfl, hf4⟩; rw [← HF.out]; have hq4 := Fr.trans (by first | assumption | exact ((Fr.refl wr).alloc _).drew) hf4; try (have hTB4 : Tb w4 wr.heap.size (.int .i64 0) (.string ⟨#[]⟩) (.int .i64 0) (.int .i64 0) := Tb.fr (w := (wr.alloc _).drew) (Tb.new wr _ _ _ _) hf4))
          | (refine (HTL.out _ (by assumption)).mono ?_; rintro e w5 ⟨rfl, hf5⟩; have hq5 := Fr.trans (by assumption) hf5; have hTB5 : Tb w5 wr.heap.size (.int .i64 0) (.string ⟨#[]⟩) (.int .i64 0) (.int .i64 0) := Tb.fr hTB4 hf5; obtain ⟨t0, t1, t2, t3⟩ := Tb.cells hTB5; have z0 := Tb.free hTB5 0; have z1 := Tb.free hTB5 1; have z2 := Tb.free hTB5 2; have z3 := Tb.free hTB5 3)
          | (refine (HTL.out _ (Fr.alloc (by assumption) _)).mono ?_; rintro e w5 ⟨rfl, hf5⟩; have hq5 := Fr.trans (Fr.alloc (by assumption) _) hf5; have hTB5 : Tb w5 w4.heap.size (.int .i64 0) (.string ⟨#[]⟩) (.int .i64 0) (.int .i64 0) := Tb.fr (Tb.new w4 _ _ _ _) hf5; obtain ⟨t0, t1, t2, t3⟩ := Tb.cells hTB5; have z0 := Tb.free hTB5 0; have z1 := Tb.free hTB5 1; have z2 := Tb.free hTB5 2; have z3 := Tb.free hTB5 3)
          | (refine (HTL.out _ (by assumption)).mono ?_; rintro e w5 ⟨rfl, hf5⟩; have hq5 := Fr.trans (by assumption) hf5)))
      all_goals (rename_i hH; have hW6 := hH.2.2.2; first
        | (have hT6 := Tb.set4 (b := wr.heap.size) hTB5 (.int .i64 T.k) (.string T.t) (.int .i64 T.n) (.int .i64 0); clear hH t0 t1 t2 t3 z0 z1 z2 z3 hTB5; generalize ((((w5.setCell ⟨wr.heap.size, 0, none⟩ (.int .i64 T.k)).setCell ⟨wr.heap.size, 1, none⟩ (.string T.t)).setCell ⟨wr.heap.size, 2, none⟩ (.int .i64 T.n)).setCell ⟨wr.heap.size, 3, none⟩ (.int .i64 0)) = W at hT6 hW6 ⊢; generalize hb : wr.heap.size = b at hT6 ⊢; have hb6 : wr.heap.size ≤ b := Nat.le_of_eq hb)
        | (have hT6 := Tb.set4 (b := w4.heap.size) hTB5 (.int .i64 T.k) (.string T.t) (.int .i64 T.n) (.int .i64 0); clear hH t0 t1 t2 t3 z0 z1 z2 z3 hTB5; generalize ((((w5.setCell ⟨w4.heap.size, 0, none⟩ (.int .i64 T.k)).setCell ⟨w4.heap.size, 1, none⟩ (.string T.t)).setCell ⟨w4.heap.size, 2, none⟩ (.int .i64 T.n)).setCell ⟨w4.heap.size, 3, none⟩ (.int .i64 0)) = W at hT6 hW6 ⊢; generalize hb : w4.heap.size = b at hT6 ⊢; have hb6 : wr.heap.size ≤ b := by (have h4 := Below.size hq4; omega))
        | (have hT6 := Tb.new w5 (.int .i64 T.k) (.string T.t) (.int .i64 T.n) (.int .i64 0); clear hH; generalize w5.alloc (.cells #[.int .i64 T.k, .string T.t, .int .i64 T.n, .int .i64 0] 38) = W at hT6 hW6 ⊢; generalize hb : w5.heap.size = b at hT6 ⊢; have hb6 : wr.heap.size ≤ b := by (have h5 := Below.size hq5; omega)))
      all_goals clear hb hf4 hf5 hq4 hq5
      all_goals
        by_cases hz : ei = 0
        · subst hz
          have h0 : (tokAt s q).er = 0 := by rw [← HT.out]; have := HEI.out; omega
          obtain ⟨A0, c0, rfl⟩ := own_form HO.out
          by_cases hfull : acc.length = 20000
          · have HC := Lib.hid (show scan s = ⟨[], 2, q⟩ by rw [HSQ.out]; exact scG_full hlt h0 hfull)
            have hd2 : ((acc.length : Int) == 20000) = true := by rw [beq_iff_eq]; omega
            clear h0 hfull
            go_wp2_with fail
            go_ret3
            rw [HC.out]
            exact ⟨_, rfl, TkV.nil _, hfwr.trans hW6⟩
          · have hd2 : ((acc.length : Int) == 20000) = false := by rw [beq_eq_false_iff_ne]; omega
            have HC := Lib.hid (show scan s = scG s (acc ++ [⟨T.k, T.t, T.n, q⟩]) (skp s T.e) by rw [HSQ.out, scG_step hlt h0 hfull, HT.out])
            obtain ⟨te1, te2⟩ := HTE.out (by rw [HT.out]; exact h0)
            obtain ⟨t0, t1, t2, t3⟩ := hT6.cells
            have z3 := hT6.free 3
            clear h0
            have hw3 := hfr.size
            have hfW := (((hfr.trans hW6).setCell (p := ⟨b, 3, none⟩) (Nat.le_trans hw3 hb6) (.int .i64 q)).alloc (.cells #[.int .i64 T.k, .string T.t, .int .i64 T.n, .int .i64 q] 38))
            have HOW := Lib.hid (own_keep HO.out ((hW6.setCell (p := ⟨b, 3, none⟩) hb6 (.int .i64 q)).alloc (.cells #[.int .i64 T.k, .string T.t, .int .i64 T.n, .int .i64 q] 38)))
            go_wp2_with (with_reducible refine stop_append ?_)
            unfold Stop
            refine wpList_append_own _ rfl (.tmp 48) (.tmp 50) 22 rfl w3.heap.size 38 i0 (.agg #[.int .i64 0, .string ⟨#[]⟩, .int .i64 0, .int .i64 0]) 4 40 Tryd.underlying22 HI.out.1 HI.out.2.1 HI.out.2.2.1 HI.out.2.2.2 rfl (by decide) _ _ _ rfl HOW.out ⟨W.heap.size, 0, none⟩ 1 1 (cellsT ⟨T.k, T.t, T.n, q⟩) rfl rfl ?c1 ?c2 ?c3 ?c4 ?c5 ?_
            case c1 =>
              intro j u hu
              have hbk := Tb.new (W.setCell ⟨b, 3, none⟩ (.int .i64 q)) (.int .i64 T.k) (.string T.t) (.int .i64 T.n) (.int .i64 q)
              obtain ⟨y0, y1, y2, y3⟩ := hbk.cells
              have hz5 : (W.setCell ⟨b, 3, none⟩ (.int .i64 q)).heap.size = W.heap.size := by simp
              rw [hz5] at y0 y1 y2 y3
              rw [ap_add, Nat.zero_add]
              match j, hu with
              | 0, hu => obtain rfl : _ = u := Option.some.inj hu; exact y0
              | 1, hu => obtain rfl : _ = u := Option.some.inj hu; exact y1
              | 2, hu => obtain rfl : _ = u := Option.some.inj hu; exact y2
              | 3, hu => obtain rfl : _ = u := Option.some.inj hu; exact y3
            case c2 =>
              intro u hu
              simp only [cellsT, List.mem_cons, List.not_mem_nil, or_false] at hu
              rcases hu with rfl | rfl | rfl | rfl <;> rfl
            case c3 => unfold maxLen; omega
            case c4 => omega
            case c5 => exact Nat.le_trans hfW.size (Nat.le_refl _)
            intro v' wA hownA hgA _
            have hown2 : wA.ownsRow w3.heap.size 38 4 v' (acc ++ [(⟨T.k, T.t, T.n, q⟩ : Tp)]).length (toks (acc ++ [⟨T.k, T.t, T.n, q⟩])) := by
              rw [toks_snoc, List.length_append]; exact hownA
            have HOA := Lib.hid hown2
            have hfA : Fr w3 wA := own_fr hfW HOW.out hgA
            obtain ⟨c0', c1', c2'⟩ := HS3.out.fr hfA
            clear hownA hgA hown2 hfW t0 t1 t2 t3 z3
            go_wp2_with fail
            refine (skip_any s (by omega) mp g T.e te2 _).mono ?_
            rintro e w7 ⟨rfl, hf7⟩
            have hsk := skp_bd s _ T.e rfl te2
            have HO7 := Lib.hid (show w7.ownsRow w3.heap.size 38 4 v' (acc ++ [(⟨T.k, T.t, T.n, q⟩ : Tp)]).length (toks (acc ++ [⟨T.k, T.t, T.n, q⟩])) from own_keep HOA.out hf7)
            have hf37 := hfA.trans hf7
            go_wp2_with fail
            go_roundw
            case rel => exact ⟨acc ++ [⟨T.k, T.t, T.n, q⟩], skp s T.e, hsk.2, rfl, by rw [List.length_append, List.length_singleton]; omega, HC.out, HO7.out, hf37⟩
            case measure => simp [intOf]; omega
        · have hz2 : (ei == 0) = false := by rw [beq_eq_false_iff_ne]; exact hz
          have h0 : (tokAt s q).er ≠ 0 := by rw [← HT.out]; have := HEI.out; omega
          have HC := Lib.hid (show scan s = ⟨[], T.er, q⟩ by rw [HSQ.out, scG_err hlt h0, HT.out])
          clear h0
          go_wp2_with fail
          go_ret3
          rw [HC.out]
          exact ⟨.slice none 0 0, (by rw [← HEI.out]; rfl), TkV.nil _, hfwr.trans hW6⟩
    · have hqs : decide ((q : Int) < (s.size : Int)) = false := decide_eq_false (by omega)
      obtain ⟨A0, c0, rfl⟩ := own_form HO.out
      by_cases hfull : acc.length = 20000
      · have HC := Lib.hid (show scan s = ⟨[], 2, s.size⟩ by rw [HSQ.out]; exact scG_over hlt hfull)
        have hd2 : ((acc.length : Int) == 20000) = true := by rw [beq_iff_eq]; omega
        clear hfull
        go_wp2_with fail
        go_ret3
        rw [HC.out]
        exact ⟨_, rfl, TkV.nil _, hfwr⟩
      · have HC := Lib.hid (show scan s = ⟨acc ++ [⟨0, nul, 0, s.size⟩], 0, 0⟩ by rw [HSQ.out]; exact scG_end hlt hfull)
        have hd2 : ((acc.length : Int) == 20000) = false := by rw [beq_eq_false_iff_ne]; omega
        have hfW := hfr.alloc (.cells #[.int .i64 0, .string ⟨#[]⟩, .int .i64 0, .int .i64 s.size] 38)
        have HOW := Lib.hid (own_keep HO.out ((Fr.refl wr).alloc (.cells #[.int .i64 0, .string ⟨#[]⟩, .int .i64 0, .int .i64 s.size] 38)))
        go_wp2_with (with_reducible refine stop_append ?_)
        unfold Stop
        refine wpList_append_own _ rfl (.tmp 60) (.tmp 64) 22 rfl w3.heap.size 38 i0 (.agg #[.int .i64 0, .string ⟨#[]⟩, .int .i64 0, .int .i64 0]) 4 40 Tryd.underlying22 HI.out.1 HI.out.2.1 HI.out.2.2.1 HI.out.2.2.2 rfl (by decide) _ _ _ rfl HOW.out ⟨wr.heap.size, 0, none⟩ 1 1 (cellsT ⟨0, nul, 0, s.size⟩) rfl rfl ?c1 ?c2 ?c3 ?c4 ?c5 ?_
        case c1 =>
          intro j u hu
          obtain ⟨y0, y1, y2, y3⟩ := (Tb.new wr (.int .i64 0) (.string ⟨#[]⟩) (.int .i64 0) (.int .i64 s.size)).cells
          rw [ap_add, Nat.zero_add]
          match j, hu with
          | 0, hu => obtain rfl : _ = u := Option.some.inj hu; exact y0
          | 1, hu => obtain rfl : _ = u := Option.some.inj hu; exact y1
          | 2, hu => obtain rfl : _ = u := Option.some.inj hu; exact y2
          | 3, hu => obtain rfl : _ = u := Option.some.inj hu; exact y3
        case c2 =>
          intro u hu
          simp only [cellsT, List.mem_cons, List.not_mem_nil, or_false] at hu
          rcases hu with rfl | rfl | rfl | rfl <;> rfl
        case c3 => unfold maxLen; omega
        case c4 => omega
        case c5 => exact Nat.le_trans hfW.size (Nat.le_refl _)
        intro v' wA hownA hgA _
        have hown2 : wA.ownsRow w3.heap.size 38 4 v' (acc ++ [(⟨0, nul, 0, s.size⟩ : Tp)]).length (toks (acc ++ [⟨0, nul, 0, s.size⟩])) := by
          rw [toks_snoc, List.length_append]; exact hownA
        have HOA := Lib.hid hown2
        have hfA : Fr w3 wA := own_fr hfW HOW.out hgA
        clear hownA hgA hown2 hfW
        go_wp2_with fail
        go_ret3
        rw [HC.out]
        exact ⟨_, rfl, TkV.own HOA.out, hfw3.trans hfA⟩
end Go.Proofs.YtkkapgidddfdoaaDoor
