/- The contract of the document's own answer that changes a byte. -/
import Derived.Test.YtflkcelgbnojaaaN
import Derived.Test.YtflkcelgbnojaaaPJ
namespace Go.Proofs.Ytflkcelgbnojaaa
open Go.RowKit
set_option linter.unusedVariables false

theorem add_at (b off j : Nat) : (⟨b, off, none⟩ : Addr).add j = ⟨b, off + j, none⟩ := by unfold Addr.add; split <;> simp_all
theorem stop_append {P : Program} {ops : Array Oper} {rest : List Oper} {x y dst ty pos aft g} {a : Act} {w : World} {Q : Exit → Act → World → Prop}
    (h : Stop (wpList P ops Q (⟨dst, .call { callee := .builtin .append, args := x, argTypes := y }, ty, pos, aft, g⟩ :: rest) a w)) : wpList P ops Q (⟨dst, .call { callee := .builtin .append, args := x, argTypes := y }, ty, pos, aft, g⟩ :: rest) a w := h
theorem Try.infoInt : (Try.prog.info? 3).map (fun i => (i.zero, i.size, i.bytes)) = some (some (.int .i64 0), 1, 8) := by kernel_rfl
/-- The bytes of word k, with one changed. -/
def lk (f : Nat → Int) (s q r : Nat) (v : Int) (big : Bool) (k p : Nat) : Int := if k = q ∧ p = r then uns v 16 % 256 else byv (f k) (8 * plc s p big)
theorem lk_bd (f : Nat → Int) (s q r : Nat) (v : Int) (big : Bool) (k p : Nat) : 0 ≤ lk f s q r v big k p ∧ lk f s q r v big k p ≤ 255 := by
  unfold lk byv; split <;> omega
def outs (f : Nat → Int) (s q r : Nat) (v n : Int) (big : Bool) (k : Nat) : List Value := (List.range k).map fun j => Value.int .i64 (nrm (jn (lk f s q r v big j) s big s) n)
theorem outs_succ (f : Nat → Int) (s q r : Nat) (v n : Int) (big : Bool) (k : Nat) : outs f s q r v n big (k + 1) = outs f s q r v n big k ++ [Value.int .i64 (nrm (jn (lk f s q r v big k) s big s) n)] := by
  unfold outs; rw [List.range_succ, List.map_append]; rfl
theorem own_fr {w0 wr w' : World} {v : Value} {T : TypeId} {m : Nat} {xs : List Value} (h : Fr w0 wr) (ho : wr.ownsRow w0.heap.size T 1 v m xs) (hg : wr.grownBy w' v.ownBlock) : Fr w0 w' :=
  Below.grown h hg h.size (fun k hk => (ho.lt k hk).1)
theorem Fr.grow {a b : World} (h : Fr a b) : a.grownBy b none := ⟨h.os, h.tape, h.output, h.size, fun k hk _ => h.block k hk⟩
theorem own_keep {w0 wr w' : World} {v : Value} {T : TypeId} {m : Nat} {xs : List Value} (ho : wr.ownsRow w0.heap.size T 1 v m xs) (h : Fr wr w') : w'.ownsRow w0.heap.size T 1 v m xs :=
  ho.kept (Fr.grow h) (by cases v.ownBlock <;> simp)
theorem own_slv {w : World} {B : Nat} {T : TypeId} {v : Value} {m : Nat} {xs : List Value} {f : Nat → Value} (h : w.ownsRow B T 1 v m xs) (hx : ∀ j, j < m → xs[j]? = some (f j)) : SlV w v m f := by
  rcases h.2 with ⟨rfl, rfl⟩ | ⟨g, cap, cur, rfl, hb, hg, hm, _, hs, ht⟩
  · exact SlV.nil w f
  · refine ⟨_, cap, rfl, fun _ => ⟨g, 0, rfl, fun j hj => ?_⟩⟩
    rw [Nat.zero_add]
    have h1 := hx j hj
    rw [← ht, List.getElem?_take_of_lt (by omega)] at h1
    simp only [World.cell?, hg]
    simpa using h1

set_option maxHeartbeats 4000000 in
theorem RPutByte_at {n : Int} (hn : OkB n) (s : Nat) (hs : (s : Int) = szI n) (big : Bool) (b off L cap i : Nat) (v : Int) (f : Nat → Int) (w : World) (hq : i / s < L) (hL : L ≤ 1000000) (hr : Row w b off L (fun i => .int .i64 (f i))) :
    Calls Try.prog 29 #[.slice (some ⟨b, off, none⟩) L cap, .int .i64 i, .int .i64 v, .agg #[.int .i64 n, .bool big]] w fun e w' =>
      ∃ v' : Value, e = .returned (.tuple #[v', .int .i64 0]) ∧ SlV w' v' L (fun j => .int .i64 (nrm (jn (lk f s (i / s) (i % s) v big j) s big s) n)) ∧ Fr w w' := by
  have H := Lib.hid hn
  obtain ⟨s1, s2⟩ := szI_bd hn
  have h : okB n = true := by simpa [okB] using hn
  have hs1 : 2 ≤ s := by omega
  have hs2 : s ≤ 4 := by omega
  have hi : i ≤ 4000000 := by
    have := Nat.div_add_mod i s
    have hm : i % s < s := Nat.mod_lt _ (by omega)
    have : s * (i / s) ≤ 4 * (i / s) := Nat.mul_le_mul_right _ hs2
    omega
  obtain ⟨q, hqq⟩ : ∃ q, q = i / s := ⟨_, rfl⟩
  obtain ⟨r, hrr⟩ : ∃ r, r = i % s := ⟨_, rfl⟩
  have hrs : r < s := by rw [hrr]; exact Nat.mod_lt _ (by omega)
  have HS := Lib.hid hs
  rw [← hqq] at hq ⊢
  rw [← hrr]
  have hq2 : (i : Int) / (s : Int) = (q : Int) := by rw [hqq, Int.natCast_ediv]
  have hr2 : (i : Int) % (s : Int) = (r : Int) := by rw [hrr, Int.natCast_emod]
  have hw1 : IntKind.i64.wrap ((i : Int).tdiv (s : Int)) = (q : Int) := by
    rw [Int.tdiv_eq_ediv_of_nonneg (by omega), hq2]; exact IntWalk.i64_in _ (by omega)
  have hw3 : IntKind.i64.wrap (q : Int) = (q : Int) := IntWalk.i64_in _ (by omega)
  have hw4 : (i : Int).tmod (s : Int) = (r : Int) := by rw [Int.tmod_eq_emod_of_nonneg (by omega), hr2]
  have hs0 : ¬ (s : Int) = 0 := by omega
  have hs00 : ¬ s = 0 := by omega
  have hq0 : (0 : Int) ≤ q := by omega
  have hr0 : (0 : Int) ≤ r := by omega
  have hb1 : decide (L ≤ q) = false := decide_eq_false (by omega)
  have hb2 : decide ((i : Int) < 0) = false := decide_eq_false (by omega)
  have hb3 : decide ((L : Int) ≤ (q : Int)) = false := decide_eq_false (by omega)
  have HR := Lib.hid hr
  obtain ⟨i0, hi0, hz0, hz1, hz2⟩ := info_parts Try.infoInt
  obtain ⟨v1, v2⟩ := uns_bd (v := v) (b := 16) (.inl rfl)
  have hw5 : (uns v 16).tmod 256 = uns v 16 % 256 := Int.tmod_eq_emod_of_nonneg v1
  have HI := Lib.hid (And.intro hi0 (And.intro hz0 (And.intro hz1 hz2)))
  clear hr hn hqq hrr hs s1 s2 hi0 hz0 hz1 hz2
  go_enter Try.func29, Try.ntmps29
  go_wp2_with fail
  refine (rValid_any _ _ _).mono ?_; rintro e w1 ⟨rfl, hf⟩
  obtain ⟨c0, c1⟩ := Bx.fr (b := w.heap.size) (Bx.new _ _ _ _) hf
  go_wp2_with fail
  refine (rsize_any H.out _ _).mono ?_; rintro e w2 ⟨rfl, hf2⟩
  rw [← HS.out]
  have HB := Lib.hid (Bx.fr (b := w.heap.size) ⟨c0, c1⟩ hf2)
  have hfw := ((((Fr.refl w).alloc _).trans hf).trans hf2)
  have HRW := Lib.hid (HR.out.fr hfw)
  clear c0 c1 hf hf2
  go_wp2_with fail
  go_loopw [11, 12] (fun o i wr => ∃ k : Nat, k ≤ L ∧ i = .int .i64 k ∧ wr.ownsRow w2.heap.size 3 1 o k (outs f s q r v n big k) ∧ Fr w2 wr) (fun _ i _ => L - (intOf i).toNat)
  case atStart => exact ⟨0, Nat.zero_le _, rfl, World.ownsRow_nil _ _ _ _, Fr.refl _⟩
  case round =>
    obtain ⟨k, hk, rfl, hown, hfr⟩ := hrel
    have HO := Lib.hid hown
    clear hown
    by_cases hlt : k < L
    · have hcw := (HRW.out.fr hfr) k hlt
      obtain ⟨d0, d1⟩ := HB.out.fr hfr
      by_cases hkq : k = q
      · have htest : ((k : Int) == (q : Int)) = true := by rw [beq_iff_eq, hkq]
        have HK := Lib.hid hkq
        clear hkq
        go_wp2
        have hS : wr.drew.cell? ⟨b, off + k, none⟩ = some (.int .i64 (f k)) ∧ wr.drew.cell? ⟨w.heap.size, 0, none⟩ = some (.int .i64 n) ∧ wr.drew.cell? ⟨w.heap.size, 1, none⟩ = some (.bool big) ∧ Fr wr wr.drew := ⟨hcw, d0, d1, (Fr.refl wr).drew⟩
        clear hcw d0 d1
        go_region_held3 (fun W => W.cell? ⟨b, off + k, none⟩ = some (.int .i64 (f k)) ∧ W.cell? ⟨w.heap.size, 0, none⟩ = some (.int .i64 n) ∧ W.cell? ⟨w.heap.size, 1, none⟩ = some (.bool big) ∧ Fr wr W) (first | exact hS | exact keep4 (by assumption) (by assumption))
          ((first | (go_at_call 60; refine (split_any H.out _ _ s HS.out _).mono ?_; rintro e wx ⟨g3, rfl, hg3, hrow3, hf3⟩; have HR3 := Lib.hid hrow3; clear hrow3)))
        have hl := keep4 (w1 := wr) (b := b) (o := off + k) (g := w.heap.size) (x := .int .i64 (f k)) (y := .int .i64 n) (z := .bool big) (Fr.refl _) (by assumption)
        clear hS
        obtain ⟨m1, m2, m3, m4⟩ := hl
        have hc3 := HR3.out.cell hrs
        have hz3 := HR3.out.frozen r
        go_wp2
        go_region_with (go_at_call 48; refine (runs_any (.inl rfl) _ _).mono ?_; rintro e wz ⟨rfl, rfl⟩)
        have hg4 : wr.heap.size ≤ g3 := by first | exact hg3 | (exact Nat.le_trans (Fr.size (by assumption)) hg3)
        have hr8 : (wx.setCell ⟨g3, r, none⟩ (.int .i64 (uns v 16 % 256))).drew.rowIs g3 3 s (fun p => .int .i64 (lk f s q r v big k p)) := (HR3.out.set r _).congr (fun p hp => by
          have hkq := HK.out
          unfold lk
          by_cases hpr : p = r
          · rw [if_pos hpr, if_pos ⟨hkq, hpr⟩]
          · rw [if_neg hpr, if_neg (fun x => hpr x.2)])
        have hf8 : Fr wr (wx.setCell ⟨g3, r, none⟩ (.int .i64 (uns v 16 % 256))).drew := (m4.setCell hg4 _).drew
        have HR8 := Lib.hid hr8
        obtain ⟨e0, e1⟩ := (HB.out.fr hfr).fr hf8
        clear hr8 hc3 hz3 m1 m2 m3
        go_wp2_with fail
        refine (join_any H.out _ _ 0 s s (lk f s q r v big k) (fun p _ => lk_bd f s q r v big k p) (by omega) hs2 _ (fun p hp => by rw [Nat.zero_add]; exact HR8.out.cell hp)).mono ?_
        rintro e w9 ⟨rfl, hf9⟩
        have ho9 := own_keep HO.out ((hf8.trans hf9).alloc (.cells #[.int .i64 (nrm (jn (lk f s q r v big k) s big s) n)] 3))
        have HO9 := Lib.hid ho9
        clear ho9 e0 e1
        go_wp2_with (with_reducible refine stop_append ?_)
        unfold Stop
        refine wpList_append_own _ rfl (.tmp 54) (.tmp 58) 37 rfl w2.heap.size 3 i0 (.int .i64 0) 1 8 Try.underlying37 HI.out.1 HI.out.2.1 HI.out.2.2.1 HI.out.2.2.2 rfl (by decide) _ _ _ rfl HO9.out ⟨w9.heap.size, 0, none⟩ 1 1 [.int .i64 (nrm (jn (lk f s q r v big k) s big s) n)] rfl rfl ?c1 ?c2 ?c3 ?c4 ?c5 ?_
        case c1 => intro j u hu; obtain rfl : j = 0 := (by have := (List.getElem?_eq_some_iff.1 hu).1; simpa using this); rw [add_at]; simpa using hu
        case c2 => intro u hu; obtain rfl := List.mem_singleton.1 hu; rfl
        case c3 => unfold maxLen; omega
        case c4 => omega
        case c5 => exact Nat.le_trans ((hfr.trans (hf8.trans hf9)).alloc _).size (Nat.le_refl _)
        intro v' wA hownA hgA _
        have HOA := Lib.hid hownA
        have hfA : Fr w2 wA := own_fr (hfr.trans ((hf8.trans hf9).alloc _)) HO9.out hgA
        clear hownA hgA
        go_wp2_with fail
        go_roundw
        case rel => exact ⟨k + 1, by omega, by go_num, by rw [outs_succ]; exact HOA.out, hfA⟩
        case measure => simp [intOf]; omega
      · have htest : ((k : Int) == (q : Int)) = false := by rw [beq_eq_false_iff_ne]; omega
        have HK := Lib.hid hkq
        clear hkq
        go_wp2
        have hS : wr.drew.cell? ⟨b, off + k, none⟩ = some (.int .i64 (f k)) ∧ wr.drew.cell? ⟨w.heap.size, 0, none⟩ = some (.int .i64 n) ∧ wr.drew.cell? ⟨w.heap.size, 1, none⟩ = some (.bool big) ∧ Fr wr wr.drew := ⟨hcw, d0, d1, (Fr.refl wr).drew⟩
        clear hcw d0 d1
        go_region_held3 (fun W => W.cell? ⟨b, off + k, none⟩ = some (.int .i64 (f k)) ∧ W.cell? ⟨w.heap.size, 0, none⟩ = some (.int .i64 n) ∧ W.cell? ⟨w.heap.size, 1, none⟩ = some (.bool big) ∧ Fr wr W) (first | exact hS | exact keep4 (by assumption) (by assumption))
          ((first | (go_at_call 60; refine (split_any H.out _ _ s HS.out _).mono ?_; rintro e wx ⟨g3, rfl, hg3, hrow3, hf3⟩; have HR3 := Lib.hid hrow3; clear hrow3)))
        have hl := keep4 (w1 := wr) (b := b) (o := off + k) (g := w.heap.size) (x := .int .i64 (f k)) (y := .int .i64 n) (z := .bool big) (Fr.refl _) (by assumption)
        clear hS
        obtain ⟨m1, m2, m3, m4⟩ := hl
        have hr8 : wx.rowIs g3 3 s (fun p => .int .i64 (lk f s q r v big k p)) := HR3.out.congr (fun p hp => by
          unfold lk
          rw [if_neg (fun x => HK.out x.1)])
        have hf8 : Fr wr wx := m4
        have HR8 := Lib.hid hr8
        obtain ⟨e0, e1⟩ := (HB.out.fr hfr).fr hf8
        clear hr8 m1 m2 m3
        go_wp2_with fail
        refine (join_any H.out _ _ 0 s s (lk f s q r v big k) (fun p _ => lk_bd f s q r v big k p) (by omega) hs2 _ (fun p hp => by rw [Nat.zero_add]; exact HR8.out.cell hp)).mono ?_
        rintro e w9 ⟨rfl, hf9⟩
        have ho9 := own_keep HO.out ((hf8.trans hf9).alloc (.cells #[.int .i64 (nrm (jn (lk f s q r v big k) s big s) n)] 3))
        have HO9 := Lib.hid ho9
        clear ho9 e0 e1
        go_wp2_with (with_reducible refine stop_append ?_)
        unfold Stop
        refine wpList_append_own _ rfl (.tmp 54) (.tmp 58) 37 rfl w2.heap.size 3 i0 (.int .i64 0) 1 8 Try.underlying37 HI.out.1 HI.out.2.1 HI.out.2.2.1 HI.out.2.2.2 rfl (by decide) _ _ _ rfl HO9.out ⟨w9.heap.size, 0, none⟩ 1 1 [.int .i64 (nrm (jn (lk f s q r v big k) s big s) n)] rfl rfl ?c1 ?c2 ?c3 ?c4 ?c5 ?_
        case c1 => intro j u hu; obtain rfl : j = 0 := (by have := (List.getElem?_eq_some_iff.1 hu).1; simpa using this); rw [add_at]; simpa using hu
        case c2 => intro u hu; obtain rfl := List.mem_singleton.1 hu; rfl
        case c3 => unfold maxLen; omega
        case c4 => omega
        case c5 => exact Nat.le_trans ((hfr.trans (hf8.trans hf9)).alloc _).size (Nat.le_refl _)
        intro v' wA hownA hgA _
        have HOA := Lib.hid hownA
        have hfA : Fr w2 wA := own_fr (hfr.trans ((hf8.trans hf9).alloc _)) HO9.out hgA
        clear hownA hgA
        go_wp2_with fail
        go_roundw
        case rel => exact ⟨k + 1, by omega, by go_num, by rw [outs_succ]; exact HOA.out, hfA⟩
        case measure => simp [intOf]; omega
    · obtain rfl : k = L := by omega
      go_wp2_with fail
      go_ret2
      refine ⟨_, rfl, own_slv HO.out (fun j hj => ?_), hfw.trans hfr⟩
      unfold outs; simp [hj]
end Go.Proofs.Ytflkcelgbnojaaa
