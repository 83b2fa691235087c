/- The contract of the method that tells a text. -/
import Derived.Test.YtkkapgidddfdoaaDoorV
import Derived.Test.YtkkapgidddfdoaaDoorAP
import Derived.Laws.BytesArg
import Derived.Laws.EntriesVeiled
namespace Go.Proofs.YtkkapgidddfdoaaDoor
open Go.RowKit
set_option linter.unusedVariables false

theorem Tryd.infoU8 : (Tryd.prog.info? 5).map (fun i => (i.zero, i.size, i.bytes)) = some (some (.int .u8 0), 1, 1) := by kernel_rfl
def Stop (p : Prop) : Prop := p
theorem stop_append {P : Program} {ops : Array Oper} {rest : List Oper} {x y dst ty pos aft g} {a : Act} {w : World} {Q : Exit → Act → World → Prop}
    (h : Stop (wpList P ops Q (⟨dst, .call { callee := .builtin .append, args := x, argTypes := y }, ty, pos, aft, g⟩ :: rest) a w)) : wpList P ops Q (⟨dst, .call { callee := .builtin .append, args := x, argTypes := y }, ty, pos, aft, g⟩ :: rest) a w := h
theorem own_fr {w0 wr w' : World} {v : Value} {T : TypeId} {z m : Nat} {xs : List Value} (h : Fr w0 wr) (ho : wr.ownsRow w0.heap.size T z v m xs) (hg : wr.grownBy w' v.ownBlock) : Fr w0 w' :=
  Below.grown h hg h.size (fun k hk => (ho.lt k hk).1)
theorem Fr.grow {a b : World} (h : Fr a b) : a.grownBy b none := ⟨h.os, h.tape, h.output, h.size, fun k hk _ => h.block k hk⟩
theorem own_keep {w0 wr w' : World} {v : Value} {T : TypeId} {z m : Nat} {xs : List Value} (ho : wr.ownsRow w0.heap.size T z v m xs) (h : Fr wr w') : w'.ownsRow w0.heap.size T z v m xs :=
  ho.kept (Fr.grow h) (by cases v.ownBlock <;> simp)
theorem sl_one (W : World) (x : Value) (T : TypeId) : SlV (W.alloc (.cells #[x] T)) (.slice (some ⟨W.heap.size, 0, none⟩) 1 1) 1 (fun _ => x) :=
  ⟨_, 1, rfl, fun _ => ⟨W.heap.size, 0, rfl, fun i hi => by obtain rfl : i = 0 := (by omega); simp⟩⟩
theorem own_form {w : World} {B : Nat} {T : TypeId} {z m : Nat} {v : Value} {xs : List Value} (h : w.ownsRow B T z v m xs) : ∃ a c, v = .slice a m c := by
  rcases h.2 with ⟨rfl, rfl⟩ | ⟨g, cap, cur, rfl, _⟩
  · exact ⟨none, 0, rfl⟩
  · exact ⟨_, cap, rfl⟩
def u8s (l : List Nat) : List Value := l.map fun (c : Nat) => Value.int .u8 (c : Int)
theorem conv_list {P : Program} {w : World} {B : Nat} {src e : TypeId} {v : Value} {l : List Nat} (hs : P.underlying src = some (.slice e)) (he : P.underlying e = some (.int .u8)) (h : w.ownsRow B e 1 v l.length (u8s l)) :
    ∀ dst, P.underlying dst = some .string → (convert src dst v).run P w = .ok (.string (ofL l)) w := by
  intro dst hd
  rcases h.2 with ⟨rfl, h0⟩ | ⟨g, cap, cur, rfl, hb, hg, hm, _, hsz, ht⟩
  · obtain rfl : l = [] := List.eq_nil_of_length_eq_zero h0
    exact run_convert_bytes_nil w src e hs he 0 0 dst hd
  · refine run_convert_bytes_arg w src e hs he g 0 l.length cap _ (by simp) (fun i hi => ?_) dst hd
    have h1 : (u8s l)[i]? = some (.int .u8 (l[i] : Nat)) := by unfold u8s; simp [hi]
    rw [← ht, Nat.mul_one, List.getElem?_take_of_lt hi] at h1
    rw [Nat.zero_add]
    simp only [World.cell?, hg]
    simpa [List.getD, hi] using h1
set_option maxHeartbeats 2000000 in
theorem text_any (s : ByteArray) (hs : s.size ≤ 1000000) (mp g a : Nat) (ha : a < s.size) (w : World) :
    Calls Tryd.prog 53 #[.agg #[.string s, .map (some mp), .slice (some ⟨g, 0, none⟩) 28 28], .int .i64 a] w fun e w' =>
      e = .returned (.tuple #[.agg #[.int .i64 (strT s a).k, .string (strT s a).t, .int .i64 (strT s a).n, .int .i64 0], .int .i64 (strT s a).e, .int .i64 (strT s a).er]) ∧ Fr w w' := by
  obtain ⟨w0, hw0⟩ : ∃ w0, w0 = ((w.alloc (.cells #[.string s, .map (some mp), .slice (some ⟨g, 0, none⟩) 28 28] 45)).alloc (.cells #[.int .i64 0, .string ⟨#[]⟩, .int .i64 0, .int .i64 0] 38)) := ⟨_, rfl⟩
  have hf0 : Fr w w0 := by rw [hw0]; exact ((Fr.refl w).alloc _).alloc _
  have HS0 := Lib.hid (show Sb w0 w.heap.size s mp g by rw [hw0]; exact (Sb.new w s mp g 45).fr ((Fr.refl _).alloc _))
  have HT0 := Lib.hid (show Tb w0 (w.heap.size + 1) (.int .i64 0) (.string ⟨#[]⟩) (.int .i64 0) (.int .i64 0) by rw [hw0]; exact Tb.new1 w (.cells #[.string s, .map (some mp), .slice (some ⟨g, 0, none⟩) 28 28] 45) (.int .i64 0) (.string ⟨#[]⟩) (.int .i64 0) (.int .i64 0))
  have HW0 := Lib.hid hw0
  obtain ⟨u0, hi0, hz0, hz1, hz2⟩ := info_parts Tryd.infoU8
  have HU := Lib.hid (And.intro hi0 (And.intro hz0 (And.intro hz1 hz2)))
  clear hw0 hi0 hz0 hz1 hz2
  go_enter Tryd.func53, Tryd.ntmps53
  go_wp2_with fail
  rw [← HW0.out]
  go_loopw [7, 8] (fun o i wr => ∃ (l : List Nat) (q : Nat), q ≤ s.size ∧ i = .int .i64 q ∧ l.length ≤ q ∧ strO s (a + 1) = (strO s q).map (fun p => (l ++ p.1, p.2)) ∧ wr.ownsRow w0.heap.size 5 1 o l.length (u8s l) ∧ Fr w0 wr) (fun _ i _ => s.size + 1 - (intOf i).toNat)
  case atStart => exact ⟨[], a + 1, by omega, by go_num, by simp, by simp, World.ownsRow_nil _ _ _ _, Fr.refl _⟩
  case round =>
    obtain ⟨l, q, hq, rfl, hlq, hstr, hown, hfr⟩ := hrel
    have HSTR := Lib.hid hstr
    have HO := Lib.hid hown
    obtain ⟨c0, c1, c2⟩ := HS0.out.fr hfr
    clear hstr hown
    cases hh : hasC s q 34 with
    | true =>
      have HH := Lib.hid hh
      clear hh
      go_wp2_with fail
      refine (has_any2 s hs mp g q 34 _).mono ?_
      rintro e w1 ⟨rfl, hf1⟩
      rw [HH.out]
      have HO1 := Lib.hid (own_keep HO.out hf1)
      have HT1 := Lib.hid ((HT0.out.fr hfr).fr hf1)
      have hcv := conv_list (P := Tryd.prog) Tryd.underlying53 Tryd.underlying5 HO1.out 9 Tryd.underlying9
      obtain ⟨A, c, rfl⟩ := own_form HO1.out
      obtain ⟨t0, t1, t2, t3⟩ := HT1.out.cells
      have z0 := HT1.out.free 0
      have z1 := HT1.out.free 1
      have z2 := HT1.out.free 2
      have z3 := HT1.out.free 3
      have hfin := (hf0.trans hfr).trans hf1
      clear c0 c1 c2
      by_cases h100 : 100 < l.length
      · have HC : Hid (strT s a = bad 2) := Lib.hid (by
          unfold strT; rw [HSTR.out, strO_end HH.out]; simp [h100])
        have hd : decide ((100 : Int) < (l.length : Int)) = true := decide_eq_true (by omega)
        go_wp2_with fail
        exact bodyPost_ret (v := .tuple #[.agg #[.int .i64 0, .string ⟨#[]⟩, .int .i64 0, .int .i64 0], .int .i64 0, .int .i64 2]) (by simp [results, Tryd.results53, go_sem, t0, t1, t2, t3]) rfl ⟨by rw [HC.out]; rfl, tok_fr hfin _ _ _ _⟩
      · have HC : Hid (strT s a = ⟨3, ofL l, 0, q + 1, 0⟩) := Lib.hid (by
          unfold strT; rw [HSTR.out, strO_end HH.out]; simp [h100])
        have hd : decide ((100 : Int) < (l.length : Int)) = false := decide_eq_false (by omega)
        go_wp2_with fail
        exact bodyPost_ret (v := .tuple #[.agg #[.int .i64 3, .string (ofL l), .int .i64 0, .int .i64 0], .int .i64 ((q : Int) + 1), .int .i64 0]) (by simp [results, Tryd.results53, go_sem, t0, t1, t2, t3]) rfl ⟨by rw [HC.out]; rfl, tok_fr hfin _ _ _ _⟩
    | false =>
      have HH := Lib.hid hh
      clear hh
      go_wp2_with fail
      refine (has_any2 s hs mp g q 34 _).mono ?_
      rintro e w1 ⟨rfl, hf1⟩
      rw [HH.out]
      have HS1 := Lib.hid ((HS0.out.fr hfr).fr hf1)
      clear c0 c1 c2
      obtain ⟨c0, c1, c2⟩ := HS1.out
      obtain ⟨r, hr⟩ : ∃ r, r = ins s q 34 := ⟨_, rfl⟩
      obtain ⟨rc, rn, rk⟩ := r
      have hc : rc ≤ 255 := by have := ins_c s q 34; rw [← hr] at this; exact this
      have hok := @ins_ok s q 34
      rw [← hr] at hok
      have HRR := Lib.hid hr
      have HOK := Lib.hid hok
      clear hr hok
      go_wp2_with fail
      refine (inside_any s hs mp g q 34 (by omega) _).mono ?_
      rintro e w2 ⟨rfl, hf2⟩
      rw [← HRR.out]
      dsimp only
      clear c0 c1 c2
      cases rk with
      | true =>
        obtain ⟨k1, k2, k3⟩ := HOK.out rfl
        have HO2 := Lib.hid (own_keep HO.out (hf1.trans hf2))
        have HL := Lib.hid hlq
        go_wp2_with (with_reducible refine stop_append ?_)
        unfold Stop
        refine wpList_append_sl rfl (.tmp 28) (.tmp 30) 53 rfl w0.heap.size 5 u0 _ 1 Tryd.underlying53 HU.out.1 HU.out.2.1 HU.out.2.2.1 HU.out.2.2.2 rfl _ l.length _ rfl (own_keep HO2.out ((Fr.refl _).alloc _)) _ 1 (fun _ => .int .u8 (rc : Nat)) rfl (sl_one _ _ _) (fun _ => rfl) (by unfold maxLen; omega) (by omega) (Nat.le_trans ((hfr.trans (hf1.trans hf2)).alloc _).size (Nat.le_refl _)) ?_
        intro v' wA hown hg
        have hown2 : wA.ownsRow w0.heap.size 5 1 v' (l ++ [rc]).length (u8s (l ++ [rc])) := by
          have e : u8s (l ++ [rc]) = u8s l ++ many 1 (fun _ => Value.int .u8 (rc : Nat)) := by unfold u8s; rw [List.map_append]; rfl
          rw [e, List.length_append]; exact hown
        have HOA := Lib.hid hown2
        have hfA := own_fr ((hfr.trans (hf1.trans hf2)).alloc _) (own_keep HO2.out ((Fr.refl _).alloc _)) hg
        clear hown hg hown2
        go_wp2_with fail
        go_roundw
        case rel =>
          have hst : strO s (a + 1) = (strO s rn).map (fun p => ((l ++ [rc]) ++ p.1, p.2)) := by
            have hr := HRR.out
            rw [HSTR.out, strO_step HH.out (by rw [← hr]), ← hr, Option.map_map]
            congr 1
            funext p
            simp
          first | exact ⟨l ++ [rc], rn, k3, rfl, by rw [List.length_append, List.length_singleton]; omega, hst, HOA.out, hfA⟩ | ((repeat apply Exists.intro); exact ⟨⟨l ++ [rc], rn, k3, rfl, by rw [List.length_append, List.length_singleton]; omega, hst, HOA.out, hfA⟩, rfl⟩)
        case measure => simp [intOf]; omega
      | false =>
        have HC : Hid (strT s a = bad 21) := Lib.hid (by
          have hr := HRR.out
          unfold strT; rw [HSTR.out, strO_no HH.out (by rw [← hr])]; rfl)
        have hfr2 := hfr.trans (hf1.trans hf2)
        have HT2 := Lib.hid (HT0.out.fr hfr2)
        obtain ⟨t0, t1, t2, t3⟩ := HT2.out.cells
        have z0 := HT2.out.free 0
        have z1 := HT2.out.free 1
        have z2 := HT2.out.free 2
        have z3 := HT2.out.free 3
        go_wp2_with fail
        exact bodyPost_ret (v := .tuple #[.agg #[.int .i64 0, .string ⟨#[]⟩, .int .i64 0, .int .i64 0], .int .i64 0, .int .i64 21]) (by simp [results, Tryd.results53, go_sem, t0, t1, t2, t3]) rfl ⟨by rw [HC.out]; rfl, tok_fr (hf0.trans hfr2) _ _ _ _⟩
end Go.Proofs.YtkkapgidddfdoaaDoor
