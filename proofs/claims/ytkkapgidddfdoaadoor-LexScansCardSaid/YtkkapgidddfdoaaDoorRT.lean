/- The document's own scanner: characters and strings. -/
import Derived.Test.YtkkapgidddfdoaaDoorRO
import Derived.Test.YtkkapgidddfdoaaDoorRN
namespace Go.Proofs.YtkkapgidddfdoaaDoor
open Go.RowKit
set_option linter.unusedVariables false

set_option maxRecDepth 100000 in
set_option maxHeartbeats 2000000 in
theorem Rchar_any (s : ByteArray) (hs : s.size ≤ 1000000) (a : Nat) (ha : a < s.size) (w : World) :
    Calls Tryd.prog 61 #[.string s, .int .i64 a] w fun e w' => e = .returned (rtok (chrT s a) a) ∧ Fr w w' := by
  obtain ⟨w0, hw0⟩ : ∃ w0, w0 = w.alloc (.cells #[.int .i64 0, .string ⟨#[]⟩, .int .i64 0, .int .i64 0] 38) := ⟨_, rfl⟩
  have hf0 : Fr w w0 := by rw [hw0]; exact (Fr.refl w).alloc _
  have HT0 := Lib.hid (show Tb w0 w.heap.size (.int .i64 0) (.string ⟨#[]⟩) (.int .i64 0) (.int .i64 0) by rw [hw0]; exact Tb.new w (.int .i64 0) (.string ⟨#[]⟩) (.int .i64 0) (.int .i64 0))
  have HW0 := Lib.hid hw0
  have hlet := Rletter_any s hs (a + 1) 39 (by omega)
  have hcast : ((a + 1 : Nat) : Int) = (a : Int) + 1 := by omega
  rw [hcast] at hlet
  have HOK := Lib.hid (@ins_ok s (a + 1) 39)
  have HCB := Lib.hid (ins_c s (a + 1) 39)
  have HCH : Hid (chrT s a = if (ins s (a + 1) 39).ok = true ∧ hasC s (ins s (a + 1) 39).nx 39 = true then ⟨2, nul, ((ins s (a + 1) 39).c : Nat), (ins s (a + 1) 39).nx + 1, 0⟩ else bad 21) := Lib.hid rfl
  obtain ⟨r, hr⟩ : ∃ r, r = ins s (a + 1) 39 := ⟨_, rfl⟩
  have HL : Hid (∀ e : Ending, LtIs s (a + 1) 39 e → ∃ (c n : Int), e = .returned (.tuple #[.int .u8 c, .int .i64 n, .bool r.ok]) ∧ (r.ok = true → c = (r.c : Nat) ∧ n = (r.nx : Nat))) := Lib.hid (fun e h => by rw [hr]; exact h)
  rw [← hr] at HOK HCH HCB
  obtain ⟨rc, rn, rk⟩ := r
  simp only at HOK HCH HL HCB
  obtain ⟨t0, t1, t2, t3⟩ := HT0.out.cells
  have z0 := HT0.out.free 0
  have z1 := HT0.out.free 1
  have z2 := HT0.out.free 2
  have z3 := HT0.out.free 3
  clear hw0 hr hcast
  cases rk with
  | false =>
    have HC : Hid (chrT s a = bad 21) := Lib.hid (by rw [HCH.out, if_neg (by simp)])
    go_enter Tryd.func61, Tryd.ntmps61
    go_wp2_with fail
    rw [← HW0.out]
    refine (hlet _).mono ?_
    rintro e w1 ⟨hl, rfl⟩
    obtain ⟨c, n, rfl, _⟩ := HL.out _ hl
    clear hl hlet
    go_wp2_with fail
    exact bodyPost_ret (v := .tuple #[.agg #[.int .i64 0, .string ⟨#[]⟩, .int .i64 0, .int .i64 0], .int .i64 a, .int .i64 21]) (by simp [results, Tryd.results61, go_sem, t0, t1, t2, t3]) rfl ⟨by rw [HC.out]; rfl, tok_fr5 hf0 _ _ _ _⟩
  | true =>
    obtain ⟨k1, k2, k3⟩ := HOK.out (by trivial)
    by_cases hend : s.size ≤ rn
    · have HC : Hid (chrT s a = bad 21) := Lib.hid (by rw [HCH.out, if_neg (by intro h; have := of_decide_eq_true h.2; omega)])
      have d1 : decide ((s.size : Int) ≤ (rn : Int)) = true := decide_eq_true (by omega)
      go_enter Tryd.func61, Tryd.ntmps61
      go_wp2_with fail
      rw [← HW0.out]
      refine (hlet _).mono ?_
      rintro e w1 ⟨hl, rfl⟩
      obtain ⟨c, n, rfl, hcn⟩ := HL.out _ hl
      obtain ⟨rfl, rfl⟩ := hcn (by trivial)
      clear hl hlet hcn
      go_wp2_with fail
      exact bodyPost_ret (v := .tuple #[.agg #[.int .i64 0, .string ⟨#[]⟩, .int .i64 0, .int .i64 0], .int .i64 a, .int .i64 21]) (by simp [results, Tryd.results61, go_sem, t0, t1, t2, t3]) rfl ⟨by rw [HC.out]; rfl, tok_fr5 hf0 _ _ _ _⟩
    · have d1 : decide ((s.size : Int) ≤ (rn : Int)) = false := decide_eq_false (by omega)
      have hlt : rn < s.size := by omega
      have hb := bt_at s rn hlt
      obtain ⟨x, hx⟩ : ∃ x, x = bt s rn := ⟨_, rfl⟩
      rw [← hx] at hb
      by_cases h39 : x = 39
      · subst h39
        have HC : Hid (chrT s a = ⟨2, nul, (rc : Nat), rn + 1, 0⟩) := Lib.hid (by rw [HCH.out, if_pos ⟨rfl, decide_eq_true ⟨hlt, hx.symm⟩⟩])
        have hcb := HCB.out
        clear hx
        go_enter Tryd.func61, Tryd.ntmps61
        go_wp2_with fail
        rw [← HW0.out]
        refine (hlet _).mono ?_
        rintro e w1 ⟨hl, rfl⟩
        obtain ⟨c, n, rfl, hcn⟩ := HL.out _ hl
        obtain ⟨rfl, rfl⟩ := hcn (by trivial)
        clear hl hlet hcn
        go_wp2_with fail
        exact bodyPost_ret (v := .tuple #[.agg #[.int .i64 2, .string ⟨#[]⟩, .int .i64 ((rc : Nat) : Int), .int .i64 a], .int .i64 ((rn : Int) + 1), .int .i64 0]) (by simp [results, Tryd.results61, go_sem, t0, t1, t2, t3]) rfl ⟨by rw [HC.out]; rfl, tok_fr5 hf0 _ _ _ _⟩
      · have HC : Hid (chrT s a = bad 21) := Lib.hid (by rw [HCH.out, if_neg (by intro h; have := of_decide_eq_true h.2; omega)])
        have n1 : ((x : Int) == 39) = false := by rw [beq_eq_false_iff_ne]; omega
        clear hx
        go_enter Tryd.func61, Tryd.ntmps61
        go_wp2_with fail
        rw [← HW0.out]
        refine (hlet _).mono ?_
        rintro e w1 ⟨hl, rfl⟩
        obtain ⟨c, n, rfl, hcn⟩ := HL.out _ hl
        obtain ⟨rfl, rfl⟩ := hcn (by trivial)
        clear hl hlet hcn
        go_wp2_with fail
        exact bodyPost_ret (v := .tuple #[.agg #[.int .i64 0, .string ⟨#[]⟩, .int .i64 0, .int .i64 0], .int .i64 a, .int .i64 21]) (by simp [results, Tryd.results61, go_sem, t0, t1, t2, t3]) rfl ⟨by rw [HC.out]; rfl, tok_fr5 hf0 _ _ _ _⟩
set_option maxRecDepth 100000 in
set_option maxHeartbeats 4000000 in
theorem Rtext_any (s : ByteArray) (hs : s.size ≤ 1000000) (a : Nat) (ha : a < s.size) (w : World) :
    Calls Tryd.prog 60 #[.string s, .int .i64 a] w fun e w' => e = .returned (rtok (strT s a) a) ∧ Fr w w' := by
  obtain ⟨w0, hw0⟩ : ∃ w0, w0 = w.alloc (.cells #[.int .i64 0, .string ⟨#[]⟩, .int .i64 0, .int .i64 0] 38) := ⟨_, rfl⟩
  have hf0 : Fr w w0 := by rw [hw0]; exact (Fr.refl w).alloc _
  have HT0 := Lib.hid (show Tb w0 w.heap.size (.int .i64 0) (.string ⟨#[]⟩) (.int .i64 0) (.int .i64 0) by rw [hw0]; exact Tb.new w (.int .i64 0) (.string ⟨#[]⟩) (.int .i64 0) (.int .i64 0))
  have HW0 := Lib.hid hw0
  have HF0 := Lib.hid hf0
  clear hw0 hf0
  go_enter Tryd.func60, Tryd.ntmps60
  go_wp2_with fail
  rw [← HW0.out]
  go_loopw [7, 8] (fun o i wr => ∃ (l : List Nat) (q : Nat), q ≤ s.size ∧ i = .int .i64 q ∧ l.length ≤ q ∧ Hid (strO s (a + 1) = (strO s q).map (fun p => (l ++ p.1, p.2))) ∧ o = .string (ofL l) ∧ Fr w0 wr) (fun _ i _ => s.size + 1 - (intOf i).toNat)
  case atStart => exact ⟨[], a + 1, by omega, by go_num, by simp, Lib.hid (by simp), rfl, Fr.refl _⟩
  case round =>
    obtain ⟨l, q, hq, rfl, hlq, HSTR, rfl, hfr⟩ := hrel
    have hsz := ofL_size l
    have HTr := Lib.hid (HT0.out.fr hfr)
    have hfin := HF0.out.trans hfr
    by_cases hh : q < s.size ∧ bt s q = 34
    · obtain ⟨hlt, h34⟩ := hh
      have hb := bt_at s q hlt
      rw [h34] at hb
      have HEND := Lib.hid (show strO s (a + 1) = some (l, q) by rw [HSTR.out, strO_end (decide_eq_true ⟨hlt, h34⟩)]; simp)
      clear h34
      obtain ⟨t0, t1, t2, t3⟩ := HTr.out.cells
      have z0 := HTr.out.free 0
      have z1 := HTr.out.free 1
      have z2 := HTr.out.free 2
      have z3 := HTr.out.free 3
      by_cases h100 : 100 < l.length
      · have HC : Hid (strT s a = bad 2) := Lib.hid (by unfold strT; rw [HEND.out]; simp [h100])
        have d1 : decide ((100 : Int) < (l.length : Int)) = true := decide_eq_true (by omega)
        go_wp2_with fail
        exact bodyPost_ret (v := .tuple #[.agg #[.int .i64 0, .string ⟨#[]⟩, .int .i64 0, .int .i64 0], .int .i64 a, .int .i64 2]) (by simp [results, Tryd.results60, go_sem, t0, t1, t2, t3]) rfl ⟨by rw [HC.out]; rfl, tok_fr5 hfin _ _ _ _⟩
      · have HC : Hid (strT s a = ⟨3, ofL l, 0, q + 1, 0⟩) := Lib.hid (by unfold strT; rw [HEND.out]; simp [h100])
        have d1 : decide ((100 : Int) < (l.length : Int)) = false := decide_eq_false (by omega)
        go_wp2_with fail
        exact bodyPost_ret (v := .tuple #[.agg #[.int .i64 3, .string (ofL l), .int .i64 0, .int .i64 a], .int .i64 ((q : Int) + 1), .int .i64 0]) (by simp [results, Tryd.results60, go_sem, t0, t1, t2, t3]) rfl ⟨by rw [HC.out]; rfl, tok_fr5 hfin _ _ _ _⟩
    · have hnc : hasC s q 34 = false := decide_eq_false hh
      have hlet := Rletter_any s hs q 34 (by omega)
      have HOK := Lib.hid (@ins_ok s q 34)
      have HCB := Lib.hid (ins_c s q 34)
      have HNO : Hid ((ins s q 34).ok = false → strT s a = bad 21) := Lib.hid (fun h => by unfold strT; rw [HSTR.out, strO_no hnc h]; rfl)
      have HGO : Hid ((ins s q 34).ok = true → strO s (a + 1) = (strO s (ins s q 34).nx).map (fun p => ((l ++ [(ins s q 34).c]) ++ p.1, p.2))) := Lib.hid (fun h => by
        rw [HSTR.out, strO_step hnc h, Option.map_map]
        congr 1
        funext p
        simp)
      obtain ⟨r, hr⟩ : ∃ r, r = ins s q 34 := ⟨_, rfl⟩
      have HL : Hid (∀ e : Ending, LtIs s q 34 e → ∃ (c n : Int), e = .returned (.tuple #[.int .u8 c, .int .i64 n, .bool r.ok]) ∧ (r.ok = true → c = (r.c : Nat) ∧ n = (r.nx : Nat))) := Lib.hid (fun e h => by rw [hr]; exact h)
      rw [← hr] at HOK HCB HNO HGO
      obtain ⟨rc, rn, rk⟩ := r
      simp only at HOK HCB HL HNO HGO
      clear hr hnc
      have hcond : s.size ≤ q ∨ (q < s.size ∧ bt s q ≠ 34) := by omega
      cases rk with
      | false =>
        have HC := Lib.hid (HNO.out (by trivial))
        obtain ⟨t0, t1, t2, t3⟩ := HTr.out.cells
        have z0 := HTr.out.free 0
        have z1 := HTr.out.free 1
        have z2 := HTr.out.free 2
        have z3 := HTr.out.free 3
        rcases hcond with hc | ⟨hc, hne⟩
        · have d1 : decide ((s.size : Int) ≤ (q : Int)) = true := decide_eq_true (by omega)
          clear hh
          go_wp2_with fail
          refine (hlet _).mono ?_
          rintro e w1 ⟨hl, rfl⟩
          obtain ⟨c, n, rfl, _⟩ := HL.out _ hl
          clear hl hlet
          go_wp2_with fail
          exact bodyPost_ret (v := .tuple #[.agg #[.int .i64 0, .string ⟨#[]⟩, .int .i64 0, .int .i64 0], .int .i64 a, .int .i64 21]) (by simp [results, Tryd.results60, go_sem, t0, t1, t2, t3]) rfl ⟨by rw [HC.out]; rfl, tok_fr5 hfin _ _ _ _⟩
        · have d1 : decide ((s.size : Int) ≤ (q : Int)) = false := decide_eq_false (by omega)
          have hb := bt_at s q hc
          obtain ⟨x, hx⟩ : ∃ x, x = bt s q := ⟨_, rfl⟩
          rw [← hx] at hb hne
          have n1 : ((x : Int) == 34) = false := by rw [beq_eq_false_iff_ne]; omega
          have n2 : ((x : Int) != 34) = true := by simp; omega
          clear hh hne hx
          go_wp2_with fail
          refine (hlet _).mono ?_
          rintro e w1 ⟨hl, rfl⟩
          obtain ⟨c, n, rfl, _⟩ := HL.out _ hl
          clear hl hlet
          go_wp2_with fail
          exact bodyPost_ret (v := .tuple #[.agg #[.int .i64 0, .string ⟨#[]⟩, .int .i64 0, .int .i64 0], .int .i64 a, .int .i64 21]) (by simp [results, Tryd.results60, go_sem, t0, t1, t2, t3]) rfl ⟨by rw [HC.out]; rfl, tok_fr5 hfin _ _ _ _⟩
      | true =>
        obtain ⟨k1, k2, k3⟩ := HOK.out (by trivial)
        have HST := Lib.hid (HGO.out (by trivial))
        have hcv := conv_one wr rc 5
        have hadd : ∀ w, (Op.stringOp .add (ofL l) (ofL [rc])).run Tryd.prog w = .ok (.string (ofL (l ++ [rc]))) w := fun w => by
          have h := run_string_add_sum (P := Tryd.prog) w (ofL l) (ofL [rc]) (by rw [ofL_size, ofL_size, List.length_singleton]; omega)
          rw [ofL_app] at h; exact h
        rcases hcond with hc | ⟨hc, hne⟩
        · omega
        · have d1 : decide ((s.size : Int) ≤ (q : Int)) = false := decide_eq_false (by omega)
          have hb := bt_at s q hc
          obtain ⟨x, hx⟩ : ∃ x, x = bt s q := ⟨_, rfl⟩
          rw [← hx] at hb hne
          have n1 : ((x : Int) == 34) = false := by rw [beq_eq_false_iff_ne]; omega
          have n2 : ((x : Int) != 34) = true := by simp; omega
          clear hh hne hx
          go_wp2_with fail
          refine (hlet _).mono ?_
          rintro e w1 ⟨hl, rfl⟩
          obtain ⟨c, n, rfl, hcn⟩ := HL.out _ hl
          obtain ⟨rfl, rfl⟩ := hcn (by trivial)
          clear hl hlet hcn
          go_wp2_with fail
          go_roundw
          case rel => exact ⟨l ++ [rc], rn, k3, rfl, by rw [List.length_append, List.length_singleton]; omega, HST, rfl, hfr.alloc _⟩
          case measure => simp [intOf]; omega
end Go.Proofs.YtkkapgidddfdoaaDoor
