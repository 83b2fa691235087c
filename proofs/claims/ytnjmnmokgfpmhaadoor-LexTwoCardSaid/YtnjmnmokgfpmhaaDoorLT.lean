/- Two sources with a line feed between: the law's walk. -/
import Derived.Test.YtnjmnmokgfpmhaaDoorMS
import Derived.Test.YtnjmnmokgfpmhaaDoorLR
import Derived.Laws.Concat
namespace Go.Proofs.YtnjmnmokgfpmhaaDoor
open Go.RowKit
set_option linter.unusedVariables false

theorem scan_parts (s : ByteArray) : ∃ L e p, scan s = ⟨L, e, p⟩ := ⟨_, _, _, rfl⟩
theorem last_take {L X : List Tp} {x : Tp} (h : L = X ++ [x]) : X = L.take (L.length - 1) := by
  rw [h, List.length_append, List.length_singleton, Nat.add_sub_cancel, List.take_left]
set_option maxRecDepth 100000 in
set_option maxHeartbeats 4000000 in
theorem two_walk (a b : ByteArray) (ha : a.size ≤ 140737488351232) (hb : b.size ≤ 140737488351232) (W : World) (hev : Ev W) :
    Calls Tryd.prog 9 #[.string a, .string b] W fun e w' => e = .returned (.bool true) ∧ Fr W w' := by
  have HE := Lib.hid hev
  have hsum : IntKind.i64.wrap ((a.size : Int) + (b.size : Int)) = (a.size : Int) + b.size := IntWalk.i64_in _ (by omega)
  by_cases h4 : (40000 : Int) ≤ (a.size : Int) + b.size
  · have hd : decide ((40000 : Int) ≤ (a.size : Int) + b.size) = true := decide_eq_true h4
    go_enter Tryd.func9, Tryd.ntmps9
    go_wp2_with (go_at_call 16; refine (awake_any _ HE.out).mono ?_; rintro e w' ⟨rfl, hf⟩)
    go_ret
    exact ⟨rfl, hf⟩
  have hd : decide ((40000 : Int) ≤ (a.size : Int) + b.size) = false := decide_eq_false h4
  obtain ⟨z, hz⟩ : ∃ z, z = a ++ (⟨#[10]⟩ : ByteArray) ++ b := ⟨_, rfl⟩
  have hzs : z.size = a.size + 1 + b.size := by rw [hz, ByteArray.size_append, ByteArray.size_append]; rfl
  have HP := Lib.hid (show Pf a z by rw [hz]; exact cat_pf a b)
  have HS := Lib.hid (show Ps b z (a.size + 1) by rw [hz]; exact cat_ps a b)
  have HZ := Lib.hid hz
  have hz4 : z.size ≤ 40000 := by omega
  obtain ⟨La, ea, pa, hsa⟩ := scan_parts a
  obtain ⟨Lb, eb, pb, hsb⟩ := scan_parts b
  obtain ⟨Lz, ez, pz, hsz⟩ := scan_parts z
  have HSA := Lib.hid hsa
  have HSB := Lib.hid hsb
  have HSZ := Lib.hid hsz
  have hadd1 : ∀ w, (Op.stringOp .add a ⟨#[10]⟩).run Tryd.prog w = .ok (.string (a ++ ⟨#[10]⟩)) w := fun w => run_string_add_sum w a ⟨#[10]⟩ (by show a.size + 1 ≤ _; omega)
  have hadd2 : ∀ w, (Op.stringOp .add (a ++ ⟨#[10]⟩) b).run Tryd.prog w = .ok (.string z) w := fun w => by rw [HZ.out]; exact run_string_add_sum w _ b (by rw [ByteArray.size_append]; show a.size + 1 + b.size ≤ _; omega)
  obtain ⟨i0, hi0, hy0, hy1, hy2⟩ := info_parts Tryd.infoTok
  have HI := Lib.hid (And.intro hi0 (And.intro hy0 (And.intro hy1 hy2)))
  clear hz hsa hsb hsz hi0 hy0 hy1 hy2
  go_enter Tryd.func9, Tryd.ntmps9
  go_wp2_with fail
  refine (Scan_any a (by omega) _ HE.out).mono ?_
  rintro e w1 ⟨v1, rfl, hv1, hf1⟩
  rw [HSA.out] at hv1 ⊢
  go_wp2_with fail
  refine (Scan_any b (by omega) _ (HE.out.fr hf1)).mono ?_
  rintro e w2 ⟨v2, rfl, hv2, hf2⟩
  rw [HSB.out] at hv2 ⊢
  go_wp2_with fail
  refine (Scan_any z (by omega) _ (HE.out.fr (hf1.trans hf2))).mono ?_
  rintro e w3 ⟨v3, rfl, hv3, hf3⟩
  rw [HSZ.out] at hv3 ⊢
  have hf := (hf1.trans hf2).trans hf3
  have HE3 := Lib.hid (HE.out.fr hf)
  have HV1 := Lib.hid (hv1.fr (hf2.trans hf3))
  have HV2 := Lib.hid (hv2.fr hf3)
  have HV3 := Lib.hid hv3
  clear hv1 hv2 hv3 hadd1 hadd2
  dsimp only
  by_cases h0 : ea = 0
  · subst h0
    obtain ⟨n, hn⟩ : ∃ n, n = La.length := ⟨_, rfl⟩
    have hsha := scan_shape (s := a) (by rw [HSA.out])
    have hn2 : n ≤ 20000 := by rw [hn]; have := hsha.2.2.2.2.1; rw [HSA.out] at this; exact this
    have w1' : IntKind.i64.wrap ((n : Int) + (b.size : Int)) = (n : Int) + b.size := IntWalk.i64_in _ (by omega)
    have w2' : IntKind.i64.wrap ((n : Int) + (b.size : Int) + 1) = (n : Int) + b.size + 1 := IntWalk.i64_in _ (by omega)
    have HN := Lib.hid hn
    clear hn hsha
    by_cases hbig : (20000 : Int) < (n : Int) + b.size + 1
    · have d1 : decide ((20000 : Int) < (n : Int) + b.size + 1) = true := decide_eq_true hbig
      obtain ⟨a1, c1, rfl, _, _⟩ := HV1.out
      try dsimp only
      rw [← HN.out]
      by_cases hez : ez = 0
      · have t1 : ((ez : Int) == 0) = true := by rw [beq_iff_eq]; omega
        go_wp2_with (go_at_call 16; refine (awake_any _ HE3.out).mono ?_; rintro e w' ⟨rfl, hf4⟩)
        go_ret
        exact ⟨rfl, hf.trans hf4⟩
      · have t1 : ((ez : Int) == 0) = false := by rw [beq_eq_false_iff_ne]; omega
        go_wp2_with (go_at_call 16; refine (awake_any _ HE3.out).mono ?_; rintro e w' ⟨rfl, hf4⟩)
        go_ret
        exact ⟨rfl, hf.trans hf4⟩
    have d1 : decide ((20000 : Int) < (n : Int) + b.size + 1) = false := decide_eq_false hbig
    have htwo := two_scan HP.out HS.out hz4 (by rw [HSA.out]) (by rw [HSA.out]; show La.length + b.size + 1 ≤ 20000; rw [← HN.out]; omega)
    rw [HSA.out, HSB.out, HSZ.out] at htwo
    dsimp only at htwo
    obtain ⟨rfl, hpz, hok⟩ := htwo
    by_cases hez : ez = 0
    · subst hez
      obtain ⟨X, hX, hLz⟩ := hok rfl
      have hXn : n = X.length + 1 := by rw [HN.out, hX, List.length_append, List.length_singleton]
      obtain ⟨m, hm⟩ : ∃ m, m = X.length := ⟨_, rfl⟩
      have hXt : X = La.take m := by rw [last_take hX, ← HN.out, hXn, hm, Nat.add_sub_cancel]
      have hshb := scan_shape (s := b) (by rw [HSB.out])
      rw [HSB.out] at hshb
      obtain ⟨hb4, _, _, hblast, hblen, hbin⟩ := hshb
      have hshz := scan_shape (s := z) (by rw [HSZ.out])
      rw [HSZ.out] at hshz
      obtain ⟨_, _, _, hzlast, hzlen, _⟩ := hshz
      have hLz0 : 0 < Lz.length := by
        cases Lz with
        | nil => cases hzlast
        | cons x l => simp
      have hLz1 : Lz.length ≤ 1000000 := Nat.le_trans hzlen (by omega)
      have t0 : ((n : Int) == 0) = false := by rw [beq_eq_false_iff_ne]; omega
      have hwm : IntKind.i64.wrap ((n : Int) - 1) = ((m : Nat) : Int) := by rw [IntWalk.i64_in _ (by omega)]; omega
      obtain ⟨nb, hnb⟩ : ∃ nb, nb = Lb.length := ⟨_, rfl⟩
      have hnb0 : 0 < nb := by
        rw [hnb]
        cases Lb with
        | nil => cases hblast
        | cons x l => simp
      have hnb2 : nb ≤ 20000 := by rw [hnb]; exact hblen
      have HNB := Lib.hid hnb
      have HBIN := Lib.hid hbin
      have HXT := Lib.hid hXt
      have HMX := Lib.hid hm
      have HLZ := Lib.hid hLz
      obtain ⟨b1, o1, c1, rfl, hc1, ht1⟩ := HV1.out.tc (by rw [← HN.out]; omega)
      obtain ⟨b2, o2, c2, rfl, hc2, ht2⟩ := HV2.out.tc (by rw [← HNB.out]; omega)
      obtain ⟨b3, o3, c3, rfl, hc3, ht3⟩ := HV3.out.tc hLz0
      rw [← HN.out] at hc1
      rw [← HN.out, ← HNB.out]
      have HT1 := Lib.hid ht1
      have HT2 := Lib.hid ht2
      have HT3 := Lib.hid ht3
      have hm1 : (0 : Int) ≤ (m : Int) := by omega
      have hm2 : (m : Int) ≤ (c1 : Int) := by omega
      have hm3 : m ≤ 20000 := by omega
      clear hpz hok hX hLz hXn hm hXt hblast hblen hbin hzlast hzlen hnb ht1 ht2 ht3
      go_wp2_with (with_reducible refine stop_append ?_)
      unfold Stop
      refine wpList_append_own _ rfl (.const (.slice none 0 0)) (.tmp 89) 22 rfl w3.heap.size 38 i0 (.agg #[.int .i64 0, .string ⟨#[]⟩, .int .i64 0, .int .i64 0]) 4 40 Tryd.underlying22 HI.out.1 HI.out.2.1 HI.out.2.2.1 HI.out.2.2.2 rfl (by decide) _ 0 [] rfl (World.ownsRow_nil _ _ _ _) ⟨b1, o1, none⟩ m _ (toks X) rfl (by rw [toks_len, ← HMX.out]) (fun j u hu => by rw [ap_add]; rw [HXT.out] at hu; exact HT1.out.take m j u hu) (cellsT_one _) (by unfold maxLen; omega) (by omega) (Nat.le_refl _) ?_
      intro v4 w4 hown4 hg4 _
      have hf4 := fr_none hg4
      have HO4 := Lib.hid hown4
      clear hown4 hg4
      go_wp2_with fail
      go_loopw [14, 15] (fun v i wr => ∃ j : Nat, j ≤ nb ∧ i = .int .i64 j ∧ wr.ownsRow w3.heap.size 38 4 v (X ++ (Lb.take j).map (shT (a.size + 1))).length (toks (X ++ (Lb.take j).map (shT (a.size + 1)))) ∧ Fr w3 wr) (fun _ i _ => nb - (intOf i).toNat)
      case atStart => exact ⟨0, Nat.zero_le _, rfl, by have h := HO4.out; rw [Nat.zero_add, List.nil_append] at h; rw [List.take_zero, List.map_nil, List.append_nil, ← HMX.out]; exact h, hf4⟩
      case round =>
        obtain ⟨j, hj, rfl, hown, hfr⟩ := hrel
        have HO := Lib.hid hown
        clear hown
        by_cases hlt : j < nb
        · obtain ⟨t, ht⟩ : ∃ t, Lb[j]? = some t := ⟨_, List.getElem?_eq_getElem (by rw [← HNB.out]; exact hlt)⟩
          have hta := HBIN.out t (List.mem_of_getElem? ht)
          obtain ⟨q0, q1, q2, q3⟩ := (HT2.out.fr hfr).at_ ht
          have u1 : IntKind.i64.wrap ((a.size : Int) + 1) = (a.size : Int) + 1 := IntWalk.i64_in _ (by omega)
          obtain ⟨c, hc⟩ : ∃ c, c = a.size + 1 + t.a := ⟨_, rfl⟩
          have u2 : IntKind.i64.wrap ((t.a : Int) + ((a.size : Int) + 1)) = (c : Int) := by rw [IntWalk.i64_in _ (by omega)]; omega
          have he : X ++ (Lb.take (j + 1)).map (shT (a.size + 1)) = (X ++ (Lb.take j).map (shT (a.size + 1))) ++ [⟨t.k, t.t, t.n, c⟩] := by
            rw [List.take_add_one, ht, hc]; simp [shT]
          have HEQ := Lib.hid he
          have hlen : (X ++ (Lb.take j).map (shT (a.size + 1))).length = m + j := by
            rw [List.length_append, List.length_map, List.length_take, ← HMX.out, ← HNB.out]; omega
          have HLEN := Lib.hid hlen
          have HOW := Lib.hid (own_keep HO.out (((Fr.refl wr).alloc (.cells #[.int .i64 t.k, .string t.t, .int .i64 t.n, .int .i64 c] 38)).alloc (.cells #[.int .i64 t.k, .string t.t, .int .i64 t.n, .int .i64 c] 38)))
          have hfA := (hfr.alloc (.cells #[.int .i64 t.k, .string t.t, .int .i64 t.n, .int .i64 c] 38)).alloc (.cells #[.int .i64 t.k, .string t.t, .int .i64 t.n, .int .i64 c] 38)
          clear hc he hlen
          have j1 : (0 : Int) ≤ (j : Int) := by omega
          have j2 : (j : Int) < (nb : Int) := by omega
          have HTJ := Lib.hid ht
          clear ht
          obtain ⟨A0, cc, rfl⟩ := own_form HO.out
          go_wp2_with (with_reducible refine stop_append ?_)
          unfold Stop
          refine wpList_append_own _ rfl (.tmp 108) (.tmp 110) 22 rfl w3.heap.size 38 i0 (.agg #[.int .i64 0, .string ⟨#[]⟩, .int .i64 0, .int .i64 0]) 4 40 Tryd.underlying22 HI.out.1 HI.out.2.1 HI.out.2.2.1 HI.out.2.2.2 rfl (by decide) _ _ _ rfl HOW.out ⟨wr.heap.size + 1, 0, none⟩ 1 1 (cellsT ⟨t.k, t.t, t.n, c⟩) rfl rfl (one_tok (Tb.new1 wr _ _ _ _ _)) (cellsT_one1 _) (by rw [HLEN.out]; unfold maxLen; omega) (by rw [HLEN.out]; omega) (Below.size hfA) ?_
          intro v5 w5 hown5 hg5 _
          have hf5 : Fr w3 w5 := own_fr hfA HOW.out hg5
          have HO5 := Lib.hid (show w5.ownsRow w3.heap.size 38 4 v5 (X ++ (Lb.take (j + 1)).map (shT (a.size + 1))).length (toks (X ++ (Lb.take (j + 1)).map (shT (a.size + 1)))) by
            rw [HEQ.out, toks_snoc, List.length_append]; exact hown5)
          clear hown5 hg5 hfA
          go_wp2_with fail
          go_roundw
          case rel => exact ⟨j + 1, by omega, by go_num, HO5.out, hf5⟩
          case measure => simp [intOf]; omega
        · obtain rfl : j = nb := by omega
          have hL : X ++ (Lb.take j).map (shT (a.size + 1)) = Lz := by
            rw [HLZ.out, List.take_of_length_le (by rw [← HNB.out]; exact Nat.le_refl _)]
          have ho := HO.out
          rw [hL] at ho
          obtain ⟨b6, o6, c6, rfl, _, ht6⟩ := (TkV.own ho).tc hLz0
          have HT6 := Lib.hid ht6
          have HEr := Lib.hid (HE3.out.fr hfr)
          have hfw := hf.trans hfr
          have HT3r := Lib.hid (HT3.out.fr hfr)
          clear ho hL ht6 HO
          go_wp2_with (first | (go_at_call 15; refine (eqTokens_same _ Lz hLz1 hLz0 b3 o3 c3 b6 o6 c6 HT3r.out HT6.out).mono ?_; rintro e w6 ⟨rfl, hf6⟩) | (go_at_call 16; refine (awake_any _ (HEr.out.fr hf6)).mono ?_; rintro e w7 ⟨rfl, hf7⟩))
          go_ret
          exact ⟨rfl, (hfw.trans hf6).trans hf7⟩
    · have t1 : ((ez : Int) == 0) = false := by rw [beq_eq_false_iff_ne]; omega
      have t2 : ((ez : Int) == (ez : Int)) = true := by rw [beq_iff_eq]
      have hpz2 := hpz hez
      obtain ⟨qq, hqq⟩ : ∃ q : Int, q = (pb : Int) + a.size := ⟨_, rfl⟩
      have w3' : IntKind.i64.wrap ((pb : Int) + (a.size : Int)) = qq := by
        rw [hqq]
        have hbad := scan_bad (s := b) (by rw [HSB.out]; exact hez)
        rw [HSB.out] at hbad
        have := hbad.2
        dsimp only at this
        exact IntWalk.i64_in _ (by omega)
      have w4' : IntKind.i64.wrap (qq + 1) = (pz : Int) := by
        rw [hqq]
        have hbad := scan_bad (s := b) (by rw [HSB.out]; exact hez)
        rw [HSB.out] at hbad
        have := hbad.2
        dsimp only at this
        rw [IntWalk.i64_in _ (by omega)]; omega
      have t3 : ((pz : Int) == (pz : Int)) = true := by rw [beq_iff_eq]
      obtain ⟨a1, c1, rfl, _, _⟩ := HV1.out
      try dsimp only
      rw [← HN.out]
      clear hpz hok hpz2 hzs hz4 hqq h4 hbig
      go_wp2_with fail
      refine (awake_any _ HE3.out).mono ?_
      rintro e w' ⟨rfl, hf4⟩
      go_wp2_with fail
      go_ret
      exact ⟨rfl, hf.trans hf4⟩
  · have t1 : ((ea : Int) == 0) = false := by rw [beq_eq_false_iff_ne]; omega
    have hez : ez ≠ 0 := by
      have := HP.out.scan_bad hz4 (by rw [HSA.out]; exact h0)
      rw [HSZ.out] at this; exact this
    have t2 : ((ez : Int) == 0) = false := by rw [beq_eq_false_iff_ne]; omega
    go_wp2_with (go_at_call 16; refine (awake_any _ HE3.out).mono ?_; rintro e w' ⟨rfl, hf4⟩)
    go_ret
    exact ⟨rfl, hf.trans hf4⟩
end Go.Proofs.YtnjmnmokgfpmhaaDoor
