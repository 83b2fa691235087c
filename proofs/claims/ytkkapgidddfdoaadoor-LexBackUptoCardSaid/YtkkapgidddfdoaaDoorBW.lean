/- Tokens that have a text are scanned back from it: the law's walk. -/
import Derived.Test.YtkkapgidddfdoaaDoorAG
namespace Go.Proofs.YtkkapgidddfdoaaDoor
open Go.RowKit
set_option linter.unusedVariables false

theorem alike_back {L : List Tg} {n : Nat} {M : List Tp} {e : Tp} (hM : M.length = (L.take n).length) (hs : ∀ (i : Nat) (t : Tg) (x : Tp), (L.take n)[i]? = some t → M[i]? = some x → Same t x) (he : e.k = 0 ∧ e.t = nul ∧ e.n = 0) :
    ∀ (j : Nat) (t u : Tg), ((M ++ [e]).map tg)[j]? = some t → (L.take n ++ [(⟨0, nul, 0, 0⟩ : Tg)])[j]? = some u → t.k = u.k ∧ t.t = u.t ∧ t.n = u.n := by
  intro j t u h1 h2
  rw [List.getElem?_map] at h1
  obtain ⟨x, hx, rfl⟩ := Option.map_eq_some_iff.1 h1
  by_cases hj : j < M.length
  · rw [List.getElem?_append_left hj] at hx
    rw [List.getElem?_append_left (by omega)] at h2
    obtain ⟨a1, a2, a3⟩ := hs j u x h2 hx
    exact ⟨a1.symm, a2.symm, a3.symm⟩
  · rw [List.getElem?_append_right (by omega)] at hx
    rw [List.getElem?_append_right (by omega)] at h2
    rw [← hM] at h2
    cases hd : j - M.length with
    | succ d => rw [hd] at hx; simp at hx
    | zero =>
      rw [hd] at hx h2
      obtain rfl : e = x := Option.some.inj hx
      obtain rfl : _ = u := Option.some.inj h2
      obtain ⟨e1, e2, e3⟩ := he
      refine ⟨?_, e2, e3⟩
      show ((e.k : Nat) : Int) = 0
      rw [e1]; rfl
theorem txt_none {L : List Tg} (h : wds L = none) : txt L = ⟨nul, 3⟩ := by unfold txt; rw [h]
theorem txt_some {L : List Tg} {l : List ByteArray} (h : wds L = some l) : txt L = ⟨joinB l, 0⟩ := by unfold txt; rw [h]
set_option maxRecDepth 100000 in
set_option maxHeartbeats 8000000 in
theorem back_walk (v : Value) (L : List Tg) (W : World) (hv : GV W v L) (ho : okG L) (hnv : Nv W) :
    Calls Tryd.prog 7 #[v] W fun e w' => e = .returned (.bool true) ∧ Fr W w' := by
  have HV := Lib.hid hnv
  have HG := Lib.hid hv
  have HT := fun hl w k => Text_any v L w (HG.out.fr k) ho hl (HV.out.fr k)
  obtain ⟨ad, cap, rfl, hcap, hrow⟩ := hv
  have HROW := Lib.hid hrow
  clear hrow
  by_cases hl : 20000 < L.length
  · have hd : decide ((20000 : Int) < (L.length : Int)) = true := decide_eq_true (by omega)
    clear HT hnv
    go_enter Tryd.func7, Tryd.ntmps7
    go_wp2_with (go_at_call 16; refine (awake_any _ HV.out.1).mono ?_; rintro e w9 ⟨rfl, hf9⟩)
    go_ret
    exact ⟨rfl, hf9⟩
  have hd : decide ((20000 : Int) < (L.length : Int)) = false := decide_eq_false (by omega)
  have HT' := Lib.hid (HT (by omega))
  clear HT hnv ho
  cases hw : wds L with
  | none =>
    rw [txt_none hw] at HT'
    clear hw
    go_enter Tryd.func7, Tryd.ntmps7
    go_wp2_with fail
    refine (HT'.out _ (Fr.refl _)).mono ?_
    rintro e w1 ⟨rfl, hf1⟩
    have HF1 := Lib.hid hf1
    clear hf1
    go_wp2_with (go_at_call 16; refine (awake_any _ (HV.out.1.fr HF1.out)).mono ?_; rintro e w9 ⟨rfl, hf9⟩)
    go_ret
    exact ⟨rfl, HF1.out.trans hf9⟩
  | some l =>
    rw [txt_some hw] at HT'
    obtain ⟨s, hs⟩ : ∃ s, s = joinB l := ⟨_, rfl⟩
    rw [← hs] at HT'
    by_cases h4 : 40000 < s.size
    · have h4d : decide ((40000 : Int) < (s.size : Int)) = true := decide_eq_true (by omega)
      clear hw hs
      go_enter Tryd.func7, Tryd.ntmps7
      go_wp2_with fail
      refine (HT'.out _ (Fr.refl _)).mono ?_
      rintro e w1 ⟨rfl, hf1⟩
      have HF1 := Lib.hid hf1
      clear hf1
      go_wp2_with (go_at_call 16; refine (awake_any _ (HV.out.1.fr HF1.out)).mono ?_; rintro e w9 ⟨rfl, hf9⟩)
      go_ret
      exact ⟨rfl, HF1.out.trans hf9⟩
    have h4d : decide ((40000 : Int) < (s.size : Int)) = false := decide_eq_false (by omega)
    obtain ⟨n, hn, hl2, hok, hend⟩ := wds_some L l hw
    have hlen : (L.take n).length = n := by rw [List.length_take]; omega
    have HSC : Hid (n < 20000 → ∃ M : List Tp, scan s = ⟨M ++ [⟨0, nul, 0, s.size⟩], 0, 0⟩ ∧ M.length = (L.take n).length ∧ ∀ (i : Nat) (t : Tg) (x : Tp), (L.take n)[i]? = some t → M[i]? = some x → Same t x) := Lib.hid (fun h => by
      have h5 := scan_words (L.take n) (fun t ht => (hok t ht).1) (by rw [← hl2, ← hs]; omega) (by omega)
      rw [← hl2, ← hs] at h5
      exact h5)
    have HOK := Lib.hid hok
    have HEN := Lib.hid hend
    have HLEN := Lib.hid hlen
    obtain ⟨i0, hi0, hz0, hz1, hz2⟩ := info_parts Tryd.infoTok
    have HI := Lib.hid (And.intro hi0 (And.intro hz0 (And.intro hz1 hz2)))
    clear hw hs hl2 hok hend hlen hi0 hz0 hz1 hz2
    go_enter Tryd.func7, Tryd.ntmps7
    go_wp2_with fail
    refine (HT'.out _ (Fr.refl _)).mono ?_
    rintro e w1 ⟨rfl, hf1⟩
    have HF1 := Lib.hid hf1
    clear hf1
    go_wp2_with fail
    go_loopw [5] (fun i wr => ∃ k : Nat, k ≤ n ∧ i = .int .i64 k ∧ Fr w1 wr) (fun i _ => n - (intOf i).toNat)
    case atStart => exact ⟨0, Nat.zero_le _, rfl, Fr.refl _⟩
    case round =>
      obtain ⟨k, hk, rfl, hfr⟩ := hrel
      by_cases hlt : k < n
      · obtain ⟨t, ht⟩ : ∃ t, L[k]? = some t := ⟨_, List.getElem?_eq_getElem (by omega)⟩
        have hmem : t ∈ L.take n := List.mem_of_getElem? (i := k) (by rw [List.getElem?_take, if_pos hlt]; exact ht)
        have hz : (t.k == 0) = false := by rw [beq_eq_false_iff_ne]; exact (HOK.out t hmem).2
        obtain ⟨b, off, rfl, hgc⟩ := HROW.out (by omega)
        obtain ⟨p0, p1, p2, p3⟩ := (hgc.fr (HF1.out.trans hfr)) k t ht
        have hkl : decide ((k : Int) < (L.length : Int)) = true := decide_eq_true (by omega)
        clear ht hmem hgc p1 p2 p3
        go_wp2_with fail
        go_roundw
        case rel => exact ⟨k + 1, by omega, by go_num, hfr⟩
        case measure => simp [intOf]; omega
      · obtain rfl : k = n := by omega
        have HF2 := Lib.hid (HF1.out.trans hfr)
        have hcase : (¬ k < L.length) ∨ ∃ b off, ad = some ⟨b, off, none⟩ ∧ k < L.length ∧ wr.cell? ⟨b, off + k * 4, none⟩ = some (.int .i64 0) := by
          by_cases hkl : k < L.length
          · right
            obtain ⟨t, ht, h0⟩ := HEN.out hkl
            obtain ⟨b, off, rfl, hgc⟩ := HROW.out (by omega)
            have h1 := (hgc.fr HF2.out k t ht).1
            rw [h0] at h1
            exact ⟨b, off, rfl, hkl, h1⟩
          · exact .inl hkl
        by_cases h20 : 20000 ≤ k
        · have d9 : decide ((20000 : Int) ≤ (k : Int)) = true := decide_eq_true (by omega)
          rcases hcase with hdk | ⟨b, off, rfl, hdk, p0⟩
          · go_wp2_with fail
            · refine (awake_any _ (HV.out.1.fr HF2.out)).mono ?_
              rintro e w9 ⟨rfl, hf9⟩
              go_wp2_with fail
              go_ret
              exact ⟨rfl, HF2.out.trans hf9⟩
          · omega
        have d9 : decide ((20000 : Int) ≤ (k : Int)) = false := decide_eq_false (by omega)
        obtain ⟨M, hsc, hMl, hMs⟩ := HSC.out (by omega)
        have HSC2 := Lib.hid hsc
        have HML := Lib.hid hMl
        have HMS := Lib.hid hMs
        have k1 : (0 : Int) ≤ (k : Int) := by omega
        have k2 : (k : Int) ≤ (cap : Int) := by omega
        clear hsc hMl hMs
        rcases hcase with hdk | ⟨b, off, rfl, hdk, p0⟩
        all_goals
          go_wp2_with fail
          refine (Scan_any s (by omega) _ (HV.out.1.fr HF2.out)).mono ?_
          rintro e w3 ⟨v3, rfl, hv3, hf3⟩
          rw [HSC2.out] at hv3 ⊢
          obtain ⟨b3, o3, c3, rfl, _, htc3⟩ := hv3.tc (by rw [List.length_append, List.length_singleton]; omega)
          have HT3 := Lib.hid htc3.gc
          have HF3 := Lib.hid (HF2.out.trans hf3)
          have hl3 : (M ++ [(⟨0, nul, 0, s.size⟩ : Tp)]).length = k + 1 := by rw [List.length_append, List.length_singleton, HML.out, HLEN.out]
          try dsimp only
          rw [hl3]
          clear hv3 htc3 hf3 hl3
          go_wp2_with (with_reducible refine stop_append ?_)
          unfold Stop
          refine wpList_want (by rfl) fun K hK => ?_
          refine wp_take (.const (.slice none 0 0)) (.tmp 55) 22 rfl 38 i0 (.agg #[.int .i64 0, .string ⟨#[]⟩, .int .i64 0, .int .i64 0]) Tryd.underlying22 HI.out.1 HI.out.2.1 HI.out.2.2.1 HI.out.2.2.2 rfl rfl _ k _ (by rfl) (L.take k) HLEN.out (fun hp => by
            obtain ⟨b2, off2, he, hg⟩ := HROW.out (by omega)
            first
              | (cases he; exact ⟨_, _, rfl, (hg.fr HF3.out).take k⟩)
              | (subst he; exact ⟨b2, off2, by simp [Addr.add], (hg.fr HF3.out).take k⟩)) (by omega) fun v4 w4 hown4 hg4 => hK _ _ ?_
          have HO4 := Lib.hid hown4
          have HX4 := Lib.hid (fr_none hg4)
          clear hown4 hg4 hK
          go_wp2_with (with_reducible refine stop_append ?_)
          unfold Stop
          refine wpList_want (by rfl) fun K hK => ?_
          refine wp_append_own _ (.tmp 56) (.tmp 58) 22 rfl w3.heap.size 38 i0 (.agg #[.int .i64 0, .string ⟨#[]⟩, .int .i64 0, .int .i64 0]) 4 40 Tryd.underlying22 HI.out.1 HI.out.2.1 HI.out.2.2.1 HI.out.2.2.2 rfl (by omega) v4 k _ (by rfl) (own_keep HO4.out ((Fr.refl w4).alloc _)) ⟨w4.heap.size, 0, none⟩ 1 1 (cellsT ⟨0, nul, 0, 0⟩) (by rfl) (by rfl) (one_tok (Tb.new w4 _ _ _ _)) (cellsT_one1 _) (by unfold maxLen; omega) (by omega) (Below.size (Fr.alloc HX4.out _)) fun v5 w5 hown5 hg5 _ => hK _ _ ?_
          have hf5 := own_fr (Fr.alloc HX4.out _) (own_keep HO4.out ((Fr.refl w4).alloc _)) hg5
          obtain ⟨g5, c5, rfl, hgc5⟩ := own_gc (L := L.take k ++ [(⟨0, nul, 0, 0⟩ : Tg)]) (by
            rw [gtoks_snoc, List.length_append, List.length_singleton, HLEN.out]
            exact hown5) (by rw [List.length_append, List.length_singleton]; omega)
          have HT5 := Lib.hid hgc5
          have HT33 := Lib.hid (HT3.out.fr hf5)
          have HF5 := Lib.hid (HF3.out.trans hf5)
          have hl5 : (L.take k ++ [(⟨0, nul, 0, 0⟩ : Tg)]).length = k + 1 := by rw [List.length_append, List.length_singleton, HLEN.out]
          rw [hl5]
          have HAL := Lib.hid (alike_g w5 ((M ++ [(⟨0, nul, 0, s.size⟩ : Tp)]).map tg) (L.take k ++ [(⟨0, nul, 0, 0⟩ : Tg)]) (k + 1) (by rw [List.length_map, List.length_append, List.length_singleton, HML.out, HLEN.out]) hl5.symm (by omega) (alike_back HML.out HMS.out ⟨rfl, rfl, rfl⟩) b3 o3 c3 g5 0 c5 HT33.out HT5.out)
          clear hl5 hgc5 hown5 hg5 hf5 hK
          go_wp2_with (first | (go_at_call 25; refine HAL.out.mono ?_; rintro e w6 ⟨rfl, hf6⟩) | (go_at_call 16; refine (awake_any _ (HV.out.1.fr (HF5.out.trans hf6))).mono ?_; rintro e w7 ⟨rfl, hf7⟩))
          go_ret
          exact ⟨rfl, (HF5.out.trans hf6).trans hf7⟩
end Go.Proofs.YtkkapgidddfdoaaDoor
