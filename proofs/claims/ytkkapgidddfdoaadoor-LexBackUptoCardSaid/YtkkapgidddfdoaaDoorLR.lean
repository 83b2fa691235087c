/- Where tokens stand, and a source that is cut at one: the law's walk. -/
import Derived.Test.YtkkapgidddfdoaaDoorMP
import Derived.Test.YtkkapgidddfdoaaDoorYA
import Derived.Test.YtkkapgidddfdoaaDoorET
import Derived.IntWalk
import Derived.Outline
namespace Go.Proofs.YtkkapgidddfdoaaDoor
open Go.RowKit
set_option linter.unusedVariables false

theorem rise_at {L : List Tp} (h : L.Pairwise (fun x y => x.a < y.a)) {q j : Nat} {x y : Tp} (hq : L[q]? = some x) (hj : L[j]? = some y) (hlt : q < j) : x.a < y.a := by
  obtain ⟨h1, rfl⟩ := List.getElem?_eq_some_iff.1 hq
  obtain ⟨h2, rfl⟩ := List.getElem?_eq_some_iff.1 hj
  exact List.pairwise_iff_getElem.1 h q j h1 h2 hlt
theorem fr_none {a b : World} (h : a.grownBy b none) : Fr a b := by
  obtain ⟨h1, h2, h3, h4, h5⟩ := h
  exact ⟨h1, h2, h3, h4, fun k hk => h5 k hk (by simp)⟩
theorem mkR {w2 W : World} {b off kk : Nat} {L : List Tp} {t : Tp} (h : Tc w2 b off L) (ht : L[kk]? = some t) (k : Fr w2 W) : W.cell? ⟨b, off + kk * 4 + 3, none⟩ = some (.int .i64 t.a) ∧ Fr w2 W :=
  ⟨((h.fr k).at_ ht).2.2.2, k⟩
theorem one_tok {W : World} {B : Nat} {t : Tp} (h : Tb W B (.int .i64 t.k) (.string t.t) (.int .i64 t.n) (.int .i64 t.a)) : ∀ j u, (cellsT t)[j]? = some u → W.cell? ((⟨B, 0, none⟩ : Addr).add j) = some u := by
  intro j u hu
  obtain ⟨y0, y1, y2, y3⟩ := h.cells
  rw [ap_add, Nat.zero_add]
  match j, hu with
  | 0, hu => obtain rfl : _ = u := Option.some.inj hu; exact y0
  | 1, hu => obtain rfl : _ = u := Option.some.inj hu; exact y1
  | 2, hu => obtain rfl : _ = u := Option.some.inj hu; exact y2
  | 3, hu => obtain rfl : _ = u := Option.some.inj hu; exact y3
theorem cellsT_one1 (t : Tp) : ∀ u ∈ cellsT t, u.oneCell' = true := by
  intro u hu
  simp only [cellsT, List.mem_cons, List.not_mem_nil, or_false] at hu
  rcases hu with rfl | rfl | rfl | rfl <;> rfl
set_option maxRecDepth 100000 in
set_option maxHeartbeats 4000000 in
theorem rises_walk (s : ByteArray) (k : Int) (hs : s.size ≤ 140737488351232) (hk : (Lit.int .i64 k).wf = true) (W : World) (hev : Ev W) :
    Calls Tryd.prog 10 #[.string s, .int .i64 k] W fun e w' => e = .returned (.bool true) ∧ Fr W w' := by
  have HE := Lib.hid hev
  obtain ⟨ea, hea⟩ : ∃ x, x = (scan s).er := ⟨_, rfl⟩
  obtain ⟨pa, hpa⟩ : ∃ x, x = (scan s).a := ⟨_, rfl⟩
  obtain ⟨L, hL⟩ : ∃ x, x = (scan s).l := ⟨_, rfl⟩
  have HSC := Lib.hid (show scan s = ⟨L, ea, pa⟩ by rw [hea, hpa, hL])
  by_cases h0 : ea = 0
  · have hsh := scan_shape (s := s) (by rw [← hea]; exact h0)
    rw [← hL, ← hpa] at hsh
    obtain ⟨hs4, ha0, hpw, hlast, hlen, hin⟩ := hsh
    have HCUT := Lib.hid (show ∀ k t, L[k]? = some t → scan (s.extract 0 t.a) = ⟨L.take k ++ [⟨0, nul, 0, t.a⟩], 0, 0⟩ from fun k t ht => by
      have := scan_cut (s := s) (k := k) (t := t) (by rw [← hea]; exact h0) (by rw [← hL]; exact ht)
      rw [← hL] at this; exact this)
    clear hea hpa hL
    subst h0
    subst ha0
    obtain ⟨n, hn⟩ : ∃ n, n = L.length := ⟨_, rfl⟩
    obtain ⟨m, hm⟩ : ∃ m, n = m + 1 := by
      cases L with
      | nil => cases hlast
      | cons x l => exact ⟨l.length, by rw [hn, List.length_cons]⟩
    have hLm : L[m]? = some ⟨0, nul, 0, s.size⟩ := by
      rw [List.getLast?_eq_getElem?, ← hn, hm, Nat.add_sub_cancel] at hlast; exact hlast
    have HN := Lib.hid hn
    have HPW := Lib.hid hpw
    have HIN := Lib.hid hin
    have hn2 : n ≤ 20000 := by omega
    have hwm : IntKind.i64.wrap ((n : Int) - 1) = ((m : Nat) : Int) := by rw [IntWalk.i64_in _ (by omega)]; omega
    have ht0 : ((n : Int) == 0) = false := by rw [beq_eq_false_iff_ne]; omega
    have hm1 : (0 : Int) ≤ (m : Int) := by omega
    have hm2 : (m : Int) < (n : Int) := by omega
    have hn1 : 1 ≤ n := by omega
    clear hm
    obtain ⟨i0, hi0, hz0, hz1, hz2⟩ := info_parts Tryd.infoTok
    have HI := Lib.hid (And.intro hi0 (And.intro hz0 (And.intro hz1 hz2)))
    clear hlast hlen hin hpw hn hi0 hz0 hz1 hz2
    go_enter Tryd.func10, Tryd.ntmps10
    go_wp2_with fail
    refine (Scan_any s (by omega) _ HE.out).mono ?_
    rintro e w1 ⟨v1, rfl, hv, hf1⟩
    rw [HSC.out] at hv ⊢
    obtain ⟨b, off, cap, rfl, hcap, htc⟩ := TkV.tc (L := L) hv (by rw [← HN.out]; omega)
    have HT := Lib.hid htc
    obtain ⟨l0, l1', l2, l3⟩ := htc.at_ hLm
    have l1 : w1.cell? ⟨b, off + m * 4 + 1, none⟩ = some (.string ⟨#[]⟩) := l1'
    clear l1'
    rw [← HN.out] at hcap ⊢
    clear hv htc hLm
    go_wp2_with fail
    clear l0 l1 l2 l3
    go_loopw [8] (fun i wr => ∃ j : Nat, 1 ≤ j ∧ j ≤ n ∧ i = .int .i64 j ∧ Fr w1 wr) (fun i _ => n - (intOf i).toNat)
    case atStart => exact ⟨1, by omega, by omega, rfl, Fr.refl _⟩
    case round =>
      obtain ⟨j, hj1, hj, rfl, hfr⟩ := hrel
      by_cases hlt : j < n
      · obtain ⟨q, hq⟩ : ∃ q, j = q + 1 := ⟨j - 1, by omega⟩
        obtain ⟨tj, htj⟩ : ∃ t, L[j]? = some t := ⟨_, List.getElem?_eq_getElem (by rw [← HN.out]; exact hlt)⟩
        obtain ⟨tq, htq⟩ : ∃ t, L[q]? = some t := ⟨_, List.getElem?_eq_getElem (by rw [← HN.out]; omega)⟩
        have hr := rise_at HPW.out htq htj (by omega)
        have g1 := ((HT.out.fr hfr).at_ htj).2.2.2
        have g2 := ((HT.out.fr hfr).at_ htq).2.2.2
        have hwq : IntKind.i64.wrap ((j : Int) - 1) = ((q : Nat) : Int) := by rw [IntWalk.i64_in _ (by omega)]; omega
        have d1 : decide ((tj.a : Int) < (tq.a : Int)) = false := decide_eq_false (by omega)
        have d1n : decide (tj.a < tq.a) = false := decide_eq_false (by omega)
        have d1p : ¬ (tj.a < tq.a) := by omega
        have d2 : ((tj.a : Int) == (tq.a : Int)) = false := by rw [beq_eq_false_iff_ne]; omega
        have q1 : (0 : Int) ≤ (q : Int) := by omega
        have q2 : (q : Int) < (n : Int) := by omega
        clear htj htq hr hq
        go_wp2_with fail
        go_quiet (fail)
        go_wp2_with fail
        go_roundw
        case rel => exact ⟨j + 1, by omega, by omega, by go_num, hfr.drewN _⟩
        case measure => simp [intOf]; omega
      · obtain rfl : j = n := by omega
        have hfw := hf1.trans hfr
        have HEr := Lib.hid (HE.out.fr hfw)
        by_cases hk0 : k < 0
        · have d1 : decide (k < 0) = true := decide_eq_true hk0
          go_wp2_with (go_at_call 16; refine (awake_any _ HEr.out).mono ?_; rintro e w' ⟨rfl, hf3⟩)
          go_ret
          exact ⟨rfl, hfw.trans hf3⟩
        · obtain ⟨kk, rfl⟩ := Int.eq_ofNat_of_zero_le (show 0 ≤ k by omega)
          have d1 : decide (((kk : Nat) : Int) < 0) = false := decide_eq_false (by omega)
          by_cases hkn : j ≤ kk
          · have d2 : decide ((j : Int) ≤ (kk : Int)) = true := decide_eq_true (by omega)
            go_wp2_with (go_at_call 16; refine (awake_any _ HEr.out).mono ?_; rintro e w' ⟨rfl, hf3⟩)
            go_ret
            exact ⟨rfl, hfw.trans hf3⟩
          · have d2 : decide ((j : Int) ≤ (kk : Int)) = false := decide_eq_false (by omega)
            obtain ⟨t, ht⟩ : ∃ t, L[kk]? = some t := ⟨_, List.getElem?_eq_getElem (by rw [← HN.out]; omega)⟩
            have hta := HIN.out t (List.mem_of_getElem? ht)
            have hcut := HCUT.out kk t ht
            have g1 := ((HT.out.fr hfr).at_ ht).2.2.2
            have k1 : (0 : Int) ≤ (kk : Int) := by omega
            have k2 : (kk : Int) < (j : Int) := by omega
            have k3 : (kk : Int) ≤ (cap : Int) := by omega
            have p1 : (0 : Int) ≤ (t.a : Int) := by omega
            have p2 : (t.a : Int) ≤ (s.size : Int) := by omega
            have HTT := Lib.hid ht
            have HCT := Lib.hid hcut
            clear ht hcut
            go_wp2_with fail
            refine (Scan_any (s.extract 0 t.a) (by rw [ext_size _ _ _ hta]; omega) _ HEr.out).mono ?_
            rintro e w2 ⟨v2, rfl, hv2, hf2⟩
            rw [HCT.out] at hv2 ⊢
            have HV2 := Lib.hid hv2
            have HT2 := Lib.hid (HT.out.fr (hfr.trans hf2))
            have hfw2 := hfw.trans hf2
            have HE2 := Lib.hid (HE.out.fr hfw2)
            clear g1 hv2
            have hq0 : Fr w2 w2.drew := (Fr.refl w2).drew
            have g1 := (mkR HT2.out HTT.out hq0).1
            go_wp2_with fail
            go_region_held3 (fun W' => W'.cell? ⟨b, off + kk * 4 + 3, none⟩ = some (.int .i64 t.a) ∧ Fr w2 W')
              (first | exact mkR HT2.out HTT.out (by assumption) | exact mkR HT2.out HTT.out (Fr.alloc (by assumption) _) | exact mkR HT2.out HTT.out (((Fr.refl w2).alloc _).drew))
              ((first
                | (refine step_append_own (by rfl) (.const (.slice none 0 0)) (.tmp 118) _ (by rfl) w2.heap.size 38 i0 (.agg #[.int .i64 0, .string ⟨#[]⟩, .int .i64 0, .int .i64 0]) 4 40 Tryd.underlying22 HI.out.1 HI.out.2.1 HI.out.2.2.1 HI.out.2.2.2 rfl (by decide) _ 0 [] (by rfl) (World.ownsRow_nil _ _ _ _) ⟨b, off, none⟩ kk _ (toks (L.take kk)) (by rfl) (by rw [toks_len, List.length_take, ← HN.out]; omega) (fun j u hu => by rw [ap_add]; exact (HT2.out.fr (by first | exact hq0 | exact ((Fr.refl w2).alloc _).drew)).take kk j u hu) (cellsT_one _) (by unfold maxLen; omega) (by omega) (Below.size (by first | exact hq0 | exact ((Fr.refl w2).alloc _).drew)) ?_; intro v4 w4 hown4 hg4; have hfX := fr_none hg4; have hf4 := Fr.trans (by first | exact hq0 | exact ((Fr.refl w2).alloc _).drew) hfX; have HO4 := Lib.hid hown4; clear hown4; try (have hTB4 : Tb w4 w2.heap.size (.int .i64 0) (.string ⟨#[]⟩) (.int .i64 0) (.int .i64 t.a) := Tb.fr (w := (w2.alloc _).drew) (Tb.new w2 _ _ _ _) hfX))
                | (refine step_append_own (by rfl) (.tmp 119) (.tmp 126) _ (by rfl) w2.heap.size 38 i0 (.agg #[.int .i64 0, .string ⟨#[]⟩, .int .i64 0, .int .i64 0]) 4 40 Tryd.underlying22 HI.out.1 HI.out.2.1 HI.out.2.2.1 HI.out.2.2.2 rfl (by decide) v4 (0 + kk) _ (by rfl) HO4.out ⟨w2.heap.size, 0, none⟩ 1 1 (cellsT ⟨0, nul, 0, t.a⟩) (by rfl) (by rfl) (one_tok hTB4) (cellsT_one1 _) (by unfold maxLen; omega) (by omega) (Below.size hf4) ?_; intro v5 w5 hown5 hg5; have hf5 := own_fr hf4 HO4.out hg5; have HO5 := Lib.hid hown5; clear hown5)
                | (refine step_append_own (by rfl) (.tmp 119) (.tmp 126) _ (by rfl) w2.heap.size 38 i0 (.agg #[.int .i64 0, .string ⟨#[]⟩, .int .i64 0, .int .i64 0]) 4 40 Tryd.underlying22 HI.out.1 HI.out.2.1 HI.out.2.2.1 HI.out.2.2.2 rfl (by decide) v4 (0 + kk) _ (by rfl) (own_keep HO4.out ((Fr.refl w4).alloc _)) ⟨w4.heap.size, 0, none⟩ 1 1 (cellsT ⟨0, nul, 0, t.a⟩) (by rfl) (by rfl) (one_tok (Tb.new w4 _ _ _ _)) (cellsT_one1 _) (by unfold maxLen; omega) (by omega) (Below.size (Fr.alloc hf4 _)) ?_; intro v5 w5 hown5 hg5; have hf5 := own_fr (Fr.alloc hf4 _) (own_keep HO4.out ((Fr.refl w4).alloc _)) hg5; have HO5 := Lib.hid hown5; clear hown5)))
            all_goals
              obtain ⟨L2, hL2⟩ : ∃ x, x = L.take kk ++ [(⟨0, nul, 0, t.a⟩ : Tp)] := ⟨_, rfl⟩
              have hl2 : L2.length = kk + 1 := by
                rw [hL2, List.length_append, List.length_take, List.length_singleton, ← HN.out]; omega
              have hv5 : TkV w5 v5 L2 := TkV.own (B := w2.heap.size) (by
                have h := HO5.out
                rw [Nat.zero_add, List.nil_append] at h
                rw [hl2, hL2, toks_snoc]; exact h)
              have hv2 : TkV w2 v2 L2 := by rw [hL2]; exact HV2.out
              obtain ⟨b2, o2, c2, rfl, _, ht2⟩ := hv2.tc (by omega)
              obtain ⟨b5, o5, c5, rfl, _, ht5⟩ := hv5.tc (by omega)
              have HT5 := Lib.hid ht5
              have HT22 := Lib.hid (ht2.fr hf5)
              have hfw5 := hfw2.trans hf5
              have HE5 := Lib.hid (HE2.out.fr hf5)
              have hl3 : L2.length ≤ 1000000 := by omega
              have hl4 : 0 < L2.length := by omega
              clear hv5 hv2 ht2 ht5 hL2 hl2
              go_wp2_with (first | (go_at_call 15; refine (eqTokens_same _ L2 hl3 hl4 b2 o2 c2 b5 o5 c5 HT22.out HT5.out).mono ?_; rintro e w6 ⟨rfl, hf6⟩) | (go_at_call 16; refine (awake_any _ (HE5.out.fr hf6)).mono ?_; rintro e w7 ⟨rfl, hf7⟩))
              go_ret
              exact ⟨rfl, (hfw5.trans hf6).trans hf7⟩
  · have hbad := scan_bad (s := s) (by rw [← hea]; exact h0)
    rw [← hL, ← hpa] at hbad
    obtain ⟨rfl, hpl⟩ := hbad
    clear hea hpa hL
    have t1 : ((ea : Int) == 0) = false := by rw [beq_eq_false_iff_ne]; omega
    have t2 : decide ((0 : Int) ≤ (pa : Int)) = true := decide_eq_true (by omega)
    have t3 : decide ((pa : Int) ≤ (s.size : Int)) = true := decide_eq_true (by omega)
    go_enter Tryd.func10, Tryd.ntmps10
    go_wp2_with fail
    refine (Scan_any s (by omega) _ HE.out).mono ?_
    rintro e w1 ⟨v1, rfl, hv, hf1⟩
    rw [HSC.out] at hv ⊢
    obtain ⟨a1, cap, rfl, _, _⟩ := hv
    have HE1 := Lib.hid (HE.out.fr hf1)
    simp only [List.length_nil]
    go_wp2_with (go_at_call 16; refine (awake_any _ HE1.out).mono ?_; rintro e w' ⟨rfl, hf3⟩)
    go_ret
    exact ⟨rfl, hf1.trans hf3⟩
end Go.Proofs.YtkkapgidddfdoaaDoor
