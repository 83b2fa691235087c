/- Blanks put in where a token begins: the law's walk. -/
import Derived.Test.YtnjmnmokgfpmhaaDoorMB
import Derived.Test.YtnjmnmokgfpmhaaDoorLR
import Derived.Laws.Concat
namespace Go.Proofs.YtnjmnmokgfpmhaaDoor
open Go.RowKit
set_option linter.unusedVariables false

theorem bt_left (x y : ByteArray) (i : Nat) (h : i < x.size) : bt (x ++ y) i = bt x i := by
  unfold bt
  congr 1
  simp only [ByteArray.data_append, Array.getD_eq_getD_getElem?]
  rw [Array.getElem?_append_left (by simpa using h)]
theorem bt_right (x y : ByteArray) (i : Nat) : bt (x ++ y) (x.size + i) = bt y i := by
  unfold bt
  congr 1
  simp only [ByteArray.data_append, Array.getD_eq_getD_getElem?]
  have e : x.data.size = x.size := rfl
  rw [Array.getElem?_append_right (by rw [e]; omega), e, Nat.add_sub_cancel_left]
theorem scan_parts' (s : ByteArray) : ∃ L e p, scan s = ⟨L, e, p⟩ := ⟨_, _, _, rfl⟩
def blk : ByteArray := ⟨#[9, 32, 47, 47, 42, 32, 10]⟩
theorem cat_pi (s : ByteArray) (p : Nat) (hp : p ≤ s.size) : Pi s (s.extract 0 p ++ blk ++ s.extract p s.size) p := by
  obtain ⟨hpc, hcs⟩ := cut_pc s p hp
  have hx : (s.extract p s.size).size = s.size - p := ext_size _ _ _ (Nat.le_refl _)
  have hb : blk.size = 7 := rfl
  have ha : (s.extract 0 p ++ blk).size = p + 7 := by rw [ByteArray.size_append, hcs, hb]
  have hlo : ∀ i, i < 7 → bt (s.extract 0 p ++ blk ++ s.extract p s.size) (p + i) = bt blk i := fun i hi => by
    rw [bt_left _ _ _ (by omega)]
    have := bt_right (s.extract 0 p) blk i
    rw [hcs] at this; exact this
  refine ⟨hp, by rw [ByteArray.size_append, ha, hx]; omega, fun i hi => ?_, fun i hi => ?_, hlo 0 (by omega), hlo 1 (by omega), hlo 2 (by omega), hlo 3 (by omega), hlo 4 (by omega), hlo 5 (by omega), hlo 6 (by omega)⟩
  · rw [bt_left _ _ _ (by omega), bt_left _ _ _ (by omega)]; exact hpc.at_ i (by omega)
  · have := bt_right (s.extract 0 p ++ blk) (s.extract p s.size) i
    rw [ha] at this
    rw [this, ext_bt _ _ _ _ (Nat.le_refl _) (by omega)]
set_option maxHeartbeats 2000000 in
theorem alike_same (w : World) (L1 L2 : List Tp) (n : Nat) (hn1 : n = L1.length) (hn2 : n = L2.length) (hn : n ≤ 1000000) (hl : ∀ (j : Nat) (t u : Tp), L1[j]? = some t → L2[j]? = some u → t.k = u.k ∧ t.t = u.t ∧ t.n = u.n) (b1 o1 c1 b2 o2 c2 : Nat) (h1 : Tc w b1 o1 L1) (h2 : Tc w b2 o2 L2) :
    Calls Tryd.prog 25 #[.slice (some ⟨b1, o1, none⟩) n c1, .slice (some ⟨b2, o2, none⟩) n c2] w fun e w' => e = .returned (.bool true) ∧ Fr w w' := by
  have H1 := Lib.hid h1
  have H2 := Lib.hid h2
  have HL := Lib.hid hl
  have HN1 := Lib.hid hn1
  have HN2 := Lib.hid hn2
  clear h1 h2 hl hn1 hn2
  go_enter Tryd.func25, Tryd.ntmps25
  go_wp2
  go_loopw [5] (fun i wr => ∃ k : Nat, k ≤ n ∧ i = .int .i64 k ∧ Fr w wr) (fun i _ => n - (intOf i).toNat)
  case atStart => exact ⟨0, Nat.zero_le _, rfl, Fr.refl _⟩
  case round =>
    obtain ⟨k, hk, rfl, hfr⟩ := hrel
    by_cases hlt : k < n
    · obtain ⟨t, ht⟩ : ∃ t, L1[k]? = some t := ⟨_, List.getElem?_eq_getElem (by rw [← HN1.out]; exact hlt)⟩
      obtain ⟨u, hu⟩ : ∃ t, L2[k]? = some t := ⟨_, List.getElem?_eq_getElem (by rw [← HN2.out]; exact hlt)⟩
      obtain ⟨e0, e1, e2⟩ := HL.out k t u ht hu
      obtain ⟨p0, p1, p2, p3⟩ := (H1.out.fr hfr).at_ ht
      obtain ⟨q0, q1, q2, q3⟩ := (H2.out.fr hfr).at_ hu
      rw [← e0] at q0
      rw [← e1] at q1
      rw [← e2] at q2
      have x0 : ((t.k : Int) == (t.k : Int)) = true := by simp
      have x1 : (t.t.toList == t.t.toList) = true := by simp
      have x2 : (t.n == t.n) = true := by simp
      clear e0 e1 e2 p3 q3 ht hu
      go_wp2
      go_quiet (fail)
      go_wp2
      go_roundw
      case rel => exact ⟨k + 1, by omega, by go_num, hfr.drewN _⟩
      case measure => simp [intOf]; omega
    · obtain rfl : k = n := by omega
      go_wp2
      go_ret
      exact ⟨rfl, hfr⟩
theorem alike_sh (A M : List Tp) (o p : Nat) : ∀ (j : Nat) (t u : Tp), (A ++ M.map (shT o))[j]? = some t → (A ++ M.map (shT p))[j]? = some u → t.k = u.k ∧ t.t = u.t ∧ t.n = u.n := by
  intro j t u h1 h2
  by_cases hj : j < A.length
  · rw [List.getElem?_append_left hj] at h1 h2
    rw [h1] at h2
    obtain rfl := Option.some.inj h2
    exact ⟨rfl, rfl, rfl⟩
  · rw [List.getElem?_append_right (by omega), List.getElem?_map] at h1 h2
    cases hm : M[j - A.length]? with
    | none => rw [hm] at h1; cases h1
    | some m =>
      rw [hm] at h1 h2
      obtain rfl := Option.some.inj h1
      obtain rfl := Option.some.inj h2
      exact ⟨rfl, rfl, rfl⟩
set_option maxRecDepth 100000 in
set_option maxHeartbeats 40000000 in
theorem blanks_walk (s : ByteArray) (k : Int) (hs : s.size ≤ 140737488351232) (hk : (Lit.int .i64 k).wf = true) (W : World) (hev : Ev W) :
    Calls Tryd.prog 11 #[.string s, .int .i64 k] W fun e w' => e = .returned (.bool true) ∧ Fr W w' := by
  have HE := Lib.hid hev
  obtain ⟨L, ea, pa, hsa⟩ := scan_parts' s
  have HSC := Lib.hid hsa
  clear hsa
  go_enter Tryd.func11, Tryd.ntmps11
  go_wp2_with fail
  refine (Scan_any s (by omega) _ HE.out).mono ?_
  rintro e w1 ⟨v1, rfl, hv, hf1⟩
  rw [HSC.out] at hv ⊢
  have HE1 := Lib.hid (HE.out.fr hf1)
  have HV := Lib.hid (show TkV w1 v1 L from hv)
  clear hv
  try dsimp only
  by_cases h0 : ea = 0
  · subst h0
    have hsh := scan_shape (s := s) (by rw [HSC.out])
    rw [HSC.out] at hsh
    obtain ⟨hs4, _, hpw, hlast, hlen, hin⟩ := hsh
    obtain ⟨n, hn⟩ : ∃ n, n = L.length := ⟨_, rfl⟩
    have hn0 : 0 < n := by
      rw [hn]
      cases L with
      | nil => cases hlast
      | cons x l => simp
    have hn2 : n ≤ 20000 := by rw [hn]; exact hlen
    have HN := Lib.hid hn
    have HIN := Lib.hid (show ∀ t ∈ L, t.a ≤ s.size from hin)
    obtain ⟨b, off, cap, rfl, hcap, htc⟩ := HV.out.tc (by rw [← hn]; exact hn0)
    have HT := Lib.hid htc
    rw [← hn] at hcap ⊢
    clear hlast hlen hin hpw hn htc
    have u1 : IntKind.i64.wrap ((s.size : Int) + 8) = (s.size : Int) + 8 := IntWalk.i64_in _ (by omega)
    by_cases hk0 : k < 0
    · have d1 : decide (k < 0) = true := decide_eq_true hk0
      go_wp2_with (go_at_call 16; refine (awake_any _ HE1.out).mono ?_; rintro e w' ⟨rfl, hf3⟩)
      go_ret
      exact ⟨rfl, hf1.trans hf3⟩
    obtain ⟨kk, rfl⟩ := Int.eq_ofNat_of_zero_le (show 0 ≤ k by omega)
    have d1 : decide (((kk : Nat) : Int) < 0) = false := decide_eq_false (by omega)
    by_cases hkn : n ≤ kk
    · have d2 : decide ((n : Int) ≤ (kk : Int)) = true := decide_eq_true (by omega)
      go_wp2_with (go_at_call 16; refine (awake_any _ HE1.out).mono ?_; rintro e w' ⟨rfl, hf3⟩)
      go_ret
      exact ⟨rfl, hf1.trans hf3⟩
    have d2 : decide ((n : Int) ≤ (kk : Int)) = false := decide_eq_false (by omega)
    by_cases h8 : 40000 < s.size + 8
    · have d3 : decide ((40000 : Int) < (s.size : Int) + 8) = true := decide_eq_true (by omega)
      go_wp2_with (go_at_call 16; refine (awake_any _ HE1.out).mono ?_; rintro e w' ⟨rfl, hf3⟩)
      go_ret
      exact ⟨rfl, hf1.trans hf3⟩
    have d3 : decide ((40000 : Int) < (s.size : Int) + 8) = false := decide_eq_false (by omega)
    obtain ⟨t, ht⟩ : ∃ t, L[kk]? = some t := ⟨_, List.getElem?_eq_getElem (by rw [← HN.out]; omega)⟩
    have hta := HIN.out t (List.mem_of_getElem? ht)
    obtain ⟨z, hz⟩ : ∃ z, z = s.extract 0 t.a ++ blk ++ s.extract t.a s.size := ⟨_, rfl⟩
    have hpi : Pi s z t.a := by rw [hz]; exact cat_pi s t.a hta
    have hzs := hpi.sz
    obtain ⟨hz0, A, M, hA, hM⟩ := hpi.scan (by omega) (by rw [HSC.out]) (k := kk) (t := t) (by rw [HSC.out]; exact ht) rfl
    rw [HSC.out] at hA
    obtain ⟨Lz, ez, pz, hsz⟩ := scan_parts' z
    rw [hsz] at hz0 hM
    have hz0' : ez = 0 := hz0
    subst hz0'
    have HSZ := Lib.hid hsz
    have HA := Lib.hid (show L = A ++ M.map (shT t.a) from hA)
    have HM := Lib.hid (show Lz = A ++ M.map (shT (t.a + 7)) from hM)
    have HZ := Lib.hid hz
    have c0 : (s.extract 0 t.a).size = t.a := by have := ext_size s 0 t.a hta; omega
    have c1 : (s.extract t.a s.size).size = s.size - t.a := ext_size _ _ _ (Nat.le_refl _)
    have hadd1 : ∀ w, (Op.stringOp .add (s.extract 0 t.a) ⟨#[9, 32, 47, 47, 42, 32, 10]⟩).run Tryd.prog w = .ok (.string (s.extract 0 t.a ++ (⟨#[9, 32, 47, 47, 42, 32, 10]⟩ : ByteArray))) w := fun w => run_string_add_sum w _ (⟨#[9, 32, 47, 47, 42, 32, 10]⟩ : ByteArray) (by rw [c0]; show t.a + 7 ≤ _; omega)
    have hadd2 : ∀ w, (Op.stringOp .add (s.extract 0 t.a ++ (⟨#[9, 32, 47, 47, 42, 32, 10]⟩ : ByteArray)) (s.extract t.a s.size)).run Tryd.prog w = .ok (.string (s.extract 0 t.a ++ (⟨#[9, 32, 47, 47, 42, 32, 10]⟩ : ByteArray) ++ s.extract t.a s.size)) w := fun w => by
      exact run_string_add_sum w _ _ (by rw [ByteArray.size_append, c0, c1]; show t.a + 7 + (s.size - t.a) ≤ _; omega)
    have k1 : (0 : Int) ≤ (kk : Int) := by omega
    have k2 : (kk : Int) < (n : Int) := by omega
    have p1 : (0 : Int) ≤ (t.a : Int) := by omega
    have p2 : (t.a : Int) ≤ (s.size : Int) := by omega
    have hze : z = (s.extract 0 t.a ++ (⟨#[9, 32, 47, 47, 42, 32, 10]⟩ : ByteArray) ++ s.extract t.a s.size) := HZ.out
    have HZB := Lib.hid (show (s.extract 0 t.a ++ (⟨#[9, 32, 47, 47, 42, 32, 10]⟩ : ByteArray) ++ s.extract t.a s.size).size ≤ 9223372036854775807 by rw [← hze]; omega)
    have HSZ2 := Lib.hid (show scan (s.extract 0 t.a ++ (⟨#[9, 32, 47, 47, 42, 32, 10]⟩ : ByteArray) ++ s.extract t.a s.size) = ⟨Lz, 0, pz⟩ by rw [← hze]; exact HSZ.out)
    have HSW := Lib.hid (show ∀ W, Fr w1 W → Calls Tryd.prog 13 #[.string (s.extract 0 t.a ++ (⟨#[9, 32, 47, 47, 42, 32, 10]⟩ : ByteArray) ++ s.extract t.a s.size)] W fun e w' => ∃ v : Value, e = .returned (.tuple #[v, .int .i64 0, .int .i64 pz]) ∧ TkV w' v Lz ∧ Fr W w' from fun W hW => (Scan_any (s.extract 0 t.a ++ (⟨#[9, 32, 47, 47, 42, 32, 10]⟩ : ByteArray) ++ s.extract t.a s.size) HZB.out W (HE1.out.fr hW)).mono (by rw [HSZ2.out]; rintro e w' ⟨v, h1, h2, h3⟩; exact ⟨v, h1, h2, h3⟩))
    have HTT := Lib.hid ht
    have hq0 : Fr w1 w1.drew := (Fr.refl w1).drew
    have g1 := (mkR HT.out HTT.out hq0).1
    clear hze hz hpi hzs hA hM hsz hz0 ht c0 c1 h8 hk
    go_wp2_with fail
    go_region_held3 (fun W' => W'.cell? ⟨b, off + kk * 4 + 3, none⟩ = some (.int .i64 t.a) ∧ Fr w1 W')
      (first | exact mkR HT.out HTT.out (by assumption))
      ((first
        | (go_at_call 13; refine (HSW.out _ hq0).mono ?_; rintro e w2 ⟨v2, rfl, hv2, hf2⟩; have HV2 := Lib.hid hv2; clear hv2; have hf12 := hq0.trans hf2)))
    all_goals
      have hnz : n = Lz.length := by rw [HN.out, HA.out, HM.out]; simp
      obtain ⟨b2, o2, c2, rfl, _, ht2⟩ := HV2.out.tc (by rw [← hnz]; exact hn0)
      rw [← hnz]
      have HT2 := Lib.hid ht2
      have HNZ := Lib.hid hnz
      have HT1 := Lib.hid (HT.out.fr hf12)
      have HE2 := Lib.hid (HE1.out.fr hf12)
      have hfw := hf1.trans hf12
      have hn3 : n ≤ 1000000 := by omega
      clear ht2 hnz
      go_wp2_with (first | (go_at_call 25; refine (alike_same _ L Lz n HN.out HNZ.out hn3 (by rw [HA.out, HM.out]; exact alike_sh A M _ _) b off cap b2 o2 c2 HT1.out HT2.out).mono ?_; rintro e w6 ⟨rfl, hf6⟩) | (go_at_call 16; refine (awake_any _ (HE2.out.fr hf6)).mono ?_; rintro e w7 ⟨rfl, hf7⟩))
      go_ret
      exact ⟨rfl, (hfw.trans hf6).trans hf7⟩
  · have t1 : ((ea : Int) == 0) = false := by rw [beq_eq_false_iff_ne]; omega
    go_wp2_with (go_at_call 16; refine (awake_any _ HE1.out).mono ?_; rintro e w' ⟨rfl, hf3⟩)
    go_ret
    exact ⟨rfl, hf1.trans hf3⟩
end Go.Proofs.YtnjmnmokgfpmhaaDoor
