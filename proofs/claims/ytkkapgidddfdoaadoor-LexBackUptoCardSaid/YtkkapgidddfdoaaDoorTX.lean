/- The text of tokens: the contract of the function that writes it. -/
import Derived.Test.YtkkapgidddfdoaaDoorTW
import Derived.Test.YtkkapgidddfdoaaDoorSH4
import Derived.Laws.OwnMore
namespace Go.Proofs.YtkkapgidddfdoaaDoor
open Go.RowKit
set_option linter.unusedVariables false

/-- The words of tokens, up to the end. -/
noncomputable def wds : List Tg → Option (List ByteArray)
  | [] => some []
  | t :: r => if (wrE t).ok = false then none else if t.k = 0 then some [] else (wds r).map (fun l => (wrE t).t :: l)
theorem wds_bad {t : Tg} {r : List Tg} (h : (wrE t).ok = false) : wds (t :: r) = none := by rw [wds, if_pos h]
theorem wds_end {t : Tg} {r : List Tg} (h : (wrE t).ok = true) (h0 : t.k = 0) : wds (t :: r) = some [] := by rw [wds, if_neg (by rw [h]; decide), if_pos h0]
theorem wds_go {t : Tg} {r : List Tg} (h : (wrE t).ok = true) (h0 : t.k ≠ 0) : wds (t :: r) = (wds r).map (fun l => (wrE t).t :: l) := by rw [wds, if_neg (by rw [h]; decide), if_neg h0]
def joinB (l : List ByteArray) : ByteArray := ⟨(Lib.join (l.map (·.data.toList)) [32]).toArray⟩
noncomputable def txt (L : List Tg) : Tx := match wds L with
  | none => ⟨nul, 3⟩
  | some l => ⟨joinB l, 0⟩
theorem drop_step {L : List Tg} {j : Nat} {t : Tg} (h : L[j]? = some t) : L.drop j = t :: L.drop (j + 1) := by
  obtain ⟨hj, rfl⟩ := List.getElem?_eq_some_iff.1 h
  exact List.drop_eq_getElem_cons hj
theorem has_small {L : Nat} {f : Nat → ByteArray} {s : ByteArray} {m : Nat} (h : hasB L f s = true) (hf : ∀ i, i < L → (f i).size ≤ m) : s.size ≤ m := by
  obtain ⟨i, hi, e⟩ := has_up h
  have := hf i hi
  rw [e] at this; exact this
theorem wr_short {t : Tg} (h : (wr t).ok = true) : (wr t).t.size ≤ 202 := by
  unfold wr at h ⊢
  by_cases k2 : t.k = 2
  · rw [if_pos k2] at h ⊢
    simp only [Bool.and_eq_true, decide_eq_true_eq] at h ⊢
    have := (num_tok h.1 (At.self _)).2.2.2; omega
  rw [if_neg k2] at h ⊢
  by_cases k3 : t.k = 3
  · rw [if_pos k3] at h ⊢
    simp only [Bool.and_eq_true, decide_eq_true_eq] at h ⊢
    exact (quo_tok h.1 (At.self _)).2.2.2
  rw [if_neg k3] at h ⊢
  by_cases k1 : t.k = 1
  · rw [if_pos k1] at h ⊢
    simp only [Bool.and_eq_true, decide_eq_true_eq] at h ⊢
    have := (of_decide_eq_true h.1).2.1; omega
  rw [if_neg k1] at h ⊢
  by_cases k4 : t.k = 4
  · rw [if_pos k4] at h ⊢
    simp only [Bool.and_eq_true, decide_eq_true_eq] at h ⊢
    have := has_le h.1; omega
  rw [if_neg k4] at h ⊢
  by_cases k5 : t.k = 5
  · rw [if_pos k5] at h ⊢
    simp only [Bool.and_eq_true, decide_eq_true_eq] at h ⊢
    have := has_small h.1 (m := 2) (fun i hi => by have := sgn_size i hi; omega); omega
  rw [if_neg k5] at h
  simp at h
theorem wrE_short {t : Tg} (h : (wrE t).ok = true) : (wrE t).t.size ≤ 202 := by
  unfold wrE at h ⊢
  by_cases k0 : t.k = 0
  · rw [if_pos k0]; exact Nat.zero_le _
  · rw [if_neg k0] at h ⊢; exact wr_short h
def strs (l : List ByteArray) : List Value := l.map Value.string
theorem strs_snoc (l : List ByteArray) (x : ByteArray) : strs (l ++ [x]) = strs l ++ many 1 (fun _ => Value.string x) := by unfold strs; rw [List.map_append]; rfl
theorem strs_len (l : List ByteArray) : (strs l).length = l.length := by unfold strs; simp
theorem jt_len : ∀ l : List ByteArray, (∀ x ∈ l, x.size ≤ 202) → (Lib.joinTail [32] (l.map (·.data.toList))).length ≤ 203 * l.length
  | [], _ => by simp [Lib.joinTail]
  | x :: r, h => by
    have h1 := h x (by simp)
    have ih := jt_len r (fun z hz => h z (by simp [hz]))
    have e : x.data.toList.length = x.size := by rw [Array.length_toList]; rfl
    simp only [Lib.joinTail, List.map_cons, List.flatten_cons, List.length_append, List.length_cons, List.length_nil] at ih ⊢
    omega
theorem join_len (l : List ByteArray) (h : ∀ x ∈ l, x.size ≤ 202) : (Lib.join (l.map (·.data.toList)) [32]).length ≤ 203 * l.length := by
  cases l with
  | nil => simp [Lib.join_nil]
  | cons x r =>
    have h1 := h x (by simp)
    have h2 := jt_len r (fun z hz => h z (by simp [hz]))
    have e : x.data.toList.length = x.size := by rw [Array.length_toList]; rfl
    rw [List.map_cons, Lib.join_cons, List.length_append, List.length_cons]
    omega
theorem joinB_nil : joinB [] = nul := rfl
theorem joinB_one (x : ByteArray) : joinB [x] = x := by
  unfold joinB
  rw [List.map_singleton, Lib.join_one]
theorem joinB_snoc (l : List ByteArray) (x : ByteArray) (h : l ≠ []) : joinB (l ++ [x]) = joinB l ++ ⟨#[32]⟩ ++ x := by
  cases l with
  | nil => exact absurd rfl h
  | cons y r =>
    unfold joinB
    have e : Lib.joinTail [32] ((r ++ [x]).map (·.data.toList)) = Lib.joinTail [32] (r.map (·.data.toList)) ++ [32] ++ x.data.toList := by
      simp [Lib.joinTail, List.append_assoc]
    rw [List.cons_append, List.map_cons, Lib.join_cons, e, List.map_cons, Lib.join_cons]
    apply ByteArray.ext
    simp [ByteArray.data_append]
theorem Tryd.infoStr : (Tryd.prog.info? 9).map (fun i => (i.zero, i.size, i.bytes)) = some (some (.string ⟨#[]⟩), 1, 16) := by kernel_rfl
theorem Join_own {W : World} {B : Nat} {v : Value} {l : List ByteArray} (h : W.ownsRow B 9 1 v l.length (strs l)) (hl : l.length ≤ 1000000) (hs : ∀ x ∈ l, x.size ≤ 202) :
    Calls Tryd.prog 40 #[v, .string ⟨#[32]⟩] W fun e w' => e = .returned (.string (joinB l)) ∧ Fr W w' := by
  rcases h.2 with ⟨rfl, h0⟩ | ⟨g, cap, cur, rfl, hb, hg, hm, hmx, hsz, ht⟩
  · obtain rfl : l = [] := List.eq_nil_of_length_eq_zero h0
    refine (Tryd.strings_Join_none none 0 ⟨#[32]⟩ W).mono ?_
    rintro e w' ⟨rfl, rfl⟩
    exact ⟨rfl, Fr.refl _⟩
  · refine (Tryd.strings_Join g 0 cap l ⟨#[32]⟩ W (fun j x hx => ?_) (Array.getElem?_eq_some_iff.1 hg).1 (by omega) (by omega) (by have := join_len l hs; show (Lib.join (l.map (·.data.toList)) [32]).length ≤ _; omega)).mono ?_
    · have hj : j < l.length := (List.getElem?_eq_some_iff.1 hx).1
      have h1 : (strs l)[j]? = some (.string x) := by unfold strs; rw [List.getElem?_map, hx]; rfl
      rw [← ht, Nat.mul_one, List.getElem?_take_of_lt hj] at h1
      rw [Nat.zero_add]
      simp only [World.cell?, hg]
      simpa using h1
    · rintro e w' ⟨rfl, hf⟩
      exact ⟨rfl, hf⟩
set_option maxRecDepth 100000 in
set_option maxHeartbeats 4000000 in
theorem Text_any (v : Value) (L : List Tg) (w : World) (hv : GV w v L) (ho : okG L) (hl : L.length ≤ 20000) (hnv : Nv w) :
    Calls Tryd.prog 23 #[v] w fun e w' => e = .returned (.tuple #[.string (txt L).t, .int .i64 (txt L).e]) ∧ Fr w w' := by
  have HV := Lib.hid hnv
  have HOK := Lib.hid ho
  obtain ⟨ad, cap, rfl, hcap, hrow⟩ := hv
  have HROW := Lib.hid hrow
  obtain ⟨u0, hi0, hz0, hz1, hz2⟩ := info_parts Tryd.infoStr
  have HU := Lib.hid (And.intro hi0 (And.intro hz0 (And.intro hz1 hz2)))
  obtain ⟨n, hn⟩ : ∃ n, n = L.length := ⟨_, rfl⟩
  have HN := Lib.hid hn
  rw [← hn] at hl ⊢
  clear hnv ho hrow hi0 hz0 hz1 hz2 hcap hn
  go_enter Tryd.func23, Tryd.ntmps23
  go_wp2_with fail
  go_loopw [4, 11] (fun o i wr => ∃ (l : List ByteArray) (j : Nat), j ≤ n ∧ i = .int .i64 j ∧ l.length = j ∧ Hid (wds L = (wds (L.drop j)).map (fun r => l ++ r)) ∧ Hid (∀ x ∈ l, x.size ≤ 202) ∧ wr.ownsRow w.heap.size 9 1 o l.length (strs l) ∧ Fr w wr) (fun _ i _ => n - (intOf i).toNat)
  case atStart => exact ⟨[], 0, Nat.zero_le _, rfl, rfl, Lib.hid (by simp), Lib.hid (by simp), World.ownsRow_nil _ _ _ _, Fr.refl _⟩
  case round =>
    obtain ⟨l, j, hj, rfl, hlj, HW, HS, hown, hfr⟩ := hrel
    have HO := Lib.hid hown
    have HLJ := Lib.hid hlj
    clear hown hlj
    obtain ⟨A0, c0, rfl⟩ := own_form HO.out
    by_cases hlt : j < n
    · obtain ⟨t, ht⟩ : ∃ t, L[j]? = some t := ⟨_, List.getElem?_eq_getElem (by rw [← HN.out]; exact hlt)⟩
      have hmem := List.mem_of_getElem? ht
      obtain ⟨q1, q2, q3, q4⟩ := HOK.out.2 t hmem
      have hdr := drop_step ht
      obtain ⟨b, off, rfl, hgc⟩ := HROW.out (by rw [← HN.out]; omega)
      obtain ⟨p0, p1, p2, p3⟩ := (hgc.fr hfr) j t ht
      have HB : Hid ((wrE t).ok = false → wds L = none) := Lib.hid (fun h => by rw [HW.out, hdr, wds_bad h]; rfl)
      have HE : Hid ((wrE t).ok = true → t.k = 0 → wds L = some l) := Lib.hid (fun h h0 => by rw [HW.out, hdr, wds_end h h0]; simp)
      have HG : Hid ((wrE t).ok = true → t.k ≠ 0 → wds L = (wds (L.drop (j + 1))).map (fun r => (l ++ [(wrE t).t]) ++ r)) := Lib.hid (fun h h0 => by
        rw [HW.out, hdr, wds_go h h0, Option.map_map]
        congr 1
        funext r
        simp)
      have HSH : Hid ((wrE t).ok = true → (wrE t).t.size ≤ 202) := Lib.hid wrE_short
      have hwr := fun w h => written_any t (by omega) q3 w h
      obtain ⟨⟨wt, wk⟩, hw⟩ : ∃ r, r = wrE t := ⟨_, rfl⟩
      rw [← hw] at HB HE HG HSH hwr
      simp only at HB HE HG HSH hwr
      have HWR := Lib.hid hwr
      obtain ⟨tk, tt, tn, ta⟩ := t
      simp only at p0 p1 p2 p3 HE HG HWR
      have HF1 := Lib.hid (hfr.alloc (.cells #[.int .i64 tk, .string tt, .int .i64 tn, .int .i64 ta] 38))
      clear hw ht hmem q1 q2 q3 q4 hdr hgc hwr
      cases wk with
      | false =>
        have HC : Hid (txt L = ⟨nul, 3⟩) := Lib.hid (by unfold txt; rw [HB.out rfl])
        go_wp2_with fail
        refine (HWR.out _ (HV.out.fr HF1.out)).mono ?_
        rintro e w1 ⟨rfl, hf1⟩
        have hfin := HF1.out.trans hf1
        go_wp2_with fail
        go_ret2
        rw [HC.out]
        exact ⟨rfl, hfin⟩
      | true =>
        by_cases hk : tk = 0
        · subst hk
          have HC : Hid (txt L = ⟨joinB l, 0⟩) := Lib.hid (by unfold txt; rw [HE.out (by trivial) (by trivial)])
          go_wp2_with fail
          refine (HWR.out _ (HV.out.fr HF1.out)).mono ?_
          rintro e w1 ⟨rfl, hf1⟩
          have hfin := HF1.out.trans hf1
          have HT1 := Lib.hid ((Tb.new wr (.int .i64 0) (.string tt) (.int .i64 tn) (.int .i64 ta)).fr hf1)
          obtain ⟨t0, t1, t2, t3⟩ := HT1.out.cells
          have HOX := Lib.hid (own_keep HO.out (((Fr.refl wr).alloc (.cells #[.int .i64 0, .string tt, .int .i64 tn, .int .i64 ta] 38)).trans hf1))
          have HJN := Lib.hid (Join_own HOX.out (by have := HLJ.out; omega) HS.out)
          go_wp2_with fail
          refine HJN.out.mono ?_
          rintro e w2 ⟨rfl, hf2⟩
          go_wp2_with fail
          go_ret2
          rw [HC.out]
          exact ⟨rfl, hfin.trans hf2⟩
        · have z0 : (tk == 0) = false := by rw [beq_eq_false_iff_ne]; exact hk
          have HWN := Lib.hid (HG.out (by trivial) hk)
          have HSN : Hid (∀ x ∈ l ++ [wt], x.size ≤ 202) := Lib.hid (fun x hx => by
            rcases List.mem_append.1 hx with h | h
            · exact HS.out x h
            · obtain rfl := List.mem_singleton.1 h
              exact HSH.out (by trivial))
          clear hk
          go_wp2_with fail
          refine (HWR.out _ (HV.out.fr HF1.out)).mono ?_
          rintro e w1 ⟨rfl, hf1⟩
          have hfin := HF1.out.trans hf1
          have HT1 := Lib.hid ((Tb.new wr (.int .i64 tk) (.string tt) (.int .i64 tn) (.int .i64 ta)).fr hf1)
          obtain ⟨t0, t1, t2, t3⟩ := HT1.out.cells
          have HOX := Lib.hid (own_keep HO.out (((Fr.refl wr).alloc (.cells #[.int .i64 tk, .string tt, .int .i64 tn, .int .i64 ta] 38)).trans hf1))
          go_wp2_with (with_reducible refine stop_append ?_)
          have hlj := HLJ.out
          unfold Stop
          refine wpList_append_sl rfl (.tmp 25) (.tmp 27) 42 rfl w.heap.size 9 u0 _ 16 Tryd.underlying42 HU.out.1 HU.out.2.1 HU.out.2.2.1 HU.out.2.2.2 rfl _ l.length _ rfl (own_keep HOX.out ((Fr.refl _).alloc _)) _ 1 (fun _ => .string wt) rfl (sl_one _ _ _) (fun _ => rfl) (by unfold maxLen; omega) (by omega) (Nat.le_trans (hfin.alloc _).size (Nat.le_refl _)) ?_
          intro v' wA hown hg
          have hown2 : wA.ownsRow w.heap.size 9 1 v' (l ++ [wt]).length (strs (l ++ [wt])) := by
            rw [strs_snoc, List.length_append]; exact hown
          have HOA := Lib.hid hown2
          have hfA := own_fr (hfin.alloc _) (own_keep HOX.out ((Fr.refl _).alloc _)) hg
          clear hown hg hown2 hlj
          go_wp2_with fail
          go_roundw
          case rel => exact ⟨l ++ [wt], j + 1, by omega, by go_num, by have := HLJ.out; rw [List.length_append, List.length_singleton]; omega, HWN, HSN, HOA.out, hfA⟩
          case measure => simp [intOf]; omega
    · obtain rfl : j = n := by omega
      have HC : Hid (txt L = ⟨joinB l, 0⟩) := Lib.hid (by
        have : wds L = some l := by rw [HW.out, List.drop_eq_nil_of_le (by rw [← HN.out]; exact Nat.le_refl _)]; simp [wds]
        unfold txt; rw [this])
      have HJN := Lib.hid (Join_own HO.out (by have := HLJ.out; omega) HS.out)
      go_wp2_with fail
      refine HJN.out.mono ?_
      rintro e w2 ⟨rfl, hf2⟩
      go_wp2_with fail
      go_ret2
      rw [HC.out]
      exact ⟨rfl, hfr.trans hf2⟩
end Go.Proofs.YtkkapgidddfdoaaDoor
