/- The text of tokens by the document's own function: its contract. -/
import Derived.Test.YtkkapgidddfdoaaDoorTX
import Derived.Test.YtkkapgidddfdoaaDoorRW
import Derived.Laws.Concat
namespace Go.Proofs.YtkkapgidddfdoaaDoor
open Go.RowKit
set_option linter.unusedVariables false

theorem joinB_size (l : List ByteArray) (h : ∀ x ∈ l, x.size ≤ 202) : (joinB l).size ≤ 203 * l.length := by
  have := join_len l h
  unfold joinB
  have e : (⟨(Lib.join (l.map (·.data.toList)) [32]).toArray⟩ : ByteArray).size = (Lib.join (l.map (·.data.toList)) [32]).length := by simp [ByteArray.size]
  rw [e]; exact this
set_option maxRecDepth 100000 in
set_option maxHeartbeats 4000000 in
theorem RText_any (v : Value) (L : List Tg) (w : World) (hv : GV w v L) (ho : okG L) (hl : L.length ≤ 20000) (hnv : Nv w) :
    Calls Tryd.prog 24 #[v] w fun e w' => e = .returned (.tuple #[.string (txt L).t, .int .i64 (txt L).e]) ∧ Fr w w' := by
  have HV := Lib.hid hnv
  have HOK := Lib.hid ho
  obtain ⟨ad, cap, rfl, hcap, hrow⟩ := hv
  have HROW := Lib.hid hrow
  obtain ⟨n, hn⟩ : ∃ n, n = L.length := ⟨_, rfl⟩
  have HN := Lib.hid hn
  rw [← hn] at hl ⊢
  clear hnv ho hrow hcap hn
  go_enter Tryd.func24, Tryd.ntmps24
  go_wp2_with fail
  go_loopw [4, 5] (fun o i wr => ∃ (l : List ByteArray) (j : Nat), j ≤ n ∧ i = .int .i64 j ∧ l.length = j ∧ Hid (wds L = (wds (L.drop j)).map (fun r => l ++ r)) ∧ Hid (∀ x ∈ l, x.size ≤ 202) ∧ o = .string (joinB l) ∧ Fr w wr) (fun _ i _ => n - (intOf i).toNat)
  case atStart => exact ⟨[], 0, Nat.zero_le _, rfl, rfl, Lib.hid (by simp), Lib.hid (by simp), rfl, Fr.refl _⟩
  case round =>
    obtain ⟨l, j, hj, rfl, hlj, HW, HS, rfl, hfr⟩ := hrel
    have hjs := joinB_size l HS.out
    have HLJ := Lib.hid hlj
    rw [hlj] at hjs
    clear hlj
    by_cases hlt : j < n
    · obtain ⟨t, ht⟩ : ∃ t, L[j]? = some t := ⟨_, List.getElem?_eq_getElem (by rw [← HN.out]; exact hlt)⟩
      have hmem := List.mem_of_getElem? ht
      obtain ⟨q1, q2, q3, q4⟩ := HOK.out.2 t hmem
      have hdr := drop_step ht
      obtain ⟨b, off, rfl, hgc⟩ := HROW.out (by rw [← HN.out]; omega)
      obtain ⟨p0, p1, p2, p3⟩ := (hgc.fr hfr) j t ht
      have HB : Hid ((wrE t).ok = false → wds L = none) := Lib.hid (fun h => by rw [HW.out, hdr, wds_bad h]; rfl)
      have HE : Hid ((wrE t).ok = true → t.k = 0 → wds L = some l) := Lib.hid (fun h h0 => by rw [HW.out, hdr, wds_end h h0]; simp)
      have HG : Hid ((wrE t).ok = true → t.k ≠ 0 → wds L = (wds (L.drop (j + 1))).map (fun r => (l ++ [(wrE t).t]) ++ r)) := Lib.hid (fun h h0 => by
        rw [HW.out, hdr, wds_go h h0, Option.map_map]
        congr 1
        funext r
        simp)
      have HSH : Hid ((wrE t).ok = true → (wrE t).t.size ≤ 202) := Lib.hid wrE_short
      have hwr := fun w h => Rwritten_any t (by omega) q3 w h
      have h0 : t.k = 0 → wrE t = ⟨nul, decide (t.t.size = 0) && decide (t.n = 0)⟩ := fun h => by unfold wrE; rw [if_pos h]
      have h1 : t.k ≠ 0 → wrE t = Go.Proofs.YtkkapgidddfdoaaDoor.wr t := fun h => by unfold wrE; rw [if_neg h]
      by_cases hk : t.k = 0
      · rw [h0 hk] at HB HE
        obtain ⟨tk, tt, tn, ta⟩ := t
        simp only at p0 p1 p2 p3 HB HE hk
        subst hk
        clear hwr HSH HG h0 h1 ht hmem q1 q2 q3 q4 hdr hgc
        by_cases hz : tt.size = 0
        · have em := emp_yes hz
          by_cases hn0 : tn = 0
          · have z0 : (tn == 0) = true := by rw [beq_iff_eq]; exact hn0
            have HC : Hid (txt L = ⟨joinB l, 0⟩) := Lib.hid (by unfold txt; rw [HE.out (by simp [hz, hn0]) (by trivial)])
            clear hz hn0 HB HE
            go_wp2_with fail
            go_ret2
            rw [HC.out]
            exact ⟨rfl, hfr⟩
          · have z0 : (tn == 0) = false := by rw [beq_eq_false_iff_ne]; exact hn0
            have HC : Hid (txt L = ⟨nul, 3⟩) := Lib.hid (by unfold txt; rw [HB.out (by simp [hn0])])
            clear hz hn0 HB HE
            go_wp2_with fail
            go_ret2
            rw [HC.out]
            exact ⟨rfl, hfr⟩
        · have em := emp_no (show 0 < tt.size by omega)
          have HC : Hid (txt L = ⟨nul, 3⟩) := Lib.hid (by unfold txt; rw [HB.out (by simp [hz])])
          clear hz HB HE
          go_wp2_with fail
          go_ret2
          rw [HC.out]
          exact ⟨rfl, hfr⟩
      · rw [h1 hk] at HB HG HSH
        obtain ⟨⟨wt, wk⟩, hw⟩ : ∃ r, r = Go.Proofs.YtkkapgidddfdoaaDoor.wr t := ⟨_, rfl⟩
        rw [← hw] at HB HG HSH hwr
        simp only at HB HG HSH hwr
        have HWR := Lib.hid hwr
        have z0 : (t.k == 0) = false := by rw [beq_eq_false_iff_ne]; exact hk
        obtain ⟨tk, tt, tn, ta⟩ := t
        simp only at p0 p1 p2 p3 HG HWR hk z0
        have HV1 := Lib.hid (HV.out.fr hfr)
        clear hw ht hmem q1 q2 q3 q4 hdr hgc hwr h0 h1 HE
        cases wk with
        | false =>
          have HC : Hid (txt L = ⟨nul, 3⟩) := Lib.hid (by unfold txt; rw [HB.out rfl])
          clear hk
          go_wp2_with fail
          refine (HWR.out _ HV1.out).mono ?_
          rintro e w1 ⟨rfl, hf1⟩
          have hfin := hfr.trans hf1
          go_wp2_with fail
          go_ret2
          rw [HC.out]
          exact ⟨rfl, hfin⟩
        | true =>
          have HWN := Lib.hid (HG.out (by trivial) hk)
          have hws := HSH.out (by trivial)
          have HSN : Hid (∀ x ∈ l ++ [wt], x.size ≤ 202) := Lib.hid (fun x hx => by
            rcases List.mem_append.1 hx with h | h
            · exact HS.out x h
            · obtain rfl := List.mem_singleton.1 h
              exact hws)
          clear hk
          by_cases hj0 : j = 0
          · subst hj0
            simp only [Nat.zero_mul, Nat.add_zero] at p0 p1 p2 p3
            obtain rfl : l = [] := List.eq_nil_of_length_eq_zero HLJ.out
            have hadd : ∀ w, (Op.stringOp .add (joinB []) wt).run Tryd.prog w = .ok (.string (joinB ([] ++ [wt]))) w := fun w => by
              have h := run_string_add_sum (P := Tryd.prog) w (joinB []) wt (by show 0 + _ ≤ _; omega)
              rw [List.nil_append, joinB_one]
              rw [show joinB [] ++ wt = wt by rw [joinB_nil]; apply ByteArray.ext; simp [nul]] at h
              exact h
            clear hjs
            go_wp2_with fail
            refine (HWR.out _ HV1.out).mono ?_
            rintro e w1 ⟨rfl, hf1⟩
            have hfin := hfr.trans hf1
            go_wp2_with fail
            go_roundw
            case rel => exact ⟨[] ++ [wt], 1, by omega, by go_num, rfl, HWN, HSN, rfl, hfin⟩
            case measure => simp [intOf]; omega
          · have hne : l ≠ [] := fun h => by subst h; have := HLJ.out; simp at this; omega
            have hadd1 : ∀ w, (Op.stringOp .add (joinB l) ⟨#[32]⟩).run Tryd.prog w = .ok (.string (joinB l ++ ⟨#[32]⟩)) w := fun w => run_string_add_sum w _ _ (by show _ + 1 ≤ _; omega)
            have hadd2 : ∀ w, (Op.stringOp .add (joinB l ++ ⟨#[32]⟩) wt).run Tryd.prog w = .ok (.string (joinB (l ++ [wt]))) w := fun w => by
              rw [joinB_snoc l wt hne]; exact run_string_add_sum w _ _ (by rw [ByteArray.size_append]; show _ + 1 + _ ≤ _; omega)
            have hj1 : decide ((0 : Int) < (j : Int)) = true := decide_eq_true (by omega)
            clear hjs hne
            go_wp2_with fail
            refine (HWR.out _ HV1.out).mono ?_
            rintro e w1 ⟨rfl, hf1⟩
            have hfin := hfr.trans hf1
            go_wp2_with fail
            go_roundw
            case rel => exact ⟨l ++ [wt], j + 1, by omega, by go_num, by have := HLJ.out; rw [List.length_append, List.length_singleton]; omega, HWN, HSN, rfl, hfin⟩
            case measure => simp [intOf]; omega
    · obtain rfl : j = n := by omega
      have HC : Hid (txt L = ⟨joinB l, 0⟩) := Lib.hid (by
        have : wds L = some l := by rw [HW.out, List.drop_eq_nil_of_le (by rw [← HN.out]; exact Nat.le_refl _)]; simp [wds]
        unfold txt; rw [this])
      go_wp2_with fail
      go_ret2
      rw [HC.out]
      exact ⟨rfl, hfr⟩
end Go.Proofs.YtkkapgidddfdoaaDoor
