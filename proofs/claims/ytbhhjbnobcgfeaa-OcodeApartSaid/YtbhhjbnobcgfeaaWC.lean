/- The document's own copy of code. -/
import Derived.Test.YtbhhjbnobcgfeaaCQ
namespace Go.Proofs.Ytbhhjbnobcgfeaa
open Go.RowKit
set_option linter.unusedVariables false
set_option linter.unusedSimpArgs false

set_option maxRecDepth 100000 in
set_option maxHeartbeats 4000000 in
theorem cpI_any (l : List Int) (v : Value) (w : World) (hv : IntsV w v l) (hl : l.length ≤ 2000000) :
    Calls Try.prog 80 #[v] w fun e w' => ∃ v', e = .returned v' ∧ w'.ownsRow w.heap.size 3 1 v' l.length (rowN (clI_cs l) l.length) ∧ Fr w w' := by
  have HV := Lib.hid hv
  obtain ⟨i0, hi0, hz0, hz1, hz2⟩ := info_at clI_info
  have HI := Lib.hid (And.intro hi0 (And.intro hz0 (And.intro hz1 hz2)))
  obtain ⟨a, cap, rfl, hc, hm, hz⟩ := hv.form
  cases a with
  | none =>
    obtain rfl := hz rfl
    obtain rfl : l = [] := List.eq_nil_of_length_eq_zero (by omega)
    clear hv hl hi0 hz0 hz1 hz2 hm hz
    go_enter Try.func80, Try.ntmps80
    go_wp2_with fail
    go_ret
    exact ⟨_, rfl, own_emp w _ _, (Fr.refl w).alloc _⟩
  | some a =>
    have HC : Hid (∀ W, Fr w W → ∀ j u, (rowN (clI_cs l) l.length)[j]? = some u → W.cell? (a.add j) = some u) := Lib.hid (fun W hW j u hu => by
      obtain ⟨i, r, rfl, hr, hi, hu2⟩ := rowN_split (by omega) (clI_len l) hu
      obtain ⟨x, hx⟩ : ∃ x, l[i]? = some x := ⟨_, List.getElem?_eq_getElem hi⟩
      obtain ⟨b, off, e, hcell⟩ := HV.out.at_ hx
      obtain rfl : a = ⟨b, off, none⟩ := Option.some.inj e
      have hd : l.getD i default = x := by rw [List.getD_eq_getElem?_getD, hx]; rfl
      unfold clI_cs at hu2
      rw [hd] at hu2
      rw [ap_add, ← Nat.add_assoc]
      refine hW.cell ?_
      match r, hr, hu2 with
      | 0, _, hu2 => obtain rfl : _ = u := Option.some.inj hu2; exact hcell)
    have HO : Hid (∀ u ∈ rowN (clI_cs l) l.length, u.oneCell' = true) := Lib.hid (rowN_mem _ _ (fun i _ u hu => by
      simp only [clI_cs, List.mem_cons, List.not_mem_nil, or_false] at hu
      rw [hu]; rfl))
    obtain ⟨n, hn⟩ : ∃ n, n = l.length := ⟨_, rfl⟩
    rw [← hn] at hc HC HO ⊢
    have hn6 : n ≤ 2000000 := by omega
    have HLN := Lib.hid hn
    clear hn hv hm hi0 hz0 hz1 hz2 hl
    go_enter Try.func80, Try.ntmps80
    go_wp2_with (with_reducible refine stop_append_a ?_)
    unfold StopA
    refine wpList_append_own _ rfl (.tmp 3) (.tmp 4) 32 rfl w.heap.size 3 i0 _ 1 8 Try.underlying32 HI.out.1 HI.out.2.1 HI.out.2.2.1 HI.out.2.2.2 rfl (by omega) _ 0 [] (by rfl) (own_emp w _ _) a n cap (rowN (clI_cs l) n) (by rfl) (rowN_len (clI_len l) n) (fun j u hu => HC.out _ ((Fr.refl w).alloc _) j u hu) (fun u hu => HO.out u hu) (by unfold maxLen; omega) (by omega) (by rw [size_al]; omega) fun v2 w2 hown2 hg2 _ => ?_
    have hf2 : Fr w w2 := own_fr6 ((Fr.refl w).alloc _) (own_emp w _ 1) hg2
    rw [Nat.zero_add, List.nil_append] at hown2
    have HO2 := Lib.hid hown2
    clear hown2 hg2
    go_wp2_with fail
    go_ret
    exact ⟨_, rfl, HO2.out, hf2⟩
end Go.Proofs.Ytbhhjbnobcgfeaa
