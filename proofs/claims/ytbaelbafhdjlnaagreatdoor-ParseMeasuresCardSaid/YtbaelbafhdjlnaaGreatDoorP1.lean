/- Merged by program: TU CZ PZ NA NM NX. -/
import Derived.Test.YtbaelbafhdjlnaaGreatDoorM4
import Derived.Deep.RegionWith
import Derived.Test.YtbaelbafhdjlnaaGreatDoorM2
/- Trees copied by the code. -/
namespace Go.Proofs.YtbaelbafhdjlnaaGreatDoor
open Go.RowKit
set_option linter.unusedVariables false

theorem ndc_one {w : World} {l : List Nd} {lv : Nat → Value} (hs : ∀ (i : Nat) (t : Nd), l[i]? = some t → LN w (lv i) t.l) : ∀ j, j ≤ l.length → ∀ u ∈ nrow l lv j, u.oneCell' = true := by
  intro j
  induction j with
  | zero => intro _ u hu; simp [nrow] at hu
  | succ j ih =>
    intro hj u hu
    rw [nrow_succ, List.mem_append] at hu
    rcases hu with hu | hu
    · exact ih (by omega) u hu
    · obtain ⟨t, ht⟩ : ∃ t, l[j]? = some t := ⟨_, List.getElem?_eq_getElem (by omega)⟩
      rw [getD_some ht] at hu
      obtain ⟨a, c, e, _⟩ := (hs j t ht).form
      rw [e] at hu
      exact ncells_one _ _ _ _ u hu
/-- The cells of a slice of nodes, in a row. -/
theorem LN.row {w : World} {a : Addr} {n cap : Nat} {l : List Nd} (h : LN w (.slice (some a) n cap) l) : ∃ lv : Nat → Value, (∀ w', Fr w w' → ∀ j u, (nrow l lv l.length)[j]? = some u → w'.cell? (a.add j) = some u) ∧ (∀ u ∈ nrow l lv l.length, u.oneCell' = true) ∧ ∀ (i : Nat) (t : Nd), l[i]? = some t → LN w (lv i) t.l := by
  cases h with
  | mk a' cap l lv hc hm hz hr hw hs =>
    refine ⟨lv, fun w' hf j u hu => ?_, ndc_one hs _ (Nat.le_refl _), hs⟩
    have hj : j < l.length * 5 := by have := (List.getElem?_eq_some_iff.1 hu).1; rwa [nrow_len] at this
    obtain ⟨b, off, e, hg⟩ := hr (by omega)
    obtain rfl : a = ⟨b, off, none⟩ := Option.some.inj e
    rw [ap_add]
    refine hf.cell ?_
    obtain ⟨i, r, hir, hr5⟩ : ∃ i r, j = i * 5 + r ∧ r < 5 := ⟨j / 5, j % 5, by omega, by omega⟩
    subst hir
    have hi : i < l.length := by omega
    obtain ⟨t, ht⟩ : ∃ t, l[i]? = some t := ⟨_, List.getElem?_eq_getElem hi⟩
    rw [nrow_at l lv _ i r hi hr5, getD_some ht] at hu
    obtain ⟨g0, g1, g2, g3, g4⟩ := hg i t ht
    match r, hr5, hu with
    | 0, _, hu => obtain rfl : _ = u := Option.some.inj hu; exact g0
    | 1, _, hu => obtain rfl : _ = u := Option.some.inj hu; rw [← Nat.add_assoc]; exact g1
    | 2, _, hu => obtain rfl : _ = u := Option.some.inj hu; rw [← Nat.add_assoc]; exact g2
    | 3, _, hu => obtain rfl : _ = u := Option.some.inj hu; rw [← Nat.add_assoc]; exact g3
    | 4, _, hu => obtain rfl : _ = u := Option.some.inj hu; rw [← Nat.add_assoc]; exact g4
theorem own_empty (w : World) : (w.alloc (.cells #[] 32)).ownsRow w.heap.size 32 5 (.slice (some ⟨w.heap.size, 0, none⟩) 0 0) 0 [] :=
  ⟨rfl, .inr ⟨w.heap.size, 0, #[], rfl, Nat.le_refl _, by simp only [World.alloc, Array.getElem?_push_size], Nat.le_refl _, Nat.zero_le _, rfl, rfl⟩⟩
theorem sl_nil0 (w : World) : (binOp BinOp.eql 22 (Value.slice none 0 0) (Value.slice none 0 0)).run Tryz.prog w = .ok (.bool true) w := by kernel_rfl
theorem sl_nil (a : Addr) (n cap : Nat) (w : World) : (binOp BinOp.eql 22 (Value.slice (some a) n cap) (Value.slice none 0 0)).run Tryz.prog w = .ok (.bool false) w := by kernel_rfl
set_option maxRecDepth 100000 in
set_option maxHeartbeats 4000000 in
theorem Clone_any (l : List Nd) (v : Value) (w00 w : World) (hv : LN w00 v l) (hw00 : Fr w00 w) (hl : l.length ≤ 2000000) :
    Calls Tryz.prog 172 #[v] w fun e w' => ∃ v' lvs, e = .returned v' ∧ w'.ownsRow w.heap.size 32 5 v' l.length (nrow l lvs l.length) ∧ (∀ (i : Nat) (t : Nd), l[i]? = some t → LN w00 (lvs i) t.l) ∧ Fr w w' := by
  have HV := Lib.hid hv
  have HL := Lib.hid hl
  have HW := Lib.hid hw00
  clear hw00
  obtain ⟨i0, hi0, hz0, hz1, hz2⟩ := info_of Tryz.infoNode
  have HI := Lib.hid (And.intro hi0 (And.intro hz0 (And.intro hz1 hz2)))
  obtain ⟨a, cap, rfl, hc, hm, hz⟩ := hv.form
  cases a with
  | none =>
    obtain rfl := hz rfl
    obtain rfl : l = [] := List.eq_nil_of_length_eq_zero (by omega)
    clear hv hl hi0 hz0 hz1 hz2 hm hz
    go_enter Tryz.func172, Tryz.ntmps172
    have hsn := sl_nil0
    go_wp2_with fail
    go_ret
    exact ⟨_, fun _ => .slice none 0 0, rfl, World.ownsRow_nil _ _ _ _, fun i t h => by simp at h, Fr.refl _⟩
  | some a =>
    obtain ⟨lvs, hcell, hone, hsub⟩ := HV.out.row
    have HC := Lib.hid hcell
    have HO := Lib.hid hone
    have HS := Lib.hid hsub
    obtain ⟨n, hn⟩ : ∃ n, n = l.length := ⟨_, rfl⟩
    have HN := Lib.hid hn
    rw [← hn] at hc ⊢
    have hn6 : n ≤ 2000000 := by omega
    clear hn hv hm hi0 hz0 hz1 hz2 hl hcell hone hsub
    go_enter Tryz.func172, Tryz.ntmps172
    have hsn := sl_nil a n cap
    go_wp2_with (with_reducible refine stop_append_n ?_)
    unfold StopN
    refine wpList_append_own _ rfl (.tmp 5) (.tmp 6) 22 rfl w.heap.size 32 i0 _ 5 64 Tryz.underlying22 HI.out.1 HI.out.2.1 HI.out.2.2.1 HI.out.2.2.2 rfl (by omega) _ 0 [] (by rfl) (own_empty w) a n cap (nrow l lvs n) (by rfl) (nrow_len _ _ _) (fun j u hu => HC.out _ (HW.out.alloc _) j u (by rw [← HN.out]; exact hu)) (fun u hu => HO.out u (by rw [← HN.out]; exact hu)) (by unfold maxLen; omega) (by omega) (by rw [size_alloc']; omega) fun v2 w2 hown2 hg2 _ => ?_
    have hf2 : Fr w w2 := own_fr5 ((Fr.refl w).alloc _) (own_empty w) hg2
    rw [Nat.zero_add, List.nil_append] at hown2
    have HO2 := Lib.hid hown2
    clear hown2 hg2
    go_wp2_with fail
    go_ret
    exact ⟨_, lvs, rfl, HO2.out, HS.out, hf2⟩
theorem nrow_upd (l : List Nd) (lvs : Nat → Value) (n j : Nat) (t : Nd) (lv : Value) (ht : l[j]? = some t) (hj : j < n) :
    (((((nrow l lvs n).set (j * 5) (.int .i64 t.op)).set (j * 5 + 1) (.int .i64 t.n)).set (j * 5 + 2) (.string t.s)).set (j * 5 + 3) lv).set (j * 5 + 4) (.int .i64 t.a) = nrow l (fun i => if i = j then lv else lvs i) n := by
  have hlen := nrow_len l lvs n
  apply List.ext_getElem?
  intro k
  by_cases hk : k < n * 5
  · obtain ⟨i, r, hir, hr5⟩ : ∃ i r, k = i * 5 + r ∧ r < 5 := ⟨k / 5, k % 5, by omega, by omega⟩
    subst hir
    have hi : i < n := by omega
    rw [nrow_at l _ n i r hi hr5]
    by_cases hij : i = j
    · subst hij
      rw [getD_some ht]
      simp only [if_pos]
      match r, hr5 with
      | 0, _ => simp [List.getElem?_set, hlen, ncells]; omega
      | 1, _ => simp [List.getElem?_set, hlen, ncells]; omega
      | 2, _ => simp [List.getElem?_set, hlen, ncells]; omega
      | 3, _ => simp [List.getElem?_set, hlen, ncells]; omega
      | 4, _ => simp [List.getElem?_set, hlen, ncells]; omega
    · simp only [if_neg hij]
      rw [← nrow_at l lvs n i r hi hr5]
      rw [List.getElem?_set_ne (by omega), List.getElem?_set_ne (by omega), List.getElem?_set_ne (by omega), List.getElem?_set_ne (by omega), List.getElem?_set_ne (by omega)]
  · rw [List.getElem?_eq_none (by simp [hlen]; omega), List.getElem?_eq_none (by rw [nrow_len]; omega)]
/-- A node written over one of an own row. -/
theorem own_node {w : World} {base g n cap : Nat} {l : List Nd} {lvs : Nat → Value} (h : w.ownsRow base 32 5 (.slice (some ⟨g, 0, none⟩) n cap) n (nrow l lvs n)) {j : Nat} {t : Nd} (lv : Value) (ht : l[j]? = some t) (hj : j < n) :
    (((((w.setCell ⟨g, j * 5, none⟩ (.int .i64 t.op)).setCell ⟨g, j * 5 + 1, none⟩ (.int .i64 t.n)).setCell ⟨g, j * 5 + 2, none⟩ (.string t.s)).setCell ⟨g, j * 5 + 3, none⟩ lv).setCell ⟨g, j * 5 + 4, none⟩ (.int .i64 t.a)).ownsRow base 32 5 (.slice (some ⟨g, 0, none⟩) n cap) n (nrow l (fun i => if i = j then lv else lvs i) n) := by
  have h0 := (h.stored (j * 5) (.int .i64 t.op)).1
  have h1 := (h0.stored (j * 5 + 1) (.int .i64 t.n)).1
  have h2 := (h1.stored (j * 5 + 2) (.string t.s)).1
  have h3 := (h2.stored (j * 5 + 3) lv).1
  have h4 := (h3.stored (j * 5 + 4) (.int .i64 t.a)).1
  rw [nrow_upd l lvs n j t lv ht hj] at h4
  exact h4
theorem Nb.set3 {w : World} {b : Nat} {x0 x1 x2 x3 x4 : Value} (h : Nb w b x0 x1 x2 x3 x4) (u : Value) : Nb (w.setCell ⟨b, 3, none⟩ u) b x0 x1 x2 u x4 := by
  unfold Nb at h ⊢
  rw [heap_setCell_same w b 3 _ _ u h]
  simp
theorem Nb.farG {w : World} {b : Nat} {x0 x1 x2 x3 x4 : Value} (h : Nb w b x0 x1 x2 x3 x4) {g : Nat} (hg : g ≠ b) (o : Nat) (u : Value) : Nb (w.setCell ⟨g, o, none⟩ u) b x0 x1 x2 x3 x4 := by
  unfold Nb at h ⊢
  rw [heap_setCell_other w ⟨g, o, none⟩ b u (by exact fun e => hg (by simp at e; exact e.symm))]
  exact h
theorem LNP.far {P : Nat → Prop} {w : World} {v : Value} {l : List Nd} (h : LNP P w v l) {g : Nat} (hg : ¬ P g) (o : Nat) (u : Value) : LNP P (w.setCell ⟨g, o, none⟩ u) v l :=
  h.keep fun b off x hb hx => ⟨hb, by rw [World.cell?_setCell_far _ _ _ _ (by show g ≠ b; rintro rfl; exact hg hb)]; exact hx⟩
end Go.Proofs.YtbaelbafhdjlnaaGreatDoor

/- Trees copied by the code: the contract of its copy. -/
namespace Go.Proofs.YtbaelbafhdjlnaaGreatDoor
open Go.RowKit
set_option linter.unusedVariables false

set_option maxRecDepth 100000 in
set_option maxHeartbeats 8000000 in
theorem copied_of (t : Nd) (lt : Value) (w : World) (ht : LN w lt t.l) (hl : t.l.length ≤ 2000000)
    (HQ : Hid (∀ (i : Nat) (u : Nd) (lu : Value) (W : World), t.l[i]? = some u → Fr w W → LN W lu u.l → Calls Tryz.prog 88 #[ndV u lu] W fun e w' => ∃ lv, e = .returned (ndV u lv) ∧ LNP (fun b => W.heap.size ≤ b) w' lv u.l ∧ Fr W w')) :
    Calls Tryz.prog 88 #[ndV t lt] w fun e w' => ∃ lv, e = .returned (ndV t lv) ∧ LNP (fun b => w.heap.size ≤ b) w' lv t.l ∧ Fr w w' := by
  have HWF : Hid (∀ u ∈ t.l, wfN u) := Lib.hid (by cases ht with | mk a cap l lv hc hm hz hr hw hs => exact hw)
  have HCL : Hid (∀ W, Fr w W → Calls Tryz.prog 172 #[lt] W fun e w' => ∃ v' lvs, e = .returned v' ∧ w'.ownsRow W.heap.size 32 5 v' t.l.length (nrow t.l lvs t.l.length) ∧ (∀ (i : Nat) (u : Nd), t.l[i]? = some u → LN w (lvs i) u.l) ∧ Fr W w') := Lib.hid (fun W hW => Clone_any t.l lt w W ht hW hl)
  obtain ⟨a, n0, c, rfl⟩ : ∃ a n c, lt = .slice a n c := by obtain ⟨a, c, e, _⟩ := ht.form; exact ⟨a, _, c, e⟩
  clear ht
  obtain ⟨tl, htl⟩ : ∃ x, x = t.l := ⟨_, rfl⟩
  rw [← htl] at HQ HCL HWF hl ⊢
  obtain ⟨n, hn⟩ : ∃ x, x = tl.length := ⟨_, rfl⟩
  have HN := Lib.hid hn
  rw [← hn] at HCL hl
  unfold ndV
  obtain ⟨o1, hO1⟩ : ∃ x, x = t.op := ⟨_, rfl⟩
  obtain ⟨n1, hN1⟩ : ∃ x, x = t.n := ⟨_, rfl⟩
  obtain ⟨s1, hS1⟩ : ∃ x, x = t.s := ⟨_, rfl⟩
  obtain ⟨a1, hA1⟩ : ∃ x, x = t.a := ⟨_, rfl⟩
  rw [← hO1, ← hN1, ← hS1, ← hA1]
  clear hO1 hN1 hS1 hA1 htl hn
  obtain ⟨w0, hw0⟩ : ∃ w0, w0 = (w.alloc (.cells #[.int .i64 o1, .int .i64 n1, .string s1, .slice a n0 c, .int .i64 a1] 32)).alloc (.cells #[.int .i64 0, .int .i64 0, .string ⟨#[]⟩, .slice none 0 0, .int .i64 0] 32) := ⟨_, rfl⟩
  have HF0 : Hid (Fr w w0) := Lib.hid (by rw [hw0]; exact ((Fr.refl w).alloc _).alloc _)
  have HB0 : Hid (Nb w0 w.heap.size (.int .i64 o1) (.int .i64 n1) (.string s1) (.slice a n0 c) (.int .i64 a1)) := Lib.hid (by rw [hw0]; exact (Nb.new w _ _ _ _ _).fr ((Fr.refl _).alloc _))
  have HB1 : Hid (Nb w0 (w.heap.size + 1) (.int .i64 0) (.int .i64 0) (.string ⟨#[]⟩) (.slice none 0 0) (.int .i64 0)) := Lib.hid (by rw [hw0]; exact Nb.new1 w _ _ _ _ _ _)
  have HW0 := Lib.hid hw0
  obtain ⟨p0, p1, p2, p3, p4⟩ := HB0.out.cells
  rw [hw0] at p3
  clear hw0 p0 p1 p2 p4
  go_enter Tryz.func88, Tryz.ntmps88
  go_wp2_with fail
  rw [← HW0.out]
  refine (HCL.out _ HF0.out).mono ?_
  rintro e w1 ⟨v1, lvs, rfl, hown1, hsub1, hf1⟩
  have HF1 := Lib.hid (HF0.out.trans hf1)
  have HB01 := Lib.hid (HB0.out.fr hf1)
  have HB11 := Lib.hid (HB1.out.fr hf1)
  have HO1 := Lib.hid hown1
  have HS1 := Lib.hid hsub1
  have HFF := Lib.hid hf1
  clear hown1 hsub1 hf1
  obtain ⟨A1, c1, rfl⟩ := own_form5 HO1.out
  obtain ⟨p0, p1, p2, p3, p4⟩ := HB01.out.cells
  have f3 := HB01.out.free 3
  go_wp2_with fail
  obtain ⟨w2, hw2⟩ : ∃ w2, w2 = w1.setCell ⟨w.heap.size, 3, none⟩ (.slice A1 n c1) := ⟨_, rfl⟩
  have hsz0 : w0.heap.size = w.heap.size + 2 := by rw [HW0.out]; simp
  have HF2 : Hid (Fr w w2) := Lib.hid (by rw [hw2]; exact HF1.out.setCell (Nat.le_refl _) _)
  have HB02 : Hid (Nb w2 w.heap.size (.int .i64 o1) (.int .i64 n1) (.string s1) (.slice A1 n c1) (.int .i64 a1)) := Lib.hid (by rw [hw2]; exact HB01.out.set3 _)
  have HB12 : Hid (Nb w2 (w.heap.size + 1) (.int .i64 0) (.int .i64 0) (.string ⟨#[]⟩) (.slice none 0 0) (.int .i64 0)) := Lib.hid (by rw [hw2]; exact HB11.out.farG (by omega) _ _)
  have HO2 : Hid (w2.ownsRow w0.heap.size 32 5 (.slice A1 n c1) n (nrow tl lvs n)) := Lib.hid (by rw [hw2]; exact ownsRow_setCell_below HO1.out (by show w.heap.size < w0.heap.size; omega) _)
  have HZ0 := Lib.hid hsz0
  rw [← hw2]
  clear hw2 p0 p1 p2 p3 p4 f3 hsz0
  go_loopw [12] (fun i wr => ∃ (j : Nat) (lv2 : Nat → Value), j ≤ n ∧ i = .int .i64 j ∧ wr.ownsRow w0.heap.size 32 5 (.slice A1 n c1) n (nrow tl lv2 n) ∧ Hid (∀ (i : Nat) (u : Nd), tl[i]? = some u → (i < j → LNP (fun b => w0.heap.size ≤ b ∧ b < wr.heap.size ∧ (Value.slice A1 n c1).ownBlock ≠ some b) wr (lv2 i) u.l) ∧ (j ≤ i → LN w (lv2 i) u.l)) ∧ Hid (Nb wr w.heap.size (.int .i64 o1) (.int .i64 n1) (.string s1) (.slice A1 n c1) (.int .i64 a1)) ∧ Hid (Nb wr (w.heap.size + 1) (.int .i64 0) (.int .i64 0) (.string ⟨#[]⟩) (.slice none 0 0) (.int .i64 0)) ∧ Fr w wr) (fun i _ => n - (intOf i).toNat)
  case atStart => exact ⟨0, lvs, Nat.zero_le _, rfl, HO2.out, Lib.hid (fun i u hu => ⟨fun h => by omega, fun _ => HS1.out i u hu⟩), HB02, HB12, HF2.out⟩
  case round =>
    obtain ⟨j, lv2, hj, rfl, hown, HS, HNB, HNZ, hfr⟩ := hrel
    have HO := Lib.hid hown
    clear hown
    by_cases hlt : j < n
    · obtain ⟨u, hu⟩ : ∃ u, tl[j]? = some u := ⟨_, List.getElem?_eq_getElem (by rw [← HN.out]; exact hlt)⟩
      obtain ⟨g, rfl⟩ : ∃ g, A1 = some ⟨g, 0, none⟩ := by
        rcases HO.out.2 with ⟨_, h0⟩ | ⟨g, cap, cur, h', _⟩
        · omega
        · simp only [Value.slice.injEq] at h'; exact ⟨g, h'.1⟩
      have hge : w0.heap.size ≤ g ∧ g < wr.heap.size := HO.out.lt g rfl
      have hln := (HS.out j u hu).2 (Nat.le_refl _)
      have key : ∀ r x, r < 5 → (ncells u (lv2 j))[r]? = some x → wr.cell? ⟨g, j * 5 + r, none⟩ = some x := fun r x hr hx => by
        rw [HO.out.cellAt (j * 5 + r) (by omega), nrow_at tl lv2 n j r hlt hr, getD_some hu]
        exact hx
      have x0 := key 0 _ (by omega) rfl
      have x1 := key 1 _ (by omega) rfl
      have x2 := key 2 _ (by omega) rfl
      have x3 := key 3 _ (by omega) rfl
      have x4 := key 4 _ (by omega) rfl
      rw [Nat.add_zero] at x0
      obtain ⟨la, lc, hlf, _, _, _⟩ := hln.form
      rw [hlf] at x3 hln
      have HLN := Lib.hid hln
      have HUU := Lib.hid hu
      obtain ⟨ll, hll⟩ : ∃ x : Nat, x = u.l.length := ⟨_, rfl⟩
      rw [← hll] at x3 HLN
      have HC : Hid (∀ W, Fr w W → Calls Tryz.prog 88 #[.agg #[.int .i64 u.op, .int .i64 u.n, .string u.s, .slice la ll lc, .int .i64 u.a]] W fun e w' => ∃ lv, e = .returned (ndV u lv) ∧ LNP (fun b => W.heap.size ≤ b) w' lv u.l ∧ Fr W w') := Lib.hid (fun W hW => HQ.out j u _ W HUU.out hW (HLN.out.fr hW))
      have HFR : Hid (∀ o, Fr wr (wr.alloc o)) := Lib.hid (fun o => (Fr.refl wr).alloc o)
      have HFW := Lib.hid hfr
      obtain ⟨q0, q1, q2, q3, q4⟩ := HNB.out.cells
      have HX : Hid (wr.cell? ⟨g, j * 5, none⟩ = some (.int .i64 u.op) ∧ wr.cell? ⟨g, j * 5 + 1, none⟩ = some (.int .i64 u.n) ∧ wr.cell? ⟨g, j * 5 + 2, none⟩ = some (.string u.s) ∧ wr.cell? ⟨g, j * 5 + 3, none⟩ = some (.slice la ll lc) ∧ wr.cell? ⟨g, j * 5 + 4, none⟩ = some (.int .i64 u.a)) := Lib.hid ⟨x0, x1, x2, x3, x4⟩
      clear hln hu hll hlf key q0 q1 q2 q4 hfr
      go_wp2_with fail
      have HK : Hid (∀ W, Fr wr W → W.cell? ⟨w.heap.size, 3, none⟩ = some (.slice (some ⟨g, 0, none⟩) n c1) ∧ W.frozen? ⟨g, j * 5, none⟩ = false ∧ W.frozen? ⟨g, j * 5 + 1, none⟩ = false ∧ W.frozen? ⟨g, j * 5 + 2, none⟩ = false ∧ W.frozen? ⟨g, j * 5 + 3, none⟩ = false ∧ W.frozen? ⟨g, j * 5 + 4, none⟩ = false) := Lib.hid (fun W hW => by
        have h5 := (HNB.out.fr hW).cells.2.2.2.1
        have h6 := HO.out.kept (nfr_grow hW none) (by simp [Value.ownBlock])
        exact ⟨h5, h6.frozenAt _, h6.frozenAt _, h6.frozenAt _, h6.frozenAt _, h6.frozenAt _⟩)
      obtain ⟨m3, m4, m5, m6, m7, m8⟩ := HK.out _ (HFR.out (.cells #[.int .i64 u.op, .int .i64 u.n, .string u.s, .slice la ll lc, .int .i64 u.a] 32))
      clear m4 m5 m6 m7 m8 q3
      go_region_with (go_at_call 88; refine (HC.out _ (HFW.out.alloc _).drew).mono ?_; rintro e w3 ⟨lv3, rfl, hlv3, hf3⟩; obtain ⟨la3, lc3, rfl, _, _, _⟩ := hlv3.ln.form; have HLV3 := Lib.hid hlv3; have HF3 := Lib.hid ((HFR.out _).drew.trans hf3); clear hlv3 hf3; obtain ⟨l3, hl3⟩ : ∃ x : Nat, x = u.l.length := ⟨_, rfl⟩; rw [← hl3] at HLV3; rw [← hl3]; clear hl3; obtain ⟨k3, k4, k5, k6, k7, k8⟩ := HK.out _ HF3.out; obtain ⟨z0, z1, z2, z3, z4⟩ := HX.out; have z0 := HF3.out.cell z0; have z1 := HF3.out.cell z1; have z2 := HF3.out.cell z2; have z3 := HF3.out.cell z3; have z4 := HF3.out.cell z4; unfold ndV)
      all_goals (
        obtain ⟨w4, hw4⟩ : ∃ w4, w4 = (((((w3.setCell ⟨g, j * 5, none⟩ (.int .i64 u.op)).setCell ⟨g, j * 5 + 1, none⟩ (.int .i64 u.n)).setCell ⟨g, j * 5 + 2, none⟩ (.string u.s)).setCell ⟨g, j * 5 + 3, none⟩ (.slice la3 l3 lc3)).setCell ⟨g, j * 5 + 4, none⟩ (.int .i64 u.a)) := ⟨_, rfl⟩
        have hsz4 : w4.heap.size = w3.heap.size := by rw [hw4]; simp
        have hg2 : w.heap.size + 2 ≤ g := by have := HZ0.out; omega
        have HO4 : Hid (w4.ownsRow w0.heap.size 32 5 (.slice (some ⟨g, 0, none⟩) n c1) n (nrow tl (fun i => if i = j then .slice la3 l3 lc3 else lv2 i) n)) := Lib.hid (by
          rw [hw4]; exact own_node (HO.out.kept (nfr_grow HF3.out none) (by simp [Value.ownBlock])) _ HUU.out hlt)
        have HS4 : Hid (∀ (i : Nat) (u' : Nd), tl[i]? = some u' → (i < j + 1 → LNP (fun b => w0.heap.size ≤ b ∧ b < w4.heap.size ∧ (Value.slice (some ⟨g, 0, none⟩) n c1).ownBlock ≠ some b) w4 (if i = j then .slice la3 l3 lc3 else lv2 i) u'.l) ∧ (j + 1 ≤ i → LN w (if i = j then .slice la3 l3 lc3 else lv2 i) u'.l)) := Lib.hid (fun i u' hu' => by
          have hpg : ¬ (w0.heap.size ≤ g ∧ g < w4.heap.size ∧ (Value.slice (some ⟨g, 0, none⟩) n c1).ownBlock ≠ some g) := fun h => h.2.2 rfl
          refine ⟨fun hij => ?_, fun hij => ?_⟩
          · have h3 : LNP (fun b => w0.heap.size ≤ b ∧ b < w4.heap.size ∧ (Value.slice (some ⟨g, 0, none⟩) n c1).ownBlock ≠ some b) w3 (if i = j then .slice la3 l3 lc3 else lv2 i) u'.l := by
              by_cases e : i = j
              · subst e
                obtain rfl : u = u' := Option.some.inj (HUU.out.symm.trans hu')
                rw [if_pos rfl]
                refine HLV3.out.keep fun b off x hb hx => ?_
                have hlt1 : b < w3.heap.size := World.block_lt_of_cell? w3 _ hx
                have hb' : wr.heap.size + 1 ≤ b := by simpa using hb
                exact ⟨⟨by omega, by omega, by simp [Value.ownBlock]; omega⟩, hx⟩
              · rw [if_neg e]
                refine ((HS.out i u' hu').1 (by omega)).keep fun b off x hb hx => ?_
                have hss := HF3.out.size
                exact ⟨⟨hb.1, by omega, hb.2.2⟩, HF3.out.cell hx⟩
            rw [hw4] at h3 hpg ⊢
            exact ((((h3.far hpg _ _).far hpg _ _).far hpg _ _).far hpg _ _).far hpg _ _
          · rw [if_neg (by omega)]
            exact (HS.out i u' hu').2 (by omega))
        have HNB4 : Hid (Nb w4 w.heap.size (.int .i64 o1) (.int .i64 n1) (.string s1) (.slice (some ⟨g, 0, none⟩) n c1) (.int .i64 a1)) := Lib.hid (by
          have e : g ≠ w.heap.size := by omega
          rw [hw4]; exact (((((HNB.out.fr HF3.out).farG e _ _).farG e _ _).farG e _ _).farG e _ _).farG e _ _)
        have HNZ4 : Hid (Nb w4 (w.heap.size + 1) (.int .i64 0) (.int .i64 0) (.string ⟨#[]⟩) (.slice none 0 0) (.int .i64 0)) := Lib.hid (by
          have e : g ≠ w.heap.size + 1 := by omega
          rw [hw4]; exact (((((HNZ.out.fr HF3.out).farG e _ _).farG e _ _).farG e _ _).farG e _ _).farG e _ _)
        have HF4 : Hid (Fr w w4) := Lib.hid (by
          have e : w.heap.size ≤ g := by omega
          rw [hw4]; exact (((((HFW.out.trans HF3.out).setCell e _).setCell e _).setCell e _).setCell e _).setCell e _)
        rw [← hw4]
        clear hw4 k3 k4 k5 k6 k7 k8 z0 z1 z2 z3 z4
        go_wp2_with fail
        go_roundw
        case rel => exact ⟨j + 1, _, by omega, by go_num, HO4.out, HS4, HNB4, HNZ4, HF4.out⟩
        case measure => simp [intOf]; omega)
    · obtain rfl : j = n := by omega
      obtain ⟨p0, p1, p2, p3, p4⟩ := HNB.out.cells
      obtain ⟨q0, q1, q2, q3, q4⟩ := HNZ.out.cells
      have g0 := HNZ.out.free 0
      have g1 := HNZ.out.free 1
      have g2 := HNZ.out.free 2
      have g3 := HNZ.out.free 3
      have g4 := HNZ.out.free 4
      have HFW := Lib.hid hfr
      clear hfr
      go_wp2_with fail
      refine bodyPost_ret (v := .agg #[.int .i64 o1, .int .i64 n1, .string s1, .slice A1 j c1, .int .i64 a1]) (by simp [results, Tryz.results88, go_sem, q0, q1, q2, q3, q4]) rfl ?_
      have hp : ¬ (w0.heap.size ≤ w.heap.size + 1) := by have := HZ0.out; omega
      have e0 : w.heap.size ≤ w.heap.size + 1 := by omega
      have hrow : LNP (fun b => w0.heap.size ≤ b) wr (.slice A1 j c1) tl := by
        have h := HO.out
        rw [HN.out] at h ⊢
        exact LNP.row h HWF.out fun i u hi => ((HS.out i u hi).1 (by rw [HN.out]; exact (List.getElem?_eq_some_iff.1 hi).1)).keep fun b off x hb hx => ⟨hb.1, hx⟩
      refine ⟨_, rfl, ?_, (((((HFW.out.setCell e0 _).setCell e0 _).setCell e0 _).setCell e0 _).setCell e0 _)⟩
      exact (((((hrow.far hp _ _).far hp _ _).far hp _ _).far hp _ _).far hp _ _).keep fun b off x hb hx => ⟨by have := HZ0.out; omega, hx⟩
theorem copied_any : ∀ (m : Nat) (t : Nd), t.bulk ≤ m → m ≤ 2000000 → ∀ (lt : Value) (w : World), LN w lt t.l →
    Calls Tryz.prog 88 #[ndV t lt] w fun e w' => ∃ lv, e = .returned (ndV t lv) ∧ LNP (fun b => w.heap.size ≤ b) w' lv t.l ∧ Fr w w' := by
  intro m
  induction m using Nat.strongRecOn with
  | _ m ih =>
    intro t hl hm lt w hv
    have h4 := t.bulk_eq
    refine copied_of t lt w hv (by have := bulks_len t.l; omega) (Lib.hid fun i u lu W hu hW hlu => ?_)
    have h3 := bulks_mem (List.mem_of_getElem? hu)
    exact ih u.bulk (by omega) u (Nat.le_refl _) (by omega) lu W hlu
end Go.Proofs.YtbaelbafhdjlnaaGreatDoor

/- A procedure by its name: the contract of the code's function. -/
namespace Go.Proofs.YtbaelbafhdjlnaaGreatDoor
open Go.RowKit
set_option linter.unusedVariables false

set_option maxRecDepth 100000 in
set_option maxHeartbeats 4000000 in
theorem Proc_any (s name : ByteArray) (l : List Nd) (v : Value) (w : World) (hv : LN w v l) (hb : bulks l ≤ 2000000) :
    Calls Tryz.prog 35 #[.agg #[.string s, v], .string name] w fun e w' => ∃ lv, e = .returned (.tuple #[ndV (procR l name).1 lv, .int .i64 (procR l name).2]) ∧ LN w' lv (procR l name).1.l ∧ Fr w w' := by
  have HV := Lib.hid hv
  have HB := Lib.hid hb
  obtain ⟨a, cap, rfl, hc, hm, _⟩ := hv.form
  obtain ⟨n, hn⟩ : ∃ n, n = l.length := ⟨_, rfl⟩
  have HN := Lib.hid hn
  rw [← hn] at hc HV ⊢
  have hn6 : n ≤ 2000000 := by have := bulks_len l; omega
  obtain ⟨R, hR⟩ : ∃ r, r = procR l name := ⟨_, rfl⟩
  have HR := Lib.hid hR
  rw [← hR]
  obtain ⟨w0, hw0⟩ : ∃ w0, w0 = (w.alloc (.cells #[.string s, .slice a n cap] 24)).alloc (.cells #[.int .i64 0, .int .i64 0, .string ⟨#[]⟩, .slice none 0 0, .int .i64 0] 32) := ⟨_, rfl⟩
  have HF0 : Hid (Fr w w0) := Lib.hid (by rw [hw0]; exact ((Fr.refl w).alloc _).alloc _)
  have HS : Hid (SecB w0 w.heap.size (.string s) (.slice a n cap)) := Lib.hid (by rw [hw0]; exact (SecB.new w _ _).fr ((Fr.refl _).alloc _))
  have HN0 : Hid (Nb w0 (w.heap.size + 1) (.int .i64 0) (.int .i64 0) (.string ⟨#[]⟩) (.slice none 0 0) (.int .i64 0)) := Lib.hid (by rw [hw0]; exact Nb.new1 w _ _ _ _ _ _)
  have HW0 := Lib.hid hw0
  obtain ⟨s0, s1⟩ := HS.out.cells
  rw [hw0] at s1
  clear hn hv hm hb hR hw0 s0
  go_enter Tryz.func35, Tryz.ntmps35
  go_wp2_with fail
  try rw [← HW0.out]
  go_loopw [11] (fun i wr => ∃ j : Nat, j ≤ n ∧ i = .int .i64 j ∧ Hid (R = procR (l.drop j) name) ∧ Fr w0 wr) (fun i _ => n - (intOf i).toNat)
  case atStart => exact ⟨0, Nat.zero_le _, rfl, Lib.hid (by rw [HR.out]; rfl), Fr.refl _⟩
  case round =>
    obtain ⟨j, hj, rfl, HJ, hfr⟩ := hrel
    by_cases hlt : j < n
    · obtain ⟨t, ht⟩ : ∃ t, l[j]? = some t := ⟨_, List.getElem?_eq_getElem (by rw [← HN.out]; exact hlt)⟩
      have HST := Lib.hid (procR_drop ht name)
      obtain ⟨b, off, lv, rfl, hc5, hln, _⟩ := (HV.out.fr (HF0.out.trans hfr)).at_ ht
      obtain ⟨x0, x1, x2, x3, x4⟩ := hc5
      obtain ⟨la, lc, rfl, _, _, _⟩ := hln.form
      have htb := bulks_mem (List.mem_of_getElem? ht)
      have HTB : Hid (t.bulk ≤ 2000000) := Lib.hid (by have := HB.out; omega)
      have HLN0 := Lib.hid hln
      have HC : Hid (∀ W, Fr wr W → Calls Tryz.prog 88 #[.agg #[.int .i64 t.op, .int .i64 t.n, .string t.s, .slice la t.l.length lc, .int .i64 t.a]] W fun e w' => ∃ lv, e = .returned (ndV t lv) ∧ LNP (fun b => W.heap.size ≤ b) w' lv t.l ∧ Fr W w') := Lib.hid (fun W hW =>
        copied_any _ t (Nat.le_refl _) HTB.out _ W (HLN0.out.fr hW))
      obtain ⟨ll, hll⟩ : ∃ x : Nat, x = t.l.length := ⟨_, rfl⟩
      rw [← hll] at x3 HC
      have HFR : Hid (∀ o, Fr wr (wr.alloc o)) := Lib.hid (fun o => (Fr.refl wr).alloc o)
      have HFW := Lib.hid hfr
      clear hln ht hll htb hfr
      by_cases hop : t.op = 64
      · have zo : (t.op == 64) = true := by rw [beq_iff_eq]; exact hop
        by_cases hs : t.s = name
        · have zs := s_yes hs
          have HRT : Hid (R = (t, 0)) := Lib.hid (by rw [HJ.out, HST.out, if_pos (by unfold isP; simp [hop, hs])])
          clear hop hs
          go_wp2_with fail
          refine (HC.out _ (HFR.out _)).mono ?_
          rintro e w1 ⟨lv1, rfl, hlv1, hf1⟩
          obtain ⟨la1, lc1, rfl, _, _, _⟩ := hlv1.ln.form
          have HLV := Lib.hid hlv1
          have HF1 := Lib.hid ((HFW.out.alloc _).trans hf1)
          have HF2 := Lib.hid hf1
          clear hlv1 hf1
          have HB1 := Lib.hid (HN0.out.fr HF1.out)
          obtain ⟨q0, q1, q2, q3, q4⟩ := HB1.out.cells
          have g0 := HB1.out.free 0
          have g1 := HB1.out.free 1
          have g2 := HB1.out.free 2
          have g3 := HB1.out.free 3
          have g4 := HB1.out.free 4
          unfold ndV
          go_wp2_with fail
          refine bodyPost_ret (v := .tuple #[.agg #[.int .i64 t.op, .int .i64 t.n, .string t.s, .slice la1 t.l.length lc1, .int .i64 t.a], .int .i64 0]) (by simp [results, Tryz.results35, go_sem, q0, q1, q2, q3, q4]) rfl ?_
          rw [HRT.out]
          refine ⟨_, rfl, ?_, ?_⟩
          · have hwz : w.heap.size + 1 < wr.heap.size := (HN0.out.fr HFW.out).lt
            refine LNP.ln (P := fun _ => True) (HLV.out.keep fun b off u hb hu => ⟨trivial, ?_⟩)
            have hb' : wr.heap.size + 1 ≤ b := by simpa using hb
            rw [World.cell?_setCell_far _ _ _ _ (by show w.heap.size + 1 ≠ b; omega), World.cell?_setCell_far _ _ _ _ (by show w.heap.size + 1 ≠ b; omega), World.cell?_setCell_far _ _ _ _ (by show w.heap.size + 1 ≠ b; omega), World.cell?_setCell_far _ _ _ _ (by show w.heap.size + 1 ≠ b; omega), World.cell?_setCell_far _ _ _ _ (by show w.heap.size + 1 ≠ b; omega)]
            exact hu
          · have e0 : w.heap.size ≤ w.heap.size + 1 := by omega
            exact ((((((HF0.out.trans HF1.out).setCell e0 _).setCell e0 _).setCell e0 _).setCell e0 _).setCell e0 _)
        · have zs := s_no hs
          have HJ2 : Hid (R = procR (l.drop (j + 1)) name) := Lib.hid (by rw [HJ.out, HST.out, if_neg (by unfold isP; simp [hs])])
          clear hop hs
          go_wp2_with fail
          go_roundw
          case rel => exact ⟨j + 1, by omega, by go_num, HJ2, HFW.out.alloc _⟩
          case measure => simp [intOf]; omega
      · have zo : (t.op == 64) = false := by rw [beq_eq_false_iff_ne]; exact hop
        have HJ2 : Hid (R = procR (l.drop (j + 1)) name) := Lib.hid (by rw [HJ.out, HST.out, if_neg (by unfold isP; simp [hop])])
        clear hop
        go_wp2_with fail
        go_roundw
        case rel => exact ⟨j + 1, by omega, by go_num, HJ2, HFW.out.alloc _⟩
        case measure => simp [intOf]; omega
    · obtain rfl : j = n := by omega
      have HRT : Hid (R = (default, 4)) := Lib.hid (by rw [HJ.out, List.drop_eq_nil_of_le (by rw [← HN.out]; exact Nat.le_refl _)]; rfl)
      have HB1 := Lib.hid (HN0.out.fr hfr)
      obtain ⟨q0, q1, q2, q3, q4⟩ := HB1.out.cells
      have g0 := HB1.out.free 0
      have g1 := HB1.out.free 1
      have g2 := HB1.out.free 2
      have g3 := HB1.out.free 3
      have g4 := HB1.out.free 4
      go_wp2_with fail
      refine bodyPost_ret (v := .tuple #[.agg #[.int .i64 0, .int .i64 0, .string ⟨#[]⟩, .slice none 0 0, .int .i64 0], .int .i64 4]) (by simp [results, Tryz.results35, go_sem, q0, q1, q2, q3, q4]) rfl ?_
      rw [HRT.out]
      have e0 : w.heap.size ≤ w.heap.size + 1 := by omega
      exact ⟨.slice none 0 0, rfl, LN.nil _, ((((((HF0.out.trans hfr).setCell e0 _).setCell e0 _).setCell e0 _).setCell e0 _).setCell e0 _)⟩
end Go.Proofs.YtbaelbafhdjlnaaGreatDoor

/- Lists of names: where they lie, how they are searched and compared; the names of a tree, by the document's own function. -/
namespace Go.Proofs.YtbaelbafhdjlnaaGreatDoor
open Go.RowKit
set_option linter.unusedVariables false

/-- A slice of strings that lies in memory. -/
def SL (w : World) (v : Value) (xs : List ByteArray) : Prop := ∃ a cap, v = .slice a xs.length cap ∧ xs.length ≤ cap ∧ cap ≤ maxLen ∧ (0 < xs.length → ∃ b off, a = some ⟨b, off, none⟩ ∧ ∀ (i : Nat) (s : ByteArray), xs[i]? = some s → w.cell? ⟨b, off + i, none⟩ = some (.string s))
theorem SL.fr {w w' : World} {v : Value} {xs : List ByteArray} (h : SL w v xs) (k : Fr w w') : SL w' v xs := by
  obtain ⟨a, cap, e, h1, h2, h3⟩ := h
  refine ⟨a, cap, e, h1, h2, fun hp => ?_⟩
  obtain ⟨b, off, e2, h4⟩ := h3 hp
  exact ⟨b, off, e2, fun i s hs => k.cell (h4 i s hs)⟩
abbrev strs (xs : List ByteArray) : List Value := xs.map .string
abbrev OS (w : World) (B : Nat) (v : Value) (xs : List ByteArray) : Prop := w.ownsRow B 9 1 v xs.length (strs xs)
theorem OS.sl {w : World} {B : Nat} {v : Value} {xs : List ByteArray} (h : OS w B v xs) : SL w v xs := by
  rcases h.2 with ⟨rfl, h0⟩ | ⟨g, cap, cur, rfl, hb, hg, hm, hmx, hsz, ht⟩
  · obtain rfl : xs = [] := List.eq_nil_of_length_eq_zero h0
    exact ⟨none, 0, rfl, Nat.le_refl _, Nat.zero_le _, fun h => absurd h (by decide)⟩
  · refine ⟨_, cap, rfl, hm, hmx, fun _ => ⟨g, 0, rfl, fun i s hs => ?_⟩⟩
    have hi := (List.getElem?_eq_some_iff.1 hs).1
    rw [Nat.zero_add, h.cellAt i (by omega), List.getElem?_map, hs]
    rfl
theorem sl_drop {xs : List ByteArray} {j : Nat} {x : ByteArray} (h : xs[j]? = some x) : xs.drop j = x :: xs.drop (j + 1) := by
  obtain ⟨hj, rfl⟩ := List.getElem?_eq_some_iff.1 h
  exact List.drop_eq_getElem_cons hj
def hasS (xs : List ByteArray) (s : ByteArray) : Bool := xs.any fun x => decide (x = s)
set_option maxHeartbeats 2000000 in
/-- Whether a string stands in a list: the place, or below 0. -/
theorem Has_any (xs : List ByteArray) (s : ByteArray) (v : Value) (w : World) (hv : SL w v xs) :
    Calls Tryz.prog 131 #[v, .string s] w fun e w' => ∃ r : Int, e = .returned (.int .i64 r) ∧ decide (r < 0) = !hasS xs s ∧ w' = w := by
  obtain ⟨a, cap, rfl, hc, hm, hx⟩ := hv
  obtain ⟨n, hn⟩ : ∃ n, n = xs.length := ⟨_, rfl⟩
  have HN := Lib.hid hn
  have HX := Lib.hid hx
  rw [← hn] at hc ⊢
  unfold maxLen at hm
  obtain ⟨R, hR⟩ : ∃ r, r = hasS xs s := ⟨_, rfl⟩
  have HR := Lib.hid hR
  rw [← hR]
  clear hn hx hR
  go_enter Tryz.func131, Tryz.ntmps131
  go_wp2_with fail
  go_loopw [5] (fun i wr => ∃ j : Nat, j ≤ n ∧ i = .int .i64 j ∧ Hid (R = hasS (xs.drop j) s) ∧ w = wr) (fun i _ => n - (intOf i).toNat)
  case atStart => exact ⟨0, Nat.zero_le _, rfl, Lib.hid (by rw [HR.out]; rfl), rfl⟩
  case round =>
    obtain ⟨j, hj, rfl, HJ, rfl⟩ := hrel
    by_cases hlt : j < n
    · obtain ⟨x, hx⟩ : ∃ x, xs[j]? = some x := ⟨_, List.getElem?_eq_getElem (by rw [← HN.out]; exact hlt)⟩
      obtain ⟨b, off, rfl, hcell⟩ := HX.out (by rw [← HN.out]; omega)
      have x0 := hcell j x hx
      have hd := sl_drop hx
      by_cases hs : x = s
      · have zs := s_yes hs
        have HRT : Hid (decide ((j : Int) < 0) = !R) := Lib.hid (by rw [HJ.out, hd, hasS, List.any_cons, decide_eq_true hs]; simp)
        clear hcell hx hd hs
        go_wp2_with fail
        go_ret
        exact ⟨_, rfl, HRT.out, rfl⟩
      · have zs := s_no hs
        have HJ2 : Hid (R = hasS (xs.drop (j + 1)) s) := Lib.hid (by rw [HJ.out, hd, hasS, List.any_cons, decide_eq_false hs]; rfl)
        clear hcell hx hd hs
        go_wp2_with fail
        go_roundw
        case rel => exact ⟨j + 1, by omega, by go_num, HJ2, by first | rfl | trivial⟩
        case measure => simp [intOf]; omega
    · obtain rfl : j = n := by omega
      have HRT : Hid (decide ((-1 : Int) < 0) = !R) := Lib.hid (by rw [HJ.out, List.drop_eq_nil_of_le (by rw [← HN.out]; exact Nat.le_refl _)]; rfl)
      go_wp2_with fail
      go_ret
      exact ⟨_, rfl, HRT.out, rfl⟩
set_option maxHeartbeats 2000000 in
theorem EqStrings_same (xs : List ByteArray) (v1 v2 : Value) (w : World) (h1 : SL w v1 xs) (h2 : SL w v2 xs) :
    Calls Tryz.prog 39 #[v1, v2] w fun e w' => e = .returned (.bool true) ∧ Fr w w' := by
  have H1 := Lib.hid h1
  have H2 := Lib.hid h2
  obtain ⟨a1, c1, rfl, hc1, hm1, _⟩ := h1
  obtain ⟨a2, c2, rfl, hc2, hm2, _⟩ := h2
  obtain ⟨n, hn⟩ : ∃ n, n = xs.length := ⟨_, rfl⟩
  have HN := Lib.hid hn
  rw [← hn] at hc1 hc2 H1 H2 ⊢
  unfold maxLen at hm1 hm2
  clear hn
  have z0 : ((n : Int) != (n : Int)) = false := by simp
  go_enter Tryz.func39, Tryz.ntmps39
  go_wp2_with fail
  go_loopw [5] (fun i wr => ∃ j : Nat, j ≤ n ∧ i = .int .i64 j ∧ Fr w wr) (fun i _ => n - (intOf i).toNat)
  case atStart => exact ⟨0, Nat.zero_le _, rfl, Fr.refl _⟩
  case round =>
    obtain ⟨j, hj, rfl, hfr⟩ := hrel
    by_cases hlt : j < n
    · obtain ⟨x, hx⟩ : ∃ x, xs[j]? = some x := ⟨_, List.getElem?_eq_getElem (by rw [← HN.out]; exact hlt)⟩
      obtain ⟨a1', c1', e1, _, _, m1⟩ := H1.out.fr hfr
      obtain ⟨a2', c2', e2, _, _, m2⟩ := H2.out.fr hfr
      simp only [Value.slice.injEq] at e1 e2
      obtain ⟨rfl, _, rfl⟩ := e1
      obtain ⟨rfl, _, rfl⟩ := e2
      obtain ⟨b1, o1, rfl, k1⟩ := m1 (by rw [← HN.out]; omega)
      obtain ⟨b2, o2, rfl, k2⟩ := m2 (by rw [← HN.out]; omega)
      have x1 := k1 j x hx
      have x2 := k2 j x hx
      have zz : (x.toList != x.toList) = false := by simp
      clear k1 k2 hx
      go_wp2_with fail
      go_region
      all_goals (
        go_wp2_with fail
        go_roundw
        case rel => exact ⟨j + 1, by omega, by go_num, hfr.drew⟩
        case measure => simp [intOf]; omega)
    · obtain rfl : j = n := by omega
      go_wp2_with fail
      go_ret
      exact ⟨rfl, hfr⟩
end Go.Proofs.YtbaelbafhdjlnaaGreatDoor

/- The names of a tree, by the document's own function. -/
namespace Go.Proofs.YtbaelbafhdjlnaaGreatDoor
open Go.RowKit
set_option linter.unusedVariables false

/-- One more name, if it is new. -/
def add1 (t : Nd) (xs : List ByteArray) : List ByteArray := if t.op = 6 ∧ hasS xs t.s = false then xs ++ [t.s] else xs
mutual
def nmT : Nd → List ByteArray → List ByteArray
  | ⟨o, n, s, l, a⟩, xs => nmTs l (add1 ⟨o, n, s, l, a⟩ xs)
def nmTs : List Nd → List ByteArray → List ByteArray
  | [], xs => xs
  | t :: r, xs => nmTs r (nmT t xs)
end
theorem nmT_eq (t : Nd) (xs : List ByteArray) : nmT t xs = nmTs t.l (add1 t xs) := by
  obtain ⟨o, n, s, l, a⟩ := t
  rw [nmT]; rfl
theorem add1_len (t : Nd) (xs : List ByteArray) : (add1 t xs).length ≤ xs.length + 1 := by
  unfold add1
  split <;> simp
mutual
theorem nmT_len : ∀ (t : Nd) (xs : List ByteArray), (nmT t xs).length ≤ xs.length + t.bulk
  | ⟨o, n, s, l, a⟩, xs => by
    rw [nmT, Nd.bulk]
    have := nmTs_len l (add1 ⟨o, n, s, l, a⟩ xs)
    have := add1_len ⟨o, n, s, l, a⟩ xs
    omega
theorem nmTs_len : ∀ (l : List Nd) (xs : List ByteArray), (nmTs l xs).length ≤ xs.length + bulks l
  | [], xs => by rw [nmTs, bulks]; omega
  | t :: r, xs => by
    rw [nmTs, bulks]
    have := nmTs_len r (nmT t xs)
    have := nmT_len t xs
    omega
end
theorem nmTs_drop {l : List Nd} {j : Nat} {t : Nd} (ht : l[j]? = some t) (xs : List ByteArray) : nmTs (l.drop j) xs = nmTs (l.drop (j + 1)) (nmT t xs) := by
  rw [drop1 ht, nmTs]
theorem Tryz.infoStrN : (Tryz.prog.info? 9).map (fun i => (i.zero, i.size, i.bytes)) = some (some (.string ⟨#[]⟩), 1, 16) := by kernel_rfl
theorem gb_trans {a b c : World} {r q : Option Nat} (h : a.grownBy b r) (k : b.grownBy c q) (hq : q = r ∨ ∃ n, q = some n ∧ a.heap.size ≤ n) : a.grownBy c r :=
  ⟨k.os.trans h.os, k.tape.trans h.tape, k.output.trans h.output, Nat.le_trans h.size k.size, fun i hi hr => by
    rw [k.block i (Nat.lt_of_lt_of_le hi h.size) (by rcases hq with rfl | ⟨n, rfl, hn⟩; exact hr; intro e; have := Option.some.inj e; omega), h.block i hi hr]⟩
theorem OS.snoc {w : World} {B : Nat} {v : Value} {xs : List ByteArray} {s : ByteArray} (h : w.ownsRow B 9 1 v (xs.length + 1) (strs xs ++ [.string s])) : OS w B v (xs ++ [s]) := by
  have e : (xs ++ [s]).length = xs.length + 1 := by simp
  unfold OS strs
  rw [e, List.map_append]
  exact h
theorem own_formS {w : World} {B : Nat} {v : Value} {xs : List ByteArray} (h : OS w B v xs) : ∃ a c, v = .slice a xs.length c := by
  rcases h.2 with ⟨rfl, h0⟩ | ⟨g, cap, cur, rfl, _⟩
  · exact ⟨none, 0, by rw [h0]⟩
  · exact ⟨_, cap, rfl⟩
theorem news_one (w : World) (s : ByteArray) : ∀ j u, [Value.string s][j]? = some u → (w.alloc (.cells #[.string s] 9)).cell? ((⟨w.heap.size, 0, none⟩ : Addr).add j) = some u := by
  intro j u hu
  match j, hu with
  | 0, hu =>
    obtain rfl : _ = u := Option.some.inj hu
    simp [Addr.add]
set_option maxRecDepth 100000 in
set_option maxHeartbeats 8000000 in
theorem named_any : ∀ (m : Nat) (t : Nd), t.bulk ≤ m → m ≤ 2000000 → ∀ (lt : Value) (w W : World) (v : Value) (xs : List ByteArray), LN w lt t.l → Fr w W → OS W w.heap.size v xs → xs.length ≤ 4000000 - t.bulk →
    Calls Tryz.prog 91 #[ndV t lt, v] W fun e w' => ∃ v', e = .returned v' ∧ OS w' w.heap.size v' (nmT t xs) ∧ W.grownBy w' v.ownBlock ∧ (v'.ownBlock = v.ownBlock ∨ ∃ n, v'.ownBlock = some n ∧ W.heap.size ≤ n) := by
  intro m
  induction m using Nat.strongRecOn with
  | _ m ih =>
    intro t hl hm lt w W v xs hv hW hown hxs
    have IH := Lib.hid ih
    have HV := Lib.hid hv
    have HW := Lib.hid hW
    have HO := Lib.hid hown
    have HB : Hid (t.bulk = t.s.size + 1 + bulks t.l ∧ t.bulk ≤ m ∧ m ≤ 2000000 ∧ xs.length ≤ 4000000 - t.bulk) := Lib.hid ⟨t.bulk_eq, hl, hm, hxs⟩
    obtain ⟨i0, hi0, hz0, hz1, hz2⟩ := info_of Tryz.infoStrN
    have HI := Lib.hid (And.intro hi0 (And.intro hz0 (And.intro hz1 hz2)))
    have HT := Lib.hid (nmT_eq t xs)
    have HA1 : Hid (add1 t xs = if t.op = 6 ∧ hasS xs t.s = false then xs ++ [t.s] else xs) := Lib.hid rfl
    obtain ⟨ax, cx, rfl⟩ := own_formS hown
    obtain ⟨la, lc, rfl, hlc, hlm, _⟩ := hv.form
    obtain ⟨n, hn⟩ : ∃ n, n = t.l.length := ⟨_, rfl⟩
    have HN := Lib.hid hn
    rw [← hn] at HV hlc ⊢
    obtain ⟨nx, hnx⟩ : ∃ n, n = xs.length := ⟨_, rfl⟩
    have HNX := Lib.hid hnx
    rw [← hnx] at HO ⊢
    have HBX : Hid (∀ g, (Value.slice ax nx cx).ownBlock = some g → g < W.heap.size) := Lib.hid (fun g hg => (HO.out.lt g hg).2)
    have HR : Hid (∃ R, R = nmT t xs) := Lib.hid ⟨_, rfl⟩
    have HHAS : Hid (∀ W2, Fr W W2 → Calls Tryz.prog 131 #[.slice ax nx cx, .string t.s] W2 fun e w' => ∃ r : Int, e = .returned (.int .i64 r) ∧ decide (r < 0) = !hasS xs t.s ∧ w' = W2) := Lib.hid (fun W2 h2 => by
      have h := HO.out.kept (nfr_grow h2 none) (by cases Value.ownBlock _ <;> simp)
      rw [HNX.out] at h ⊢
      exact Has_any xs t.s _ W2 (OS.sl h))
    unfold ndV
    have hn5 : n ≤ 2000000 := by have := bulks_len t.l; have := t.bulk_eq; omega
    have hx5 : nx ≤ 4000000 := by omega
    obtain ⟨w0, hw0⟩ : ∃ w0, w0 = W.alloc (.cells #[.int .i64 t.op, .int .i64 t.n, .string t.s, .slice la n lc, .int .i64 t.a] 32) := ⟨_, rfl⟩
    have HF0 : Hid (Fr W w0) := Lib.hid (by rw [hw0]; exact (Fr.refl W).alloc _)
    have HN0 : Hid (Nb w0 W.heap.size (.int .i64 t.op) (.int .i64 t.n) (.string t.s) (.slice la n lc) (.int .i64 t.a)) := Lib.hid (by rw [hw0]; exact Nb.new W _ _ _ _ _)
    have HSZ0 : Hid (w0.heap.size = W.heap.size + 1) := Lib.hid (by rw [hw0]; simp)
    have HW0 := Lib.hid hw0
    clear hn hnx hl hm hxs hv hW hown hi0 hz0 hz1 hz2 hw0 hlm ih
    obtain ⟨p0, p1, p2, p3, p4⟩ := HN0.out.cells
    rw [HW0.out] at p0 p1 p2 p3 p4
    by_cases hop : t.op = 6
    · have zo : (t.op == 6) = true := by rw [beq_iff_eq]; exact hop
      cases hhs : hasS xs t.s with
      | true =>
        have HA : Hid (add1 t xs = xs) := Lib.hid (by rw [HA1.out, if_neg (by rw [hhs]; simp)])
        have HE1 : Hid (nmT t xs = nmTs (t.l.drop 0) xs) := Lib.hid (by rw [HT.out, HA.out]; rfl)
        have HL1 : Hid (xs.length + bulks (t.l.drop 0) ≤ 4000000) := Lib.hid (by have h := HB.out; rw [List.drop_zero]; omega)
        have HO1 : Hid (OS w0 w.heap.size (.slice ax nx cx) xs) := Lib.hid (by have h := HO.out.kept (nfr_grow HF0.out none) (by cases Value.ownBlock _ <;> simp); rw [HNX.out] at h ⊢; exact h)
        have HN1 := HN0
        have HG1 : Hid (W.grownBy w0 (Value.slice ax nx cx).ownBlock) := Lib.hid (nfr_grow HF0.out _)
        have HK1 : Hid ((Value.slice ax nx cx).ownBlock = (Value.slice ax nx cx).ownBlock ∨ ∃ q, (Value.slice ax nx cx).ownBlock = some q ∧ W.heap.size < q) := Lib.hid (.inl rfl)
        have HF1 : Hid (Fr w w0) := Lib.hid (HW.out.trans HF0.out)
        have HHS := Lib.hid hhs
        clear hop hhs
        go_enter Tryz.func91, Tryz.ntmps91
        go_wp2_with fail
        refine (HHAS.out _ ((Fr.refl W).alloc _)).mono ?_
        rintro e w1 ⟨r, rfl, hr, rfl⟩
        rw [HHS.out] at hr
        have hr2 : decide (r < 0) = false := by rw [hr]; rfl
        clear hr
        go_wp2_with fail
        rw [← HW0.out]
        go_loopw [1, 5] (fun l i wr => ∃ (j : Nat) (ys : List ByteArray), j ≤ n ∧ i = .int .i64 j ∧ OS wr w.heap.size l ys ∧ Hid (nmT t xs = nmTs (t.l.drop j) ys) ∧ Hid (ys.length + bulks (t.l.drop j) ≤ 4000000) ∧ Hid (Nb wr W.heap.size (.int .i64 t.op) (.int .i64 t.n) (.string t.s) (.slice la n lc) (.int .i64 t.a)) ∧ Hid (W.grownBy wr (Value.slice ax nx cx).ownBlock) ∧ Hid (l.ownBlock = (Value.slice ax nx cx).ownBlock ∨ ∃ q, l.ownBlock = some q ∧ W.heap.size < q) ∧ Fr w wr) (fun _ i _ => n - (intOf i).toNat)
        case atStart => exact ⟨0, _, Nat.zero_le _, rfl, HO1.out, HE1, HL1, HN1, HG1, (by first | exact HK1 | exact Lib.hid (.inl rfl)), HF1.out⟩
        case round =>
          obtain ⟨j, ys, hj, rfl, hown, HE, HL, HNB, HG, HK, hfr⟩ := hrel
          obtain ⟨p0, p1, p2, p3, p4⟩ := HNB.out.cells
          obtain ⟨ay, cy, rfl⟩ := own_formS hown
          obtain ⟨ny, hny⟩ : ∃ n, n = ys.length := ⟨_, rfl⟩
          have HNY := Lib.hid hny
          rw [← hny] at hown HK
          have HOY := Lib.hid hown
          have HFW := Lib.hid hfr
          by_cases hlt : j < n
          · rw [← hny]
            clear hny
            obtain ⟨u, hu⟩ : ∃ u, t.l[j]? = some u := ⟨_, List.getElem?_eq_getElem (by rw [← HN.out]; exact hlt)⟩
            obtain ⟨b, off, lv, rfl, hc5, hln, _⟩ := HV.out.at_ hu
            obtain ⟨x0, x1, x2, x3, x4⟩ := hc5.fr hfr
            obtain ⟨la2, lc2, rfl, _, _, _⟩ := hln.form
            have HE2 : Hid (nmT t xs = nmTs (t.l.drop (j + 1)) (nmT u ys)) := Lib.hid (by rw [HE.out, nmTs_drop hu])
            have hbd : bulks (t.l.drop j) = u.bulk + bulks (t.l.drop (j + 1)) := by rw [drop1 hu, bulks]
            have HL2 : Hid ((nmT u ys).length + bulks (t.l.drop (j + 1)) ≤ 4000000) := Lib.hid (by have := nmT_len u ys; have := HL.out; omega)
            have hub := bulks_mem (List.mem_of_getElem? hu)
            have HC := Lib.hid (IH.out u.bulk (by have := HB.out; omega) u (Nat.le_refl _) (by have := HB.out; omega) _ w wr (.slice ay ny cy) ys hln hfr hown (by have := HL.out; omega))
            unfold ndV at HC
            obtain ⟨ll, hll⟩ : ∃ x : Nat, x = u.l.length := ⟨_, rfl⟩
            rw [← hll] at x3 HC
            clear hln hu hll hc5 hub hbd hown hfr p0 p1 p2 p4
            go_wp2_with fail
            refine HC.out.mono ?_
            rintro e w2 ⟨v2, rfl, hown2, hg2, hk2⟩
            have HF2 : Hid (Fr w w2) := Lib.hid (own_fr5 HFW.out HOY.out hg2)
            have HNB2 : Hid (Nb w2 W.heap.size (.int .i64 t.op) (.int .i64 t.n) (.string t.s) (.slice (some ⟨b, off, none⟩) n lc) (.int .i64 t.a)) := Lib.hid (by
              have hne : some W.heap.size ≠ (Value.slice ay ny cy).ownBlock := by
                intro e
                rcases HK.out with h | ⟨q, h, hq⟩
                · have := HBX.out _ (h.symm.trans e.symm); omega
                · rw [h] at e; have := Option.some.inj e; omega
              unfold Nb
              rw [hg2.block _ HNB.out.lt hne]
              exact HNB.out)
            have hws : W.heap.size < wr.heap.size := HNB.out.lt
            have HG2 : Hid (W.grownBy w2 (Value.slice ax nx cx).ownBlock) := Lib.hid (gb_trans HG.out hg2 (by
              rcases HK.out with h | ⟨q, h, hq⟩
              · exact .inl h
              · exact .inr ⟨q, h, by omega⟩))
            have HK2 : Hid (v2.ownBlock = (Value.slice ax nx cx).ownBlock ∨ ∃ q, v2.ownBlock = some q ∧ W.heap.size < q) := Lib.hid (by
              rcases hk2 with h | ⟨q, h, hq⟩
              · rw [h]; exact HK.out
              · exact .inr ⟨q, h, by omega⟩)
            have HO2 := Lib.hid hown2
            clear hown2 hg2 hk2 hws
            go_wp2_with fail
            go_roundw
            case rel => exact ⟨j + 1, _, by omega, by go_num, HO2.out, HE2, HL2, HNB2, HG2, HK2, HF2.out⟩
            case measure => simp [intOf]; omega
          · obtain rfl : j = n := by omega
            have HRT : Hid (nmT t xs = ys) := Lib.hid (by rw [HE.out, List.drop_eq_nil_of_le (by rw [← HN.out]; exact Nat.le_refl _), nmTs])
            clear hown hfr
            rw [← hny]
            clear hny
            go_wp2_with fail
            go_ret
            rw [HRT.out]
            exact ⟨_, rfl, HOY.out, HG.out, by rcases HK.out with h | ⟨q, h, hq⟩; exact .inl h; exact .inr ⟨q, h, Nat.le_of_lt hq⟩⟩
      | false =>
        have HA : Hid (add1 t xs = xs ++ [t.s]) := Lib.hid (by rw [HA1.out, if_pos ⟨hop, hhs⟩])
        have HE1 : Hid (nmT t xs = nmTs (t.l.drop 0) (xs ++ [t.s])) := Lib.hid (by rw [HT.out, HA.out]; rfl)
        have HL1 : Hid ((xs ++ [t.s]).length + bulks (t.l.drop 0) ≤ 4000000) := Lib.hid (by have h := HB.out; rw [List.drop_zero, List.length_append]; simp; omega)
        have HO0 : Hid (w0.ownsRow w.heap.size 9 1 (.slice ax nx cx) nx (strs xs)) := Lib.hid (by have h := HO.out.kept (nfr_grow HF0.out none) (by cases Value.ownBlock _ <;> simp); rw [← HNX.out] at h; exact h)
        have HHS := Lib.hid hhs
        clear hop hhs
        go_enter Tryz.func91, Tryz.ntmps91
        go_wp2_with fail
        refine (HHAS.out _ ((Fr.refl W).alloc _)).mono ?_
        rintro e w1 ⟨r, rfl, hr, rfl⟩
        rw [HHS.out] at hr
        have hr2 : decide (r < 0) = true := by rw [hr]; rfl
        clear hr
        go_wp2_with (with_reducible refine stop_append_n ?_)
        unfold StopN
        rw [← HW0.out]
        refine wpList_plain rfl fun K hK => ?_
        refine wp_append_where (.tmp 16) (.tmp 19) 50 rfl w.heap.size 9 i0 _ 1 16 Tryz.underlying50 HI.out.1 HI.out.2.1 HI.out.2.2.1 HI.out.2.2.2 rfl (by omega) _ nx _ (by rfl) (HO0.out.kept (nfr_grow ((Fr.refl _).alloc _) none) (by cases Value.ownBlock _ <;> simp)) ⟨W.heap.size + 1, 0, none⟩ 1 1 [.string t.s] (by rfl) (by rfl) (by have h := news_one w0 t.s; rw [HSZ0.out] at h; exact h) (by simp [Value.oneCell']) (by omega) (by unfold maxLen; omega) (by omega) (Nat.le_trans (HW.out.trans HF0.out).size ((Fr.refl w0).alloc _).size) fun v2 w2 hown2 hg2 hwh => hK _ _ ?_
        have hs0 := HSZ0.out
        rw [size_alloc'] at hwh
        have HG1 : Hid (W.grownBy w2 (Value.slice ax nx cx).ownBlock) := Lib.hid (gb_trans (nfr_grow (HF0.out.alloc _) _) hg2 (.inl rfl))
        have HF1 : Hid (Fr w w2) := Lib.hid (own_fr5 ((HW.out.trans HF0.out).alloc _) (HO0.out.kept (nfr_grow ((Fr.refl _).alloc _) none) (by cases Value.ownBlock _ <;> simp)) hg2)
        have HN1 : Hid (Nb w2 W.heap.size (.int .i64 t.op) (.int .i64 t.n) (.string t.s) (.slice la n lc) (.int .i64 t.a)) := Lib.hid (by
          unfold Nb
          rw [hg2.block _ (by rw [size_alloc']; omega) (by intro e; have := HBX.out _ e.symm; omega)]
          exact HN0.out.fr ((Fr.refl _).alloc _))
        have HK1 : Hid (v2.ownBlock = (Value.slice ax nx cx).ownBlock ∨ ∃ q, v2.ownBlock = some q ∧ W.heap.size < q) := Lib.hid (by
          rcases hwh with h | h
          · exact .inl h
          · exact .inr ⟨_, h, by omega⟩)
        have HO1 : Hid (OS w2 w.heap.size v2 (xs ++ [t.s])) := Lib.hid (OS.snoc (by rw [← HNX.out]; exact hown2))
        clear hown2 hg2 hwh hs0 hK
        go_wp2_with fail
        go_loopw [1, 5] (fun l i wr => ∃ (j : Nat) (ys : List ByteArray), j ≤ n ∧ i = .int .i64 j ∧ OS wr w.heap.size l ys ∧ Hid (nmT t xs = nmTs (t.l.drop j) ys) ∧ Hid (ys.length + bulks (t.l.drop j) ≤ 4000000) ∧ Hid (Nb wr W.heap.size (.int .i64 t.op) (.int .i64 t.n) (.string t.s) (.slice la n lc) (.int .i64 t.a)) ∧ Hid (W.grownBy wr (Value.slice ax nx cx).ownBlock) ∧ Hid (l.ownBlock = (Value.slice ax nx cx).ownBlock ∨ ∃ q, l.ownBlock = some q ∧ W.heap.size < q) ∧ Fr w wr) (fun _ i _ => n - (intOf i).toNat)
        case atStart => exact ⟨0, _, Nat.zero_le _, rfl, HO1.out, HE1, HL1, HN1, HG1, (by first | exact HK1 | exact Lib.hid (.inl rfl)), HF1.out⟩
        case round =>
          obtain ⟨j, ys, hj, rfl, hown, HE, HL, HNB, HG, HK, hfr⟩ := hrel
          obtain ⟨p0, p1, p2, p3, p4⟩ := HNB.out.cells
          obtain ⟨ay, cy, rfl⟩ := own_formS hown
          obtain ⟨ny, hny⟩ : ∃ n, n = ys.length := ⟨_, rfl⟩
          have HNY := Lib.hid hny
          rw [← hny] at hown HK
          have HOY := Lib.hid hown
          have HFW := Lib.hid hfr
          by_cases hlt : j < n
          · rw [← hny]
            clear hny
            obtain ⟨u, hu⟩ : ∃ u, t.l[j]? = some u := ⟨_, List.getElem?_eq_getElem (by rw [← HN.out]; exact hlt)⟩
            obtain ⟨b, off, lv, rfl, hc5, hln, _⟩ := HV.out.at_ hu
            obtain ⟨x0, x1, x2, x3, x4⟩ := hc5.fr hfr
            obtain ⟨la2, lc2, rfl, _, _, _⟩ := hln.form
            have HE2 : Hid (nmT t xs = nmTs (t.l.drop (j + 1)) (nmT u ys)) := Lib.hid (by rw [HE.out, nmTs_drop hu])
            have hbd : bulks (t.l.drop j) = u.bulk + bulks (t.l.drop (j + 1)) := by rw [drop1 hu, bulks]
            have HL2 : Hid ((nmT u ys).length + bulks (t.l.drop (j + 1)) ≤ 4000000) := Lib.hid (by have := nmT_len u ys; have := HL.out; omega)
            have hub := bulks_mem (List.mem_of_getElem? hu)
            have HC := Lib.hid (IH.out u.bulk (by have := HB.out; omega) u (Nat.le_refl _) (by have := HB.out; omega) _ w wr (.slice ay ny cy) ys hln hfr hown (by have := HL.out; omega))
            unfold ndV at HC
            obtain ⟨ll, hll⟩ : ∃ x : Nat, x = u.l.length := ⟨_, rfl⟩
            rw [← hll] at x3 HC
            clear hln hu hll hc5 hub hbd hown hfr p0 p1 p2 p4
            go_wp2_with fail
            refine HC.out.mono ?_
            rintro e w2 ⟨v2, rfl, hown2, hg2, hk2⟩
            have HF2 : Hid (Fr w w2) := Lib.hid (own_fr5 HFW.out HOY.out hg2)
            have HNB2 : Hid (Nb w2 W.heap.size (.int .i64 t.op) (.int .i64 t.n) (.string t.s) (.slice (some ⟨b, off, none⟩) n lc) (.int .i64 t.a)) := Lib.hid (by
              have hne : some W.heap.size ≠ (Value.slice ay ny cy).ownBlock := by
                intro e
                rcases HK.out with h | ⟨q, h, hq⟩
                · have := HBX.out _ (h.symm.trans e.symm); omega
                · rw [h] at e; have := Option.some.inj e; omega
              unfold Nb
              rw [hg2.block _ HNB.out.lt hne]
              exact HNB.out)
            have hws : W.heap.size < wr.heap.size := HNB.out.lt
            have HG2 : Hid (W.grownBy w2 (Value.slice ax nx cx).ownBlock) := Lib.hid (gb_trans HG.out hg2 (by
              rcases HK.out with h | ⟨q, h, hq⟩
              · exact .inl h
              · exact .inr ⟨q, h, by omega⟩))
            have HK2 : Hid (v2.ownBlock = (Value.slice ax nx cx).ownBlock ∨ ∃ q, v2.ownBlock = some q ∧ W.heap.size < q) := Lib.hid (by
              rcases hk2 with h | ⟨q, h, hq⟩
              · rw [h]; exact HK.out
              · exact .inr ⟨q, h, by omega⟩)
            have HO2 := Lib.hid hown2
            clear hown2 hg2 hk2 hws
            go_wp2_with fail
            go_roundw
            case rel => exact ⟨j + 1, _, by omega, by go_num, HO2.out, HE2, HL2, HNB2, HG2, HK2, HF2.out⟩
            case measure => simp [intOf]; omega
          · obtain rfl : j = n := by omega
            have HRT : Hid (nmT t xs = ys) := Lib.hid (by rw [HE.out, List.drop_eq_nil_of_le (by rw [← HN.out]; exact Nat.le_refl _), nmTs])
            clear hown hfr
            rw [← hny]
            clear hny
            go_wp2_with fail
            go_ret
            rw [HRT.out]
            exact ⟨_, rfl, HOY.out, HG.out, by rcases HK.out with h | ⟨q, h, hq⟩; exact .inl h; exact .inr ⟨q, h, Nat.le_of_lt hq⟩⟩
    · have zo : (t.op == 6) = false := by rw [beq_eq_false_iff_ne]; exact hop
      have HA : Hid (add1 t xs = xs) := Lib.hid (by rw [HA1.out, if_neg (by simp [hop])])
      have HE1 : Hid (nmT t xs = nmTs (t.l.drop 0) xs) := Lib.hid (by rw [HT.out, HA.out]; rfl)
      have HL1 : Hid (xs.length + bulks (t.l.drop 0) ≤ 4000000) := Lib.hid (by have h := HB.out; rw [List.drop_zero]; omega)
      have HO1 : Hid (OS w0 w.heap.size (.slice ax nx cx) xs) := Lib.hid (by have h := HO.out.kept (nfr_grow HF0.out none) (by cases Value.ownBlock _ <;> simp); rw [HNX.out] at h ⊢; exact h)
      have HN1 := HN0
      have HG1 : Hid (W.grownBy w0 (Value.slice ax nx cx).ownBlock) := Lib.hid (nfr_grow HF0.out _)
      have HK1 : Hid ((Value.slice ax nx cx).ownBlock = (Value.slice ax nx cx).ownBlock ∨ ∃ q, (Value.slice ax nx cx).ownBlock = some q ∧ W.heap.size < q) := Lib.hid (.inl rfl)
      have HF1 : Hid (Fr w w0) := Lib.hid (HW.out.trans HF0.out)
      clear hop
      go_enter Tryz.func91, Tryz.ntmps91
      go_wp2_with fail
      rw [← HW0.out]
      go_loopw [1, 5] (fun l i wr => ∃ (j : Nat) (ys : List ByteArray), j ≤ n ∧ i = .int .i64 j ∧ OS wr w.heap.size l ys ∧ Hid (nmT t xs = nmTs (t.l.drop j) ys) ∧ Hid (ys.length + bulks (t.l.drop j) ≤ 4000000) ∧ Hid (Nb wr W.heap.size (.int .i64 t.op) (.int .i64 t.n) (.string t.s) (.slice la n lc) (.int .i64 t.a)) ∧ Hid (W.grownBy wr (Value.slice ax nx cx).ownBlock) ∧ Hid (l.ownBlock = (Value.slice ax nx cx).ownBlock ∨ ∃ q, l.ownBlock = some q ∧ W.heap.size < q) ∧ Fr w wr) (fun _ i _ => n - (intOf i).toNat)
      case atStart => exact ⟨0, _, Nat.zero_le _, rfl, HO1.out, HE1, HL1, HN1, HG1, (by first | exact HK1 | exact Lib.hid (.inl rfl)), HF1.out⟩
      case round =>
        obtain ⟨j, ys, hj, rfl, hown, HE, HL, HNB, HG, HK, hfr⟩ := hrel
        obtain ⟨p0, p1, p2, p3, p4⟩ := HNB.out.cells
        obtain ⟨ay, cy, rfl⟩ := own_formS hown
        obtain ⟨ny, hny⟩ : ∃ n, n = ys.length := ⟨_, rfl⟩
        have HNY := Lib.hid hny
        rw [← hny] at hown HK
        have HOY := Lib.hid hown
        have HFW := Lib.hid hfr
        by_cases hlt : j < n
        · rw [← hny]
          clear hny
          obtain ⟨u, hu⟩ : ∃ u, t.l[j]? = some u := ⟨_, List.getElem?_eq_getElem (by rw [← HN.out]; exact hlt)⟩
          obtain ⟨b, off, lv, rfl, hc5, hln, _⟩ := HV.out.at_ hu
          obtain ⟨x0, x1, x2, x3, x4⟩ := hc5.fr hfr
          obtain ⟨la2, lc2, rfl, _, _, _⟩ := hln.form
          have HE2 : Hid (nmT t xs = nmTs (t.l.drop (j + 1)) (nmT u ys)) := Lib.hid (by rw [HE.out, nmTs_drop hu])
          have hbd : bulks (t.l.drop j) = u.bulk + bulks (t.l.drop (j + 1)) := by rw [drop1 hu, bulks]
          have HL2 : Hid ((nmT u ys).length + bulks (t.l.drop (j + 1)) ≤ 4000000) := Lib.hid (by have := nmT_len u ys; have := HL.out; omega)
          have hub := bulks_mem (List.mem_of_getElem? hu)
          have HC := Lib.hid (IH.out u.bulk (by have := HB.out; omega) u (Nat.le_refl _) (by have := HB.out; omega) _ w wr (.slice ay ny cy) ys hln hfr hown (by have := HL.out; omega))
          unfold ndV at HC
          obtain ⟨ll, hll⟩ : ∃ x : Nat, x = u.l.length := ⟨_, rfl⟩
          rw [← hll] at x3 HC
          clear hln hu hll hc5 hub hbd hown hfr p0 p1 p2 p4
          go_wp2_with fail
          refine HC.out.mono ?_
          rintro e w2 ⟨v2, rfl, hown2, hg2, hk2⟩
          have HF2 : Hid (Fr w w2) := Lib.hid (own_fr5 HFW.out HOY.out hg2)
          have HNB2 : Hid (Nb w2 W.heap.size (.int .i64 t.op) (.int .i64 t.n) (.string t.s) (.slice (some ⟨b, off, none⟩) n lc) (.int .i64 t.a)) := Lib.hid (by
            have hne : some W.heap.size ≠ (Value.slice ay ny cy).ownBlock := by
              intro e
              rcases HK.out with h | ⟨q, h, hq⟩
              · have := HBX.out _ (h.symm.trans e.symm); omega
              · rw [h] at e; have := Option.some.inj e; omega
            unfold Nb
            rw [hg2.block _ HNB.out.lt hne]
            exact HNB.out)
          have hws : W.heap.size < wr.heap.size := HNB.out.lt
          have HG2 : Hid (W.grownBy w2 (Value.slice ax nx cx).ownBlock) := Lib.hid (gb_trans HG.out hg2 (by
            rcases HK.out with h | ⟨q, h, hq⟩
            · exact .inl h
            · exact .inr ⟨q, h, by omega⟩))
          have HK2 : Hid (v2.ownBlock = (Value.slice ax nx cx).ownBlock ∨ ∃ q, v2.ownBlock = some q ∧ W.heap.size < q) := Lib.hid (by
            rcases hk2 with h | ⟨q, h, hq⟩
            · rw [h]; exact HK.out
            · exact .inr ⟨q, h, by omega⟩)
          have HO2 := Lib.hid hown2
          clear hown2 hg2 hk2 hws
          go_wp2_with fail
          go_roundw
          case rel => exact ⟨j + 1, _, by omega, by go_num, HO2.out, HE2, HL2, HNB2, HG2, HK2, HF2.out⟩
          case measure => simp [intOf]; omega
        · obtain rfl : j = n := by omega
          have HRT : Hid (nmT t xs = ys) := Lib.hid (by rw [HE.out, List.drop_eq_nil_of_le (by rw [← HN.out]; exact Nat.le_refl _), nmTs])
          clear hown hfr
          rw [← hny]
          clear hny
          go_wp2_with fail
          go_ret
          rw [HRT.out]
          exact ⟨_, rfl, HOY.out, HG.out, by rcases HK.out with h | ⟨q, h, hq⟩; exact .inl h; exact .inr ⟨q, h, Nat.le_of_lt hq⟩⟩
end Go.Proofs.YtbaelbafhdjlnaaGreatDoor

/- The names of a tree, by the code: a closure that calls itself, a map and a list in cells. -/
namespace Go.Proofs.YtbaelbafhdjlnaaGreatDoor
open Go.RowKit
set_option linter.unusedVariables false

/-- The map holds the names of a list. -/
def NmIs (D : DataW Unit) (xs : List ByteArray) : Prop := Maps.IsMap D ∧ ∀ s : ByteArray, D.atKey (.string s.data.toList) (.lit (.bool false)) = .lit (.bool (hasS xs s))
theorem Nm0 : NmIs (.map []) [] := ⟨Maps.isMap_empty, fun s => rfl⟩
theorem NmS {D : DataW Unit} {xs : List ByteArray} (s : ByteArray) (h : NmIs D xs) : NmIs (D.put (.string s.data.toList) (.lit (.bool true))) (xs ++ [s]) := by
  refine ⟨h.1.put _ _, fun q => ?_⟩
  by_cases e : s = q
  · subst e
    rw [Maps.atKey_put_same h.1 (show WideAt.IsKeyLit (.string _) from trivial)]
    simp [hasS]
  · rw [Maps.atKey_put_other (fun x => e (by injection x with x; exact (str_inj x).symm)), h.2 q]
    simp [hasS, e]
theorem nm_look {W : World} {b n : Nat} {D : DataW Unit} {xs : List ByteArray} (h : W.ownsMap Tryz.prog 9 (plainElem Tryz.prog 4) b n D) (hD : NmIs D xs) (s : ByteArray) (hs : s.size ≤ 2000000) :
    (Instr.lookup 94 (.map (some b)) (.string s) false).run Tryz.prog W = .ok (.bool (hasS xs s)) W := by
  obtain ⟨v, ps, hrun, hv⟩ := h.lookup (Maps.string_keyed Tryz.underlying9) Tryz.underlying94 (Tryz.zeroBool W) (plainElem_bool Tryz.underlying4 false) (key := .string s) (Go.WideMaps.keyOf_string_mk Tryz.underlying9 (show s.size ≤ maxLen by unfold maxLen; omega))
  obtain ⟨x, rfl, hz⟩ := bool_inv Tryz.underlying4 hv
  rw [hD.2 s] at hz
  generalize hasS xs s = y at *
  simp only [Prod.mk.injEq, DataW.lit.injEq, Lit.bool.injEq] at hz
  rw [hrun, hz.1]
abbrev clos (H : Nat) : Value := .func (.func 90) #[] #[.pointer (some ⟨H + 3, 0, none⟩), .pointer (some ⟨H + 1, 0, none⟩), .pointer (some ⟨H + 4, 0, none⟩)]
/-- The state of the gathering: the list's cell, the map, the closure's own cell. -/
structure NS (H : Nat) (w W : World) (xs : List ByteArray) (v : Value) (D : DataW Unit) : Prop where
  fr : Fr w W
  own : OS W (H + 5) v xs
  l : W.heap[H + 1]? = some (.cells #[v] 50 (0, 0))
  m : W.heap[H + 3]? = some (.cells #[.map (some (H + 2))] 94 (0, 0))
  f : W.heap[H + 4]? = some (.cells #[clos H] 87 (0, 0))
  mp : W.ownsMap Tryz.prog 9 (plainElem Tryz.prog 4) (H + 2) xs.length D
  kw : NmIs D xs
  sz : H + 5 ≤ W.heap.size
/-- What the gathering leaves as it was. -/
structure Kp (H : Nat) (W w' : World) (r : Option Nat) : Prop where
  size : W.heap.size ≤ w'.heap.size
  block : ∀ k, k < W.heap.size → k ≠ H + 1 → k ≠ H + 2 → some k ≠ r → w'.heap[k]? = W.heap[k]?
theorem Kp.refl (H : Nat) (W : World) (r : Option Nat) : Kp H W W r := ⟨Nat.le_refl _, fun _ _ _ _ _ => rfl⟩
theorem Kp.of_fr {H : Nat} {W w' : World} (r : Option Nat) (h : Fr W w') : Kp H W w' r := ⟨h.size, fun k hk _ _ _ => h.block k hk⟩
theorem Kp.trans {H : Nat} {a b c : World} {r q : Option Nat} (h : Kp H a b r) (k : Kp H b c q) (hq : q = r ∨ ∃ n, q = some n ∧ a.heap.size ≤ n) : Kp H a c r :=
  ⟨Nat.le_trans h.size k.size, fun i hi h1 h2 hr => by
    rw [k.block i (Nat.lt_of_lt_of_le hi h.size) h1 h2 (by rcases hq with rfl | ⟨n, rfl, hn⟩; exact hr; intro e; have := Option.some.inj e; omega), h.block i hi h1 h2 hr]⟩
theorem NS.al {H : Nat} {w W W' : World} {xs : List ByteArray} {v : Value} {D : DataW Unit} (h : NS H w W xs v D) (k : Fr W W') : NS H w W' xs v D :=
  ⟨h.fr.trans k, h.own.kept (nfr_grow k none) (by cases Value.ownBlock _ <;> simp), (k.block _ (by have := h.sz; omega)).trans h.l, (k.block _ (by have := h.sz; omega)).trans h.m, (k.block _ (by have := h.sz; omega)).trans h.f, h.mp.kept (nfr_grow k none) (by simp), h.kw, Nat.le_trans h.sz k.size⟩
theorem NS.cells {H : Nat} {w W : World} {xs : List ByteArray} {v : Value} {D : DataW Unit} (h : NS H w W xs v D) : W.cell? ⟨H + 1, 0, none⟩ = some v ∧ W.cell? ⟨H + 3, 0, none⟩ = some (.map (some (H + 2))) ∧ W.cell? ⟨H + 4, 0, none⟩ = some (clos H) ∧ W.frozen? ⟨H + 1, 0, none⟩ = false := by
  have h1 := h.l
  have h2 := h.m
  have h3 := h.f
  simp [World.cell?, World.frozen?, h1, h2, h3]
set_option maxRecDepth 100000 in
set_option maxHeartbeats 8000000 in
theorem walk_any : ∀ (m : Nat) (t : Nd), t.bulk ≤ m → m ≤ 2000000 → ∀ (lt : Value) (H : Nat) (w W : World) (v : Value) (xs : List ByteArray) (D : DataW Unit), w.heap.size ≤ H → LN w lt t.l → NS H w W xs v D → xs.length ≤ 4000000 - t.bulk →
    Calls Tryz.prog 90 #[ndV t lt, .pointer (some ⟨H + 3, 0, none⟩), .pointer (some ⟨H + 1, 0, none⟩), .pointer (some ⟨H + 4, 0, none⟩)] W fun e w' => e = .returned (.tuple #[]) ∧ ∃ v' D', NS H w w' (nmT t xs) v' D' ∧ Kp H W w' v.ownBlock ∧ (v'.ownBlock = v.ownBlock ∨ ∃ n, v'.ownBlock = some n ∧ W.heap.size ≤ n) := by
  intro m
  induction m using Nat.strongRecOn with
  | _ m ih =>
    intro t hl hm lt H w W v xs D hwH hv hS hxs
    have IH := Lib.hid ih
    have HH := Lib.hid hwH
    have HV := Lib.hid hv
    have HS := Lib.hid hS
    have HSZ := Lib.hid hS.sz
    have HB : Hid (t.bulk = t.s.size + 1 + bulks t.l ∧ t.bulk ≤ m ∧ m ≤ 2000000 ∧ xs.length ≤ 4000000 - t.bulk) := Lib.hid ⟨t.bulk_eq, hl, hm, hxs⟩
    obtain ⟨i0, hi0, hz0, hz1, hz2⟩ := info_of Tryz.infoStrN
    have HI := Lib.hid (And.intro hi0 (And.intro hz0 (And.intro hz1 hz2)))
    have HT := Lib.hid (nmT_eq t xs)
    have HA1 : Hid (add1 t xs = if t.op = 6 ∧ hasS xs t.s = false then xs ++ [t.s] else xs) := Lib.hid rfl
    obtain ⟨ax, cx, rfl⟩ := own_formS hS.own
    obtain ⟨la, lc, rfl, hlc, hlm, _⟩ := hv.form
    obtain ⟨n, hn⟩ : ∃ n, n = t.l.length := ⟨_, rfl⟩
    have HN := Lib.hid hn
    rw [← hn] at HV hlc ⊢
    obtain ⟨nx, hnx⟩ : ∃ n, n = xs.length := ⟨_, rfl⟩
    have HNX := Lib.hid hnx
    rw [← hnx] at HS ⊢
    have HBX : Hid (∀ g, (Value.slice ax nx cx).ownBlock = some g → g < W.heap.size) := Lib.hid (fun g hg => (HS.out.own.lt g hg).2)
    unfold ndV
    have hn5 : n ≤ 2000000 := by have := bulks_len t.l; have := t.bulk_eq; omega
    have hx5 : nx ≤ 4000000 := by omega
    obtain ⟨w0, hw0⟩ : ∃ w0, w0 = W.alloc (.cells #[.int .i64 t.op, .int .i64 t.n, .string t.s, .slice la n lc, .int .i64 t.a] 32) := ⟨_, rfl⟩
    have HF0 : Hid (Fr W w0) := Lib.hid (by rw [hw0]; exact (Fr.refl W).alloc _)
    have HN0 : Hid (Nb w0 W.heap.size (.int .i64 t.op) (.int .i64 t.n) (.string t.s) (.slice la n lc) (.int .i64 t.a)) := Lib.hid (by rw [hw0]; exact Nb.new W _ _ _ _ _)
    have HSZ0 : Hid (w0.heap.size = W.heap.size + 1) := Lib.hid (by rw [hw0]; simp)
    have HW0 := Lib.hid hw0
    have HSS : Hid (t.s.size ≤ 2000000) := Lib.hid (by have := t.bulk_eq; omega)
    clear hn hnx hl hm hxs hv hS hwH hi0 hz0 hz1 hz2 hlm ih
    obtain ⟨p0, p1, p2, p3, p4⟩ := HN0.out.cells
    have hS0 := HS.out.al HF0.out
    obtain ⟨y1, y2, y3, y4⟩ := hS0.cells
    have hlook := nm_look hS0.mp hS0.kw t.s HSS.out
    rw [hw0] at p0 p1 p2 p3 p4 y1 y2 y3 y4 hlook
    clear hw0 hS0
    by_cases hop : t.op = 6
    · have zo : (t.op == 6) = true := by rw [beq_iff_eq]; exact hop
      cases hhs : hasS xs t.s with
      | true =>
        have HA : Hid (add1 t xs = xs) := Lib.hid (by rw [HA1.out, if_neg (by rw [hhs]; simp)])
        have HE1 : Hid (nmT t xs = nmTs (t.l.drop 0) xs) := Lib.hid (by rw [HT.out, HA.out]; rfl)
        have HL1 : Hid (xs.length + bulks (t.l.drop 0) ≤ 4000000) := Lib.hid (by have h := HB.out; rw [List.drop_zero]; omega)
        have HS1 : Hid (NS H w w0 xs (.slice ax nx cx) D) := Lib.hid (HS.out.al HF0.out)
        have HN1 := HN0
        have HG1 : Hid (Kp H W w0 (Value.slice ax nx cx).ownBlock) := Lib.hid (Kp.of_fr _ HF0.out)
        have HK1 : Hid ((Value.slice ax nx cx).ownBlock = (Value.slice ax nx cx).ownBlock ∨ ∃ q, (Value.slice ax nx cx).ownBlock = some q ∧ W.heap.size < q) := Lib.hid (.inl rfl)
        rw [hhs] at hlook
        clear hop hhs y1 y3 y4
        go_enter Tryz.func90, Tryz.ntmps90
        go_wp2_with fail
        rw [← HW0.out]
        clear p0 p1 p2 p3 p4 y2 hlook
        go_loopw [28] (fun i wr => ∃ (v2 : Value) (D2 : DataW Unit) (j : Nat) (ys : List ByteArray), j ≤ n ∧ i = .int .i64 j ∧ Hid (NS H w wr ys v2 D2) ∧ Hid (nmT t xs = nmTs (t.l.drop j) ys) ∧ Hid (ys.length + bulks (t.l.drop j) ≤ 4000000) ∧ Hid (Nb wr W.heap.size (.int .i64 t.op) (.int .i64 t.n) (.string t.s) (.slice la n lc) (.int .i64 t.a)) ∧ Hid (Kp H W wr (Value.slice ax nx cx).ownBlock) ∧ Hid (v2.ownBlock = (Value.slice ax nx cx).ownBlock ∨ ∃ q, v2.ownBlock = some q ∧ W.heap.size < q)) (fun i _ => n - (intOf i).toNat)
        case atStart => exact ⟨_, _, 0, _, Nat.zero_le _, rfl, HS1, HE1, HL1, HN1, HG1, (by first | exact HK1 | exact Lib.hid (.inl rfl))⟩
        case round =>
          obtain ⟨v2, D2, j, ys, hj, rfl, HSY, HE, HL, HNB, HG, HK⟩ := hrel
          obtain ⟨p0, p1, p2, p3, p4⟩ := HNB.out.cells
          by_cases hlt : j < n
          · obtain ⟨u, hu⟩ : ∃ u, t.l[j]? = some u := ⟨_, List.getElem?_eq_getElem (by rw [← HN.out]; exact hlt)⟩
            obtain ⟨b, off, lv, rfl, hc5, hln, _⟩ := HV.out.at_ hu
            obtain ⟨x0, x1, x2, x3, x4⟩ := hc5.fr HSY.out.fr
            obtain ⟨la2, lc2, rfl, _, _, _⟩ := hln.form
            have HE2 : Hid (nmT t xs = nmTs (t.l.drop (j + 1)) (nmT u ys)) := Lib.hid (by rw [HE.out, nmTs_drop hu])
            have hbd : bulks (t.l.drop j) = u.bulk + bulks (t.l.drop (j + 1)) := by rw [drop1 hu, bulks]
            have HL2 : Hid ((nmT u ys).length + bulks (t.l.drop (j + 1)) ≤ 4000000) := Lib.hid (by have := nmT_len u ys; have := HL.out; omega)
            have hub := bulks_mem (List.mem_of_getElem? hu)
            have HLN := Lib.hid hln
            have HC : Hid (∀ W2, Fr wr W2 → Calls Tryz.prog 90 #[ndV u (.slice la2 u.l.length lc2), .pointer (some ⟨H + 3, 0, none⟩), .pointer (some ⟨H + 1, 0, none⟩), .pointer (some ⟨H + 4, 0, none⟩)] W2 fun e w' => e = .returned (.tuple #[]) ∧ ∃ v' D', NS H w w' (nmT u ys) v' D' ∧ Kp H W2 w' v2.ownBlock ∧ (v'.ownBlock = v2.ownBlock ∨ ∃ q, v'.ownBlock = some q ∧ W2.heap.size ≤ q)) := Lib.hid (fun W2 h2 =>
              IH.out u.bulk (by have := HB.out; omega) u (Nat.le_refl _) (by have := HB.out; omega) _ H w W2 v2 ys D2 HH.out HLN.out (HSY.out.al h2) (by have := HL.out; omega))
            unfold ndV at HC
            obtain ⟨ll, hll⟩ : ∃ x : Nat, x = u.l.length := ⟨_, rfl⟩
            rw [← hll] at x3 HC
            obtain ⟨y1, y2, y3, y4⟩ := HSY.out.cells
            have HNL := HNB.out.lt
            have y3' := ((Fr.refl wr).alloc (.cells #[.int .i64 u.op, .int .i64 u.n, .string u.s, .slice la2 ll lc2, .int .i64 u.a] 32)).cell y3
            unfold clos at y3'
            clear hln hu hll hc5 hub hbd p0 p1 p2 p4 y1 y2 y3 y4
            go_wp2_with fail
            refine (HC.out _ ((Fr.refl wr).alloc _)).mono ?_
            rintro e w2 ⟨rfl, v3, D3, hs3, hg3, hk3⟩
            have HS3 := Lib.hid hs3
            rw [size_alloc'] at hk3
            have HNB2 : Hid (Nb w2 W.heap.size (.int .i64 t.op) (.int .i64 t.n) (.string t.s) (.slice (some ⟨b, off, none⟩) n lc) (.int .i64 t.a)) := Lib.hid (by
              have hne : some W.heap.size ≠ v2.ownBlock := by
                intro e
                rcases HK.out with h | ⟨q, h, hq⟩
                · have := HBX.out _ (h.symm.trans e.symm); omega
                · rw [h] at e; have := Option.some.inj e; omega
              have hz := HSZ.out
              unfold Nb
              rw [hg3.block _ (by rw [size_alloc']; omega) (by omega) (by omega) hne]
              exact HNB.out.fr ((Fr.refl wr).alloc _))
            have HG2 : Hid (Kp H W w2 (Value.slice ax nx cx).ownBlock) := Lib.hid ((HG.out.trans (Kp.of_fr (Value.slice ax nx cx).ownBlock ((Fr.refl wr).alloc _)) (.inl rfl)).trans hg3 (by
              rcases HK.out with h | ⟨q, h, hq⟩
              · exact .inl h
              · exact .inr ⟨q, h, by omega⟩))
            have HK2 : Hid (v3.ownBlock = (Value.slice ax nx cx).ownBlock ∨ ∃ q, v3.ownBlock = some q ∧ W.heap.size < q) := Lib.hid (by
              rcases hk3 with h | ⟨q, h, hq⟩
              · rw [h]; exact HK.out
              · exact .inr ⟨q, h, by omega⟩)
            clear hs3 hg3 hk3 HNL
            go_wp2_with fail
            go_roundw
            case rel => exact ⟨v3, D3, j + 1, _, by omega, by go_num, HS3, HE2, HL2, HNB2, HG2, HK2⟩
            case measure => simp [intOf]; omega
          · obtain rfl : j = n := by omega
            have HRT : Hid (nmT t xs = ys) := Lib.hid (by rw [HE.out, List.drop_eq_nil_of_le (by rw [← HN.out]; exact Nat.le_refl _), nmTs])
            go_wp2_with fail
            go_end0
            rw [HRT.out]
            exact ⟨rfl, v2, D2, HSY.out, HG.out, by rcases HK.out with h | ⟨q, h, hq⟩; exact .inl h; exact .inr ⟨q, h, Nat.le_of_lt hq⟩⟩
      | false =>
        have HA : Hid (add1 t xs = xs ++ [t.s]) := Lib.hid (by rw [HA1.out, if_pos ⟨hop, hhs⟩])
        have HE1 : Hid (nmT t xs = nmTs (t.l.drop 0) (xs ++ [t.s])) := Lib.hid (by rw [HT.out, HA.out]; rfl)
        have HL1 : Hid ((xs ++ [t.s]).length + bulks (t.l.drop 0) ≤ 4000000) := Lib.hid (by have h := HB.out; rw [List.drop_zero, List.length_append]; simp; omega)
        rw [hhs] at hlook
        clear hop hhs y1 y3 y4
        have HM0 : Hid (w0.ownsMap Tryz.prog 9 (plainElem Tryz.prog 4) (H + 2) xs.length D) := Lib.hid (HS.out.al HF0.out).mp
        rw [HW0.out] at HM0
        go_enter Tryz.func90, Tryz.ntmps90
        have HUP : Hid (∀ w2, (W.alloc (.cells #[.int .i64 t.op, .int .i64 t.n, .string t.s, .slice la n lc, .int .i64 t.a] 32)).grownBy w2 (some (H + 2)) → w2.cell? ⟨H + 1, 0, none⟩ = some (.slice ax nx cx) ∧ w2.cell? ⟨W.heap.size, 2, none⟩ = some (.string t.s) ∧ w2.heap[H + 1]? = some (.cells #[.slice ax nx cx] 50 (0, 0)) ∧ w2.heap[H + 3]? = some (.cells #[.map (some (H + 2))] 94 (0, 0)) ∧ w2.heap[H + 4]? = some (.cells #[clos H] 87 (0, 0)) ∧ OS w2 (H + 5) (.slice ax nx cx) xs ∧ Nb w2 W.heap.size (.int .i64 t.op) (.int .i64 t.n) (.string t.s) (.slice la n lc) (.int .i64 t.a) ∧ Fr w w2 ∧ H + 5 ≤ w2.heap.size ∧ Kp H W w2 (Value.slice ax nx cx).ownBlock ∧ W.heap.size + 1 ≤ w2.heap.size) := Lib.hid (fun w2 hg => by
          have hz := HSZ.out
          have hz0 := HSZ0.out
          have hns := HS.out.al HF0.out
          have hnb := HN0.out
          have hf0 := HF0.out
          rw [← HW0.out] at hg
          have b1 : w2.heap[H + 1]? = some (.cells #[.slice ax nx cx] 50 (0, 0)) := (hg.block _ (by omega) (by simp)).trans hns.l
          have b3 := (hg.block (H + 3) (by omega) (by simp)).trans hns.m
          have b4 := (hg.block (H + 4) (by omega) (by simp)).trans hns.f
          have bn : Nb w2 W.heap.size (.int .i64 t.op) (.int .i64 t.n) (.string t.s) (.slice la n lc) (.int .i64 t.a) := by
            unfold Nb; exact (hg.block _ (by omega) (by simp; omega)).trans hnb
          refine ⟨by simp [World.cell?, b1], bn.cells.2.2.1, b1, b3, b4, hns.own.kept hg (.inr (by intro e; have := (hns.own.lt (H + 2) e).1; omega)), bn, Below.grown hns.fr hg hns.fr.size (fun k hk => by have := Option.some.inj hk; have := HH.out; omega), Nat.le_trans hns.sz hg.size, ?_, by have := hg.size; omega⟩
          exact ⟨by have := hg.size; have := hf0.size; omega, fun k hk h1 h2 _ => (hg.block k (by omega) (by intro e; have := Option.some.inj e; omega)).trans (hf0.block k hk)⟩)
        go_wp2_with (first
          | (at_mapUpdate; refine wpList_mapUpdate_own _ rfl _ _ _ 94 rfl 9 4 (Maps.string_keyed Tryz.underlying9) Tryz.underlying94 _ (H + 2) xs.length D rfl HM0.out (by have := HNX.out; unfold maxLen; omega) (.string t.s) (.bool true) (.string t.s.data.toList) rfl rfl (Go.WideMaps.keyOf_string_mk Tryz.underlying9 (by have := HSS.out; unfold maxLen; omega)) (.lit (.bool true)) [] (plainElem_bool Tryz.underlying4 true) ?_; intro w2 hown2 hg2; have HM2 := Lib.hid hown2; have HU2 := Lib.hid (HUP.out w2 hg2); obtain ⟨z1, z2⟩ : w2.cell? ⟨H + 1, 0, none⟩ = some (.slice ax nx cx) ∧ w2.cell? ⟨W.heap.size, 2, none⟩ = some (.string t.s) := ⟨HU2.out.1, HU2.out.2.1⟩; clear hown2 hg2)
          | (with_reducible refine stop_append_n ?_))
        unfold StopN
        obtain ⟨_, _, b1, b3, b4, own2, bn, fr2, sz2, kp2, szw⟩ := HU2.out
        have own2' : w2.ownsRow (H + 5) 9 1 (.slice ax nx cx) nx (strs xs) := by rw [HNX.out] at own2 ⊢; exact own2
        refine wpList_plain rfl fun K hK => ?_
        refine wp_append_where (.tmp 20) (.tmp 23) 50 rfl (H + 5) 9 i0 _ 1 16 Tryz.underlying50 HI.out.1 HI.out.2.1 HI.out.2.2.1 HI.out.2.2.2 rfl (by omega) _ nx _ (by rfl) (own2'.kept (nfr_grow ((Fr.refl _).alloc _) none) (by cases Value.ownBlock _ <;> simp)) ⟨w2.heap.size, 0, none⟩ 1 1 [.string t.s] (by rfl) (by rfl) (news_one w2 t.s) (by simp [Value.oneCell']) (by omega) (by unfold maxLen; omega) (by omega) (by rw [size_alloc']; omega) fun v3 w3 hown3 hg3 hwh => hK _ _ ?_
        rw [size_alloc'] at hwh
        have hlo : ∀ k, (Value.slice ax nx cx).ownBlock = some k → H + 5 ≤ k := fun k hk => (own2'.lt k hk).1
        have hz := HSZ.out
        have q1 : w3.heap[H + 1]? = some (.cells #[.slice ax nx cx] 50 (0, 0)) := (hg3.block _ (by rw [size_alloc']; omega) (by intro e; have := hlo _ e.symm; omega)).trans ((((Fr.refl w2).alloc _).block _ (by omega)).trans b1)
        have q3 : w3.heap[H + 3]? = some (.cells #[.map (some (H + 2))] 94 (0, 0)) := (hg3.block _ (by rw [size_alloc']; omega) (by intro e; have := hlo _ e.symm; omega)).trans ((((Fr.refl w2).alloc _).block _ (by omega)).trans b3)
        have q4 : w3.heap[H + 4]? = some (.cells #[clos H] 87 (0, 0)) := (hg3.block _ (by rw [size_alloc']; omega) (by intro e; have := hlo _ e.symm; omega)).trans ((((Fr.refl w2).alloc _).block _ (by omega)).trans b4)
        have qn : Nb w3 W.heap.size (.int .i64 t.op) (.int .i64 t.n) (.string t.s) (.slice la n lc) (.int .i64 t.a) := by
          unfold Nb
          exact (hg3.block _ (by rw [size_alloc']; omega) (by intro e; have := HBX.out _ e.symm; omega)).trans (bn.fr ((Fr.refl w2).alloc _))
        have qm := (HM2.out.kept (nfr_grow ((Fr.refl w2).alloc (.cells #[.string t.s] 9)) none) (by simp)).kept hg3 (by intro e; have := hlo _ e.symm; omega)
        have HF3 : Hid (Fr w w3) := Lib.hid (Below.grown (fr2.alloc _) hg3 (fr2.alloc _).size (fun k hk => by have := hlo k hk; have := HH.out; omega))
        have hgs := hg3.size
        rw [size_alloc'] at hgs
        have c1 : w3.cell? ⟨H + 1, 0, none⟩ = some (.slice ax nx cx) := by simp [World.cell?, q1]
        have c2 : w3.frozen? ⟨H + 1, 0, none⟩ = false := by simp [World.frozen?, q1]
        obtain ⟨a3, c3, rfl⟩ := own_form5 hown3
        obtain ⟨n3, hn3⟩ : ∃ k, k = nx + 1 := ⟨_, rfl⟩
        rw [← hn3] at hown3 hwh ⊢
        have HN3 := Lib.hid hn3
        obtain ⟨w4, hw4⟩ : ∃ w4, w4 = w3.setCell ⟨H + 1, 0, none⟩ (.slice a3 n3 c3) := ⟨_, rfl⟩
        have hfar : ∀ k, k ≠ H + 1 → w4.heap[k]? = w3.heap[k]? := fun k hk => by rw [hw4]; exact heap_setCell_other w3 ⟨H + 1, 0, none⟩ k (.slice a3 n3 c3) (by exact fun e => hk (by simpa using e))
        have hs4 : w4.heap.size = w3.heap.size := by rw [hw4]; simp
        have hlen : (xs ++ [t.s]).length = xs.length + 1 := by simp
        have HS1 : Hid (NS H w w4 (xs ++ [t.s]) (.slice a3 n3 c3) (D.put (.string t.s.data.toList) (.lit (.bool true)))) := Lib.hid (by
          refine ⟨by rw [hw4]; exact HF3.out.setCell (by show w.heap.size ≤ H + 1; have := HH.out; omega) _, ?_, ?_, (hfar _ (by omega)).trans q3, (hfar _ (by omega)).trans q4, ?_, NmS t.s (HS.out).kw, by omega⟩
          · have h := OS.snoc (xs := xs) (s := t.s) (by rw [← HNX.out, ← HN3.out]; exact hown3)
            rw [hw4]
            exact ownsRow_setCell_below h (by show H + 1 < H + 5; omega) _
          · rw [hw4, heap_setCell_same w3 (H + 1) 0 _ _ (.slice a3 n3 c3) q1]; simp
          · rw [hlen]
            have h := qm
            rw [hw4]
            exact World.ownsMap.setCell h (by show H + 2 ≠ H + 1; omega) _)
        have HN1 : Hid (Nb w4 W.heap.size (.int .i64 t.op) (.int .i64 t.n) (.string t.s) (.slice la n lc) (.int .i64 t.a)) := Lib.hid (by unfold Nb; exact (hfar _ (by omega)).trans qn)
        have HG1 : Hid (Kp H W w4 (Value.slice ax nx cx).ownBlock) := Lib.hid ⟨by omega, fun k hk h1 h2 h3 => by
          rw [hfar k h1, hg3.block k (by rw [size_alloc']; have := kp2.size; omega) h3, ((Fr.refl w2).alloc _).block k (by have := kp2.size; omega), kp2.block k hk h1 h2 h3]⟩
        have HK1 : Hid ((Value.slice a3 n3 c3).ownBlock = (Value.slice ax nx cx).ownBlock ∨ ∃ q, (Value.slice a3 n3 c3).ownBlock = some q ∧ W.heap.size < q) := Lib.hid (by
          rcases hwh with h | h
          · exact .inl h
          · exact .inr ⟨_, h, by omega⟩)
        have HW4 := Lib.hid hw4
        obtain ⟨r0, r1, r2, r3, r4⟩ := HN1.out.cells
        rw [hw4] at r3
        clear hn3 hown3 hg3 hwh hK q1 q3 q4 qn qm b1 b3 b4 bn own2 own2' fr2 kp2 hlo hgs hfar hs4 hlen hw4 hz z1 z2 hlook y2 p0 p1 p2 p3 p4 r0 r1 r2 r4 sz2 szw
        go_wp2_with fail
        rw [← HW4.out]
        go_loopw [28] (fun i wr => ∃ (v2 : Value) (D2 : DataW Unit) (j : Nat) (ys : List ByteArray), j ≤ n ∧ i = .int .i64 j ∧ Hid (NS H w wr ys v2 D2) ∧ Hid (nmT t xs = nmTs (t.l.drop j) ys) ∧ Hid (ys.length + bulks (t.l.drop j) ≤ 4000000) ∧ Hid (Nb wr W.heap.size (.int .i64 t.op) (.int .i64 t.n) (.string t.s) (.slice la n lc) (.int .i64 t.a)) ∧ Hid (Kp H W wr (Value.slice ax nx cx).ownBlock) ∧ Hid (v2.ownBlock = (Value.slice ax nx cx).ownBlock ∨ ∃ q, v2.ownBlock = some q ∧ W.heap.size < q)) (fun i _ => n - (intOf i).toNat)
        case atStart => exact ⟨_, _, 0, _, Nat.zero_le _, rfl, HS1, HE1, HL1, HN1, HG1, (by first | exact HK1 | exact Lib.hid (.inl rfl))⟩
        case round =>
          obtain ⟨v2, D2, j, ys, hj, rfl, HSY, HE, HL, HNB, HG, HK⟩ := hrel
          obtain ⟨p0, p1, p2, p3, p4⟩ := HNB.out.cells
          by_cases hlt : j < n
          · obtain ⟨u, hu⟩ : ∃ u, t.l[j]? = some u := ⟨_, List.getElem?_eq_getElem (by rw [← HN.out]; exact hlt)⟩
            obtain ⟨b, off, lv, rfl, hc5, hln, _⟩ := HV.out.at_ hu
            obtain ⟨x0, x1, x2, x3, x4⟩ := hc5.fr HSY.out.fr
            obtain ⟨la2, lc2, rfl, _, _, _⟩ := hln.form
            have HE2 : Hid (nmT t xs = nmTs (t.l.drop (j + 1)) (nmT u ys)) := Lib.hid (by rw [HE.out, nmTs_drop hu])
            have hbd : bulks (t.l.drop j) = u.bulk + bulks (t.l.drop (j + 1)) := by rw [drop1 hu, bulks]
            have HL2 : Hid ((nmT u ys).length + bulks (t.l.drop (j + 1)) ≤ 4000000) := Lib.hid (by have := nmT_len u ys; have := HL.out; omega)
            have hub := bulks_mem (List.mem_of_getElem? hu)
            have HLN := Lib.hid hln
            have HC : Hid (∀ W2, Fr wr W2 → Calls Tryz.prog 90 #[ndV u (.slice la2 u.l.length lc2), .pointer (some ⟨H + 3, 0, none⟩), .pointer (some ⟨H + 1, 0, none⟩), .pointer (some ⟨H + 4, 0, none⟩)] W2 fun e w' => e = .returned (.tuple #[]) ∧ ∃ v' D', NS H w w' (nmT u ys) v' D' ∧ Kp H W2 w' v2.ownBlock ∧ (v'.ownBlock = v2.ownBlock ∨ ∃ q, v'.ownBlock = some q ∧ W2.heap.size ≤ q)) := Lib.hid (fun W2 h2 =>
              IH.out u.bulk (by have := HB.out; omega) u (Nat.le_refl _) (by have := HB.out; omega) _ H w W2 v2 ys D2 HH.out HLN.out (HSY.out.al h2) (by have := HL.out; omega))
            unfold ndV at HC
            obtain ⟨ll, hll⟩ : ∃ x : Nat, x = u.l.length := ⟨_, rfl⟩
            rw [← hll] at x3 HC
            obtain ⟨y1, y2, y3, y4⟩ := HSY.out.cells
            have HNL := HNB.out.lt
            have y3' := ((Fr.refl wr).alloc (.cells #[.int .i64 u.op, .int .i64 u.n, .string u.s, .slice la2 ll lc2, .int .i64 u.a] 32)).cell y3
            unfold clos at y3'
            clear hln hu hll hc5 hub hbd p0 p1 p2 p4 y1 y2 y3 y4
            go_wp2_with fail
            refine (HC.out _ ((Fr.refl wr).alloc _)).mono ?_
            rintro e w2 ⟨rfl, v3, D3, hs3, hg3, hk3⟩
            have HS3 := Lib.hid hs3
            rw [size_alloc'] at hk3
            have HNB2 : Hid (Nb w2 W.heap.size (.int .i64 t.op) (.int .i64 t.n) (.string t.s) (.slice (some ⟨b, off, none⟩) n lc) (.int .i64 t.a)) := Lib.hid (by
              have hne : some W.heap.size ≠ v2.ownBlock := by
                intro e
                rcases HK.out with h | ⟨q, h, hq⟩
                · have := HBX.out _ (h.symm.trans e.symm); omega
                · rw [h] at e; have := Option.some.inj e; omega
              have hz := HSZ.out
              unfold Nb
              rw [hg3.block _ (by rw [size_alloc']; omega) (by omega) (by omega) hne]
              exact HNB.out.fr ((Fr.refl wr).alloc _))
            have HG2 : Hid (Kp H W w2 (Value.slice ax nx cx).ownBlock) := Lib.hid ((HG.out.trans (Kp.of_fr (Value.slice ax nx cx).ownBlock ((Fr.refl wr).alloc _)) (.inl rfl)).trans hg3 (by
              rcases HK.out with h | ⟨q, h, hq⟩
              · exact .inl h
              · exact .inr ⟨q, h, by omega⟩))
            have HK2 : Hid (v3.ownBlock = (Value.slice ax nx cx).ownBlock ∨ ∃ q, v3.ownBlock = some q ∧ W.heap.size < q) := Lib.hid (by
              rcases hk3 with h | ⟨q, h, hq⟩
              · rw [h]; exact HK.out
              · exact .inr ⟨q, h, by omega⟩)
            clear hs3 hg3 hk3 HNL
            go_wp2_with fail
            go_roundw
            case rel => exact ⟨v3, D3, j + 1, _, by omega, by go_num, HS3, HE2, HL2, HNB2, HG2, HK2⟩
            case measure => simp [intOf]; omega
          · obtain rfl : j = n := by omega
            have HRT : Hid (nmT t xs = ys) := Lib.hid (by rw [HE.out, List.drop_eq_nil_of_le (by rw [← HN.out]; exact Nat.le_refl _), nmTs])
            go_wp2_with fail
            go_end0
            rw [HRT.out]
            exact ⟨rfl, v2, D2, HSY.out, HG.out, by rcases HK.out with h | ⟨q, h, hq⟩; exact .inl h; exact .inr ⟨q, h, Nat.le_of_lt hq⟩⟩
    · have zo : (t.op == 6) = false := by rw [beq_eq_false_iff_ne]; exact hop
      have HA : Hid (add1 t xs = xs) := Lib.hid (by rw [HA1.out, if_neg (by simp [hop])])
      have HE1 : Hid (nmT t xs = nmTs (t.l.drop 0) xs) := Lib.hid (by rw [HT.out, HA.out]; rfl)
      have HL1 : Hid (xs.length + bulks (t.l.drop 0) ≤ 4000000) := Lib.hid (by have h := HB.out; rw [List.drop_zero]; omega)
      have HS1 : Hid (NS H w w0 xs (.slice ax nx cx) D) := Lib.hid (HS.out.al HF0.out)
      have HN1 := HN0
      have HG1 : Hid (Kp H W w0 (Value.slice ax nx cx).ownBlock) := Lib.hid (Kp.of_fr _ HF0.out)
      have HK1 : Hid ((Value.slice ax nx cx).ownBlock = (Value.slice ax nx cx).ownBlock ∨ ∃ q, (Value.slice ax nx cx).ownBlock = some q ∧ W.heap.size < q) := Lib.hid (.inl rfl)
      clear hop y1 y2 y3 y4 hlook
      go_enter Tryz.func90, Tryz.ntmps90
      go_wp2_with fail
      rw [← HW0.out]
      clear p0 p1 p2 p3 p4
      go_loopw [28] (fun i wr => ∃ (v2 : Value) (D2 : DataW Unit) (j : Nat) (ys : List ByteArray), j ≤ n ∧ i = .int .i64 j ∧ Hid (NS H w wr ys v2 D2) ∧ Hid (nmT t xs = nmTs (t.l.drop j) ys) ∧ Hid (ys.length + bulks (t.l.drop j) ≤ 4000000) ∧ Hid (Nb wr W.heap.size (.int .i64 t.op) (.int .i64 t.n) (.string t.s) (.slice la n lc) (.int .i64 t.a)) ∧ Hid (Kp H W wr (Value.slice ax nx cx).ownBlock) ∧ Hid (v2.ownBlock = (Value.slice ax nx cx).ownBlock ∨ ∃ q, v2.ownBlock = some q ∧ W.heap.size < q)) (fun i _ => n - (intOf i).toNat)
      case atStart => exact ⟨_, _, 0, _, Nat.zero_le _, rfl, HS1, HE1, HL1, HN1, HG1, (by first | exact HK1 | exact Lib.hid (.inl rfl))⟩
      case round =>
        obtain ⟨v2, D2, j, ys, hj, rfl, HSY, HE, HL, HNB, HG, HK⟩ := hrel
        obtain ⟨p0, p1, p2, p3, p4⟩ := HNB.out.cells
        by_cases hlt : j < n
        · obtain ⟨u, hu⟩ : ∃ u, t.l[j]? = some u := ⟨_, List.getElem?_eq_getElem (by rw [← HN.out]; exact hlt)⟩
          obtain ⟨b, off, lv, rfl, hc5, hln, _⟩ := HV.out.at_ hu
          obtain ⟨x0, x1, x2, x3, x4⟩ := hc5.fr HSY.out.fr
          obtain ⟨la2, lc2, rfl, _, _, _⟩ := hln.form
          have HE2 : Hid (nmT t xs = nmTs (t.l.drop (j + 1)) (nmT u ys)) := Lib.hid (by rw [HE.out, nmTs_drop hu])
          have hbd : bulks (t.l.drop j) = u.bulk + bulks (t.l.drop (j + 1)) := by rw [drop1 hu, bulks]
          have HL2 : Hid ((nmT u ys).length + bulks (t.l.drop (j + 1)) ≤ 4000000) := Lib.hid (by have := nmT_len u ys; have := HL.out; omega)
          have hub := bulks_mem (List.mem_of_getElem? hu)
          have HLN := Lib.hid hln
          have HC : Hid (∀ W2, Fr wr W2 → Calls Tryz.prog 90 #[ndV u (.slice la2 u.l.length lc2), .pointer (some ⟨H + 3, 0, none⟩), .pointer (some ⟨H + 1, 0, none⟩), .pointer (some ⟨H + 4, 0, none⟩)] W2 fun e w' => e = .returned (.tuple #[]) ∧ ∃ v' D', NS H w w' (nmT u ys) v' D' ∧ Kp H W2 w' v2.ownBlock ∧ (v'.ownBlock = v2.ownBlock ∨ ∃ q, v'.ownBlock = some q ∧ W2.heap.size ≤ q)) := Lib.hid (fun W2 h2 =>
            IH.out u.bulk (by have := HB.out; omega) u (Nat.le_refl _) (by have := HB.out; omega) _ H w W2 v2 ys D2 HH.out HLN.out (HSY.out.al h2) (by have := HL.out; omega))
          unfold ndV at HC
          obtain ⟨ll, hll⟩ : ∃ x : Nat, x = u.l.length := ⟨_, rfl⟩
          rw [← hll] at x3 HC
          obtain ⟨y1, y2, y3, y4⟩ := HSY.out.cells
          have HNL := HNB.out.lt
          have y3' := ((Fr.refl wr).alloc (.cells #[.int .i64 u.op, .int .i64 u.n, .string u.s, .slice la2 ll lc2, .int .i64 u.a] 32)).cell y3
          unfold clos at y3'
          clear hln hu hll hc5 hub hbd p0 p1 p2 p4 y1 y2 y3 y4
          go_wp2_with fail
          refine (HC.out _ ((Fr.refl wr).alloc _)).mono ?_
          rintro e w2 ⟨rfl, v3, D3, hs3, hg3, hk3⟩
          have HS3 := Lib.hid hs3
          rw [size_alloc'] at hk3
          have HNB2 : Hid (Nb w2 W.heap.size (.int .i64 t.op) (.int .i64 t.n) (.string t.s) (.slice (some ⟨b, off, none⟩) n lc) (.int .i64 t.a)) := Lib.hid (by
            have hne : some W.heap.size ≠ v2.ownBlock := by
              intro e
              rcases HK.out with h | ⟨q, h, hq⟩
              · have := HBX.out _ (h.symm.trans e.symm); omega
              · rw [h] at e; have := Option.some.inj e; omega
            have hz := HSZ.out
            unfold Nb
            rw [hg3.block _ (by rw [size_alloc']; omega) (by omega) (by omega) hne]
            exact HNB.out.fr ((Fr.refl wr).alloc _))
          have HG2 : Hid (Kp H W w2 (Value.slice ax nx cx).ownBlock) := Lib.hid ((HG.out.trans (Kp.of_fr (Value.slice ax nx cx).ownBlock ((Fr.refl wr).alloc _)) (.inl rfl)).trans hg3 (by
            rcases HK.out with h | ⟨q, h, hq⟩
            · exact .inl h
            · exact .inr ⟨q, h, by omega⟩))
          have HK2 : Hid (v3.ownBlock = (Value.slice ax nx cx).ownBlock ∨ ∃ q, v3.ownBlock = some q ∧ W.heap.size < q) := Lib.hid (by
            rcases hk3 with h | ⟨q, h, hq⟩
            · rw [h]; exact HK.out
            · exact .inr ⟨q, h, by omega⟩)
          clear hs3 hg3 hk3 HNL
          go_wp2_with fail
          go_roundw
          case rel => exact ⟨v3, D3, j + 1, _, by omega, by go_num, HS3, HE2, HL2, HNB2, HG2, HK2⟩
          case measure => simp [intOf]; omega
        · obtain rfl : j = n := by omega
          have HRT : Hid (nmT t xs = ys) := Lib.hid (by rw [HE.out, List.drop_eq_nil_of_le (by rw [← HN.out]; exact Nat.le_refl _), nmTs])
          go_wp2_with fail
          go_end0
          rw [HRT.out]
          exact ⟨rfl, v2, D2, HSY.out, HG.out, by rcases HK.out with h | ⟨q, h, hq⟩; exact .inl h; exact .inr ⟨q, h, Nat.le_of_lt hq⟩⟩
set_option maxRecDepth 100000 in
set_option maxHeartbeats 4000000 in
theorem Names_any (t : Nd) (lt : Value) (w : World) (hv : LN w lt t.l) (hb : t.bulk ≤ 2000000) :
    Calls Tryz.prog 40 #[ndV t lt] w fun e w' => ∃ v', e = .returned v' ∧ SL w' v' (nmT t []) ∧ Fr w w' := by
  have hmm := @run_makeMap Tryz.prog
  have HV := Lib.hid hv
  have HB := Lib.hid hb
  obtain ⟨la, lc, rfl, _, _, _⟩ := hv.form
  have HWK := Lib.hid (fun W v D (h : NS w.heap.size w W [] v D) => walk_any _ t (Nat.le_refl _) HB.out _ w.heap.size w W v [] D (Nat.le_refl _) HV.out h (by simp))
  unfold ndV at HWK ⊢
  obtain ⟨n, hn⟩ : ∃ n, n = t.l.length := ⟨_, rfl⟩
  rw [← hn] at HWK ⊢
  clear hn hv hb
  obtain ⟨x1, hx1⟩ : ∃ x1, x1 = (w.alloc (.cells #[.int .i64 t.op, .int .i64 t.n, .string t.s, .slice la n lc, .int .i64 t.a] 32)) := ⟨_, rfl⟩
  obtain ⟨x2, hx2⟩ : ∃ x2, x2 = x1.alloc (.cells #[.slice none 0 0] 50) := ⟨_, rfl⟩
  obtain ⟨x3, hx3⟩ : ∃ x3, x3 = x2.alloc (.map #[] 0) := ⟨_, rfl⟩
  obtain ⟨x4, hx4⟩ : ∃ x4, x4 = x3.alloc (.cells #[.map (some (w.heap.size + 2))] 94) := ⟨_, rfl⟩
  obtain ⟨x5, hx5⟩ : ∃ x5, x5 = x4.alloc (.cells #[clos w.heap.size] 87) := ⟨_, rfl⟩
  have z1 : x1.heap.size = w.heap.size + 1 := by rw [hx1, size_alloc']
  have z2 : x2.heap.size = w.heap.size + 2 := by rw [hx2, size_alloc']; omega
  have z3 : x3.heap.size = w.heap.size + 3 := by rw [hx3, size_alloc']; omega
  have z4 : x4.heap.size = w.heap.size + 4 := by rw [hx4, size_alloc']; omega
  have z5 : x5.heap.size = w.heap.size + 5 := by rw [hx5, size_alloc']; omega
  have f1 : Fr w x1 := by rw [hx1]; exact (Fr.refl w).alloc _
  have f2 : Fr x1 x2 := by rw [hx2]; exact (Fr.refl x1).alloc _
  have f3 : Fr x2 x3 := by rw [hx3]; exact (Fr.refl x2).alloc _
  have f4 : Fr x3 x4 := by rw [hx4]; exact (Fr.refl x3).alloc _
  have f5 : Fr x4 x5 := by rw [hx5]; exact (Fr.refl x4).alloc _
  have HN5 : Hid (Nb x5 w.heap.size (.int .i64 t.op) (.int .i64 t.n) (.string t.s) (.slice la n lc) (.int .i64 t.a)) := Lib.hid (by
    have h : Nb x1 w.heap.size (.int .i64 t.op) (.int .i64 t.n) (.string t.s) (.slice la n lc) (.int .i64 t.a) := by rw [hx1]; exact Nb.new w _ _ _ _ _
    exact (((h.fr f2).fr f3).fr f4).fr f5)
  have HS5 : Hid (NS w.heap.size w x5 [] (.slice none 0 0) (.map [])) := Lib.hid (by
    have b1 : x2.heap[w.heap.size + 1]? = some (.cells #[.slice none 0 0] 50 (0, 0)) := by rw [hx2, ← z1]; exact heap_alloc_new x1 _
    have b3 : x4.heap[w.heap.size + 3]? = some (.cells #[.map (some (w.heap.size + 2))] 94 (0, 0)) := by rw [hx4, ← z3]; exact heap_alloc_new x3 _
    have b4 : x5.heap[w.heap.size + 4]? = some (.cells #[clos w.heap.size] 87 (0, 0)) := by rw [hx5, ← z4]; exact heap_alloc_new x4 _
    have bm : x3.ownsMap Tryz.prog 9 (plainElem Tryz.prog 4) (w.heap.size + 2) 0 (.map [] : DataW Unit) := by rw [hx3, ← z2]; exact World.ownsMap_made x2 _ _ _
    exact ⟨((((f1.trans f2).trans f3).trans f4).trans f5), World.ownsRow_nil _ _ _ _, (f5.block _ (by omega)).trans ((f4.block _ (by omega)).trans ((f3.block _ (by omega)).trans b1)), (f5.block _ (by omega)).trans b3, b4, (bm.kept (nfr_grow f4 none) (by simp)).kept (nfr_grow f5 none) (by simp), Nm0, by omega⟩)
  have HX : Hid (x5 = ((((w.alloc (.cells #[.int .i64 t.op, .int .i64 t.n, .string t.s, .slice la n lc, .int .i64 t.a] 32)).alloc (.cells #[.slice none 0 0] 50)).alloc (.map #[] 0)).alloc (.cells #[.map (some (w.heap.size + 2))] 94)).alloc (.cells #[clos w.heap.size] 87)) := Lib.hid (by rw [hx5, hx4, hx3, hx2, hx1])
  have HC : Hid (Calls Tryz.prog 90 #[.agg #[.int .i64 t.op, .int .i64 t.n, .string t.s, .slice la n lc, .int .i64 t.a], .pointer (some ⟨w.heap.size + 1 + 1 + 1, 0, none⟩), .pointer (some ⟨w.heap.size + 1, 0, none⟩), .pointer (some ⟨w.heap.size + 1 + 1 + 1 + 1, 0, none⟩)]
      (((((w.alloc (.cells #[.int .i64 t.op, .int .i64 t.n, .string t.s, .slice la n lc, .int .i64 t.a] 32)).alloc (.cells #[.slice none 0 0] 50)).alloc (.map #[] 0)).alloc (.cells #[.map (some (w.heap.size + 1 + 1))] 94)).alloc (.cells #[.func (.func 90) #[] #[.pointer (some ⟨w.heap.size + 1 + 1 + 1, 0, none⟩), .pointer (some ⟨w.heap.size + 1, 0, none⟩), .pointer (some ⟨w.heap.size + 1 + 1 + 1 + 1, 0, none⟩)]] 87))
      fun e w' => e = .returned (.tuple #[]) ∧ ∃ v' D', NS w.heap.size w w' (nmT t []) v' D') := Lib.hid (by
    have h := HWK.out x5 _ _ HS5.out
    rw [HX.out] at h
    exact h.mono fun e w' ⟨h1, v', D', h2, _⟩ => ⟨h1, v', D', h2⟩)
  obtain ⟨p0, p1, p2, p3, p4⟩ := HN5.out.cells
  rw [HX.out] at p0 p1 p2 p3 p4
  unfold clos at p0 p1 p2 p3 p4
  clear hx1 hx2 hx3 hx4 hx5 z1 z2 z3 z4 z5 f1 f2 f3 f4 f5
  go_enter Tryz.func40, Tryz.ntmps40
  go_wp2_with fail
  refine HC.out.mono ?_
  rintro e w1 ⟨rfl, v', D', hs⟩
  have HSN := Lib.hid hs
  obtain ⟨y1, _, _, _⟩ := hs.cells
  clear hs p0 p1 p2 p3 p4
  obtain ⟨ay, cy, hfy⟩ := own_formS HSN.out.own
  subst hfy
  go_wp2_with fail
  go_ret
  exact ⟨_, rfl, OS.sl HSN.out.own, HSN.out.fr⟩
end Go.Proofs.YtbaelbafhdjlnaaGreatDoor
