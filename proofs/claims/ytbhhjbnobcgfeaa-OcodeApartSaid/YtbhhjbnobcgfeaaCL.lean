/- Lists copied by slices.Clone. -/
import Derived.Test.YtbhhjbnobcgfeaaFJ
import Derived.Laws.AppendOwn
namespace Go.Proofs.Ytbhhjbnobcgfeaa
open Go.RowKit
set_option linter.unusedVariables false
set_option linter.unusedSimpArgs false

/-- n elements' cells, in a row. -/
def rowN (cs : Nat → List Value) : Nat → List Value
  | 0 => []
  | n + 1 => rowN cs n ++ cs n
theorem rowN_len {cs : Nat → List Value} {z : Nat} (h : ∀ i, (cs i).length = z) : ∀ n, (rowN cs n).length = n * z
  | 0 => by simp [rowN]
  | n + 1 => by rw [rowN, List.length_append, rowN_len h n, h n, Nat.succ_mul]
theorem rowN_at {cs : Nat → List Value} {z : Nat} (h : ∀ i, (cs i).length = z) : ∀ (n i r : Nat), i < n → r < z → (rowN cs n)[i * z + r]? = (cs i)[r]?
  | 0, i, r, hi, _ => by omega
  | n + 1, i, r, hi, hr => by
    rw [rowN]
    have hlen := rowN_len h n
    by_cases hin : i < n
    · have hlt : i * z + r < n * z := by
        have h1 : (i + 1) * z ≤ n * z := Nat.mul_le_mul_right z hin
        rw [Nat.succ_mul] at h1; omega
      rw [List.getElem?_append_left (by rw [hlen]; exact hlt)]
      exact rowN_at h n i r hin hr
    · obtain rfl : i = n := by omega
      rw [List.getElem?_append_right (by rw [hlen]; omega), hlen]
      congr 1; omega
theorem rowN_mem {cs : Nat → List Value} (P : Value → Prop) : ∀ (n : Nat), (∀ i, i < n → ∀ u ∈ cs i, P u) → ∀ u ∈ rowN cs n, P u
  | 0, _, u, hu => by simp [rowN] at hu
  | n + 1, h, u, hu => by
    rw [rowN, List.mem_append] at hu
    rcases hu with hu | hu
    · exact rowN_mem P n (fun i hi => h i (by omega)) u hu
    · exact h n (by omega) u hu
theorem rowN_split {cs : Nat → List Value} {z : Nat} (hz : 0 < z) (h : ∀ i, (cs i).length = z) {n j : Nat} {u : Value} (hu : (rowN cs n)[j]? = some u) : ∃ i r, j = i * z + r ∧ r < z ∧ i < n ∧ (cs i)[r]? = some u := by
  have hj : j < n * z := by have := (List.getElem?_eq_some_iff.1 hu).1; rwa [rowN_len h] at this
  refine ⟨j / z, j % z, ?_, Nat.mod_lt _ hz, ?_, ?_⟩
  · rw [Nat.mul_comm]; exact (Nat.div_add_mod j z).symm
  · exact (Nat.div_lt_iff_lt_mul hz).2 hj
  · rw [← rowN_at h n (j / z) (j % z) ((Nat.div_lt_iff_lt_mul hz).2 hj) (Nat.mod_lt _ hz), Nat.mul_comm, Nat.div_add_mod]; exact hu
theorem info_at {P : Program} {e : TypeId} {z : Value} {s b : Nat} (h : (P.info? e).map (fun i => (i.zero, i.size, i.bytes)) = some (some z, s, b)) : ∃ i, P.info? e = some i ∧ i.zero = some z ∧ i.size = s ∧ i.bytes = b := by
  obtain ⟨i, hi, he⟩ := Option.map_eq_some_iff.1 h
  simp only [Prod.mk.injEq] at he
  exact ⟨i, hi, he.1, he.2.1, he.2.2⟩
def StopA (p : Prop) : Prop := p
theorem stop_append_a {P : Program} {ops : Array Oper} {rest : List Oper} {x y dst ty pos aft g} {a : Act} {w : World} {Q : Exit → Act → World → Prop}
    (h : StopA (wpList P ops Q (⟨dst, .call { callee := .builtin .append, args := x, argTypes := y }, ty, pos, aft, g⟩ :: rest) a w)) : wpList P ops Q (⟨dst, .call { callee := .builtin .append, args := x, argTypes := y }, ty, pos, aft, g⟩ :: rest) a w := h
theorem own_fr6 {w0 wr w' : World} {v : Value} {T : TypeId} {z m : Nat} {xs : List Value} (h : Fr w0 wr) (ho : wr.ownsRow w0.heap.size T z v m xs) (hg : wr.grownBy w' v.ownBlock) : Fr w0 w' :=
  Below.grown h hg h.size (fun k hk => (ho.lt k hk).1)
theorem size_al (w : World) (o : Obj) : (w.alloc o).heap.size = w.heap.size + 1 := by simp
theorem own_emp (w : World) (T : TypeId) (z : Nat) : (w.alloc (.cells #[] T)).ownsRow w.heap.size T z (.slice (some ⟨w.heap.size, 0, none⟩) 0 0) 0 [] :=
  ⟨by simp, .inr ⟨w.heap.size, 0, #[], rfl, Nat.le_refl _, by simp only [World.alloc, Array.getElem?_push_size], Nat.le_refl _, Nat.zero_le _, by simp, by simp⟩⟩
theorem clO_nil0 (w : World) : (binOp BinOp.eql 23 (Value.slice none 0 0) (Value.slice none 0 0)).run Try.prog w = .ok (.bool true) w := by kernel_rfl
theorem clO_nil (a : Addr) (n cap : Nat) (w : World) : (binOp BinOp.eql 23 (Value.slice (some a) n cap) (Value.slice none 0 0)).run Try.prog w = .ok (.bool false) w := by kernel_rfl
theorem clO_info : (Try.prog.info? 48).map (fun i => (i.zero, i.size, i.bytes)) = some (some (.agg #[.int .i64 0, .int .i64 0, .int .i64 0]), 3, 24) := by kernel_rfl
def clO_cs (l : List Op3) (i : Nat) : List Value := [.int .i64 (l.getD i default).op, .int .i64 (l.getD i default).n, .int .i64 (l.getD i default).m]
theorem clO_len (l : List Op3) (i : Nat) : (clO_cs l i).length = 3 := rfl
set_option maxRecDepth 100000 in
set_option maxHeartbeats 4000000 in
theorem clO_any (l : List Op3) (v : Value) (w : World) (hv : OpsV w v l) (hl : l.length ≤ 2000000) :
    Calls Try.prog 76 #[v] w fun e w' => ∃ v', e = .returned v' ∧ w'.ownsRow w.heap.size 48 3 v' l.length (rowN (clO_cs l) l.length) ∧ Fr w w' := by
  have HV := Lib.hid hv
  obtain ⟨i0, hi0, hz0, hz1, hz2⟩ := info_at clO_info
  have HI := Lib.hid (And.intro hi0 (And.intro hz0 (And.intro hz1 hz2)))
  obtain ⟨a, cap, rfl, hc, hm, hz⟩ := hv.form
  cases a with
  | none =>
    obtain rfl := hz rfl
    obtain rfl : l = [] := List.eq_nil_of_length_eq_zero (by omega)
    clear hv hl hi0 hz0 hz1 hz2 hm hz
    go_enter Try.func76, Try.ntmps76
    have hsn := clO_nil0
    go_wp2_with fail
    go_ret
    exact ⟨_, rfl, World.ownsRow_nil _ _ _ _, Fr.refl _⟩
  | some a =>
    have HC : Hid (∀ W, Fr w W → ∀ j u, (rowN (clO_cs l) l.length)[j]? = some u → W.cell? (a.add j) = some u) := Lib.hid (fun W hW j u hu => by
      obtain ⟨i, r, rfl, hr, hi, hu2⟩ := rowN_split (by omega) (clO_len l) hu
      obtain ⟨x, hx⟩ : ∃ x, l[i]? = some x := ⟨_, List.getElem?_eq_getElem hi⟩
      obtain ⟨b, off, e, hcell⟩ := HV.out.at_ hx
      obtain rfl : a = ⟨b, off, none⟩ := Option.some.inj e
      have hd : l.getD i default = x := by rw [List.getD_eq_getElem?_getD, hx]; rfl
      unfold clO_cs at hu2
      rw [hd] at hu2
      rw [ap_add, ← Nat.add_assoc]
      refine hW.cell ?_
      match r, hr, hu2 with
      | 0, _, hu2 => obtain rfl : _ = u := Option.some.inj hu2; exact hcell.op
      | 1, _, hu2 => obtain rfl : _ = u := Option.some.inj hu2; exact hcell.n
      | 2, _, hu2 => obtain rfl : _ = u := Option.some.inj hu2; exact hcell.m)
    have HO : Hid (∀ u ∈ rowN (clO_cs l) l.length, u.oneCell' = true) := Lib.hid (rowN_mem _ _ (fun i _ u hu => by
      simp only [clO_cs, List.mem_cons, List.not_mem_nil, or_false] at hu
      rcases hu with rfl | rfl | rfl <;> rfl))
    obtain ⟨n, hn⟩ : ∃ n, n = l.length := ⟨_, rfl⟩
    have HN := Lib.hid hn
    rw [← hn] at hc HC HO ⊢
    have hn6 : n ≤ 2000000 := by omega
    clear hn hv hm hi0 hz0 hz1 hz2 hl
    go_enter Try.func76, Try.ntmps76
    have hsn := clO_nil a n cap
    go_wp2_with (with_reducible refine stop_append_a ?_)
    unfold StopA
    refine wpList_append_own _ rfl (.tmp 5) (.tmp 6) 23 rfl w.heap.size 48 i0 _ 3 24 Try.underlying23 HI.out.1 HI.out.2.1 HI.out.2.2.1 HI.out.2.2.2 rfl (by omega) _ 0 [] (by rfl) (own_emp w _ _) a n cap (rowN (clO_cs l) n) (by rfl) (rowN_len (clO_len l) n) (fun j u hu => HC.out _ ((Fr.refl w).alloc _) j u hu) (fun u hu => HO.out u hu) (by unfold maxLen; omega) (by omega) (by rw [size_al]; omega) fun v2 w2 hown2 hg2 _ => ?_
    have hf2 : Fr w w2 := own_fr6 ((Fr.refl w).alloc _) (own_emp w _ 3) hg2
    rw [Nat.zero_add, List.nil_append] at hown2
    have HO2 := Lib.hid hown2
    clear hown2 hg2
    go_wp2_with fail
    go_ret
    exact ⟨_, rfl, HO2.out, hf2⟩
theorem clE_nil0 (w : World) : (binOp BinOp.eql 24 (Value.slice none 0 0) (Value.slice none 0 0)).run Try.prog w = .ok (.bool true) w := by kernel_rfl
theorem clE_nil (a : Addr) (n cap : Nat) (w : World) : (binOp BinOp.eql 24 (Value.slice (some a) n cap) (Value.slice none 0 0)).run Try.prog w = .ok (.bool false) w := by kernel_rfl
theorem clE_info : (Try.prog.info? 61).map (fun i => (i.zero, i.size, i.bytes)) = some (some (.agg #[.int .i64 0, .int .i64 0]), 2, 16) := by kernel_rfl
def clE_cs (l : List En2) (i : Nat) : List Value := [.int .i64 (l.getD i default).g, .int .i64 (l.getD i default).p]
theorem clE_len (l : List En2) (i : Nat) : (clE_cs l i).length = 2 := rfl
set_option maxRecDepth 100000 in
set_option maxHeartbeats 4000000 in
theorem clE_any (l : List En2) (v : Value) (w : World) (hv : EnsV w v l) (hl : l.length ≤ 2000000) :
    Calls Try.prog 77 #[v] w fun e w' => ∃ v', e = .returned v' ∧ w'.ownsRow w.heap.size 61 2 v' l.length (rowN (clE_cs l) l.length) ∧ Fr w w' := by
  have HV := Lib.hid hv
  obtain ⟨i0, hi0, hz0, hz1, hz2⟩ := info_at clE_info
  have HI := Lib.hid (And.intro hi0 (And.intro hz0 (And.intro hz1 hz2)))
  obtain ⟨a, cap, rfl, hc, hm, hz⟩ := hv.form
  cases a with
  | none =>
    obtain rfl := hz rfl
    obtain rfl : l = [] := List.eq_nil_of_length_eq_zero (by omega)
    clear hv hl hi0 hz0 hz1 hz2 hm hz
    go_enter Try.func77, Try.ntmps77
    have hsn := clE_nil0
    go_wp2_with fail
    go_ret
    exact ⟨_, rfl, World.ownsRow_nil _ _ _ _, Fr.refl _⟩
  | some a =>
    have HC : Hid (∀ W, Fr w W → ∀ j u, (rowN (clE_cs l) l.length)[j]? = some u → W.cell? (a.add j) = some u) := Lib.hid (fun W hW j u hu => by
      obtain ⟨i, r, rfl, hr, hi, hu2⟩ := rowN_split (by omega) (clE_len l) hu
      obtain ⟨x, hx⟩ : ∃ x, l[i]? = some x := ⟨_, List.getElem?_eq_getElem hi⟩
      obtain ⟨b, off, e, hcell⟩ := HV.out.at_ hx
      obtain rfl : a = ⟨b, off, none⟩ := Option.some.inj e
      have hd : l.getD i default = x := by rw [List.getD_eq_getElem?_getD, hx]; rfl
      unfold clE_cs at hu2
      rw [hd] at hu2
      rw [ap_add, ← Nat.add_assoc]
      refine hW.cell ?_
      match r, hr, hu2 with
      | 0, _, hu2 => obtain rfl : _ = u := Option.some.inj hu2; exact hcell.g
      | 1, _, hu2 => obtain rfl : _ = u := Option.some.inj hu2; exact hcell.p)
    have HO : Hid (∀ u ∈ rowN (clE_cs l) l.length, u.oneCell' = true) := Lib.hid (rowN_mem _ _ (fun i _ u hu => by
      simp only [clE_cs, List.mem_cons, List.not_mem_nil, or_false] at hu
      rcases hu with rfl | rfl <;> rfl))
    obtain ⟨n, hn⟩ : ∃ n, n = l.length := ⟨_, rfl⟩
    have HN := Lib.hid hn
    rw [← hn] at hc HC HO ⊢
    have hn6 : n ≤ 2000000 := by omega
    clear hn hv hm hi0 hz0 hz1 hz2 hl
    go_enter Try.func77, Try.ntmps77
    have hsn := clE_nil a n cap
    go_wp2_with (with_reducible refine stop_append_a ?_)
    unfold StopA
    refine wpList_append_own _ rfl (.tmp 5) (.tmp 6) 24 rfl w.heap.size 61 i0 _ 2 16 Try.underlying24 HI.out.1 HI.out.2.1 HI.out.2.2.1 HI.out.2.2.2 rfl (by omega) _ 0 [] (by rfl) (own_emp w _ _) a n cap (rowN (clE_cs l) n) (by rfl) (rowN_len (clE_len l) n) (fun j u hu => HC.out _ ((Fr.refl w).alloc _) j u hu) (fun u hu => HO.out u hu) (by unfold maxLen; omega) (by omega) (by rw [size_al]; omega) fun v2 w2 hown2 hg2 _ => ?_
    have hf2 : Fr w w2 := own_fr6 ((Fr.refl w).alloc _) (own_emp w _ 2) hg2
    rw [Nat.zero_add, List.nil_append] at hown2
    have HO2 := Lib.hid hown2
    clear hown2 hg2
    go_wp2_with fail
    go_ret
    exact ⟨_, rfl, HO2.out, hf2⟩
theorem clI_nil0 (w : World) : (binOp BinOp.eql 32 (Value.slice none 0 0) (Value.slice none 0 0)).run Try.prog w = .ok (.bool true) w := by kernel_rfl
theorem clI_nil (a : Addr) (n cap : Nat) (w : World) : (binOp BinOp.eql 32 (Value.slice (some a) n cap) (Value.slice none 0 0)).run Try.prog w = .ok (.bool false) w := by kernel_rfl
theorem clI_info : (Try.prog.info? 3).map (fun i => (i.zero, i.size, i.bytes)) = some (some (.int .i64 0), 1, 8) := by kernel_rfl
def clI_cs (l : List Int) (i : Nat) : List Value := [.int .i64 (l.getD i default)]
theorem clI_len (l : List Int) (i : Nat) : (clI_cs l i).length = 1 := rfl
set_option maxRecDepth 100000 in
set_option maxHeartbeats 4000000 in
theorem clI_any (l : List Int) (v : Value) (w : World) (hv : IntsV w v l) (hl : l.length ≤ 2000000) :
    Calls Try.prog 79 #[v] w fun e w' => ∃ v', e = .returned v' ∧ w'.ownsRow w.heap.size 3 1 v' l.length (rowN (clI_cs l) l.length) ∧ Fr w w' := by
  have HV := Lib.hid hv
  obtain ⟨i0, hi0, hz0, hz1, hz2⟩ := info_at clI_info
  have HI := Lib.hid (And.intro hi0 (And.intro hz0 (And.intro hz1 hz2)))
  obtain ⟨a, cap, rfl, hc, hm, hz⟩ := hv.form
  cases a with
  | none =>
    obtain rfl := hz rfl
    obtain rfl : l = [] := List.eq_nil_of_length_eq_zero (by omega)
    clear hv hl hi0 hz0 hz1 hz2 hm hz
    go_enter Try.func79, Try.ntmps79
    have hsn := clI_nil0
    go_wp2_with fail
    go_ret
    exact ⟨_, rfl, World.ownsRow_nil _ _ _ _, Fr.refl _⟩
  | some a =>
    have HC : Hid (∀ W, Fr w W → ∀ j u, (rowN (clI_cs l) l.length)[j]? = some u → W.cell? (a.add j) = some u) := Lib.hid (fun W hW j u hu => by
      obtain ⟨i, r, rfl, hr, hi, hu2⟩ := rowN_split (by omega) (clI_len l) hu
      obtain ⟨x, hx⟩ : ∃ x, l[i]? = some x := ⟨_, List.getElem?_eq_getElem hi⟩
      obtain ⟨b, off, e, hcell⟩ := HV.out.at_ hx
      obtain rfl : a = ⟨b, off, none⟩ := Option.some.inj e
      have hd : l.getD i default = x := by rw [List.getD_eq_getElem?_getD, hx]; rfl
      unfold clI_cs at hu2
      rw [hd] at hu2
      rw [ap_add, ← Nat.add_assoc]
      refine hW.cell ?_
      match r, hr, hu2 with
      | 0, _, hu2 => obtain rfl : _ = u := Option.some.inj hu2; exact hcell)
    have HO : Hid (∀ u ∈ rowN (clI_cs l) l.length, u.oneCell' = true) := Lib.hid (rowN_mem _ _ (fun i _ u hu => by
      simp only [clI_cs, List.mem_cons, List.not_mem_nil, or_false] at hu
      rcases hu with rfl <;> rfl))
    obtain ⟨n, hn⟩ : ∃ n, n = l.length := ⟨_, rfl⟩
    have HN := Lib.hid hn
    rw [← hn] at hc HC HO ⊢
    have hn6 : n ≤ 2000000 := by omega
    clear hn hv hm hi0 hz0 hz1 hz2 hl
    go_enter Try.func79, Try.ntmps79
    have hsn := clI_nil a n cap
    go_wp2_with (with_reducible refine stop_append_a ?_)
    unfold StopA
    refine wpList_append_own _ rfl (.tmp 5) (.tmp 6) 32 rfl w.heap.size 3 i0 _ 1 8 Try.underlying32 HI.out.1 HI.out.2.1 HI.out.2.2.1 HI.out.2.2.2 rfl (by omega) _ 0 [] (by rfl) (own_emp w _ _) a n cap (rowN (clI_cs l) n) (by rfl) (rowN_len (clI_len l) n) (fun j u hu => HC.out _ ((Fr.refl w).alloc _) j u hu) (fun u hu => HO.out u hu) (by unfold maxLen; omega) (by omega) (by rw [size_al]; omega) fun v2 w2 hown2 hg2 _ => ?_
    have hf2 : Fr w w2 := own_fr6 ((Fr.refl w).alloc _) (own_emp w _ 1) hg2
    rw [Nat.zero_add, List.nil_append] at hown2
    have HO2 := Lib.hid hown2
    clear hown2 hg2
    go_wp2_with fail
    go_ret
    exact ⟨_, rfl, HO2.out, hf2⟩
theorem clD_nil0 (w : World) : (binOp BinOp.eql 22 (Value.slice none 0 0) (Value.slice none 0 0)).run Try.prog w = .ok (.bool true) w := by kernel_rfl
theorem clD_nil (a : Addr) (n cap : Nat) (w : World) : (binOp BinOp.eql 22 (Value.slice (some a) n cap) (Value.slice none 0 0)).run Try.prog w = .ok (.bool false) w := by kernel_rfl
theorem clD_info : (Try.prog.info? 41).map (fun i => (i.zero, i.size, i.bytes)) = some (some (.agg #[.string ⟨#[]⟩, .bool false, .slice none 0 0]), 3, 48) := by kernel_rfl
def clD_cs (l : List Dt) (lvs : Nat → Value) (i : Nat) : List Value := [.string (l.getD i default).t, .bool (l.getD i default).b, lvs i]
theorem clD_len (l : List Dt) (lvs : Nat → Value) (i : Nat) : (clD_cs l lvs i).length = 3 := rfl
set_option maxRecDepth 100000 in
set_option maxHeartbeats 4000000 in
theorem clD_any (l : List Dt) (v : Value) (w : World) (hv : DtsV w v l) (hl : l.length ≤ 2000000) :
    Calls Try.prog 78 #[v] w fun e w' => ∃ v' lvs, e = .returned v' ∧ (∀ i x, l[i]? = some x → IntsV w (lvs i) x.ws) ∧ (∀ i x, l[i]? = some x → ∃ b off n cap, v = .slice (some ⟨b, off, none⟩) n cap ∧ w.cell? ⟨b, off + i * 3 + 2, none⟩ = some (lvs i)) ∧ w'.ownsRow w.heap.size 41 3 v' l.length (rowN (clD_cs l lvs) l.length) ∧ Fr w w' := by
  have HV := Lib.hid hv
  obtain ⟨i0, hi0, hz0, hz1, hz2⟩ := info_at clD_info
  have HI := Lib.hid (And.intro hi0 (And.intro hz0 (And.intro hz1 hz2)))
  obtain ⟨a, cap, rfl, hc, hm, hz⟩ := hv.form
  cases a with
  | none =>
    obtain rfl := hz rfl
    obtain rfl : l = [] := List.eq_nil_of_length_eq_zero (by omega)
    clear hv hl hi0 hz0 hz1 hz2 hm hz
    go_enter Try.func78, Try.ntmps78
    have hsn := clD_nil0
    go_wp2_with fail
    go_ret
    exact ⟨_, fun _ => .slice none 0 0, rfl, fun i x hx => by simp at hx, fun i x hx => by simp at hx, World.ownsRow_nil _ _ _ _, Fr.refl _⟩
  | some a =>
    have hex : ∀ i, ∃ lv, ∀ x, l[i]? = some x → ∃ b off, a = ⟨b, off, none⟩ ∧ w.cell? ⟨b, off + i * 3, none⟩ = some (.string x.t) ∧ w.cell? ⟨b, off + i * 3 + 1, none⟩ = some (.bool x.b) ∧ w.cell? ⟨b, off + i * 3 + 2, none⟩ = some lv ∧ IntsV w lv x.ws ∧ lv.oneCell' = true := fun i => by
      cases hx : l[i]? with
      | none => exact ⟨.slice none 0 0, fun x h => by simp at h⟩
      | some x =>
        obtain ⟨b, off, e, h1, h2, lv, h3, h4⟩ := HV.out.at_ hx
        refine ⟨lv, fun y hy => ?_⟩
        obtain rfl : x = y := Option.some.inj hy
        obtain ⟨a5, c5, e5, _⟩ := h4.form
        exact ⟨b, off, Option.some.inj e, h1, h2, h3, h4, by rw [e5]; rfl⟩
    obtain ⟨lvs, hlvs⟩ := Classical.axiomOfChoice hex
    have HLV : Hid (∀ i x, l[i]? = some x → IntsV w (lvs i) x.ws) := Lib.hid (fun i x hx => by
      obtain ⟨_, _, _, _, _, _, h, _⟩ := hlvs i x hx
      exact h)
    have HLS := Lib.hid hlvs
    have HLX : Hid (∀ i x, l[i]? = some x → ∃ b off n' cap', Value.slice (some a) l.length cap = .slice (some ⟨b, off, none⟩) n' cap' ∧ w.cell? ⟨b, off + i * 3 + 2, none⟩ = some (lvs i)) := Lib.hid (fun i x hx => by
      obtain ⟨b, off, e, _, _, h, _⟩ := hlvs i x hx
      exact ⟨b, off, _, _, by rw [e], h⟩)
    clear hex hlvs
    have HC : Hid (∀ W, Fr w W → ∀ j u, (rowN (clD_cs l lvs) l.length)[j]? = some u → W.cell? (a.add j) = some u) := Lib.hid (fun W hW j u hu => by
      obtain ⟨i, r, rfl, hr, hi, hu2⟩ := rowN_split (by omega) (clD_len l lvs) hu
      obtain ⟨x, hx⟩ : ∃ x, l[i]? = some x := ⟨_, List.getElem?_eq_getElem hi⟩
      obtain ⟨b, off, rfl, hcell⟩ := HLS.out i x hx
      have hd : l.getD i default = x := by rw [List.getD_eq_getElem?_getD, hx]; rfl
      unfold clD_cs at hu2
      rw [hd] at hu2
      rw [ap_add, ← Nat.add_assoc]
      refine hW.cell ?_
      match r, hr, hu2 with
      | 0, _, hu2 => obtain rfl : _ = u := Option.some.inj hu2; exact hcell.1
      | 1, _, hu2 => obtain rfl : _ = u := Option.some.inj hu2; exact hcell.2.1
      | 2, _, hu2 => obtain rfl : _ = u := Option.some.inj hu2; exact hcell.2.2.1)
    have HO : Hid (∀ u ∈ rowN (clD_cs l lvs) l.length, u.oneCell' = true) := Lib.hid (rowN_mem _ _ (fun i hi u hu => by
      obtain ⟨x, hx⟩ : ∃ x, l[i]? = some x := ⟨_, List.getElem?_eq_getElem hi⟩
      obtain ⟨_, _, _, _, _, _, _, h⟩ := HLS.out i x hx
      simp only [clD_cs, List.mem_cons, List.not_mem_nil, or_false] at hu
      rcases hu with rfl | rfl | rfl
      · rfl
      · rfl
      · exact h))
    obtain ⟨n, hn⟩ : ∃ n, n = l.length := ⟨_, rfl⟩
    have HN := Lib.hid hn
    rw [← hn] at hc HC HO HLX ⊢
    have hn6 : n ≤ 2000000 := by omega
    clear hn hv hm hi0 hz0 hz1 hz2 hl
    go_enter Try.func78, Try.ntmps78
    have hsn := clD_nil a n cap
    go_wp2_with (with_reducible refine stop_append_a ?_)
    unfold StopA
    refine wpList_append_own _ rfl (.tmp 5) (.tmp 6) 22 rfl w.heap.size 41 i0 _ 3 48 Try.underlying22 HI.out.1 HI.out.2.1 HI.out.2.2.1 HI.out.2.2.2 rfl (by omega) _ 0 [] (by rfl) (own_emp w _ _) a n cap (rowN (clD_cs l lvs) n) (by rfl) (rowN_len (clD_len l lvs) n) (fun j u hu => HC.out _ ((Fr.refl w).alloc _) j u hu) (fun u hu => HO.out u hu) (by unfold maxLen; omega) (by omega) (by rw [size_al]; omega) fun v2 w2 hown2 hg2 _ => ?_
    have hf2 : Fr w w2 := own_fr6 ((Fr.refl w).alloc _) (own_emp w _ 3) hg2
    rw [Nat.zero_add, List.nil_append] at hown2
    have HO2 := Lib.hid hown2
    clear hown2 hg2
    go_wp2_with fail
    go_ret
    exact ⟨_, lvs, rfl, HLV.out, HLX.out, HO2.out, hf2⟩
end Go.Proofs.Ytbhhjbnobcgfeaa
