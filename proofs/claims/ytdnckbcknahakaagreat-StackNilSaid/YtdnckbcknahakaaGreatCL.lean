/- Lists copied by slices.Clone. -/
import Derived.Test.YtdnckbcknahakaaGreatFJ
import Derived.Laws.AppendOwn
namespace Go.Proofs.YtdnckbcknahakaaGreat
open Go.RowKit
set_option linter.unusedVariables false
set_option linter.unusedSimpArgs false

/-- n elements' cells, in a row. -/
def rowN (cs : Nat → List Value) : Nat → List Value
  | 0 => []
  | n + 1 => rowN cs n ++ cs n
theorem rowN_len {cs : Nat → List Value} {z : Nat} (h : ∀ i, (cs i).length = z) : ∀ n, (rowN cs n).length = n * z
  | 0 => by simp [rowN]
  | n + 1 => by rw [rowN, List.length_append, rowN_len h n, h n, Nat.succ_mul]
theorem rowN_at {cs : Nat → List Value} {z : Nat} (h : ∀ i, (cs i).length = z) : ∀ (n i r : Nat), i < n → r < z → (rowN cs n)[i * z + r]? = (cs i)[r]?
  | 0, i, r, hi, _ => by omega
  | n + 1, i, r, hi, hr => by
    rw [rowN]
    have hlen := rowN_len h n
    by_cases hin : i < n
    · have hlt : i * z + r < n * z := by
        have h1 : (i + 1) * z ≤ n * z := Nat.mul_le_mul_right z hin
        rw [Nat.succ_mul] at h1; omega
      rw [List.getElem?_append_left (by rw [hlen]; exact hlt)]
      exact rowN_at h n i r hin hr
    · obtain rfl : i = n := by omega
      rw [List.getElem?_append_right (by rw [hlen]; omega), hlen]
      congr 1; omega
theorem rowN_mem {cs : Nat → List Value} (P : Value → Prop) : ∀ (n : Nat), (∀ i, i < n → ∀ u ∈ cs i, P u) → ∀ u ∈ rowN cs n, P u
  | 0, _, u, hu => by simp [rowN] at hu
  | n + 1, h, u, hu => by
    rw [rowN, List.mem_append] at hu
    rcases hu with hu | hu
    · exact rowN_mem P n (fun i hi => h i (by omega)) u hu
    · exact h n (by omega) u hu
theorem rowN_split {cs : Nat → List Value} {z : Nat} (hz : 0 < z) (h : ∀ i, (cs i).length = z) {n j : Nat} {u : Value} (hu : (rowN cs n)[j]? = some u) : ∃ i r, j = i * z + r ∧ r < z ∧ i < n ∧ (cs i)[r]? = some u := by
  have hj : j < n * z := by have := (List.getElem?_eq_some_iff.1 hu).1; rwa [rowN_len h] at this
  refine ⟨j / z, j % z, ?_, Nat.mod_lt _ hz, ?_, ?_⟩
  · rw [Nat.mul_comm]; exact (Nat.div_add_mod j z).symm
  · exact (Nat.div_lt_iff_lt_mul hz).2 hj
  · rw [← rowN_at h n (j / z) (j % z) ((Nat.div_lt_iff_lt_mul hz).2 hj) (Nat.mod_lt _ hz), Nat.mul_comm, Nat.div_add_mod]; exact hu
theorem info_at {P : Program} {e : TypeId} {z : Value} {s b : Nat} (h : (P.info? e).map (fun i => (i.zero, i.size, i.bytes)) = some (some z, s, b)) : ∃ i, P.info? e = some i ∧ i.zero = some z ∧ i.size = s ∧ i.bytes = b := by
  obtain ⟨i, hi, he⟩ := Option.map_eq_some_iff.1 h
  simp only [Prod.mk.injEq] at he
  exact ⟨i, hi, he.1, he.2.1, he.2.2⟩
def StopA (p : Prop) : Prop := p
theorem stop_append_a {P : Program} {ops : Array Oper} {rest : List Oper} {x y dst ty pos aft g} {a : Act} {w : World} {Q : Exit → Act → World → Prop}
    (h : StopA (wpList P ops Q (⟨dst, .call { callee := .builtin .append, args := x, argTypes := y }, ty, pos, aft, g⟩ :: rest) a w)) : wpList P ops Q (⟨dst, .call { callee := .builtin .append, args := x, argTypes := y }, ty, pos, aft, g⟩ :: rest) a w := h
theorem own_fr6 {w0 wr w' : World} {v : Value} {T : TypeId} {z m : Nat} {xs : List Value} (h : Fr w0 wr) (ho : wr.ownsRow w0.heap.size T z v m xs) (hg : wr.grownBy w' v.ownBlock) : Fr w0 w' :=
  Below.grown h hg h.size (fun k hk => (ho.lt k hk).1)
theorem size_al (w : World) (o : Obj) : (w.alloc o).heap.size = w.heap.size + 1 := by simp
theorem own_emp (w : World) (T : TypeId) (z : Nat) : (w.alloc (.cells #[] T)).ownsRow w.heap.size T z (.slice (some ⟨w.heap.size, 0, none⟩) 0 0) 0 [] :=
  ⟨by simp, .inr ⟨w.heap.size, 0, #[], rfl, Nat.le_refl _, by simp only [World.alloc, Array.getElem?_push_size], Nat.le_refl _, Nat.zero_le _, by simp, by simp⟩⟩
theorem clO_nil0 (w : World) : (binOp BinOp.eql 40 (Value.slice none 0 0) (Value.slice none 0 0)).run Tryz.prog w = .ok (.bool true) w := by kernel_rfl
theorem clO_nil (a : Addr) (n cap : Nat) (w : World) : (binOp BinOp.eql 40 (Value.slice (some a) n cap) (Value.slice none 0 0)).run Tryz.prog w = .ok (.bool false) w := by kernel_rfl
theorem clO_info : (Tryz.prog.info? 60).map (fun i => (i.zero, i.size, i.bytes)) = some (some (.agg #[.int .i64 0, .int .i64 0, .int .i64 0]), 3, 24) := by kernel_rfl
def clO_cs (l : List Op3) (i : Nat) : List Value := [.int .i64 (l.getD i default).op, .int .i64 (l.getD i default).n, .int .i64 (l.getD i default).m]
theorem clO_len (l : List Op3) (i : Nat) : (clO_cs l i).length = 3 := rfl
set_option maxRecDepth 100000 in
set_option maxHeartbeats 4000000 in
theorem clO_any (l : List Op3) (v : Value) (w : World) (hv : OpsV w v l) (hl : l.length ≤ 2000000) :
    Calls Tryz.prog 38 #[v] w fun e w' => ∃ v', e = .returned v' ∧ w'.ownsRow w.heap.size 60 3 v' l.length (rowN (clO_cs l) l.length) ∧ Fr w w' := by
  have HV := Lib.hid hv
  obtain ⟨i0, hi0, hz0, hz1, hz2⟩ := info_at clO_info
  have HI := Lib.hid (And.intro hi0 (And.intro hz0 (And.intro hz1 hz2)))
  obtain ⟨a, cap, rfl, hc, hm, hz⟩ := hv.form
  cases a with
  | none =>
    obtain rfl := hz rfl
    obtain rfl : l = [] := List.eq_nil_of_length_eq_zero (by omega)
    clear hv hl hi0 hz0 hz1 hz2 hm hz
    go_enter Tryz.func38, Tryz.ntmps38
    have hsn := clO_nil0
    go_wp2_with fail
    go_ret
    exact ⟨_, rfl, World.ownsRow_nil _ _ _ _, Fr.refl _⟩
  | some a =>
    have HC : Hid (∀ W, Fr w W → ∀ j u, (rowN (clO_cs l) l.length)[j]? = some u → W.cell? (a.add j) = some u) := Lib.hid (fun W hW j u hu => by
      obtain ⟨i, r, rfl, hr, hi, hu2⟩ := rowN_split (by omega) (clO_len l) hu
      obtain ⟨x, hx⟩ : ∃ x, l[i]? = some x := ⟨_, List.getElem?_eq_getElem hi⟩
      obtain ⟨b, off, e, hcell⟩ := HV.out.at_ hx
      obtain rfl : a = ⟨b, off, none⟩ := Option.some.inj e
      have hd : l.getD i default = x := by rw [List.getD_eq_getElem?_getD, hx]; rfl
      unfold clO_cs at hu2
      rw [hd] at hu2
      rw [ap_add, ← Nat.add_assoc]
      refine hW.cell ?_
      match r, hr, hu2 with
      | 0, _, hu2 => obtain rfl : _ = u := Option.some.inj hu2; exact hcell.op
      | 1, _, hu2 => obtain rfl : _ = u := Option.some.inj hu2; exact hcell.n
      | 2, _, hu2 => obtain rfl : _ = u := Option.some.inj hu2; exact hcell.m)
    have HO : Hid (∀ u ∈ rowN (clO_cs l) l.length, u.oneCell' = true) := Lib.hid (rowN_mem _ _ (fun i _ u hu => by
      simp only [clO_cs, List.mem_cons, List.not_mem_nil, or_false] at hu
      rcases hu with rfl | rfl | rfl <;> rfl))
    obtain ⟨n, hn⟩ : ∃ n, n = l.length := ⟨_, rfl⟩
    have HN := Lib.hid hn
    rw [← hn] at hc HC HO ⊢
    have hn6 : n ≤ 2000000 := by omega
    clear hn hv hm hi0 hz0 hz1 hz2 hl
    go_enter Tryz.func38, Tryz.ntmps38
    have hsn := clO_nil a n cap
    go_wp2_with (with_reducible refine stop_append_a ?_)
    unfold StopA
    refine wpList_append_own _ rfl (.tmp 5) (.tmp 6) 40 rfl w.heap.size 60 i0 _ 3 24 Tryz.underlying40 HI.out.1 HI.out.2.1 HI.out.2.2.1 HI.out.2.2.2 rfl (by omega) _ 0 [] (by rfl) (own_emp w _ _) a n cap (rowN (clO_cs l) n) (by rfl) (rowN_len (clO_len l) n) (fun j u hu => HC.out _ ((Fr.refl w).alloc _) j u hu) (fun u hu => HO.out u hu) (by unfold maxLen; omega) (by omega) (by rw [size_al]; omega) fun v2 w2 hown2 hg2 _ => ?_
    have hf2 : Fr w w2 := own_fr6 ((Fr.refl w).alloc _) (own_emp w _ 3) hg2
    rw [Nat.zero_add, List.nil_append] at hown2
    have HO2 := Lib.hid hown2
    clear hown2 hg2
    go_wp2_with fail
    go_ret
    exact ⟨_, rfl, HO2.out, hf2⟩
theorem clE_nil0 (w : World) : (binOp BinOp.eql 41 (Value.slice none 0 0) (Value.slice none 0 0)).run Tryz.prog w = .ok (.bool true) w := by kernel_rfl
theorem clE_nil (a : Addr) (n cap : Nat) (w : World) : (binOp BinOp.eql 41 (Value.slice (some a) n cap) (Value.slice none 0 0)).run Tryz.prog w = .ok (.bool false) w := by kernel_rfl
theorem clE_info : (Tryz.prog.info? 100).map (fun i => (i.zero, i.size, i.bytes)) = some (some (.agg #[.int .i64 0, .int .i64 0]), 2, 16) := by kernel_rfl
def clE_cs (l : List En2) (i : Nat) : List Value := [.int .i64 (l.getD i default).g, .int .i64 (l.getD i default).p]
theorem clE_len (l : List En2) (i : Nat) : (clE_cs l i).length = 2 := rfl
theorem clI_nil0 (w : World) : (binOp BinOp.eql 22 (Value.slice none 0 0) (Value.slice none 0 0)).run Tryz.prog w = .ok (.bool true) w := by kernel_rfl
theorem clI_nil (a : Addr) (n cap : Nat) (w : World) : (binOp BinOp.eql 22 (Value.slice (some a) n cap) (Value.slice none 0 0)).run Tryz.prog w = .ok (.bool false) w := by kernel_rfl
theorem clI_info : (Tryz.prog.info? 3).map (fun i => (i.zero, i.size, i.bytes)) = some (some (.int .i64 0), 1, 8) := by kernel_rfl
def clI_cs (l : List Int) (i : Nat) : List Value := [.int .i64 (l.getD i default)]
theorem clI_len (l : List Int) (i : Nat) : (clI_cs l i).length = 1 := rfl
theorem clD_nil0 (w : World) : (binOp BinOp.eql 39 (Value.slice none 0 0) (Value.slice none 0 0)).run Tryz.prog w = .ok (.bool true) w := by kernel_rfl
theorem clD_nil (a : Addr) (n cap : Nat) (w : World) : (binOp BinOp.eql 39 (Value.slice (some a) n cap) (Value.slice none 0 0)).run Tryz.prog w = .ok (.bool false) w := by kernel_rfl
theorem clD_info : (Tryz.prog.info? 102).map (fun i => (i.zero, i.size, i.bytes)) = some (some (.agg #[.string ⟨#[]⟩, .bool false, .slice none 0 0]), 3, 48) := by kernel_rfl
def clD_cs (l : List Dt) (lvs : Nat → Value) (i : Nat) : List Value := [.string (l.getD i default).t, .bool (l.getD i default).b, lvs i]
theorem clD_len (l : List Dt) (lvs : Nat → Value) (i : Nat) : (clD_cs l lvs i).length = 3 := rfl
end Go.Proofs.YtdnckbcknahakaaGreat
