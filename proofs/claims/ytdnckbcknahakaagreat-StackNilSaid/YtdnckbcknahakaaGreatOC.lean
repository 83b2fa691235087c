/- Code that came in by value. -/
import Derived.Test.YtdnckbcknahakaaGreatCO
namespace Go.Proofs.YtdnckbcknahakaaGreat
open Go.ChangeShapes Go.WideShapes Go.ChangeAt Go.RowKit
set_option linter.unusedVariables false
section
variable {H : Type} {enc : TypeId × Value → H} {W : World} {base b0 : Nat} {sp : Nat → Bool} {hd : Bool}
theorem add_off (b off j : Nat) : (⟨b, off, none⟩ : Addr).add j = ⟨b, off + j, none⟩ := ap_add b off j
/-- Whatever reads as a slice is one whose elements lie in memory. -/
theorem open_list {α : Type} [Inhabited α] (z : Nat) (hz0 : 0 < z) {e t : TypeId} (ht : Tryz.prog.underlying t = some (.slice e)) (hz : Tryz.prog.cellsOf e = z) (hby : 1 ≤ Tryz.prog.bytesOf e) (C : World → Nat → Nat → α → Prop) (good : α → Prop) {fuel : Nat}
    (elem : ∀ m < fuel, ∀ b off cs y, DataW.trod enc Tryz.prog W base sp hd m e cs = some y → Wok e y.1 → (∀ (j : Nat) v, cs[j]? = some v → W.cell? ⟨b, off + j, none⟩ = some v) → ∃ x, C W b off x ∧ good x)
    {cs : List Value} {x : DataW H × List MemPlace} (h : DataW.trod enc Tryz.prog W base sp hd fuel t cs = some x) (hB : Wok t x.1) :
    ∃ (v : Value) (l : List α), cs = [v] ∧ SlE z C W v l ∧ (∀ o ∈ l, good o) ∧ l.length ≤ 140737488351232 := by
  rcases DataW.trod_slice ht h with ⟨rfl, rfl⟩ | ⟨a, len, cap, elems, rest, n, rfl, rfl, rfl, hb, hl, hm, hlen, hel, _, _⟩
  · exact ⟨_, [], rfl, SlE.nil W, fun o ho => (by cases ho), Nat.zero_le _⟩
  · rw [hz] at hel
    have hlb : len ≤ 140737488351232 := by
      have h1 := hB ((elems.length + rest.length) * Tryz.prog.bytesOf e) (by simp [DataW.weights, ht])
      unfold reachBytes at h1
      have h2 : len * 1 ≤ (elems.length + rest.length) * Tryz.prog.bytesOf e := Nat.mul_le_mul (by omega) hby
      omega
    have hcells : ∀ i, i < len → ∃ e' cs', elems[i]? = some e' ∧ DataW.trod enc Tryz.prog W base sp hd n e cs' = some e' ∧ cs'.length = z ∧ ∀ j, j < z → W.cell? ((a.add (i * z)).add j) = cs'[j]? := fun i hi => by
      obtain ⟨e', he⟩ : ∃ e', elems[i]? = some e' := ⟨_, List.getElem?_eq_getElem (by omega)⟩
      have h0 := hel i hi
      rw [he] at h0
      obtain ⟨cs', h1, h2⟩ := Option.bind_eq_some_iff.1 h0
      obtain ⟨_, hln, hcell⟩ := World.cells?_some h1
      exact ⟨e', cs', he, h2, hln, hcell⟩
    by_cases hp : 0 < len
    · obtain ⟨b, off, rfl⟩ : ∃ b off, a = ⟨b, off, none⟩ := by
        obtain ⟨e', cs', _, _, hln, hc⟩ := hcells 0 hp
        have h0 := hc 0 hz0
        obtain ⟨b, off, spot⟩ := a
        cases spot with
        | none => exact ⟨b, off, rfl⟩
        | some q =>
          rw [List.getElem?_eq_getElem (by omega)] at h0
          simp only [Addr.add, Nat.zero_mul, if_true, World.cell?] at h0
          split at h0 <;> simp at h0
      have hx : ∀ i, i < len → ∃ x : α, C W b (off + i * z) x ∧ good x := fun i hi => by
        obtain ⟨e', cs', he, h2, hln, hc⟩ := hcells i hi
        refine elem n (by omega) b (off + i * z) cs' e' h2 (hB.elem ht (List.mem_map.2 ⟨e', List.mem_of_getElem? he, rfl⟩)) (fun j v hv => ?_)
        have hj : j < z := by rw [← hln]; exact (List.getElem?_eq_some_iff.1 hv).1
        have := hc j hj
        rw [add_off, add_off, hv] at this
        exact this
      obtain ⟨q, hq⟩ := Deep.choose_lt hx
      have hLl : ((List.range len).map q).length = len := by simp
      have hget : ∀ (i : Nat) (t : α), ((List.range len).map q)[i]? = some t → i < len ∧ t = q i := fun i t ht => by
        rw [List.getElem?_map] at ht
        obtain ⟨j, hj, rfl⟩ := Option.map_eq_some_iff.1 ht
        obtain ⟨hjl, rfl⟩ := List.getElem?_eq_some_iff.1 hj
        rw [List.length_range] at hjl
        exact ⟨hjl, by rw [List.getElem_range]⟩
      refine ⟨_, (List.range len).map q, rfl, ⟨some ⟨b, off, none⟩, cap, by rw [hLl], by rw [hLl]; exact hl, hm, fun h => (by cases h), fun _ => ⟨b, off, rfl, fun i t ht => ?_⟩⟩, fun o ho => ?_, by rw [hLl]; exact hlb⟩
      · obtain ⟨hi, rfl⟩ := hget i t ht
        exact (hq i hi).1
      · obtain ⟨i, hi⟩ := List.getElem?_of_mem ho
        obtain ⟨hil, rfl⟩ := hget i o hi
        exact (hq i hil).2
    · obtain rfl : len = 0 := by omega
      exact ⟨_, [], rfl, ⟨some a, cap, rfl, Nat.zero_le _, hm, fun h => (by cases h), fun h => absurd h (Nat.lt_irrefl 0)⟩, fun o ho => (by cases ho), Nat.zero_le _⟩
set_option maxRecDepth 100000 in
theorem elem_op (m b off : Nat) (cs : List Value) (y : DataW H × List MemPlace) (h : DataW.trod enc Tryz.prog W base sp hd m 60 cs = some y) (hc : ∀ (j : Nat) v, cs[j]? = some v → W.cell? ⟨b, off + j, none⟩ = some v) :
    ∃ x : Op3, OpC W b off x ∧ (wf64 x.op ∧ wf64 x.n ∧ wf64 x.m) := by
  obtain ⟨xs, n, rfl, rfl, hl, hlen, hf⟩ := DataW.trod_struct Tryz.underlying60 h
  rw [cellsOp] at hl
  match xs, hlen, cs, hl with
  | [y0, y1, y2], _, [v0, v1, v2], _ =>
    have g0 := hf 0 _ rfl
    have g1 := hf 1 _ rfl
    have g2 := hf 2 _ rfl
    simp [cellsInt] at g0 g1 g2
    obtain ⟨z0, q0, r0, w0⟩ := DataW.trod_int Tryz.underlying3 g0
    obtain ⟨z1, q1, r1, w1⟩ := DataW.trod_int Tryz.underlying3 g1
    obtain ⟨z2, q2, r2, w2⟩ := DataW.trod_int Tryz.underlying3 g2
    simp only [List.cons.injEq, and_true] at q0 q1 q2
    subst q0 q1 q2
    exact ⟨⟨z0, z1, z2⟩, ⟨hc 0 _ rfl, hc 1 _ rfl, hc 2 _ rfl⟩, wf64_of w0, wf64_of w1, wf64_of w2⟩
set_option maxRecDepth 100000 in
theorem elem_en (m b off : Nat) (cs : List Value) (y : DataW H × List MemPlace) (h : DataW.trod enc Tryz.prog W base sp hd m 100 cs = some y) (hc : ∀ (j : Nat) v, cs[j]? = some v → W.cell? ⟨b, off + j, none⟩ = some v) :
    ∃ x : En2, EnC W b off x ∧ (wf64 x.g ∧ wf64 x.p) := by
  obtain ⟨xs, n, rfl, rfl, hl, hlen, hf⟩ := DataW.trod_struct Tryz.underlying100 h
  rw [cellsEn] at hl
  match xs, hlen, cs, hl with
  | [y0, y1], _, [v0, v1], _ =>
    have g0 := hf 0 _ rfl
    have g1 := hf 1 _ rfl
    simp [cellsInt] at g0 g1
    obtain ⟨z0, q0, r0, w0⟩ := DataW.trod_int Tryz.underlying3 g0
    obtain ⟨z1, q1, r1, w1⟩ := DataW.trod_int Tryz.underlying3 g1
    simp only [List.cons.injEq, and_true] at q0 q1
    subst q0 q1
    exact ⟨⟨z0, z1⟩, ⟨hc 0 _ rfl, hc 1 _ rfl⟩, wf64_of w0, wf64_of w1⟩
theorem elem_int (m b off : Nat) (cs : List Value) (y : DataW H × List MemPlace) (h : DataW.trod enc Tryz.prog W base sp hd m 3 cs = some y) (hc : ∀ (j : Nat) v, cs[j]? = some v → W.cell? ⟨b, off + j, none⟩ = some v) :
    ∃ x : Int, InC W b off x ∧ wf64 x := by
  obtain ⟨z0, q0, r0, w0⟩ := DataW.trod_int Tryz.underlying3 h
  subst q0
  exact ⟨z0, hc 0 _ rfl, wf64_of w0⟩
theorem open_ints_w {fuel : Nat} {cs : List Value} {x : DataW H × List MemPlace} (h : DataW.trod enc Tryz.prog W base sp hd fuel 22 cs = some x) (hB : Wok 22 x.1) :
    ∃ (v : Value) (l : List Int), cs = [v] ∧ IntsV W v l ∧ (∀ o ∈ l, wf64 o) ∧ l.length ≤ 140737488351232 :=
  open_list 1 (by decide) Tryz.underlying22 cellsInt (of_decide_eq_true (by kernel_rfl)) InC wf64 (fun m _ b off cs y h _ hc => elem_int m b off cs y h hc) h hB
theorem open_ops_w {fuel : Nat} {cs : List Value} {x : DataW H × List MemPlace} (h : DataW.trod enc Tryz.prog W base sp hd fuel 40 cs = some x) (hB : Wok 40 x.1) :
    ∃ (v : Value) (l : List Op3), cs = [v] ∧ OpsV W v l ∧ (∀ x ∈ l, wf64 x.op ∧ wf64 x.n ∧ wf64 x.m) ∧ l.length ≤ 140737488351232 :=
  open_list 3 (by decide) Tryz.underlying40 cellsOp (of_decide_eq_true (by kernel_rfl)) OpC (fun x => wf64 x.op ∧ wf64 x.n ∧ wf64 x.m) (fun m _ b off cs y h _ hc => elem_op m b off cs y h hc) h hB
theorem open_ens_w {fuel : Nat} {cs : List Value} {x : DataW H × List MemPlace} (h : DataW.trod enc Tryz.prog W base sp hd fuel 41 cs = some x) (hB : Wok 41 x.1) :
    ∃ (v : Value) (l : List En2), cs = [v] ∧ EnsV W v l ∧ (∀ x ∈ l, wf64 x.g ∧ wf64 x.p) ∧ l.length ≤ 140737488351232 :=
  open_list 2 (by decide) Tryz.underlying41 cellsEn (of_decide_eq_true (by kernel_rfl)) EnC (fun x => wf64 x.g ∧ wf64 x.p) (fun m _ b off cs y h _ hc => elem_en m b off cs y h hc) h hB
def okD (x : Dt) : Prop := x.t.size ≤ 140737488351232 ∧ x.ws.length ≤ 140737488351232 ∧ ∀ y ∈ x.ws, wf64 y
set_option maxRecDepth 100000 in
theorem elem_dt (m b off : Nat) (cs : List Value) (y : DataW H × List MemPlace) (h : DataW.trod enc Tryz.prog W base sp hd m 102 cs = some y) (hw : Wok 102 y.1) (hc : ∀ (j : Nat) v, cs[j]? = some v → W.cell? ⟨b, off + j, none⟩ = some v) :
    ∃ x : Dt, DtC W b off x ∧ okD x := by
  obtain ⟨xs, n, rfl, rfl, hl, hlen, hf⟩ := DataW.trod_struct Tryz.underlying102 h
  rw [cellsDt] at hl
  match xs, hlen, cs, hl with
  | [y0, y1, y2], _, [v0, v1, v2], _ =>
    have g0 := hf 0 _ rfl
    have g1 := hf 1 _ rfl
    have g2 := hf 2 _ rfl
    simp [cellsStr, cellsBool, cellsSlI] at g0 g1 g2
    obtain ⟨z0, q0, r0, w0⟩ := DataW.trod_string Tryz.underlying9 g0
    obtain ⟨z1, q1, r1⟩ := DataW.trod_bool Tryz.underlying4 g1
    have k0 : Wok 9 y0.1 := hw.part Tryz.underlying102 rfl (j := 0) rfl rfl
    have k2 : Wok 22 y2.1 := hw.part Tryz.underlying102 rfl (j := 2) rfl rfl
    rw [r0] at k0
    obtain ⟨lv, l, hv, hiv, hwl, hll⟩ := open_ints_w g2 k2
    simp only [List.cons.injEq, and_true] at q0 q1 hv
    subst q0 q1 hv
    exact ⟨⟨z0, z1, l⟩, ⟨hc 0 _ rfl, hc 1 _ rfl, _, hc 2 _ rfl, hiv⟩, k0.str, hll, hwl⟩
theorem open_dts_w {fuel : Nat} {cs : List Value} {x : DataW H × List MemPlace} (h : DataW.trod enc Tryz.prog W base sp hd fuel 39 cs = some x) (hB : Wok 39 x.1) :
    ∃ (v : Value) (l : List Dt), cs = [v] ∧ DtsV W v l ∧ (∀ x ∈ l, okD x) ∧ l.length ≤ 140737488351232 :=
  open_list 3 (by decide) Tryz.underlying39 cellsDt (of_decide_eq_true (by kernel_rfl)) DtC okD (fun m _ b off cs y h hw hc => elem_dt m b off cs y h hw hc) h hB
set_option maxRecDepth 100000 in
/-- Code that came in. -/
theorem open_code {v : Value} {d : DataW H} {p : List MemPlace} (hval : Value.okWide Tryz.prog W .any b0 43 v) (h : DataW.Trod enc Tryz.prog W base sp hd 43 v d p) (hk : Wok 43 d) :
    ∃ (c : Cod) (dv ov gv : Value), v = codV c dv ov gv ∧ CodW W c dv ov gv ∧ wfC c := by
  obtain ⟨cs, rfl, hsz⟩ := okWide_struct Tryz.underlying43 hval
  have hcc : ∃ c0 c1 c2 c3 c4 c5, cs = #[c0, c1, c2, c3, c4, c5] := by
    obtain ⟨cl⟩ := cs
    have h2 : cl.length = 6 := hsz.trans cellsCode
    match cl, h2 with
    | [c0, c1, c2, c3, c4, c5], _ => exact ⟨c0, c1, c2, c3, c4, c5, rfl⟩
  obtain ⟨c0, c1, c2, c3, c4, c5, rfl⟩ := hcc
  obtain ⟨fuel, hf⟩ := h
  obtain ⟨xs, n, rfl, hx, hl, hlen, hg⟩ := DataW.trod_struct Tryz.underlying43 hf
  simp only [Prod.mk.injEq] at hx
  obtain ⟨rfl, _⟩ := hx
  match xs, hlen with
  | [y0, y1, y2, y3, y4, y5], _ =>
    have g0 := hg 0 _ rfl
    have g1 := hg 1 _ rfl
    have g2 := hg 2 _ rfl
    have g3 := hg 3 _ rfl
    have g4 := hg 4 _ rfl
    have g5 := hg 5 _ rfl
    simp [cellsStr, cellsInt, cellsSlD, cellsSlO, cellsSlE, Value.cells] at g0 g1 g2 g3 g4 g5
    obtain ⟨z0, q0, r0, w0⟩ := DataW.trod_string Tryz.underlying9 g0
    obtain ⟨z4, q4, r4, w4⟩ := DataW.trod_int Tryz.underlying3 g4
    obtain ⟨z5, q5, r5, w5⟩ := DataW.trod_int Tryz.underlying3 g5
    have k0 : Wok 9 y0.1 := hk.part Tryz.underlying43 rfl (j := 0) rfl rfl
    have k1 : Wok 39 y1.1 := hk.part Tryz.underlying43 rfl (j := 1) rfl rfl
    have k2 : Wok 40 y2.1 := hk.part Tryz.underlying43 rfl (j := 2) rfl rfl
    have k3 : Wok 41 y3.1 := hk.part Tryz.underlying43 rfl (j := 3) rfl rfl
    rw [r0] at k0
    obtain ⟨v1, l1, hv1, hd1, hw1, hl1⟩ := open_dts_w g1 k1
    obtain ⟨v2, l2, hv2, hd2, hw2, hl2⟩ := open_ops_w g2 k2
    obtain ⟨v3, l3, hv3, hd3, hw3, hl3⟩ := open_ens_w g3 k3
    simp only [List.cons.injEq, and_true] at q0 q4 q5 hv1 hv2 hv3
    subst q0 q4 q5 hv1 hv2 hv3
    exact ⟨⟨z0, l1, l2, l3, z4, z5⟩, _, _, _, rfl, ⟨hd1, hd2, hd3⟩, ⟨k0.str, hw1, hw2, hw3, wf64_of w4, wf64_of w5, hl1, hl2, hl3⟩⟩
end
end Go.Proofs.YtdnckbcknahakaaGreat
