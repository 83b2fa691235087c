/- Merged by program: TN TD TH TE TF TG TJ TP TQ TS. -/
import Derived.Test.YtbaelbafhdjlnaaGreatDoorRows
import Derived.Test.YtbaelbafhdjlnaaGreatDoorM1
import Derived.ChangeMaps5
import Derived.OpenShut
import Derived.Lib.SmallJoins
import Derived.Deep.Slices
import Derived.ChangeArms
import Derived.WalkKit
import Derived.LoopTactic
import Derived.Deep.QuietTactic
import Derived.BigQuiet
import Derived.Outline
import Derived.IntWalk
import Derived.Deep.RegionHeld3
import Derived.Laws.AppendOwn
import Derived.Deep.RegionHeld
/- Trees of nodes that came in. -/
namespace Go.Proofs.YtbaelbafhdjlnaaGreatDoor
open Go.ChangeShapes Go.WideShapes Go.ChangeAt Go.RowKit
set_option linter.unusedVariables false

/-- A tree. -/
inductive Nd where
  | mk (op n : Int) (s : ByteArray) (l : List Nd) (a : Int)
instance : Inhabited Nd := ⟨⟨0, 0, ⟨#[]⟩, [], 0⟩⟩
def Nd.op : Nd → Int | ⟨x, _, _, _, _⟩ => x
def Nd.n : Nd → Int | ⟨_, x, _, _, _⟩ => x
def Nd.s : Nd → ByteArray | ⟨_, _, x, _, _⟩ => x
def Nd.l : Nd → List Nd | ⟨_, _, _, x, _⟩ => x
def Nd.a : Nd → Int | ⟨_, _, _, _, x⟩ => x
mutual
def Nd.bulk : Nd → Nat
  | ⟨_, _, s, l, _⟩ => s.size + 1 + bulks l
def bulks : List Nd → Nat
  | [] => 0
  | t :: r => t.bulk + bulks r
end
theorem Nd.bulk_eq (t : Nd) : t.bulk = t.s.size + 1 + bulks t.l := by
  obtain ⟨o, n, s, l, a⟩ := t
  rw [Nd.bulk]; rfl
theorem bulks_mem {t : Nd} : ∀ {l : List Nd}, t ∈ l → t.bulk ≤ bulks l
  | x :: r, h => by
    rw [bulks]
    rcases List.mem_cons.1 h with rfl | h
    · omega
    · have := bulks_mem h; omega
theorem bulks_len : ∀ l : List Nd, l.length ≤ bulks l
  | [] => by simp [bulks]
  | t :: r => by
    have := bulks_len r
    rw [bulks, List.length_cons, Nd.bulk_eq]
    omega
def wf64 (x : Int) : Prop := -9223372036854775808 ≤ x ∧ x ≤ 9223372036854775807
/-- A node's five cells. -/
structure NdC (w : World) (b off : Nat) (t : Nd) (lv : Value) : Prop where
  op : w.cell? ⟨b, off, none⟩ = some (.int .i64 t.op)
  n : w.cell? ⟨b, off + 1, none⟩ = some (.int .i64 t.n)
  s : w.cell? ⟨b, off + 2, none⟩ = some (.string t.s)
  l : w.cell? ⟨b, off + 3, none⟩ = some lv
  a : w.cell? ⟨b, off + 4, none⟩ = some (.int .i64 t.a)
structure wfN (t : Nd) : Prop where
  op : wf64 t.op
  n : wf64 t.n
  a : wf64 t.a
  s : t.s.size ≤ 140737488351232
/-- A slice of nodes that lie in memory with all that is below them. -/
inductive LN (w : World) : Value → List Nd → Prop where
  | mk (a : Option Addr) (cap : Nat) (l : List Nd) (lv : Nat → Value) (hc : l.length ≤ cap) (hm : cap ≤ maxLen) (hz : a = none → cap = 0)
      (hr : 0 < l.length → ∃ b off, a = some ⟨b, off, none⟩ ∧ ∀ (i : Nat) (t : Nd), l[i]? = some t → NdC w b (off + i * 5) t (lv i))
      (hw : ∀ t ∈ l, wfN t) (hs : ∀ (i : Nat) (t : Nd), l[i]? = some t → LN w (lv i) t.l) : LN w (.slice a l.length cap) l
theorem NdC.fr {w w' : World} {b off : Nat} {t : Nd} {lv : Value} (h : NdC w b off t lv) (k : Fr w w') : NdC w' b off t lv :=
  ⟨k.cell h.op, k.cell h.n, k.cell h.s, k.cell h.l, k.cell h.a⟩
theorem LN.fr {w w' : World} {v : Value} {l : List Nd} (h : LN w v l) (k : Fr w w') : LN w' v l := by
  induction h with
  | mk a cap l lv hc hm hz hr hw hs ih =>
    exact .mk a cap l lv hc hm hz (fun hp => by obtain ⟨b, off, e, hg⟩ := hr hp; exact ⟨b, off, e, fun i t ht => (hg i t ht).fr k⟩) hw ih
theorem LN.nil (w : World) : LN w (.slice none 0 0) [] :=
  .mk none 0 [] (fun _ => .slice none 0 0) (Nat.le_refl _) (Nat.zero_le _) (fun _ => rfl) (fun h => absurd h (by decide)) (fun t h => by cases h) (fun i t h => by simp at h)
/-- What a slice of nodes is. -/
theorem LN.form {w : World} {v : Value} {l : List Nd} (h : LN w v l) : ∃ a cap, v = .slice a l.length cap ∧ l.length ≤ cap ∧ cap ≤ maxLen ∧ (a = none → cap = 0) := by
  cases h with
  | mk a cap l lv hc hm hz hr hw hs => exact ⟨a, cap, rfl, hc, hm, hz⟩
/-- One of its nodes. -/
theorem LN.at_ {w : World} {a : Option Addr} {n cap : Nat} {l : List Nd} (h : LN w (.slice a n cap) l) {i : Nat} {t : Nd} (ht : l[i]? = some t) :
    ∃ b off lv, a = some ⟨b, off, none⟩ ∧ NdC w b (off + i * 5) t lv ∧ LN w lv t.l ∧ wfN t := by
  cases h with
  | mk a cap l lv hc hm hz hr hw hs =>
    have hi := (List.getElem?_eq_some_iff.1 ht).1
    obtain ⟨b, off, e, hg⟩ := hr (by omega)
    exact ⟨b, off, lv i, e, hg i t ht, hs i t ht, hw t (List.mem_of_getElem? ht)⟩
theorem nbulk_one {H : Type} (d : DataW H) : 1 ≤ Rows.uptoBulk d := by
  cases d with
  | lit l => cases l <;> simp [Rows.uptoBulk]
  | nil => simp [Rows.uptoBulk]
  | ptr d => simp [Rows.uptoBulk]
  | slice elems spare => simp [Rows.uptoBulk]
  | agg parts => simp [Rows.uptoBulk]
  | iface t d => simp [Rows.uptoBulk]
  | map entries => simp [Rows.uptoBulk]
  | held h => simp [Rows.uptoBulk]
theorem nbulk_part {H : Type} {d : DataW H} {l : List (DataW H)} (h : d ∈ l) : Rows.uptoBulk d ≤ Rows.uptoBulkAll l := by
  induction l with
  | nil => cases h
  | cons x r ih =>
    simp only [Rows.uptoBulkAll]
    cases List.mem_cons.1 h with
    | inl e => subst e; omega
    | inr e => have := ih e; omega
theorem bulks_le {H : Type} : ∀ (l : List Nd) (ds : List (DataW H)), l.length = ds.length → (∀ (i : Nat) (t : Nd) (d : DataW H), l[i]? = some t → ds[i]? = some d → t.bulk ≤ Rows.uptoBulk d) → bulks l ≤ Rows.uptoBulkAll ds
  | [], _, _, _ => by rw [bulks]; omega
  | t :: r, [], h, _ => by simp at h
  | t :: r, d :: ds, h, hh => by
    have h0 := hh 0 t d rfl rfl
    have h1 := bulks_le r ds (by simpa using h) (fun i t d h1 h2 => hh (i + 1) t d (by simpa using h1) (by simpa using h2))
    rw [bulks, Rows.uptoBulkAll]
    omega
theorem cellsNode : Tryz.prog.cellsOf 32 = 5 := by kernel_rfl
theorem cellsSl : Tryz.prog.cellsOf 22 = 1 := by kernel_rfl
theorem ncellsInt : Tryz.prog.cellsOf 3 = 1 := by kernel_rfl
theorem ncellsStr : Tryz.prog.cellsOf 9 = 1 := by kernel_rfl
theorem wf64_of {x : Int} (h : (Lit.int .i64 x).wf = true) : wf64 x := by
  have h' : -9223372036854775808 ≤ x ∧ x ≤ 9223372036854775807 := by simpa [Lit.wf, IntKind.min, IntKind.max, IntKind.signed, IntKind.bits] using h
  exact h'
section
variable {H : Type} {enc : TypeId × Value → H} {W : World} {base : Nat} {sp : Nat → Bool} {hd : Bool}
set_option maxRecDepth 100000 in
/-- A node's five cells, read. -/
theorem open_cells {fuel : Nat} {cs : List Value} {x : DataW H × List MemPlace} (h : DataW.trod enc Tryz.prog W base sp hd fuel 32 cs = some x) :
    ∃ (op n : Int) (s : ByteArray) (lv : Value) (a : Int) (m : Nat) (y : DataW H × List MemPlace), cs = [.int .i64 op, .int .i64 n, .string s, lv, .int .i64 a] ∧ m < fuel ∧ DataW.trod enc Tryz.prog W base sp hd m 22 [lv] = some y ∧
      wf64 op ∧ wf64 n ∧ wf64 a ∧ s.size + 1 + Rows.uptoBulk y.1 ≤ Rows.uptoBulk x.1 := by
  obtain ⟨xs, n, rfl, rfl, hl, hlen, hf⟩ := DataW.trod_struct Tryz.underlying32 h
  rw [cellsNode] at hl
  match xs, hlen, cs, hl with
  | [y0, y1, y2, y3, y4], _, [v0, v1, v2, v3, v4], _ =>
    have g0 := hf 0 _ rfl
    have g1 := hf 1 _ rfl
    have g2 := hf 2 _ rfl
    have g3 := hf 3 _ rfl
    have g4 := hf 4 _ rfl
    simp [ncellsInt, ncellsStr, cellsSl] at g0 g1 g2 g3 g4
    obtain ⟨z0, q0, r0, w0⟩ := DataW.trod_int Tryz.underlying3 g0
    obtain ⟨z1, q1, r1, w1⟩ := DataW.trod_int Tryz.underlying3 g1
    obtain ⟨s2, q2, r2, w2⟩ := DataW.trod_string Tryz.underlying9 g2
    obtain ⟨z4, q4, r4, w4⟩ := DataW.trod_int Tryz.underlying3 g4
    simp only [List.cons.injEq, and_true] at q0 q1 q2 q4
    subst q0 q1 q2 q4
    refine ⟨z0, z1, s2, v3, z4, n, y3, rfl, by omega, g3, wf64_of w0, wf64_of w1, wf64_of w4, ?_⟩
    have e2 : Rows.uptoBulk y2.1 = s2.size + 1 := by
      rw [r2]
      simp only [Rows.uptoBulk]
      rw [Array.length_toList]; rfl
    simp only [List.map_cons, List.map_nil, Rows.uptoBulk, Rows.uptoBulkAll, e2]
    omega
set_option maxRecDepth 100000 in
/-- Whatever reads as a slice of nodes is one. -/
theorem open_nodes : ∀ (fuel : Nat) (cs : List Value) (x : DataW H × List MemPlace), DataW.trod enc Tryz.prog W base sp hd fuel 22 cs = some x → Rows.uptoBulk x.1 ≤ 140737488351232 →
    ∃ (v : Value) (l : List Nd), cs = [v] ∧ LN W v l ∧ bulks l < Rows.uptoBulk x.1 := by
  intro fuel
  induction fuel using Nat.strongRecOn with
  | _ fuel ih =>
    intro cs x h hB
    rcases DataW.trod_slice Tryz.underlying22 h with ⟨rfl, rfl⟩ | ⟨a, len, cap, elems, rest, n, rfl, rfl, rfl, hb, hl, hm, hlen, hel, _, _⟩
    · exact ⟨_, [], rfl, LN.nil W, by simp [bulks, Rows.uptoBulk]⟩
    · rw [cellsNode] at hel
      simp only [Rows.uptoBulk] at hB ⊢
      have hel' : ∀ i, i < len → ∃ q : Nd × Value, (W.cell? (a.add (i * 5)) = some (.int .i64 q.1.op) ∧ W.cell? ((a.add (i * 5)).add 1) = some (.int .i64 q.1.n) ∧ W.cell? ((a.add (i * 5)).add 2) = some (.string q.1.s) ∧ W.cell? ((a.add (i * 5)).add 3) = some q.2 ∧ W.cell? ((a.add (i * 5)).add 4) = some (.int .i64 q.1.a)) ∧ LN W q.2 q.1.l ∧ wfN q.1 ∧ (∀ d, (elems.map (·.1))[i]? = some d → q.1.bulk ≤ Rows.uptoBulk d) := by
        intro i hi
        obtain ⟨e, he⟩ : ∃ e, elems[i]? = some e := ⟨_, List.getElem?_eq_getElem (by omega)⟩
        have h0 := hel i hi
        rw [he] at h0
        obtain ⟨cs', h1, h2⟩ := Option.bind_eq_some_iff.1 h0
        obtain ⟨_, hln, hcell⟩ := World.cells?_some h1
        obtain ⟨op, nn, s, lv, at_, m, y, rfl, hmn, hy, w0, w1, w4, hbk⟩ := open_cells h2
        have hed : Rows.uptoBulk e.1 ≤ Rows.uptoBulkAll (elems.map (·.1)) := nbulk_part (List.mem_map.2 ⟨e, List.mem_of_getElem? he, rfl⟩)
        obtain ⟨v, l, hv, hln, hbl⟩ := ih m (by omega) [lv] y hy (by omega)
        obtain rfl : lv = v := by simpa using hv
        have e0 := hcell 0 (by omega)
        have e1 := hcell 1 (by omega)
        have e2 := hcell 2 (by omega)
        have e3 := hcell 3 (by omega)
        have e4 := hcell 4 (by omega)
        refine ⟨(⟨op, nn, s, l, at_⟩, lv), ⟨by simpa [Addr.add, Nd.op] using e0, by simpa [Nd.n] using e1, by simpa [Nd.s] using e2, by simpa using e3, by simpa [Nd.a] using e4⟩, hln, ⟨w0, w1, w4, ?_⟩, fun d hd => ?_⟩
        · show s.size ≤ _
          omega
        · rw [List.getElem?_map, he] at hd
          obtain rfl : e.1 = d := by simpa using hd
          rw [Nd.bulk_eq]
          show s.size + 1 + bulks l ≤ _
          omega
      obtain ⟨q, hq⟩ := Deep.choose_lt hel'
      have hLl : ((List.range len).map fun i => (q i).1).length = len := by simp
      have hget : ∀ (i : Nat) (t : Nd), ((List.range len).map fun i => (q i).1)[i]? = some t → i < len ∧ t = (q i).1 := fun i t ht => by
        rw [List.getElem?_map] at ht
        obtain ⟨j, hj, rfl⟩ := Option.map_eq_some_iff.1 ht
        obtain ⟨hjl, rfl⟩ := List.getElem?_eq_some_iff.1 hj
        rw [List.length_range] at hjl
        exact ⟨hjl, by rw [List.getElem_range]⟩
      refine ⟨_, (List.range len).map fun i => (q i).1, rfl, ?_, ?_⟩
      · have hmk := LN.mk (w := W) (some a) cap ((List.range len).map fun i => (q i).1) (fun i => (q i).2) (by rw [hLl]; exact hl) hm (fun h => by cases h) (fun hp => by
            rw [hLl] at hp
            obtain ⟨⟨h0, _⟩, _⟩ := hq 0 hp
            obtain ⟨b, off, spot⟩ := a
            cases spot with
            | some x =>
              simp only [Addr.add, Nat.zero_mul, if_true, World.cell?] at h0
              split at h0 <;> simp at h0
            | none =>
              refine ⟨b, off, rfl, fun i t ht => ?_⟩
              obtain ⟨hi, rfl⟩ := hget i t ht
              obtain ⟨⟨h0, h1, h2, h3, h4⟩, _⟩ := hq i hi
              rw [ap_add] at h0
              rw [ap_add, ap_add] at h1 h2 h3 h4
              exact ⟨h0, h1, h2, h3, h4⟩)
          (fun t ht => by
            obtain ⟨i, hi⟩ := List.getElem?_of_mem ht
            obtain ⟨hil, rfl⟩ := hget i t hi
            exact (hq i hil).2.2.1)
          (fun i t ht => by
            obtain ⟨hil, rfl⟩ := hget i t ht
            exact (hq i hil).2.1)
        rw [hLl] at hmk
        exact hmk
      · have := bulks_le ((List.range len).map fun i => (q i).1) (elems.map (·.1)) (by rw [hLl, List.length_map, hlen]) (fun i t d ht hd => by
          obtain ⟨hil, rfl⟩ := hget i t ht
          exact (hq i hil).2.2.2 d hd)
        omega
end
end Go.Proofs.YtbaelbafhdjlnaaGreatDoor

/- The depth and the size of trees: contracts of the document's own functions. -/
namespace Go.Proofs.YtbaelbafhdjlnaaGreatDoor
open Go.RowKit
set_option linter.unusedVariables false

def intOf : Value → Int
  | .int _ n => n
  | _ => 0
def deepL (k : Nat) (l : List Nd) : Bool := match k with
  | 0 => l.any fun _ => true
  | k + 1 => l.any fun t => deepL k t.l
theorem any_drop {α : Type} (p : α → Bool) {l : List α} {j : Nat} {t : α} (ht : l[j]? = some t) : (l.drop j).any p = (p t || (l.drop (j + 1)).any p) := by
  obtain ⟨hj, rfl⟩ := List.getElem?_eq_some_iff.1 ht
  rw [List.drop_eq_getElem_cons hj, List.any_cons]
set_option maxHeartbeats 2000000 in
theorem Deep_any : ∀ (k : Nat), k ≤ 1000000 → ∀ (l : List Nd) (v : Value) (w : World), LN w v l →
    Calls Tryz.prog 44 #[v, .int .i64 k] w fun e w' => e = .returned (.bool (deepL k l)) ∧ Fr w w' := by
  intro k
  induction k with
  | zero =>
    intro _ l v w hv
    obtain ⟨a, cap, rfl, hc, _, _⟩ := hv.form
    show Calls _ _ #[_, .int .i64 0] w _
    cases l with
    | nil =>
      rw [show deepL 0 [] = false from rfl]
      go_enter Tryz.func44, Tryz.ntmps44
      go_wp2_with fail
      go_loopw [5] (fun i wr => i = .int .i64 0 ∧ w = wr) (fun _ _ => 0)
      case atStart => exact ⟨rfl, rfl⟩
      case round =>
        obtain ⟨rfl, rfl⟩ := hrel
        go_wp2_with fail
        go_ret
        exact ⟨rfl, Fr.refl _⟩
    | cons t r =>
      rw [show deepL 0 (t :: r) = true by simp [deepL]]
      have h1 : 0 < (t :: r).length := by simp
      obtain ⟨n, hn⟩ : ∃ n, n = (t :: r).length := ⟨_, rfl⟩
      rw [← hn] at hc h1 ⊢
      clear hn hv
      go_enter Tryz.func44, Tryz.ntmps44
      go_wp2_with fail
      go_loopw [5] (fun i wr => i = .int .i64 0 ∧ w = wr) (fun _ _ => 0)
      case atStart => exact ⟨rfl, rfl⟩
      case round =>
        obtain ⟨rfl, rfl⟩ := hrel
        go_wp2_with fail
        go_ret
        exact ⟨rfl, Fr.refl _⟩
  | succ k ih =>
    intro hk l v w hv
    have IH := Lib.hid (ih (by omega))
    have HV := Lib.hid hv
    obtain ⟨a, cap, rfl, hc, hm, _⟩ := hv.form
    obtain ⟨n, hn⟩ : ∃ n, n = l.length := ⟨_, rfl⟩
    have HN := Lib.hid hn
    rw [← hn] at hc HV ⊢
    have hm' : n ≤ maxLen := by omega
    unfold maxLen at hm'
    have z1 : (((k + 1 : Nat) : Int) == 0) = false := by rw [beq_eq_false_iff_ne]; omega
    have z2 : IntKind.i64.wrap (((k + 1 : Nat) : Int) - 1) = (k : Int) := by rw [show ((k + 1 : Nat) : Int) - 1 = (k : Int) by omega]; exact IntWalk.i64_in _ (by omega)
    obtain ⟨kk, hkk⟩ : ∃ x : Int, x = ((k + 1 : Nat) : Int) := ⟨_, rfl⟩
    rw [← hkk] at z1 z2 ⊢
    obtain ⟨D, hD⟩ : ∃ d, d = deepL (k + 1) l := ⟨_, rfl⟩
    have HD := Lib.hid hD
    rw [← hD]
    clear hn hv ih hm hkk hD
    go_enter Tryz.func44, Tryz.ntmps44
    go_wp2_with fail
    go_loopw [5] (fun i wr => ∃ j : Nat, j ≤ n ∧ i = .int .i64 j ∧ Hid (D = (l.drop j).any fun t => deepL k t.l) ∧ Fr w wr) (fun i _ => n - (intOf i).toNat)
    case atStart => exact ⟨0, Nat.zero_le _, rfl, Lib.hid (by rw [HD.out]; rfl), Fr.refl _⟩
    case round =>
      obtain ⟨j, hj, rfl, HJ, hfr⟩ := hrel
      by_cases hlt : j < n
      · obtain ⟨t, ht⟩ : ∃ t, l[j]? = some t := ⟨_, List.getElem?_eq_getElem (by rw [← HN.out]; exact hlt)⟩
        obtain ⟨b, off, lv, rfl, hc5, hln, _⟩ := (HV.out.fr hfr).at_ ht
        have p3 := hc5.l
        have HL := Lib.hid hln
        have hstep := any_drop (fun t => deepL k t.l) ht
        obtain ⟨D1, hD1⟩ : ∃ d, d = deepL k t.l := ⟨_, rfl⟩
        have HC : Hid (∀ W, Fr wr W → Calls Tryz.prog 44 #[lv, .int .i64 (k : Int)] W fun e w' => e = .returned (.bool D1) ∧ Fr W w') := Lib.hid (fun W hW => by rw [hD1]; exact IH.out t.l lv W (HL.out.fr hW))
        rw [← hD1] at hstep
        have HST := Lib.hid hstep
        clear hc5 hln ht hstep hD1
        cases D1 with
        | true =>
          have hDt : D = true := by rw [HJ.out, HST.out]; rfl
          subst hDt
          go_wp2_with fail
          refine (HC.out _ (Fr.refl _)).mono ?_
          rintro e w1 ⟨rfl, hf1⟩
          have hfin := hfr.trans hf1
          go_wp2_with fail
          go_ret
          exact ⟨rfl, hfin⟩
        | false =>
          have HJ2 : Hid (D = (l.drop (j + 1)).any fun t => deepL k t.l) := Lib.hid (by rw [HJ.out, HST.out]; rfl)
          go_wp2_with fail
          refine (HC.out _ (Fr.refl _)).mono ?_
          rintro e w1 ⟨rfl, hf1⟩
          have hfin := hfr.trans hf1
          go_wp2_with fail
          go_roundw
          case rel => exact ⟨j + 1, by omega, by go_num, HJ2, hfin⟩
          case measure => simp [intOf]; omega
      · obtain rfl : j = n := by omega
        have hDf : D = false := by rw [HJ.out, List.drop_eq_nil_of_le (by rw [← HN.out]; exact Nat.le_refl _)]; rfl
        subst hDf
        go_wp2_with fail
        go_ret
        exact ⟨rfl, hfr⟩
end Go.Proofs.YtbaelbafhdjlnaaGreatDoor

/- How many nodes and letters trees have, and whether they are heavy: contracts of the document's own functions. -/
namespace Go.Proofs.YtbaelbafhdjlnaaGreatDoor
open Go.RowKit
set_option linter.unusedVariables false

mutual
def cntN : Nd → Nat → Nat
  | ⟨_, _, _, l, _⟩, k => cntL l 0 k
def cntL : List Nd → Nat → Nat → Nat
  | [], n, _ => n
  | t :: r, n, k => if n ≤ k then cntL r (n + 1 + cntN t (k - n)) k else n
end
theorem cntN_eq (t : Nd) (k : Nat) : cntN t k = cntL t.l 0 k := by
  obtain ⟨o, n, s, l, a⟩ := t
  rw [cntN]; rfl
theorem cntL_lo : ∀ (l : List Nd) (n k : Nat), n ≤ cntL l n k
  | [], n, k => by rw [cntL]; omega
  | t :: r, n, k => by
    rw [cntL]
    split
    · have := cntL_lo r (n + 1 + cntN t (k - n)) k; omega
    · omega
mutual
theorem cntN_hi : ∀ (t : Nd) (k : Nat), cntN t k + 1 ≤ t.bulk
  | ⟨o, n, s, l, a⟩, k => by
    rw [cntN, Nd.bulk]
    have := cntL_hi l 0 k
    omega
theorem cntL_hi : ∀ (l : List Nd) (n k : Nat), cntL l n k ≤ n + bulks l
  | [], n, k => by rw [cntL, bulks]; omega
  | t :: r, n, k => by
    rw [cntL, bulks]
    have h1 := cntN_hi t (k - n)
    split
    · have := cntL_hi r (n + 1 + cntN t (k - n)) k; omega
    · omega
end
def txC (n k : Nat) : Nat := if k < n then k + 1 else n
mutual
def txN : Nd → Nat → Nat
  | ⟨_, _, _, l, _⟩, k => txC (txL l 0 k) k
def txL : List Nd → Nat → Nat → Nat
  | [], n, _ => n
  | t :: r, n, k => if n ≤ k then txL r (if n + t.s.size ≤ k then n + t.s.size + txN t (k - (n + t.s.size)) else n + t.s.size) k else n
end
theorem txN_eq (t : Nd) (k : Nat) : txN t k = txC (txL t.l 0 k) k := by
  obtain ⟨o, n, s, l, a⟩ := t
  rw [txN]; rfl
theorem txC_hi (n k : Nat) : txC n k ≤ n := by unfold txC; split <;> omega
theorem txL_lo : ∀ (l : List Nd) (n k : Nat), n ≤ txL l n k
  | [], n, k => by rw [txL]; omega
  | t :: r, n, k => by
    rw [txL]
    split
    · obtain ⟨x, hx⟩ : ∃ x, x = (if n + t.s.size ≤ k then n + t.s.size + txN t (k - (n + t.s.size)) else n + t.s.size) := ⟨_, rfl⟩
      rw [← hx]
      have h1 : n ≤ x := by rw [hx]; split <;> omega
      have := txL_lo r x k
      omega
    · omega
mutual
theorem txN_hi : ∀ (t : Nd) (k : Nat), txN t k + t.s.size + 1 ≤ t.bulk
  | ⟨o, n, s, l, a⟩, k => by
    rw [txN, Nd.bulk]
    have := txL_hi l 0 k
    have := txC_hi (txL l 0 k) k
    show _ + s.size + 1 ≤ _
    omega
theorem txL_hi : ∀ (l : List Nd) (n k : Nat), txL l n k ≤ n + bulks l
  | [], n, k => by rw [txL, bulks]; omega
  | t :: r, n, k => by
    rw [txL, bulks]
    have h1 := txN_hi t (k - (n + t.s.size))
    split
    · obtain ⟨x, hx⟩ : ∃ x, x = (if n + t.s.size ≤ k then n + t.s.size + txN t (k - (n + t.s.size)) else n + t.s.size) := ⟨_, rfl⟩
      rw [← hx]
      have h2 : x ≤ n + t.bulk := by rw [hx]; split <;> omega
      have := txL_hi r x k
      omega
    · omega
end
theorem drop1 {α : Type} {L : List α} {j : Nat} {t : α} (h : L[j]? = some t) : L.drop j = t :: L.drop (j + 1) := by
  obtain ⟨hj, rfl⟩ := List.getElem?_eq_some_iff.1 h
  exact List.drop_eq_getElem_cons hj
set_option maxHeartbeats 2000000 in
theorem Nodes_gen (Q : Nat → List Nd → Prop) (hQ : ∀ m l, Q m l → ∀ t ∈ l, ∃ m', m' < m ∧ Q m' t.l) (hQD : ∀ m l k, Q m l → k ≤ 1000000 → cntL l 0 k ≤ 140737488351232) : ∀ (m : Nat) (l : List Nd), Q m l → ∀ (v : Value) (k : Nat) (w : World), k ≤ 1000000 → LN w v l →
    Calls Tryz.prog 62 #[v, .int .i64 k] w fun e w' => e = .returned (.int .i64 (cntL l 0 k : Nat)) ∧ Fr w w' := by
  intro m
  induction m using Nat.strongRecOn with
  | _ m ih =>
    intro l hl v k w hk hv
    have IH := Lib.hid ih
    have HV := Lib.hid hv
    have HB := Lib.hid hl
    obtain ⟨a, cap, rfl, hc, hm, _⟩ := hv.form
    obtain ⟨n, hn⟩ : ∃ n, n = l.length := ⟨_, rfl⟩
    have HN := Lib.hid hn
    rw [← hn] at hc HV ⊢
    obtain ⟨D, hD⟩ : ∃ d, d = cntL l 0 k := ⟨_, rfl⟩
    have HD := Lib.hid hD
    have hDb : D ≤ 140737488351232 := by rw [hD]; exact hQD m l k hl hk
    rw [← hD]
    have hn2 : n ≤ maxLen := by omega
    unfold maxLen at hn2
    have HQ := Lib.hid hQ
    clear hn hv ih hm hD hl hQ hQD
    go_enter Tryz.func62, Tryz.ntmps62
    go_wp2_with fail
    go_loopw [5, 6] (fun s i wr => ∃ c j : Nat, j ≤ n ∧ s = .int .i64 c ∧ i = .int .i64 j ∧ Hid (D = cntL (l.drop j) c k) ∧ Fr w wr) (fun _ i _ => n - (intOf i).toNat)
    case atStart => exact ⟨0, 0, Nat.zero_le _, rfl, rfl, Lib.hid (by rw [HD.out]; rfl), Fr.refl _⟩
    case round =>
      obtain ⟨c, j, hj, rfl, rfl, HJ, hfr⟩ := hrel
      have hcD : c ≤ D := by rw [HJ.out]; exact cntL_lo _ _ _
      by_cases hlt : j < n
      · obtain ⟨t, ht⟩ : ∃ t, l[j]? = some t := ⟨_, List.getElem?_eq_getElem (by rw [← HN.out]; exact hlt)⟩
        by_cases hck : c ≤ k
        · obtain ⟨b, off, lv, rfl, hc5, hln, _⟩ := (HV.out.fr hfr).at_ ht
          have p3 := hc5.l
          have HL := Lib.hid hln
          have hmem := List.mem_of_getElem? ht
          obtain ⟨m', hm', hq'⟩ := HQ.out m l HB.out t hmem
          have hstep : D = cntL (l.drop (j + 1)) (c + 1 + cntL t.l 0 (k - c)) k := by rw [HJ.out, drop1 ht, cntL, if_pos hck, cntN_eq]
          obtain ⟨d, hd⟩ : ∃ d, d = cntL t.l 0 (k - c) := ⟨_, rfl⟩
          have HC : Hid (∀ W, Fr wr W → Calls Tryz.prog 62 #[lv, .int .i64 ((k - c : Nat) : Int)] W fun e w' => e = .returned (.int .i64 (d : Int)) ∧ Fr W w') := Lib.hid (fun W hW => by
            rw [hd]; exact IH.out m' hm' t.l hq' lv (k - c) W (by omega) (HL.out.fr hW))
          rw [← hd] at hstep
          have hsd : c + 1 + d ≤ D := by rw [hstep]; exact cntL_lo _ _ _
          have HST := Lib.hid hstep
          have y1 : IntKind.i64.wrap ((k : Int) - (c : Int)) = ((k - c : Nat) : Int) := by rw [show (k : Int) - (c : Int) = ((k - c : Nat) : Int) by omega]; exact IntWalk.i64_in _ (by omega)
          have y2 : IntKind.i64.wrap ((c : Int) + 1) = ((c + 1 : Nat) : Int) := IntWalk.i64_in _ (by omega)
          have y3 : IntKind.i64.wrap (((c + 1 : Nat) : Int) + (d : Int)) = ((c + 1 + d : Nat) : Int) := IntWalk.i64_in _ (by omega)
          obtain ⟨kc, hkc⟩ : ∃ x : Nat, x = k - c := ⟨_, rfl⟩
          obtain ⟨c1, hc1⟩ : ∃ x : Nat, x = c + 1 := ⟨_, rfl⟩
          obtain ⟨c2, hc2⟩ : ∃ x : Nat, x = c + 1 + d := ⟨_, rfl⟩
          rw [← hkc] at y1 HC
          rw [← hc2] at y3 HST
          rw [← hc1] at y2 y3
          clear hc5 hln ht hstep hd hmem hm' hq' hkc hc1 hc2 hsd hcD hDb
          go_wp2_with fail
          refine (HC.out _ (Fr.refl _)).mono ?_
          rintro e w1 ⟨rfl, hf1⟩
          have hfin := hfr.trans hf1
          go_wp2_with fail
          go_roundw
          case rel => exact ⟨c2, j + 1, by omega, rfl, by go_num, HST, hfin⟩
          case measure => simp [intOf]; omega
        · have hDc : D = c := by rw [HJ.out, drop1 ht, cntL, if_neg hck]
          have HDC := Lib.hid hDc
          clear ht hDc hcD
          go_wp2_with fail
          go_ret
          rw [HDC.out]
          exact ⟨rfl, hfr⟩
      · obtain rfl : j = n := by omega
        have hDc : D = c := by rw [HJ.out, List.drop_eq_nil_of_le (by rw [← HN.out]; exact Nat.le_refl _), cntL]
        have HDC := Lib.hid hDc
        clear hDc hcD
        go_wp2_with fail
        go_ret
        rw [HDC.out]
        exact ⟨rfl, hfr⟩
/-- A tree's count goes little beyond the bound, if the tree is not deep. -/
theorem cntL_cap : ∀ (d : Nat) (l : List Nd) (n k : Nat), deepL d l = false → n ≤ k + d + 1 → cntL l n k ≤ k + d + 1
  | d, [], n, k, _, hn => by rw [cntL]; exact hn
  | 0, t :: r, n, k, h, _ => by simp [deepL] at h
  | d + 1, t :: r, n, k, h, hn => by
    rw [cntL]
    split
    · have h' : deepL d t.l = false ∧ deepL (d + 1) r = false := by simpa [deepL] using h
      have h1 := cntL_cap d t.l 0 (k - n) h'.1 (by omega)
      rw [cntN_eq]
      exact cntL_cap (d + 1) r _ k h'.2 (by omega)
    · exact hn
termination_by d l => (d, l.length)
theorem txL_cap (M : Nat) : ∀ (l : List Nd) (n k : Nat), (∀ t ∈ l, t.s.size ≤ M) → n ≤ k + M + 1 → txL l n k ≤ k + M + 1
  | [], n, k, _, hn => by rw [txL]; exact hn
  | t :: r, n, k, h, hn => by
    rw [txL]
    split
    · obtain ⟨x, hx⟩ : ∃ x, x = (if n + t.s.size ≤ k then n + t.s.size + txN t (k - (n + t.s.size)) else n + t.s.size) := ⟨_, rfl⟩
      rw [← hx]
      have h1 := h t (by simp)
      have h3 : txN t (k - (n + t.s.size)) ≤ k - (n + t.s.size) + 1 := by rw [txN_eq]; unfold txC; split <;> omega
      have h2 : x ≤ k + M + 1 := by rw [hx]; split <;> omega
      exact txL_cap M r x k (fun u hu => h u (by simp [hu])) h2
    · exact hn
/-- Neither deep by d nor longer than a string may be. -/
theorem deep_mem {d : Nat} {l : List Nd} (h : deepL (d + 1) l = false) {t : Nd} (ht : t ∈ l) : deepL d t.l = false := by
  simp only [deepL, List.any_eq_false] at h
  simpa using h t ht
def Qd (m : Nat) (l : List Nd) : Prop := deepL m l = false ∧ m ≤ 1000000
theorem Qd_sub (m : Nat) (l : List Nd) (h : Qd m l) : ∀ t ∈ l, ∃ m', m' < m ∧ Qd m' t.l := by
  intro t ht
  obtain ⟨h1, h2⟩ := h
  match m, h1, h2 with
  | 0, h1, _ => simp [deepL] at h1; exact absurd ht (by simp [h1])
  | m + 1, h1, h2 => exact ⟨m, by omega, deep_mem h1 ht, by omega⟩
theorem Nodes_any (m : Nat) (hm : m ≤ 140737488351232) (l : List Nd) (hl : bulks l ≤ m) (v : Value) (k : Nat) (w : World) (hk : k ≤ 1000000) (hv : LN w v l) :
    Calls Tryz.prog 62 #[v, .int .i64 k] w fun e w' => e = .returned (.int .i64 (cntL l 0 k : Nat)) ∧ Fr w w' :=
  Nodes_gen (fun m l => bulks l ≤ m ∧ m ≤ 140737488351232) (fun m l h t ht => ⟨bulks t.l, by have := bulks_mem ht; have := t.bulk_eq; omega, Nat.le_refl _, by have := bulks_mem ht; have := t.bulk_eq; omega⟩)
    (fun m l k h hk => by have := cntL_hi l 0 k; omega) m l ⟨hl, hm⟩ v k w hk hv
theorem Nodes_deep (d : Nat) (hd : d ≤ 1000000) (l : List Nd) (hl : deepL d l = false) (v : Value) (k : Nat) (w : World) (hk : k ≤ 1000000) (hv : LN w v l) :
    Calls Tryz.prog 62 #[v, .int .i64 k] w fun e w' => e = .returned (.int .i64 (cntL l 0 k : Nat)) ∧ Fr w w' :=
  Nodes_gen Qd Qd_sub (fun m l k h hk => by have := cntL_cap m l 0 k h.1 (by omega); have := h.2; omega) d l ⟨hl, hd⟩ v k w hk hv
set_option maxHeartbeats 4000000 in
theorem Texts_any : ∀ (m : Nat) (l : List Nd), Qd m l → ∀ (v : Value) (k : Nat) (w : World), k ≤ 1000000 → LN w v l →
    Calls Tryz.prog 63 #[v, .int .i64 k] w fun e w' => e = .returned (.int .i64 (txC (txL l 0 k) k : Nat)) ∧ Fr w w' := by
  intro m
  induction m using Nat.strongRecOn with
  | _ m ih =>
    intro l hl v k w hk hv
    have IH := Lib.hid ih
    have HV := Lib.hid hv
    have HB := Lib.hid hl
    obtain ⟨a, cap, rfl, hc, hm, _⟩ := hv.form
    obtain ⟨n, hn⟩ : ∃ n, n = l.length := ⟨_, rfl⟩
    have HN := Lib.hid hn
    rw [← hn] at hc HV ⊢
    obtain ⟨D, hD⟩ : ∃ d, d = txL l 0 k := ⟨_, rfl⟩
    have HD := Lib.hid hD
    have hDb : D ≤ 140737489351233 := by
      have := txL_cap 140737488351232 l 0 k (fun t ht => by obtain ⟨i, hi⟩ := List.getElem?_of_mem ht; obtain ⟨_, _, _, _, _, _, hwf⟩ := HV.out.at_ hi; exact hwf.s) (by omega)
      omega
    rw [← hD]
    have hn2 : n ≤ maxLen := by omega
    unfold maxLen at hn2
    have yk : IntKind.i64.wrap ((k : Int) + 1) = ((k + 1 : Nat) : Int) := IntWalk.i64_in _ (by omega)
    clear hn hv ih hm hD hl
    go_enter Tryz.func63, Tryz.ntmps63
    go_wp2_with fail
    go_loopw [5, 6] (fun s i wr => ∃ c j : Nat, j ≤ n ∧ s = .int .i64 c ∧ i = .int .i64 j ∧ Hid (D = txL (l.drop j) c k) ∧ Fr w wr) (fun _ i _ => n - (intOf i).toNat)
    case atStart => exact ⟨0, 0, Nat.zero_le _, rfl, rfl, Lib.hid (by rw [HD.out]; rfl), Fr.refl _⟩
    case round =>
      obtain ⟨c, j, hj, rfl, rfl, HJ, hfr⟩ := hrel
      have hcD : c ≤ D := by rw [HJ.out]; exact txL_lo _ _ _
      by_cases hgo : j < n ∧ c ≤ k
      · obtain ⟨hlt, hck⟩ := hgo
        obtain ⟨t, ht⟩ : ∃ t, l[j]? = some t := ⟨_, List.getElem?_eq_getElem (by rw [← HN.out]; exact hlt)⟩
        obtain ⟨b, off, lv, rfl, hc5, hln, hwf⟩ := (HV.out.fr hfr).at_ ht
        have p2 := hc5.s
        have p3 := hc5.l
        have HL := Lib.hid hln
        obtain ⟨m', hm', hq'⟩ := Qd_sub m l HB.out t (List.mem_of_getElem? ht)
        have hss := hwf.s
        have hstep : D = txL (l.drop (j + 1)) (if c + t.s.size ≤ k then c + t.s.size + txC (txL t.l 0 (k - (c + t.s.size))) (k - (c + t.s.size)) else c + t.s.size) k := by rw [HJ.out, drop1 ht, txL, if_pos hck, txN_eq]
        obtain ⟨S, hS⟩ : ∃ S, S = t.s := ⟨_, rfl⟩
        rw [← hS] at hstep hss p2
        have y2 : IntKind.i64.wrap ((c : Int) + (S.size : Int)) = ((c + S.size : Nat) : Int) := IntWalk.i64_in _ (by omega)
        obtain ⟨c1, hc1⟩ : ∃ x : Nat, x = c + S.size := ⟨_, rfl⟩
        rw [← hc1] at y2 hstep
        by_cases hck1 : c1 ≤ k
        · rw [if_pos hck1] at hstep
          obtain ⟨d, hd⟩ : ∃ d, d = txC (txL t.l 0 (k - c1)) (k - c1) := ⟨_, rfl⟩
          have HC : Hid (∀ W, Fr wr W → Calls Tryz.prog 63 #[lv, .int .i64 ((k - c1 : Nat) : Int)] W fun e w' => e = .returned (.int .i64 (d : Int)) ∧ Fr W w') := Lib.hid (fun W hW => by
            rw [hd]; exact IH.out m' hm' t.l hq' lv (k - c1) W (by omega) (HL.out.fr hW))
          rw [← hd] at hstep
          have hsd : c1 + d ≤ D := by rw [hstep]; exact txL_lo _ _ _
          have HST := Lib.hid hstep
          have y1 : IntKind.i64.wrap ((k : Int) - (c1 : Int)) = ((k - c1 : Nat) : Int) := by rw [show (k : Int) - (c1 : Int) = ((k - c1 : Nat) : Int) by omega]; exact IntWalk.i64_in _ (by omega)
          have y3 : IntKind.i64.wrap ((c1 : Int) + (d : Int)) = ((c1 + d : Nat) : Int) := IntWalk.i64_in _ (by omega)
          obtain ⟨kc, hkc⟩ : ∃ x : Nat, x = k - c1 := ⟨_, rfl⟩
          obtain ⟨c2, hc2⟩ : ∃ x : Nat, x = c1 + d := ⟨_, rfl⟩
          rw [← hkc] at y1 HC
          rw [← hc2] at y3 HST
          clear hc5 hln ht hstep hd hm' hq' hkc hc1 hc2 hsd hcD hDb hS hss hwf
          go_wp2_with fail
          refine (HC.out _ (Fr.refl _)).mono ?_
          rintro e w1 ⟨rfl, hf1⟩
          have hfin := hfr.trans hf1
          go_wp2_with fail
          go_roundw
          case rel => exact ⟨c2, j + 1, by omega, rfl, by go_num, HST, hfin⟩
          case measure => simp [intOf]; omega
        · rw [if_neg hck1] at hstep
          have HST := Lib.hid hstep
          clear hc5 hln ht hstep hm' hq' hc1 hcD hDb hS hss hwf
          go_wp2_with fail
          go_roundw
          case rel => exact ⟨c1, j + 1, by omega, rfl, by go_num, HST, hfr⟩
          case measure => simp [intOf]; omega
      · have hDc : D = c := by
          by_cases hlt : j < n
          · obtain ⟨t, ht⟩ : ∃ t, l[j]? = some t := ⟨_, List.getElem?_eq_getElem (by rw [← HN.out]; exact hlt)⟩
            rw [HJ.out, drop1 ht, txL, if_neg (by omega)]
          · rw [HJ.out, List.drop_eq_nil_of_le (by rw [← HN.out]; omega), txL]
        have HDC : Hid (txC D k = if k < c then k + 1 else c) := Lib.hid (by rw [hDc]; rfl)
        clear hDc hcD
        by_cases hkc : k < c
        · have HX : Hid (txC D k = k + 1) := Lib.hid (by rw [HDC.out, if_pos hkc])
          by_cases hlt : j < n
          · have hck : ¬ c ≤ k := by omega
            clear hgo
            go_wp2_with fail
            go_ret
            rw [HX.out]
            exact ⟨rfl, hfr⟩
          · clear hgo
            go_wp2_with fail
            go_ret
            rw [HX.out]
            exact ⟨rfl, hfr⟩
        · have HX : Hid (txC D k = c) := Lib.hid (by rw [HDC.out, if_neg hkc])
          have hlt : ¬ j < n := by omega
          clear hgo
          go_wp2_with fail
          go_ret
          rw [HX.out]
          exact ⟨rfl, hfr⟩
/-- Whether trees are heavy. -/
def hvL (l : List Nd) (k : Nat) : Bool := deepL 400 l || decide (k < cntL l 0 k) || decide (20000 < txC (txL l 0 20000) 20000)
set_option maxHeartbeats 2000000 in
theorem Heavy_any (l : List Nd) (v : Value) (k : Nat) (w : World) (hk : k ≤ 1000000) (hv : LN w v l) :
    Calls Tryz.prog 21 #[v, .int .i64 k] w fun e w' => e = .returned (.bool (hvL l k)) ∧ Fr w w' := by
  have HV := Lib.hid hv
  have H1 := Lib.hid (fun W (h : Fr w W) => Deep_any 400 (by omega) l v W (hv.fr h))
  have H2 : Hid (deepL 400 l = false → ∀ W, Fr w W → _) := Lib.hid (fun h0 W (h : Fr w W) => Nodes_deep 400 (by omega) l h0 v k W hk (hv.fr h))
  have H3 : Hid (deepL 400 l = false → ∀ W, Fr w W → _) := Lib.hid (fun h0 W (h : Fr w W) => Texts_any 400 l ⟨h0, by omega⟩ v 20000 W (by omega) (hv.fr h))
  obtain ⟨R, hR⟩ : ∃ r, r = hvL l k := ⟨_, rfl⟩
  rw [← hR]
  unfold hvL at hR
  obtain ⟨d1, hd1⟩ : ∃ d, d = deepL 400 l := ⟨_, rfl⟩
  obtain ⟨d2, hd2⟩ : ∃ d, d = cntL l 0 k := ⟨_, rfl⟩
  obtain ⟨d3, hd3⟩ : ∃ d, d = txC (txL l 0 20000) 20000 := ⟨_, rfl⟩
  rw [← hd1] at H1 H2 H3 hR
  rw [← hd2] at H2 hR
  rw [← hd3] at H3 hR
  have H1' : Hid (∀ W, Fr w W → Calls Tryz.prog 44 #[v, .int .i64 400] W fun e w' => e = .returned (.bool d1) ∧ Fr W w') := H1
  have H3' : Hid (d1 = false → ∀ W, Fr w W → Calls Tryz.prog 63 #[v, .int .i64 20000] W fun e w' => e = .returned (.int .i64 (d3 : Int)) ∧ Fr W w') := H3
  clear hd1 hd2 hd3 hv H1 H3
  cases d1 with
  | true =>
    have HR : Hid (R = true) := Lib.hid (by rw [hR]; rfl)
    clear hR
    go_enter Tryz.func21, Tryz.ntmps21
    go_wp2_with fail
    refine (H1'.out _ (Fr.refl _)).mono ?_
    rintro e w1 ⟨rfl, hf1⟩
    go_wp2_with fail
    go_ret
    rw [HR.out]
    exact ⟨rfl, hf1⟩
  | false =>
    by_cases h2 : k < d2
    · have HR : Hid (R = true) := Lib.hid (by rw [hR, decide_eq_true h2]; rfl)
      clear hR
      go_enter Tryz.func21, Tryz.ntmps21
      go_wp2_with fail
      refine (H1'.out _ (Fr.refl _)).mono ?_
      rintro e w1 ⟨rfl, hf1⟩
      have HF1 := Lib.hid hf1
      clear hf1
      go_wp2_with fail
      refine (H2.out (by first | rfl | trivial) _ HF1.out).mono ?_
      rintro e w2 ⟨rfl, hf2⟩
      have hfin := HF1.out.trans hf2
      go_wp2_with fail
      go_ret
      rw [HR.out]
      exact ⟨rfl, hfin⟩
    · have HR : Hid (R = decide ((20000 : Int) < (d3 : Int))) := Lib.hid (by rw [hR, decide_eq_false h2]; simp; omega)
      clear hR
      go_enter Tryz.func21, Tryz.ntmps21
      go_wp2_with fail
      refine (H1'.out _ (Fr.refl _)).mono ?_
      rintro e w1 ⟨rfl, hf1⟩
      have HF1 := Lib.hid hf1
      clear hf1
      go_wp2_with fail
      refine (H2.out (by first | rfl | trivial) _ HF1.out).mono ?_
      rintro e w2 ⟨rfl, hf2⟩
      have HF2 := Lib.hid (HF1.out.trans hf2)
      clear hf2
      go_wp2_with fail
      refine (H3'.out (by first | rfl | trivial) _ HF2.out).mono ?_
      rintro e w3 ⟨rfl, hf3⟩
      have hfin := HF2.out.trans hf3
      go_wp2_with fail
      go_ret
      rw [HR.out]
      exact ⟨rfl, hfin⟩
end Go.Proofs.YtbaelbafhdjlnaaGreatDoor

/- Trees compared: contracts of the document's own functions. -/
namespace Go.Proofs.YtbaelbafhdjlnaaGreatDoor
open Go.RowKit
set_option linter.unusedVariables false

mutual
def eqN (p : Bool) : Nd → Nd → Bool
  | ⟨o, n, s, l, a⟩, u => decide (o = u.op) && decide (n = u.n) && decide (s = u.s) && (!p || decide (a = u.a)) && eqL p l u.l
def eqL (p : Bool) : List Nd → List Nd → Bool
  | [], [] => true
  | x :: r, y :: q => eqN p x y && eqL p r q
  | _, _ => false
end
theorem eqN_eq (p : Bool) (t u : Nd) : eqN p t u = (decide (t.op = u.op) && decide (t.n = u.n) && decide (t.s = u.s) && (!p || decide (t.a = u.a)) && eqL p t.l u.l) := by
  obtain ⟨o, n, s, l, a⟩ := t
  rw [eqN]; rfl
theorem eqL_len (p : Bool) : ∀ (l q : List Nd), l.length ≠ q.length → eqL p l q = false
  | [], [], h => absurd rfl h
  | [], _ :: _, _ => by simp [eqL]
  | _ :: _, [], _ => by simp [eqL]
  | x :: r, y :: q, h => by
    rw [eqL, eqL_len p r q (by simpa using h), Bool.and_false]
theorem eqL_drop {p : Bool} {l q : List Nd} {j : Nat} {t u : Nd} (ht : l[j]? = some t) (hu : q[j]? = some u) : eqL p (l.drop j) (q.drop j) = (eqN p t u && eqL p (l.drop (j + 1)) (q.drop (j + 1))) := by
  rw [drop1 ht, drop1 hu, eqL]
/-- A node by value. -/
def ndV (t : Nd) (lv : Value) : Value := .agg #[.int .i64 t.op, .int .i64 t.n, .string t.s, lv, .int .i64 t.a]
theorem s_yes {a b : ByteArray} (h : a = b) : (a.toList == b.toList) = true := by subst h; simp
theorem s_no {a b : ByteArray} (h : a ≠ b) : (a.toList == b.toList) = false := by
  rw [beq_eq_false_iff_ne]
  intro e
  rw [ByteArray.toList_eq, ByteArray.toList_eq] at e
  exact h (ByteArray.ext (Array.ext' e))
set_option maxHeartbeats 4000000 in
theorem EqNode_of (p : Bool) (t u : Nd) (lt lu : Value) (w : World) (HP : Hid (∀ W, Fr w W → Calls Tryz.prog 52 #[lt, lu, .bool p] W fun e w' => e = .returned (.bool (eqL p t.l u.l)) ∧ Fr W w')) :
    Calls Tryz.prog 17 #[ndV t lt, ndV u lu, .bool p] w fun e w' => e = .returned (.bool (eqN p t u)) ∧ Fr w w' := by
  obtain ⟨R, hR⟩ : ∃ r, r = eqN p t u := ⟨_, rfl⟩
  rw [← hR]
  rw [eqN_eq] at hR
  obtain ⟨d, hd⟩ : ∃ d, d = eqL p t.l u.l := ⟨_, rfl⟩
  rw [← hd] at hR HP
  unfold ndV
  obtain ⟨o1, hO1⟩ : ∃ x, x = t.op := ⟨_, rfl⟩
  obtain ⟨n1, hN1⟩ : ∃ x, x = t.n := ⟨_, rfl⟩
  obtain ⟨s1, hS1⟩ : ∃ x, x = t.s := ⟨_, rfl⟩
  obtain ⟨a1, hA1⟩ : ∃ x, x = t.a := ⟨_, rfl⟩
  obtain ⟨o2, hO2⟩ : ∃ x, x = u.op := ⟨_, rfl⟩
  obtain ⟨n2, hN2⟩ : ∃ x, x = u.n := ⟨_, rfl⟩
  obtain ⟨s2, hS2⟩ : ∃ x, x = u.s := ⟨_, rfl⟩
  obtain ⟨a2, hA2⟩ : ∃ x, x = u.a := ⟨_, rfl⟩
  rw [← hO1, ← hN1, ← hS1, ← hA1, ← hO2, ← hN2, ← hS2, ← hA2] at hR
  rw [← hO1, ← hN1, ← hS1, ← hA1, ← hO2, ← hN2, ← hS2, ← hA2]
  clear hO1 hN1 hS1 hA1 hO2 hN2 hS2 hA2 hd
  have HFR : Hid (∀ x y : Obj, Fr w ((w.alloc x).alloc y)) := Lib.hid (fun x y => ((Fr.refl w).alloc x).alloc y)
  by_cases h1 : o1 = o2
  · subst h1
    have z1 : (o1 == o1) = true := by simp
    by_cases h2 : n1 = n2
    · subst h2
      have z2 : (n1 == n1) = true := by simp
      by_cases h3 : s1 = s2
      · subst h3
        have z3 : (s1.toList == s1.toList) = true := by simp
        cases p with
        | true =>
          by_cases h4 : a1 = a2
          · subst h4
            have z4 : (a1 == a1) = true := by simp
            have HR : Hid (R = d) := Lib.hid (by rw [hR]; simp)
            clear hR
            go_enter Tryz.func17, Tryz.ntmps17
            go_wp2_with fail
            refine (HP.out _ (HFR.out _ _)).mono ?_
            rintro e w1 ⟨rfl, hf1⟩
            go_wp2_with fail
            go_ret
            rw [HR.out]
            exact ⟨rfl, Fr.trans (HFR.out _ _) hf1⟩
          · have z4 : (a1 != a2) = true := by simpa using h4
            have HR : Hid (R = false) := Lib.hid (by rw [hR]; simp [h4])
            clear hR h4
            go_enter Tryz.func17, Tryz.ntmps17
            go_wp2_with fail
            go_ret
            rw [HR.out]
            exact ⟨rfl, HFR.out _ _⟩
        | false =>
          have HR : Hid (R = d) := Lib.hid (by rw [hR]; simp)
          clear hR
          go_enter Tryz.func17, Tryz.ntmps17
          go_wp2_with fail
          refine (HP.out _ (HFR.out _ _)).mono ?_
          rintro e w1 ⟨rfl, hf1⟩
          go_wp2_with fail
          go_ret
          rw [HR.out]
          exact ⟨rfl, Fr.trans (HFR.out _ _) hf1⟩
      · have z3 := s_no h3
        have HR : Hid (R = false) := Lib.hid (by rw [hR]; simp [h3])
        clear hR h3
        go_enter Tryz.func17, Tryz.ntmps17
        go_wp2_with fail
        go_ret
        rw [HR.out]
        exact ⟨rfl, HFR.out _ _⟩
    · have z2 : (n1 != n2) = true := by simpa using h2
      have HR : Hid (R = false) := Lib.hid (by rw [hR]; simp [h2])
      clear hR h2
      go_enter Tryz.func17, Tryz.ntmps17
      go_wp2_with fail
      go_ret
      rw [HR.out]
      exact ⟨rfl, HFR.out _ _⟩
  · have z1 : (o1 != o2) = true := by simpa using h1
    have HR : Hid (R = false) := Lib.hid (by rw [hR]; simp [h1])
    clear hR h1
    go_enter Tryz.func17, Tryz.ntmps17
    go_wp2_with fail
    go_ret
    rw [HR.out]
    exact ⟨rfl, HFR.out _ _⟩
set_option maxHeartbeats 4000000 in
theorem EqNodes_of (p : Bool) (l q : List Nd) (v1 v2 : Value) (w : World) (hv1 : LN w v1 l) (hv2 : LN w v2 q)
    (HQ : Hid (∀ (i : Nat) (t u : Nd) (lt lu : Value) (W : World), l[i]? = some t → q[i]? = some u → Fr w W → LN W lt t.l → LN W lu u.l → Calls Tryz.prog 17 #[ndV t lt, ndV u lu, .bool p] W fun e w' => e = .returned (.bool (eqN p t u)) ∧ Fr W w')) :
    Calls Tryz.prog 52 #[v1, v2, .bool p] w fun e w' => e = .returned (.bool (eqL p l q)) ∧ Fr w w' := by
  have HV1 := Lib.hid hv1
  have HV2 := Lib.hid hv2
  obtain ⟨a1, cap1, rfl, hc1, hm1, _⟩ := hv1.form
  obtain ⟨a2, cap2, rfl, hc2, hm2, _⟩ := hv2.form
  unfold maxLen at hm1 hm2
  obtain ⟨n, hn⟩ : ∃ n, n = l.length := ⟨_, rfl⟩
  obtain ⟨m, hm⟩ : ∃ n, n = q.length := ⟨_, rfl⟩
  have HN := Lib.hid hn
  have HM := Lib.hid hm
  rw [← hn] at hc1 HV1 ⊢
  rw [← hm] at hc2 HV2 ⊢
  by_cases hnm : n = m
  · obtain rfl := hnm
    have z0 : ((n : Int) == (n : Int)) = true := by simp
    obtain ⟨D, hD⟩ : ∃ d, d = eqL p l q := ⟨_, rfl⟩
    have HD := Lib.hid hD
    rw [← hD]
    clear hn hm hv1 hv2 hD
    go_enter Tryz.func52, Tryz.ntmps52
    go_wp2_with fail
    go_loopw [7] (fun i wr => ∃ j : Nat, j ≤ n ∧ i = .int .i64 j ∧ Hid (D = eqL p (l.drop j) (q.drop j)) ∧ Fr w wr) (fun i _ => n - (intOf i).toNat)
    case atStart => exact ⟨0, Nat.zero_le _, rfl, Lib.hid (by rw [HD.out]; rfl), Fr.refl _⟩
    case round =>
      obtain ⟨j, hj, rfl, HJ, hfr⟩ := hrel
      by_cases hlt : j < n
      · obtain ⟨t, ht⟩ : ∃ t, l[j]? = some t := ⟨_, List.getElem?_eq_getElem (by rw [← HN.out]; exact hlt)⟩
        obtain ⟨u, hu⟩ : ∃ t, q[j]? = some t := ⟨_, List.getElem?_eq_getElem (by rw [← HM.out]; exact hlt)⟩
        obtain ⟨b1, off1, lt, rfl, g1, hl1, _⟩ := (HV1.out.fr hfr).at_ ht
        obtain ⟨b2, off2, lu, rfl, g2, hl2, _⟩ := (HV2.out.fr hfr).at_ hu
        have HL1 := Lib.hid hl1
        have HL2 := Lib.hid hl2
        obtain ⟨x0, x1, x2, x3, x4⟩ := g1
        obtain ⟨y0, y1, y2, y3, y4⟩ := g2
        have hstep := eqL_drop (p := p) ht hu
        obtain ⟨D1, hD1⟩ : ∃ d, d = eqN p t u := ⟨_, rfl⟩
        have HC : Hid (∀ W, Fr wr W → Calls Tryz.prog 17 #[.agg #[.int .i64 t.op, .int .i64 t.n, .string t.s, lt, .int .i64 t.a], .agg #[.int .i64 u.op, .int .i64 u.n, .string u.s, lu, .int .i64 u.a], .bool p] W fun e w' => e = .returned (.bool D1) ∧ Fr W w') := Lib.hid (fun W hW => by
          rw [hD1]; exact HQ.out j t u lt lu W ht hu (hfr.trans hW) (HL1.out.fr hW) (HL2.out.fr hW))
        rw [← hD1] at hstep
        have HST := Lib.hid hstep
        clear hl1 hl2 ht hu hstep hD1
        obtain ⟨t0, ht0⟩ : ∃ x, x = t.op := ⟨_, rfl⟩
        obtain ⟨t1, ht1⟩ : ∃ x, x = t.n := ⟨_, rfl⟩
        obtain ⟨t2, ht2⟩ : ∃ x, x = t.s := ⟨_, rfl⟩
        obtain ⟨t4, ht4⟩ : ∃ x, x = t.a := ⟨_, rfl⟩
        obtain ⟨u0, hu0⟩ : ∃ x, x = u.op := ⟨_, rfl⟩
        obtain ⟨u1, hu1⟩ : ∃ x, x = u.n := ⟨_, rfl⟩
        obtain ⟨u2, hu2⟩ : ∃ x, x = u.s := ⟨_, rfl⟩
        obtain ⟨u4, hu4⟩ : ∃ x, x = u.a := ⟨_, rfl⟩
        rw [← ht0, ← ht1, ← ht2, ← ht4, ← hu0, ← hu1, ← hu2, ← hu4] at HC
        rw [← ht0] at x0
        rw [← ht1] at x1
        rw [← ht2] at x2
        rw [← ht4] at x4
        rw [← hu0] at y0
        rw [← hu1] at y1
        rw [← hu2] at y2
        rw [← hu4] at y4
        clear ht0 ht1 ht2 ht4 hu0 hu1 hu2 hu4
        have hq0 : Fr wr wr.drew := (Fr.refl wr).drew
        have HK : Hid (∀ W', Fr wr W' → W'.cell? ⟨b1, off1 + j * 5, none⟩ = some (.int .i64 t0) ∧ W'.cell? ⟨b1, off1 + j * 5 + 1, none⟩ = some (.int .i64 t1) ∧ W'.cell? ⟨b1, off1 + j * 5 + 2, none⟩ = some (.string t2) ∧ W'.cell? ⟨b1, off1 + j * 5 + 3, none⟩ = some lt ∧ W'.cell? ⟨b1, off1 + j * 5 + 4, none⟩ = some (.int .i64 t4) ∧ W'.cell? ⟨b2, off2 + j * 5, none⟩ = some (.int .i64 u0) ∧ W'.cell? ⟨b2, off2 + j * 5 + 1, none⟩ = some (.int .i64 u1) ∧ W'.cell? ⟨b2, off2 + j * 5 + 2, none⟩ = some (.string u2) ∧ W'.cell? ⟨b2, off2 + j * 5 + 3, none⟩ = some lu ∧ W'.cell? ⟨b2, off2 + j * 5 + 4, none⟩ = some (.int .i64 u4) ∧ Fr wr W') := Lib.hid (fun W' k => ⟨k.cell x0, k.cell x1, k.cell x2, k.cell x3, k.cell x4, k.cell y0, k.cell y1, k.cell y2, k.cell y3, k.cell y4, k⟩)
        cases D1 with
        | true =>
          have HJ2 : Hid (D = eqL p (l.drop (j + 1)) (q.drop (j + 1))) := Lib.hid (by rw [HJ.out, HST.out, Bool.true_and])
          go_wp2_with fail
          go_region_held3 (fun W' => W'.cell? ⟨b1, off1 + j * 5, none⟩ = some (.int .i64 t0) ∧ W'.cell? ⟨b1, off1 + j * 5 + 1, none⟩ = some (.int .i64 t1) ∧ W'.cell? ⟨b1, off1 + j * 5 + 2, none⟩ = some (.string t2) ∧ W'.cell? ⟨b1, off1 + j * 5 + 3, none⟩ = some lt ∧ W'.cell? ⟨b1, off1 + j * 5 + 4, none⟩ = some (.int .i64 t4) ∧ W'.cell? ⟨b2, off2 + j * 5, none⟩ = some (.int .i64 u0) ∧ W'.cell? ⟨b2, off2 + j * 5 + 1, none⟩ = some (.int .i64 u1) ∧ W'.cell? ⟨b2, off2 + j * 5 + 2, none⟩ = some (.string u2) ∧ W'.cell? ⟨b2, off2 + j * 5 + 3, none⟩ = some lu ∧ W'.cell? ⟨b2, off2 + j * 5 + 4, none⟩ = some (.int .i64 u4) ∧ Fr wr W')
            (first | exact HK.out _ (by assumption) | exact HK.out _ hq0)
            ((first | (go_at_call 17; refine (HC.out _ hq0).mono ?_; rintro e w1 ⟨rfl, hf1⟩; have hq1 := Fr.trans hq0 hf1)))
          have hfin := hfr.trans hq1
          go_wp2_with fail
          go_roundw
          case rel => exact ⟨j + 1, by omega, by go_num, HJ2, hfin⟩
          case measure => simp [intOf]; omega
        | false =>
          have HJ2 : Hid (D = false) := Lib.hid (by rw [HJ.out, HST.out, Bool.false_and])
          go_wp2_with fail
          go_region_held3 (fun W' => W'.cell? ⟨b1, off1 + j * 5, none⟩ = some (.int .i64 t0) ∧ W'.cell? ⟨b1, off1 + j * 5 + 1, none⟩ = some (.int .i64 t1) ∧ W'.cell? ⟨b1, off1 + j * 5 + 2, none⟩ = some (.string t2) ∧ W'.cell? ⟨b1, off1 + j * 5 + 3, none⟩ = some lt ∧ W'.cell? ⟨b1, off1 + j * 5 + 4, none⟩ = some (.int .i64 t4) ∧ W'.cell? ⟨b2, off2 + j * 5, none⟩ = some (.int .i64 u0) ∧ W'.cell? ⟨b2, off2 + j * 5 + 1, none⟩ = some (.int .i64 u1) ∧ W'.cell? ⟨b2, off2 + j * 5 + 2, none⟩ = some (.string u2) ∧ W'.cell? ⟨b2, off2 + j * 5 + 3, none⟩ = some lu ∧ W'.cell? ⟨b2, off2 + j * 5 + 4, none⟩ = some (.int .i64 u4) ∧ Fr wr W')
            (first | exact HK.out _ (by assumption) | exact HK.out _ hq0)
            ((first | (go_at_call 17; refine (HC.out _ hq0).mono ?_; rintro e w1 ⟨rfl, hf1⟩; have hq1 := Fr.trans hq0 hf1)))
          have hfin := hfr.trans hq1
          go_wp2_with fail
          go_ret
          rw [HJ2.out]
          exact ⟨rfl, hfin⟩
      · obtain rfl : j = n := by omega
        have HR : Hid (D = true) := Lib.hid (by rw [HJ.out, List.drop_eq_nil_of_le (by rw [← HN.out]; exact Nat.le_refl _), List.drop_eq_nil_of_le (by rw [← HM.out]; exact Nat.le_refl _), eqL])
        go_wp2_with fail
        go_ret
        rw [HR.out]
        exact ⟨rfl, hfr⟩
  · have HR : Hid (eqL p l q = false) := Lib.hid (eqL_len p l q (by rw [← hn, ← hm]; exact hnm))
    have z0 : ((n : Int) == (m : Int)) = false := by rw [beq_eq_false_iff_ne]; omega
    clear hn hm hv1 hv2 hnm
    go_enter Tryz.func52, Tryz.ntmps52
    go_wp2_with fail
    go_ret
    rw [HR.out]
    exact ⟨rfl, Fr.refl _⟩
end Go.Proofs.YtbaelbafhdjlnaaGreatDoor

/- Trees compared and counted: contracts, by induction on their size. -/
namespace Go.Proofs.YtbaelbafhdjlnaaGreatDoor
open Go.RowKit
set_option linter.unusedVariables false

theorem EqNodes_any (p : Bool) : ∀ (m : Nat) (l q : List Nd), bulks l ≤ m → ∀ (v1 v2 : Value) (w : World), LN w v1 l → LN w v2 q →
    Calls Tryz.prog 52 #[v1, v2, .bool p] w fun e w' => e = .returned (.bool (eqL p l q)) ∧ Fr w w' := by
  intro m
  induction m using Nat.strongRecOn with
  | _ m ih =>
    intro l q hl v1 v2 w h1 h2
    refine EqNodes_of p l q v1 v2 w h1 h2 (Lib.hid fun i t u lt lu W ht hu hW hlt hlu => ?_)
    refine EqNode_of p t u lt lu W (Lib.hid fun W2 hW2 => ?_)
    have h3 := bulks_mem (List.mem_of_getElem? ht)
    have h4 := t.bulk_eq
    exact ih (bulks t.l) (by omega) t.l u.l (Nat.le_refl _) lt lu W2 (hlt.fr hW2) (hlu.fr hW2)
theorem EqNode_any (p : Bool) (t u : Nd) (lt lu : Value) (w : World) (h1 : LN w lt t.l) (h2 : LN w lu u.l) :
    Calls Tryz.prog 17 #[ndV t lt, ndV u lu, .bool p] w fun e w' => e = .returned (.bool (eqN p t u)) ∧ Fr w w' :=
  EqNode_of p t u lt lu w (Lib.hid fun W hW => EqNodes_any p _ t.l u.l (Nat.le_refl _) lt lu W (h1.fr hW) (h2.fr hW))
set_option maxHeartbeats 2000000 in
theorem EqSection_any (p : Bool) (s1 s2 : ByteArray) (l q : List Nd) (v1 v2 : Value) (w : World) (h1 : LN w v1 l) (h2 : LN w v2 q) :
    Calls Tryz.prog 13 #[.agg #[.string s1, v1], .agg #[.string s2, v2], .bool p] w fun e w' => e = .returned (.bool (decide (s1 = s2) && eqL p l q)) ∧ Fr w w' := by
  have HFR : Hid (∀ x y : Obj, Fr w ((w.alloc x).alloc y)) := Lib.hid (fun x y => ((Fr.refl w).alloc x).alloc y)
  have HP := Lib.hid (fun W (k : Fr w W) => EqNodes_any p _ l q (Nat.le_refl _) v1 v2 W (h1.fr k) (h2.fr k))
  obtain ⟨d, hd⟩ : ∃ d, d = eqL p l q := ⟨_, rfl⟩
  rw [← hd] at HP ⊢
  clear hd h1 h2
  by_cases h3 : s1 = s2
  · subst h3
    have z3 : (s1.toList == s1.toList) = true := by simp
    have HR : Hid ((decide (s1 = s1) && d) = d) := Lib.hid (by simp)
    rw [HR.out]
    go_enter Tryz.func13, Tryz.ntmps13
    go_wp2_with fail
    refine (HP.out _ (HFR.out _ _)).mono ?_
    rintro e w1 ⟨rfl, hf1⟩
    go_wp2_with fail
    go_ret
    exact ⟨rfl, Fr.trans (HFR.out _ _) hf1⟩
  · have z3 := s_no h3
    rw [show (decide (s1 = s2) && d) = false by simp [h3]]
    clear h3
    go_enter Tryz.func13, Tryz.ntmps13
    go_wp2_with fail
    go_ret
    exact ⟨rfl, HFR.out _ _⟩
mutual
def ndsN : Nd → Nat
  | ⟨_, _, _, l, _⟩ => 1 + ndsL l
def ndsL : List Nd → Nat
  | [] => 0
  | t :: r => ndsN t + ndsL r
end
theorem ndsN_eq (t : Nd) : ndsN t = 1 + ndsL t.l := by
  obtain ⟨o, n, s, l, a⟩ := t
  rw [ndsN]; rfl
mutual
theorem ndsN_hi : ∀ t : Nd, ndsN t ≤ t.bulk
  | ⟨o, n, s, l, a⟩ => by
    rw [ndsN, Nd.bulk]
    have := ndsL_hi l
    omega
theorem ndsL_hi : ∀ l : List Nd, ndsL l ≤ bulks l
  | [] => by rw [ndsL, bulks]; omega
  | t :: r => by
    rw [ndsL, bulks]
    have h1 := ndsN_hi t
    have h2 := ndsL_hi r
    omega
end
theorem ndsL_drop {l : List Nd} {j : Nat} {t : Nd} (ht : l[j]? = some t) : ndsL (l.drop j) = 1 + ndsL t.l + ndsL (l.drop (j + 1)) := by
  rw [drop1 ht, ndsL, ndsN_eq]
theorem ndsL_sub : ∀ (l : List Nd) (j : Nat), ndsL (l.drop j) ≤ ndsL l
  | [], j => by simp
  | t :: r, 0 => by simp
  | t :: r, j + 1 => by
    rw [List.drop_succ_cons, ndsL]
    have := ndsL_sub r j
    omega
mutual
def lvlN : Nd → Nat
  | ⟨_, _, _, l, _⟩ => 1 + lvlL l
def lvlL : List Nd → Nat
  | [] => 0
  | t :: r => max (lvlN t) (lvlL r)
end
set_option maxHeartbeats 2000000 in
theorem RSize_any : ∀ (m : Nat), m ≤ 140737488351232 → ∀ (l : List Nd), bulks l ≤ m → ∀ (v : Value) (w : World), LN w v l →
    Calls Tryz.prog 33 #[v] w fun e w' => e = .returned (.int .i64 (ndsL l : Nat)) ∧ Fr w w' := by
  intro m
  induction m using Nat.strongRecOn with
  | _ m ih =>
    intro hm47 l hl v w hv
    have IH := Lib.hid ih
    have HV := Lib.hid hv
    have HB := Lib.hid hl
    have HS := Lib.hid (ndsL_hi l)
    obtain ⟨a, cap, rfl, hc, hm, _⟩ := hv.form
    have hn2 : l.length ≤ 140737488351232 := by have := bulks_len l; omega
    obtain ⟨n, hn⟩ : ∃ n, n = l.length := ⟨_, rfl⟩
    have HN := Lib.hid hn
    rw [← hn] at hc HV hn2 ⊢
    clear hn hv ih hm hl
    go_enter Tryz.func33, Tryz.ntmps33
    go_wp2_with fail
    go_loopw [3, 4] (fun s i wr => ∃ c j : Nat, j ≤ n ∧ s = .int .i64 c ∧ i = .int .i64 j ∧ Hid (ndsL l = c + ndsL (l.drop j)) ∧ Fr w wr) (fun _ i _ => n - (intOf i).toNat)
    case atStart => exact ⟨0, 0, Nat.zero_le _, rfl, rfl, Lib.hid (by simp), Fr.refl _⟩
    case round =>
      obtain ⟨c, j, hj, rfl, rfl, HJ, hfr⟩ := hrel
      by_cases hlt : j < n
      · obtain ⟨t, ht⟩ : ∃ t, l[j]? = some t := ⟨_, List.getElem?_eq_getElem (by rw [← HN.out]; exact hlt)⟩
        obtain ⟨b, off, lv, rfl, hc5, hln, _⟩ := (HV.out.fr hfr).at_ ht
        obtain ⟨x0, x1, x2, x3, x4⟩ := hc5
        obtain ⟨la, lc, rfl, _, _, _⟩ := hln.form
        obtain ⟨ll, hll⟩ : ∃ x : Nat, x = t.l.length := ⟨_, rfl⟩
        rw [← hll] at x3 hln
        have HL := Lib.hid hln
        have htb := bulks_mem (List.mem_of_getElem? ht)
        have hbl := HB.out
        have hbe := t.bulk_eq
        have hst := ndsL_drop ht
        have hsum := HJ.out
        have hsb := HS.out
        obtain ⟨d, hd⟩ : ∃ d, d = ndsL t.l := ⟨_, rfl⟩
        have HC : Hid (∀ W, Fr wr W → Calls Tryz.prog 33 #[.slice la ll lc] W fun e w' => e = .returned (.int .i64 (d : Int)) ∧ Fr W w') := Lib.hid (fun W hW => by
          rw [hd]; exact IH.out (bulks t.l) (by omega) (by omega) t.l (Nat.le_refl _) _ W (HL.out.fr hW))
        rw [← hd] at hst
        have y2 : IntKind.i64.wrap ((c : Int) + 1) = ((c + 1 : Nat) : Int) := IntWalk.i64_in _ (by omega)
        have y3 : IntKind.i64.wrap (((c + 1 : Nat) : Int) + (d : Int)) = ((c + 1 + d : Nat) : Int) := IntWalk.i64_in _ (by omega)
        have HJ2 : Hid (ndsL l = c + 1 + d + ndsL (l.drop (j + 1))) := Lib.hid (by omega)
        obtain ⟨c1, hc1⟩ : ∃ x : Nat, x = c + 1 := ⟨_, rfl⟩
        obtain ⟨c2, hc2⟩ : ∃ x : Nat, x = c + 1 + d := ⟨_, rfl⟩
        rw [← hc2] at y3 HJ2
        rw [← hc1] at y2 y3
        clear hln ht htb hbl hbe hst hsum hsb hd hc1 hc2 hll
        go_wp2_with fail
        refine (HC.out _ (Fr.refl _)).mono ?_
        rintro e w1 ⟨rfl, hf1⟩
        have hfin := hfr.trans hf1
        go_wp2_with fail
        go_roundw
        case rel => exact ⟨c2, j + 1, by omega, rfl, by go_num, HJ2, hfin⟩
        case measure => simp [intOf]; omega
      · obtain rfl : j = n := by omega
        have HR : Hid (ndsL l = c) := Lib.hid (by
          have h := HJ.out
          rw [List.drop_eq_nil_of_le (by rw [← HN.out]; exact Nat.le_refl _), ndsL] at h
          omega)
        go_wp2_with fail
        go_ret
        rw [HR.out]
        exact ⟨rfl, hfr⟩
set_option maxHeartbeats 2000000 in
theorem Size_any : ∀ (m : Nat), m ≤ 140737488351232 → ∀ (l : List Nd), bulks l ≤ m → ∀ (v : Value) (w : World), LN w v l →
    Calls Tryz.prog 32 #[v] w fun e w' => e = .returned (.int .i64 (ndsL l : Nat)) ∧ Fr w w' := by
  intro m
  induction m using Nat.strongRecOn with
  | _ m ih =>
    intro hm47 l hl v w hv
    have IH := Lib.hid ih
    have HV := Lib.hid hv
    have HB := Lib.hid hl
    have HS := Lib.hid (ndsL_hi l)
    obtain ⟨a, cap, rfl, hc, hm, _⟩ := hv.form
    have hn2 : l.length ≤ 140737488351232 := by have := bulks_len l; omega
    obtain ⟨n, hn⟩ : ∃ n, n = l.length := ⟨_, rfl⟩
    have HN := Lib.hid hn
    rw [← hn] at hc HV hn2 ⊢
    clear hn hv ih hm hl
    go_enter Tryz.func32, Tryz.ntmps32
    go_wp2_with fail
    go_loopw [3, 10] (fun s i wr => ∃ c j : Nat, j ≤ n ∧ s = .int .i64 c ∧ i = .int .i64 j ∧ Hid (ndsL l + n = c + j + ndsL (l.drop j)) ∧ Fr w wr) (fun _ i _ => n - (intOf i).toNat)
    case atStart => exact ⟨n, 0, Nat.zero_le _, rfl, rfl, Lib.hid (by simp; omega), Fr.refl _⟩
    case round =>
      obtain ⟨c, j, hj, rfl, rfl, HJ, hfr⟩ := hrel
      by_cases hlt : j < n
      · obtain ⟨t, ht⟩ : ∃ t, l[j]? = some t := ⟨_, List.getElem?_eq_getElem (by rw [← HN.out]; exact hlt)⟩
        obtain ⟨b, off, lv, rfl, hc5, hln, _⟩ := (HV.out.fr hfr).at_ ht
        obtain ⟨x0, x1, x2, x3, x4⟩ := hc5
        obtain ⟨la, lc, rfl, _, _, _⟩ := hln.form
        obtain ⟨ll, hll⟩ : ∃ x : Nat, x = t.l.length := ⟨_, rfl⟩
        rw [← hll] at x3 hln
        have HL := Lib.hid hln
        have htb := bulks_mem (List.mem_of_getElem? ht)
        have hbl := HB.out
        have hbe := t.bulk_eq
        have hst := ndsL_drop ht
        have hsum := HJ.out
        have hsb := HS.out
        obtain ⟨d, hd⟩ : ∃ d, d = ndsL t.l := ⟨_, rfl⟩
        have HC : Hid (∀ W, Fr wr W → Calls Tryz.prog 32 #[.slice la ll lc] W fun e w' => e = .returned (.int .i64 (d : Int)) ∧ Fr W w') := Lib.hid (fun W hW => by
          rw [hd]; exact IH.out (bulks t.l) (by omega) (by omega) t.l (Nat.le_refl _) _ W (HL.out.fr hW))
        rw [← hd] at hst
        have y3 : IntKind.i64.wrap ((c : Int) + (d : Int)) = ((c + d : Nat) : Int) := IntWalk.i64_in _ (by omega)
        have HJ2 : Hid (ndsL l + n = c + d + (j + 1) + ndsL (l.drop (j + 1))) := Lib.hid (by omega)
        obtain ⟨c2, hc2⟩ : ∃ x : Nat, x = c + d := ⟨_, rfl⟩
        rw [← hc2] at y3 HJ2
        have HA : Hid (∀ x : Obj, Fr wr (wr.alloc x)) := Lib.hid (fun x => (Fr.refl wr).alloc x)
        clear hln ht htb hbl hbe hst hsum hsb hd hc2 hll
        go_wp2_with fail
        refine (HC.out _ (HA.out _)).mono ?_
        rintro e w1 ⟨rfl, hf1⟩
        have hfin := (hfr.trans (HA.out _)).trans hf1
        go_wp2_with fail
        go_roundw
        case rel => exact ⟨c2, j + 1, by omega, rfl, by go_num, HJ2, hfin⟩
        case measure => simp [intOf]; omega
      · obtain rfl : j = n := by omega
        have HR : Hid (ndsL l = c) := Lib.hid (by
          have h := HJ.out
          rw [List.drop_eq_nil_of_le (by rw [← HN.out]; exact Nat.le_refl _), ndsL] at h
          omega)
        go_wp2_with fail
        go_ret
        rw [HR.out]
        exact ⟨rfl, hfr⟩
end Go.Proofs.YtbaelbafhdjlnaaGreatDoor

/- The levels of trees; trees compared by the code; whether a section is heavy. -/
namespace Go.Proofs.YtbaelbafhdjlnaaGreatDoor
open Go.RowKit
set_option linter.unusedVariables false

theorem lvlN_eq (t : Nd) : lvlN t = 1 + lvlL t.l := by
  obtain ⟨o, n, s, l, a⟩ := t
  rw [lvlN]; rfl
mutual
theorem lvlN_hi : ∀ t : Nd, lvlN t ≤ t.bulk
  | ⟨o, n, s, l, a⟩ => by
    rw [lvlN, Nd.bulk]
    have := lvlL_hi l
    omega
theorem lvlL_hi : ∀ l : List Nd, lvlL l ≤ bulks l
  | [] => by rw [lvlL, bulks]; omega
  | t :: r => by
    rw [lvlL, bulks]
    have h1 := lvlN_hi t
    have h2 := lvlL_hi r
    omega
end
theorem lvlL_drop {l : List Nd} {j : Nat} {t : Nd} (ht : l[j]? = some t) : lvlL (l.drop j) = max (1 + lvlL t.l) (lvlL (l.drop (j + 1))) := by
  rw [drop1 ht, lvlL, lvlN_eq]
set_option maxHeartbeats 4000000 in
theorem RLevels_any : ∀ (m : Nat), m ≤ 140737488351232 → ∀ (o n : Int) (s : ByteArray) (l : List Nd) (a : Int), bulks l ≤ m → ∀ (v : Value) (w : World), LN w v l →
    Calls Tryz.prog 38 #[.agg #[.int .i64 o, .int .i64 n, .string s, v, .int .i64 a]] w fun e w' => e = .returned (.int .i64 ((1 + lvlL l : Nat) : Int)) ∧ Fr w w' := by
  intro m
  induction m using Nat.strongRecOn with
  | _ m ih =>
    intro hm47 o nn s l at_ hl v w hv
    have IH := Lib.hid ih
    have HV := Lib.hid hv
    have HB := Lib.hid hl
    have HS := Lib.hid (lvlL_hi l)
    obtain ⟨a, cap, rfl, hc, hm, _⟩ := hv.form
    have hn2 : l.length ≤ 140737488351232 := by have := bulks_len l; omega
    obtain ⟨n, hn⟩ : ∃ n, n = l.length := ⟨_, rfl⟩
    have HN := Lib.hid hn
    rw [← hn] at hc HV hn2 ⊢
    obtain ⟨B, hB⟩ : ∃ b, b = w.heap.size := ⟨_, rfl⟩
    obtain ⟨w0, hw0⟩ : ∃ w0, w0 = w.alloc (.cells #[.int .i64 o, .int .i64 nn, .string s, .slice a n cap, .int .i64 at_] 32) := ⟨_, rfl⟩
    have hf0 : Fr w w0 := by rw [hw0]; exact (Fr.refl w).alloc _
    have HB3 : Hid (w0.cell? ⟨w.heap.size, 3, none⟩ = some (.slice a n cap)) := Lib.hid (by rw [hw0]; simp)
    have HF0 := Lib.hid hf0
    have HW0 := Lib.hid hw0
    clear hn hv ih hm hl hf0
    have p3 := HB3.out
    rw [hw0] at p3
    go_enter Tryz.func38, Tryz.ntmps38
    go_wp2_with fail
    rw [← hw0] at p3
    try rw [← hw0]
    go_loopw [3, 4] (fun s i wr => ∃ c j : Nat, j ≤ n ∧ s = .int .i64 c ∧ i = .int .i64 j ∧ Hid (lvlL l = max c (lvlL (l.drop j))) ∧ Fr w0 wr) (fun _ i _ => n - (intOf i).toNat)
    case atStart => exact ⟨0, 0, Nat.zero_le _, rfl, rfl, Lib.hid (by simp), Fr.refl _⟩
    case round =>
      obtain ⟨c, j, hj, rfl, rfl, HJ, hfr⟩ := hrel
      have p3' := hfr.cell HB3.out
      have HLB : Hid (lvlL l ≤ 140737488351232) := Lib.hid (by have h1 := HS.out; have h2 := HB.out; omega)
      by_cases hlt : j < n
      · obtain ⟨t, ht⟩ : ∃ t, l[j]? = some t := ⟨_, List.getElem?_eq_getElem (by rw [← HN.out]; exact hlt)⟩
        obtain ⟨b, off, lv, rfl, hc5, hln, _⟩ := (HV.out.fr (HF0.out.trans hfr)).at_ ht
        obtain ⟨x0, x1, x2, x3, x4⟩ := hc5
        obtain ⟨la, lc, rfl, _, _, _⟩ := hln.form
        obtain ⟨ll, hll⟩ : ∃ x : Nat, x = t.l.length := ⟨_, rfl⟩
        rw [← hll] at x3 hln
        have HL := Lib.hid hln
        have htb := bulks_mem (List.mem_of_getElem? ht)
        have hbl := HB.out
        have hbe := t.bulk_eq
        have hst := lvlL_drop ht
        have hsum := HJ.out
        have hsb := HLB.out
        obtain ⟨d, hd⟩ : ∃ d, d = 1 + lvlL t.l := ⟨_, rfl⟩
        have HC : Hid (∀ W, Fr wr W → Calls Tryz.prog 38 #[.agg #[.int .i64 t.op, .int .i64 t.n, .string t.s, .slice la ll lc, .int .i64 t.a]] W fun e w' => e = .returned (.int .i64 (d : Int)) ∧ Fr W w') := Lib.hid (fun W hW => by
          rw [hd]; exact IH.out (bulks t.l) (by omega) (by omega) t.op t.n t.s t.l t.a (Nat.le_refl _) _ W (HL.out.fr hW))
        rw [← hd] at hst
        obtain ⟨q0, hq0⟩ : ∃ x, x = t.op := ⟨_, rfl⟩
        obtain ⟨q1, hq1⟩ : ∃ x, x = t.n := ⟨_, rfl⟩
        obtain ⟨q2, hq2⟩ : ∃ x, x = t.s := ⟨_, rfl⟩
        obtain ⟨q4, hq4⟩ : ∃ x, x = t.a := ⟨_, rfl⟩
        rw [← hq0, ← hq1, ← hq2, ← hq4] at HC
        rw [← hq0] at x0
        rw [← hq1] at x1
        rw [← hq2] at x2
        rw [← hq4] at x4
        have HA : Hid (∀ x : Obj, Fr wr (wr.alloc x)) := Lib.hid (fun x => (Fr.refl wr).alloc x)
        have HJ2 : Hid (lvlL l = max (max c d) (lvlL (l.drop (j + 1)))) := Lib.hid (by omega)
        clear hln ht htb hbl hbe hst hsum hsb hd hll hq0 hq1 hq2 hq4
        by_cases hcd : c < d
        · have HX : Hid (max c d = d) := Lib.hid (by omega)
          rw [HX.out] at HJ2
          have e1 : max (c : Int) (d : Int) = (d : Int) := by omega
          have e2 : decide ((c : Int) < (d : Int)) = true := decide_eq_true (by omega)
          go_wp2_with fail
          refine (HC.out _ (by first | exact HA.out _ | exact Fr.refl _)).mono ?_
          rintro e w1 ⟨rfl, hf1⟩
          have hfin := hfr.trans (Fr.trans (by first | exact HA.out _ | exact Fr.refl _) hf1)
          go_wp2_with fail
          go_roundw
          case rel => exact ⟨d, j + 1, by omega, by first | rfl | (congr 1; omega) | simp [e1], by go_num, HJ2, hfin⟩
          case measure => simp [intOf]; omega
        · have HX : Hid (max c d = c) := Lib.hid (by omega)
          rw [HX.out] at HJ2
          have e1 : max (c : Int) (d : Int) = (c : Int) := by omega
          have e2 : decide ((c : Int) < (d : Int)) = false := decide_eq_false (by omega)
          go_wp2_with fail
          refine (HC.out _ (by first | exact HA.out _ | exact Fr.refl _)).mono ?_
          rintro e w1 ⟨rfl, hf1⟩
          have hfin := hfr.trans (Fr.trans (by first | exact HA.out _ | exact Fr.refl _) hf1)
          go_wp2_with fail
          go_roundw
          case rel => exact ⟨c, j + 1, by omega, by first | rfl | (congr 1; omega) | simp [e1], by go_num, HJ2, hfin⟩
          case measure => simp [intOf]; omega
      · obtain rfl : j = n := by omega
        have HR : Hid (lvlL l = c) := Lib.hid (by
          have h := HJ.out
          rw [List.drop_eq_nil_of_le (by rw [← HN.out]; exact Nat.le_refl _), lvlL] at h
          omega)
        have hcb : c ≤ 140737488351232 := by have := HLB.out; rw [HR.out] at this; exact this
        have y1 : IntKind.i64.wrap ((c : Int) + 1) = ((1 + c : Nat) : Int) := by rw [show (c : Int) + 1 = ((1 + c : Nat) : Int) by omega]; exact IntWalk.i64_in _ (by omega)
        have y2 : IntKind.i64.wrap (1 + (c : Int)) = ((1 + c : Nat) : Int) := by rw [show 1 + (c : Int) = ((1 + c : Nat) : Int) by omega]; exact IntWalk.i64_in _ (by omega)
        obtain ⟨c1, hc1⟩ : ∃ x : Nat, x = 1 + c := ⟨_, rfl⟩
        rw [← hc1] at y1 y2
        have HC1 := Lib.hid hc1
        clear hc1 hcb
        go_wp2_with fail
        go_ret
        rw [HR.out, ← HC1.out]
        exact ⟨rfl, HF0.out.trans hfr⟩
set_option maxHeartbeats 4000000 in
theorem Levels_any : ∀ (m : Nat), m ≤ 140737488351232 → ∀ (o n : Int) (s : ByteArray) (l : List Nd) (a : Int), bulks l ≤ m → ∀ (v : Value) (w : World), LN w v l →
    Calls Tryz.prog 37 #[.agg #[.int .i64 o, .int .i64 n, .string s, v, .int .i64 a]] w fun e w' => e = .returned (.int .i64 ((1 + lvlL l : Nat) : Int)) ∧ Fr w w' := by
  intro m
  induction m using Nat.strongRecOn with
  | _ m ih =>
    intro hm47 o nn s l at_ hl v w hv
    have IH := Lib.hid ih
    have HV := Lib.hid hv
    have HB := Lib.hid hl
    have HS := Lib.hid (lvlL_hi l)
    obtain ⟨a, cap, rfl, hc, hm, _⟩ := hv.form
    have hn2 : l.length ≤ 140737488351232 := by have := bulks_len l; omega
    obtain ⟨n, hn⟩ : ∃ n, n = l.length := ⟨_, rfl⟩
    have HN := Lib.hid hn
    rw [← hn] at hc HV hn2 ⊢
    obtain ⟨B, hB⟩ : ∃ b, b = w.heap.size := ⟨_, rfl⟩
    obtain ⟨w0, hw0⟩ : ∃ w0, w0 = w.alloc (.cells #[.int .i64 o, .int .i64 nn, .string s, .slice a n cap, .int .i64 at_] 32) := ⟨_, rfl⟩
    have hf0 : Fr w w0 := by rw [hw0]; exact (Fr.refl w).alloc _
    have HB3 : Hid (w0.cell? ⟨w.heap.size, 3, none⟩ = some (.slice a n cap)) := Lib.hid (by rw [hw0]; simp)
    have HF0 := Lib.hid hf0
    have HW0 := Lib.hid hw0
    clear hn hv ih hm hl hf0
    have p3 := HB3.out
    rw [hw0] at p3
    go_enter Tryz.func37, Tryz.ntmps37
    go_wp2_with fail
    rw [← hw0] at p3
    try rw [← hw0]
    go_loopw [3, 9] (fun s i wr => ∃ c j : Nat, j ≤ n ∧ s = .int .i64 c ∧ i = .int .i64 j ∧ Hid (lvlL l = max c (lvlL (l.drop j))) ∧ Fr w0 wr) (fun _ i _ => n - (intOf i).toNat)
    case atStart => exact ⟨0, 0, Nat.zero_le _, rfl, rfl, Lib.hid (by simp), Fr.refl _⟩
    case round =>
      obtain ⟨c, j, hj, rfl, rfl, HJ, hfr⟩ := hrel
      have p3' := hfr.cell HB3.out
      have HLB : Hid (lvlL l ≤ 140737488351232) := Lib.hid (by have h1 := HS.out; have h2 := HB.out; omega)
      by_cases hlt : j < n
      · obtain ⟨t, ht⟩ : ∃ t, l[j]? = some t := ⟨_, List.getElem?_eq_getElem (by rw [← HN.out]; exact hlt)⟩
        obtain ⟨b, off, lv, rfl, hc5, hln, _⟩ := (HV.out.fr (HF0.out.trans hfr)).at_ ht
        obtain ⟨x0, x1, x2, x3, x4⟩ := hc5
        obtain ⟨la, lc, rfl, _, _, _⟩ := hln.form
        obtain ⟨ll, hll⟩ : ∃ x : Nat, x = t.l.length := ⟨_, rfl⟩
        rw [← hll] at x3 hln
        have HL := Lib.hid hln
        have htb := bulks_mem (List.mem_of_getElem? ht)
        have hbl := HB.out
        have hbe := t.bulk_eq
        have hst := lvlL_drop ht
        have hsum := HJ.out
        have hsb := HLB.out
        obtain ⟨d, hd⟩ : ∃ d, d = 1 + lvlL t.l := ⟨_, rfl⟩
        have HC : Hid (∀ W, Fr wr W → Calls Tryz.prog 37 #[.agg #[.int .i64 t.op, .int .i64 t.n, .string t.s, .slice la ll lc, .int .i64 t.a]] W fun e w' => e = .returned (.int .i64 (d : Int)) ∧ Fr W w') := Lib.hid (fun W hW => by
          rw [hd]; exact IH.out (bulks t.l) (by omega) (by omega) t.op t.n t.s t.l t.a (Nat.le_refl _) _ W (HL.out.fr hW))
        rw [← hd] at hst
        obtain ⟨q0, hq0⟩ : ∃ x, x = t.op := ⟨_, rfl⟩
        obtain ⟨q1, hq1⟩ : ∃ x, x = t.n := ⟨_, rfl⟩
        obtain ⟨q2, hq2⟩ : ∃ x, x = t.s := ⟨_, rfl⟩
        obtain ⟨q4, hq4⟩ : ∃ x, x = t.a := ⟨_, rfl⟩
        rw [← hq0, ← hq1, ← hq2, ← hq4] at HC
        rw [← hq0] at x0
        rw [← hq1] at x1
        rw [← hq2] at x2
        rw [← hq4] at x4
        have HA : Hid (∀ x : Obj, Fr wr (wr.alloc x)) := Lib.hid (fun x => (Fr.refl wr).alloc x)
        have HJ2 : Hid (lvlL l = max (max c d) (lvlL (l.drop (j + 1)))) := Lib.hid (by omega)
        clear hln ht htb hbl hbe hst hsum hsb hd hll hq0 hq1 hq2 hq4
        by_cases hcd : c < d
        · have HX : Hid (max c d = d) := Lib.hid (by omega)
          rw [HX.out] at HJ2
          have e1 : max (c : Int) (d : Int) = (d : Int) := by omega
          have e2 : decide ((c : Int) < (d : Int)) = true := decide_eq_true (by omega)
          go_wp2_with fail
          refine (HC.out _ (by first | exact HA.out _ | exact Fr.refl _)).mono ?_
          rintro e w1 ⟨rfl, hf1⟩
          have hfin := hfr.trans (Fr.trans (by first | exact HA.out _ | exact Fr.refl _) hf1)
          go_wp2_with fail
          go_roundw
          case rel => exact ⟨d, j + 1, by omega, by first | rfl | (congr 1; omega) | simp [e1], by go_num, HJ2, hfin⟩
          case measure => simp [intOf]; omega
        · have HX : Hid (max c d = c) := Lib.hid (by omega)
          rw [HX.out] at HJ2
          have e1 : max (c : Int) (d : Int) = (c : Int) := by omega
          have e2 : decide ((c : Int) < (d : Int)) = false := decide_eq_false (by omega)
          go_wp2_with fail
          refine (HC.out _ (by first | exact HA.out _ | exact Fr.refl _)).mono ?_
          rintro e w1 ⟨rfl, hf1⟩
          have hfin := hfr.trans (Fr.trans (by first | exact HA.out _ | exact Fr.refl _) hf1)
          go_wp2_with fail
          go_roundw
          case rel => exact ⟨c, j + 1, by omega, by first | rfl | (congr 1; omega) | simp [e1], by go_num, HJ2, hfin⟩
          case measure => simp [intOf]; omega
      · obtain rfl : j = n := by omega
        have HR : Hid (lvlL l = c) := Lib.hid (by
          have h := HJ.out
          rw [List.drop_eq_nil_of_le (by rw [← HN.out]; exact Nat.le_refl _), lvlL] at h
          omega)
        have hcb : c ≤ 140737488351232 := by have := HLB.out; rw [HR.out] at this; exact this
        have y1 : IntKind.i64.wrap ((c : Int) + 1) = ((1 + c : Nat) : Int) := by rw [show (c : Int) + 1 = ((1 + c : Nat) : Int) by omega]; exact IntWalk.i64_in _ (by omega)
        have y2 : IntKind.i64.wrap (1 + (c : Int)) = ((1 + c : Nat) : Int) := by rw [show 1 + (c : Int) = ((1 + c : Nat) : Int) by omega]; exact IntWalk.i64_in _ (by omega)
        obtain ⟨c1, hc1⟩ : ∃ x : Nat, x = 1 + c := ⟨_, rfl⟩
        rw [← hc1] at y1 y2
        have HC1 := Lib.hid hc1
        clear hc1 hcb
        go_wp2_with fail
        go_ret
        rw [HR.out, ← HC1.out]
        exact ⟨rfl, HF0.out.trans hfr⟩
end Go.Proofs.YtbaelbafhdjlnaaGreatDoor

/- Trees compared by the code; whether a section is heavy. -/
namespace Go.Proofs.YtbaelbafhdjlnaaGreatDoor
open Go.RowKit
set_option linter.unusedVariables false

set_option maxHeartbeats 4000000 in
theorem SameNode_of (t u : Nd) (lt lu : Value) (w : World) (ht : ∃ a n c, lt = .slice a n c) (hu : ∃ a n c, lu = .slice a n c) (HP : Hid (∀ W, Fr w W → Calls Tryz.prog 87 #[lt, lu, (.func (.func 42) #[] #[])] W fun e w' => e = .returned (.bool (eqL false t.l u.l)) ∧ Fr W w')) :
    Calls Tryz.prog 42 #[ndV t lt, ndV u lu] w fun e w' => e = .returned (.bool (eqN false t u)) ∧ Fr w w' := by
  obtain ⟨R, hR⟩ : ∃ r, r = eqN false t u := ⟨_, rfl⟩
  rw [← hR]
  rw [eqN_eq] at hR
  obtain ⟨d, hd⟩ : ∃ d, d = eqL false t.l u.l := ⟨_, rfl⟩
  rw [← hd] at hR HP
  unfold ndV
  obtain ⟨o1, hO1⟩ : ∃ x, x = t.op := ⟨_, rfl⟩
  obtain ⟨n1, hN1⟩ : ∃ x, x = t.n := ⟨_, rfl⟩
  obtain ⟨s1, hS1⟩ : ∃ x, x = t.s := ⟨_, rfl⟩
  obtain ⟨a1, hA1⟩ : ∃ x, x = t.a := ⟨_, rfl⟩
  obtain ⟨o2, hO2⟩ : ∃ x, x = u.op := ⟨_, rfl⟩
  obtain ⟨n2, hN2⟩ : ∃ x, x = u.n := ⟨_, rfl⟩
  obtain ⟨s2, hS2⟩ : ∃ x, x = u.s := ⟨_, rfl⟩
  obtain ⟨a2, hA2⟩ : ∃ x, x = u.a := ⟨_, rfl⟩
  rw [← hO1, ← hN1, ← hS1, ← hA1, ← hO2, ← hN2, ← hS2, ← hA2] at hR
  rw [← hO1, ← hN1, ← hS1, ← hA1, ← hO2, ← hN2, ← hS2, ← hA2]
  clear hO1 hN1 hS1 hA1 hO2 hN2 hS2 hA2 hd
  have HFR : Hid (∀ x y : Obj, Fr w ((w.alloc x).alloc y)) := Lib.hid (fun x y => ((Fr.refl w).alloc x).alloc y)
  by_cases h1 : o1 = o2
  · subst h1
    have z1 : (o1 == o1) = true := by simp
    by_cases h2 : n1 = n2
    · subst h2
      have z2 : (n1 == n1) = true := by simp
      by_cases h3 : s1 = s2
      · subst h3
        have z3 : (s1.toList == s1.toList) = true := by simp
        have HR : Hid (R = d) := Lib.hid (by rw [hR]; simp)
        clear hR
        go_enter Tryz.func42, Tryz.ntmps42
        go_wp2_with fail
        refine (HP.out _ (HFR.out _ _)).mono ?_
        rintro e w1 ⟨rfl, hf1⟩
        go_wp2_with fail
        go_ret
        rw [HR.out]
        exact ⟨rfl, Fr.trans (HFR.out _ _) hf1⟩
      · have z3 := s_no h3
        have HR : Hid (R = false) := Lib.hid (by rw [hR]; simp [h3])
        clear hR h3
        go_enter Tryz.func42, Tryz.ntmps42
        go_wp2_with fail
        go_ret
        rw [HR.out]
        exact ⟨rfl, HFR.out _ _⟩
    · have z2 : (n1 == n2) = false := by rw [beq_eq_false_iff_ne]; exact h2
      have HR : Hid (R = false) := Lib.hid (by rw [hR]; simp [h2])
      clear hR h2
      go_enter Tryz.func42, Tryz.ntmps42
      go_wp2_with fail
      go_ret
      rw [HR.out]
      exact ⟨rfl, HFR.out _ _⟩
  · have z1 : (o1 == o2) = false := by rw [beq_eq_false_iff_ne]; exact h1
    have HR : Hid (R = false) := Lib.hid (by rw [hR]; simp [h1])
    clear hR h1
    go_enter Tryz.func42, Tryz.ntmps42
    go_wp2_with fail
    go_ret
    rw [HR.out]
    exact ⟨rfl, HFR.out _ _⟩
set_option maxHeartbeats 4000000 in
theorem EqualFunc_of (l q : List Nd) (v1 v2 : Value) (w : World) (hv1 : LN w v1 l) (hv2 : LN w v2 q)
    (HQ : Hid (∀ (i : Nat) (t u : Nd) (lt lu : Value) (W : World), l[i]? = some t → q[i]? = some u → Fr w W → LN W lt t.l → LN W lu u.l → Calls Tryz.prog 42 #[ndV t lt, ndV u lu] W fun e w' => e = .returned (.bool (eqN false t u)) ∧ Fr W w')) :
    Calls Tryz.prog 87 #[v1, v2, (.func (.func 42) #[] #[])] w fun e w' => e = .returned (.bool (eqL false l q)) ∧ Fr w w' := by
  have HV1 := Lib.hid hv1
  have HV2 := Lib.hid hv2
  obtain ⟨a1, cap1, rfl, hc1, hm1, _⟩ := hv1.form
  obtain ⟨a2, cap2, rfl, hc2, hm2, _⟩ := hv2.form
  unfold maxLen at hm1 hm2
  obtain ⟨n, hn⟩ : ∃ n, n = l.length := ⟨_, rfl⟩
  obtain ⟨m, hm⟩ : ∃ n, n = q.length := ⟨_, rfl⟩
  have HN := Lib.hid hn
  have HM := Lib.hid hm
  rw [← hn] at hc1 HV1 ⊢
  rw [← hm] at hc2 HV2 ⊢
  by_cases hnm : n = m
  · obtain rfl := hnm
    have z0 : ((n : Int) == (n : Int)) = true := by simp
    obtain ⟨D, hD⟩ : ∃ d, d = eqL false l q := ⟨_, rfl⟩
    have HD := Lib.hid hD
    rw [← hD]
    clear hn hm hv1 hv2 hD
    go_enter Tryz.func87, Tryz.ntmps87
    go_wp2_with fail
    go_loopw [17] (fun i wr => ∃ j : Nat, j ≤ n ∧ i = .int .i64 j ∧ Hid (D = eqL false (l.drop j) (q.drop j)) ∧ Fr w wr) (fun i _ => n - (intOf i).toNat)
    case atStart => exact ⟨0, Nat.zero_le _, rfl, Lib.hid (by rw [HD.out]; rfl), Fr.refl _⟩
    case round =>
      obtain ⟨j, hj, rfl, HJ, hfr⟩ := hrel
      by_cases hlt : j < n
      · obtain ⟨t, ht⟩ : ∃ t, l[j]? = some t := ⟨_, List.getElem?_eq_getElem (by rw [← HN.out]; exact hlt)⟩
        obtain ⟨u, hu⟩ : ∃ t, q[j]? = some t := ⟨_, List.getElem?_eq_getElem (by rw [← HM.out]; exact hlt)⟩
        obtain ⟨b1, off1, lt, rfl, g1, hl1, _⟩ := (HV1.out.fr hfr).at_ ht
        obtain ⟨b2, off2, lu, rfl, g2, hl2, _⟩ := (HV2.out.fr hfr).at_ hu
        have HA : Hid (∀ x y : Obj, Fr wr ((wr.alloc x).alloc y)) := Lib.hid (fun x y => ((Fr.refl wr).alloc x).alloc y)
        have HA1 : Hid (∀ x : Obj, Fr wr (wr.alloc x)) := Lib.hid (fun x => (Fr.refl wr).alloc x)
        obtain ⟨x0, x1, x2, x3, x4⟩ := g1
        obtain ⟨y0, y1, y2, y3, y4⟩ := g2
        obtain ⟨la, lc, rfl, _, _, _⟩ := hl1.form
        obtain ⟨ma, mc, rfl, _, _, _⟩ := hl2.form
        obtain ⟨ll, hll⟩ : ∃ x : Nat, x = t.l.length := ⟨_, rfl⟩
        obtain ⟨ml, hml⟩ : ∃ x : Nat, x = u.l.length := ⟨_, rfl⟩
        rw [← hll] at x3 hl1
        rw [← hml] at y3 hl2
        have HL1 := Lib.hid hl1
        have HL2 := Lib.hid hl2
        have hstep := eqL_drop (p := false) ht hu
        obtain ⟨D1, hD1⟩ : ∃ d, d = eqN false t u := ⟨_, rfl⟩
        have HC : Hid (∀ W, Fr wr W → Calls Tryz.prog 42 #[.agg #[.int .i64 t.op, .int .i64 t.n, .string t.s, .slice la ll lc, .int .i64 t.a], .agg #[.int .i64 u.op, .int .i64 u.n, .string u.s, .slice ma ml mc, .int .i64 u.a]] W fun e w' => e = .returned (.bool D1) ∧ Fr W w') := Lib.hid (fun W hW => by
          rw [hD1]; exact HQ.out j t u _ _ W ht hu (hfr.trans hW) (HL1.out.fr hW) (HL2.out.fr hW))
        rw [← hD1] at hstep
        have HST := Lib.hid hstep
        clear hl1 hl2 ht hu hstep hD1 hll hml
        obtain ⟨t0, ht0⟩ : ∃ x, x = t.op := ⟨_, rfl⟩
        obtain ⟨t1, ht1⟩ : ∃ x, x = t.n := ⟨_, rfl⟩
        obtain ⟨t2, ht2⟩ : ∃ x, x = t.s := ⟨_, rfl⟩
        obtain ⟨t4, ht4⟩ : ∃ x, x = t.a := ⟨_, rfl⟩
        obtain ⟨u0, hu0⟩ : ∃ x, x = u.op := ⟨_, rfl⟩
        obtain ⟨u1, hu1⟩ : ∃ x, x = u.n := ⟨_, rfl⟩
        obtain ⟨u2, hu2⟩ : ∃ x, x = u.s := ⟨_, rfl⟩
        obtain ⟨u4, hu4⟩ : ∃ x, x = u.a := ⟨_, rfl⟩
        rw [← ht0, ← ht1, ← ht2, ← ht4, ← hu0, ← hu1, ← hu2, ← hu4] at HC
        rw [← ht0] at x0
        rw [← ht1] at x1
        rw [← ht2] at x2
        rw [← ht4] at x4
        rw [← hu0] at y0
        rw [← hu1] at y1
        rw [← hu2] at y2
        rw [← hu4] at y4
        clear ht0 ht1 ht2 ht4 hu0 hu1 hu2 hu4
        have y0' := HA1.out (.cells #[.int .i64 t0, .int .i64 t1, .string t2, .slice la ll lc, .int .i64 t4] 32) |>.cell y0
        have y1' := HA1.out (.cells #[.int .i64 t0, .int .i64 t1, .string t2, .slice la ll lc, .int .i64 t4] 32) |>.cell y1
        have y2' := HA1.out (.cells #[.int .i64 t0, .int .i64 t1, .string t2, .slice la ll lc, .int .i64 t4] 32) |>.cell y2
        have y3' := HA1.out (.cells #[.int .i64 t0, .int .i64 t1, .string t2, .slice la ll lc, .int .i64 t4] 32) |>.cell y3
        have y4' := HA1.out (.cells #[.int .i64 t0, .int .i64 t1, .string t2, .slice la ll lc, .int .i64 t4] 32) |>.cell y4
        cases D1 with
        | true =>
          have HJ2 : Hid (D = eqL false (l.drop (j + 1)) (q.drop (j + 1))) := Lib.hid (by rw [HJ.out, HST.out, Bool.true_and])
          go_wp2_with fail
          refine (HC.out _ (HA.out _ _)).mono ?_
          rintro e w1 ⟨rfl, hf1⟩
          have hfin := hfr.trans (Fr.trans (HA.out _ _) hf1)
          go_wp2_with fail
          go_roundw
          case rel => exact ⟨j + 1, by omega, by go_num, HJ2, hfin⟩
          case measure => simp [intOf]; omega
        | false =>
          have HJ2 : Hid (D = false) := Lib.hid (by rw [HJ.out, HST.out, Bool.false_and])
          go_wp2_with fail
          refine (HC.out _ (HA.out _ _)).mono ?_
          rintro e w1 ⟨rfl, hf1⟩
          have hfin := hfr.trans (Fr.trans (HA.out _ _) hf1)
          go_wp2_with fail
          go_ret
          rw [HJ2.out]
          exact ⟨rfl, hfin⟩
      · obtain rfl : j = n := by omega
        have HR : Hid (D = true) := Lib.hid (by rw [HJ.out, List.drop_eq_nil_of_le (by rw [← HN.out]; exact Nat.le_refl _), List.drop_eq_nil_of_le (by rw [← HM.out]; exact Nat.le_refl _), eqL])
        go_wp2_with fail
        go_ret
        rw [HR.out]
        exact ⟨rfl, hfr⟩
  · have HR : Hid (eqL false l q = false) := Lib.hid (eqL_len false l q (by rw [← hn, ← hm]; exact hnm))
    have z0 : ((n : Int) == (m : Int)) = false := by rw [beq_eq_false_iff_ne]; omega
    clear hn hm hv1 hv2 hnm
    go_enter Tryz.func87, Tryz.ntmps87
    go_wp2_with fail
    go_ret
    rw [HR.out]
    exact ⟨rfl, Fr.refl _⟩
theorem EqualFunc_any : ∀ (m : Nat) (l q : List Nd), bulks l ≤ m → ∀ (v1 v2 : Value) (w : World), LN w v1 l → LN w v2 q →
    Calls Tryz.prog 87 #[v1, v2, (.func (.func 42) #[] #[])] w fun e w' => e = .returned (.bool (eqL false l q)) ∧ Fr w w' := by
  intro m
  induction m using Nat.strongRecOn with
  | _ m ih =>
    intro l q hl v1 v2 w h1 h2
    refine EqualFunc_of l q v1 v2 w h1 h2 (Lib.hid fun i t u lt lu W ht hu hW hlt hlu => ?_)
    obtain ⟨a1, c1, e1, _⟩ := hlt.form
    obtain ⟨a2, c2, e2, _⟩ := hlu.form
    refine SameNode_of t u lt lu W ⟨_, _, _, e1⟩ ⟨_, _, _, e2⟩ (Lib.hid fun W2 hW2 => ?_)
    have h3 := bulks_mem (List.mem_of_getElem? ht)
    have h4 := t.bulk_eq
    exact ih (bulks t.l) (by omega) t.l u.l (Nat.le_refl _) lt lu W2 (hlt.fr hW2) (hlu.fr hW2)
theorem SameNode_any (t u : Nd) (lt lu : Value) (w : World) (h1 : LN w lt t.l) (h2 : LN w lu u.l) :
    Calls Tryz.prog 42 #[ndV t lt, ndV u lu] w fun e w' => e = .returned (.bool (eqN false t u)) ∧ Fr w w' := by
  obtain ⟨a1, c1, e1, _⟩ := h1.form
  obtain ⟨a2, c2, e2, _⟩ := h2.form
  exact SameNode_of t u lt lu w ⟨_, _, _, e1⟩ ⟨_, _, _, e2⟩ (Lib.hid fun W hW => EqualFunc_any _ t.l u.l (Nat.le_refl _) lt lu W (h1.fr hW) (h2.fr hW))
set_option maxHeartbeats 2000000 in
theorem Same_any (s1 s2 : ByteArray) (l q : List Nd) (v1 v2 : Value) (w : World) (h1 : LN w v1 l) (h2 : LN w v2 q) :
    Calls Tryz.prog 34 #[.agg #[.string s1, v1], .agg #[.string s2, v2]] w fun e w' => e = .returned (.bool (decide (s1 = s2) && eqL false l q)) ∧ Fr w w' := by
  have HFR : Hid (∀ x y : Obj, Fr w ((w.alloc x).alloc y)) := Lib.hid (fun x y => ((Fr.refl w).alloc x).alloc y)
  have HP := Lib.hid (fun W (k : Fr w W) => EqualFunc_any _ l q (Nat.le_refl _) v1 v2 W (h1.fr k) (h2.fr k))
  obtain ⟨d, hd⟩ : ∃ d, d = eqL false l q := ⟨_, rfl⟩
  rw [← hd] at HP ⊢
  clear hd h1 h2
  by_cases h3 : s1 = s2
  · subst h3
    have z3 : (s1.toList == s1.toList) = true := by simp
    have HR : Hid ((decide (s1 = s1) && d) = d) := Lib.hid (by simp)
    rw [HR.out]
    go_enter Tryz.func34, Tryz.ntmps34
    go_wp2_with fail
    refine (HP.out _ (HFR.out _ _)).mono ?_
    rintro e w1 ⟨rfl, hf1⟩
    go_wp2_with fail
    go_ret
    exact ⟨rfl, Fr.trans (HFR.out _ _) hf1⟩
  · have z3 := s_no h3
    rw [show (decide (s1 = s2) && d) = false by simp [h3]]
    clear h3
    go_enter Tryz.func34, Tryz.ntmps34
    go_wp2_with fail
    go_ret
    exact ⟨rfl, HFR.out _ _⟩
/-- Whether a section is heavy for the statements. -/
theorem heavy_any (s : ByteArray) (l : List Nd) (v : Value) (w : World) (hs : s.size ≤ 140737488351232) (hv : LN w v l) :
    Calls Tryz.prog 20 #[.agg #[.string s, v]] w fun e w' => e = .returned (.bool (hvL l 400 || decide (200 < s.size))) ∧ Fr w w' := by
  have HFR : Hid (∀ x : Obj, Fr w (w.alloc x)) := Lib.hid (fun x => (Fr.refl w).alloc x)
  have HP := Lib.hid (fun W (k : Fr w W) => Heavy_any l v 400 W (by omega) (hv.fr k))
  obtain ⟨d, hd⟩ : ∃ d, d = hvL l 400 := ⟨_, rfl⟩
  rw [← hd] at HP ⊢
  have HP' : Hid (∀ W, Fr w W → Calls Tryz.prog 21 #[v, .int .i64 400] W fun e w' => e = .returned (.bool d) ∧ Fr W w') := HP
  clear hd hv HP
  cases d with
  | true =>
    rw [Bool.true_or]
    go_enter Tryz.func20, Tryz.ntmps20
    go_wp2_with fail
    refine (HP'.out _ (HFR.out _)).mono ?_
    rintro e w1 ⟨rfl, hf1⟩
    have hfin := Fr.trans (HFR.out _) hf1
    have hk : w1.cell? ⟨w.heap.size, 0, none⟩ = some (.string s) := hf1.cell (by simp)
    go_wp2_with fail
    go_ret
    exact ⟨rfl, hfin⟩
  | false =>
    rw [Bool.false_or]
    have e1 : decide (200 < s.size) = decide ((200 : Int) < (s.size : Int)) := by simp; omega
    rw [e1]
    go_enter Tryz.func20, Tryz.ntmps20
    go_wp2_with fail
    refine (HP'.out _ (HFR.out _)).mono ?_
    rintro e w1 ⟨rfl, hf1⟩
    have hfin := Fr.trans (HFR.out _) hf1
    have hk : w1.cell? ⟨w.heap.size, 0, none⟩ = some (.string s) := hf1.cell (by simp)
    go_wp2_with fail
    go_ret
    exact ⟨rfl, hfin⟩
end Go.Proofs.YtbaelbafhdjlnaaGreatDoor

/- Trees that keep away from some blocks; an append of a node, and where its row lies then. -/
namespace Go.Proofs.YtbaelbafhdjlnaaGreatDoor
open Go.RowKit
set_option linter.unusedVariables false

/-- A slice of nodes that lie, with all below, in blocks of a kind. -/
inductive LNP (P : Nat → Prop) (w : World) : Value → List Nd → Prop where
  | mk (a : Option Addr) (cap : Nat) (l : List Nd) (lv : Nat → Value) (hc : l.length ≤ cap) (hm : cap ≤ maxLen) (hz : a = none → cap = 0)
      (hr : 0 < l.length → ∃ b off, a = some ⟨b, off, none⟩ ∧ P b ∧ ∀ (i : Nat) (t : Nd), l[i]? = some t → NdC w b (off + i * 5) t (lv i))
      (hw : ∀ t ∈ l, wfN t) (hs : ∀ (i : Nat) (t : Nd), l[i]? = some t → LNP P w (lv i) t.l) : LNP P w (.slice a l.length cap) l
theorem LNP.ln {P : Nat → Prop} {w : World} {v : Value} {l : List Nd} (h : LNP P w v l) : LN w v l := by
  induction h with
  | mk a cap l lv hc hm hz hr hw hs ih => exact .mk a cap l lv hc hm hz (fun hp => by obtain ⟨b, off, e, _, hg⟩ := hr hp; exact ⟨b, off, e, hg⟩) hw ih
/-- From world to world, where the blocks of the kind keep their cells. -/
theorem LNP.keep {P Q : Nat → Prop} {w w' : World} {v : Value} {l : List Nd} (h : LNP P w v l) (k : ∀ b off u, P b → w.cell? ⟨b, off, none⟩ = some u → Q b ∧ w'.cell? ⟨b, off, none⟩ = some u) : LNP Q w' v l := by
  induction h with
  | mk a cap l lv hc hm hz hr hw hs ih =>
    refine .mk a cap l lv hc hm hz (fun hp => ?_) hw ih
    obtain ⟨b, off, e, hb, hg⟩ := hr hp
    obtain ⟨t, ht⟩ : ∃ t, l[0]? = some t := ⟨_, List.getElem?_eq_getElem hp⟩
    refine ⟨b, off, e, (k b _ _ hb (hg 0 t ht).op).1, fun i u hu => ?_⟩
    obtain ⟨g0, g1, g2, g3, g4⟩ := hg i u hu
    exact ⟨(k b _ _ hb g0).2, (k b _ _ hb g1).2, (k b _ _ hb g2).2, (k b _ _ hb g3).2, (k b _ _ hb g4).2⟩
theorem LN.old {w : World} {v : Value} {l : List Nd} (h : LN w v l) : LNP (fun b => b < w.heap.size) w v l := by
  induction h with
  | mk a cap l lv hc hm hz hr hw hs ih =>
    refine .mk a cap l lv hc hm hz (fun hp => ?_) hw ih
    obtain ⟨b, off, e, hg⟩ := hr hp
    obtain ⟨t, ht⟩ : ∃ t, l[0]? = some t := ⟨_, List.getElem?_eq_getElem hp⟩
    exact ⟨b, off, e, World.block_lt_of_cell? w _ (hg 0 t ht).op, hg⟩
theorem cell_block {w w' : World} {b off : Nat} {u : Value} (hb : w'.heap[b]? = w.heap[b]?) (h : w.cell? ⟨b, off, none⟩ = some u) : w'.cell? ⟨b, off, none⟩ = some u := by
  simp only [World.cell?] at h ⊢
  rw [hb]
  exact h
section
variable {P : Program} {w : World}
/-- The row of an append is the old one or a new one. -/
theorem run_append_own_where (base : Nat) (t ty e : TypeId) (i : TypeInfo) (z : Value) (size bytes : Nat) (ht : P.underlying t = some (.slice e)) (hi : P.info? e = some i) (hz : i.zero = some z)
    (hsize : i.size = size) (hby : i.bytes = bytes) (hzs : z.cells.size = size) (hsz : 0 < size)
    (v : Value) (n : Nat) (xs : List Value) (hown : w.ownsRow base e size v n xs)
    (a : Addr) (m c : Nat) (news : List Value) (hl : news.length = m * size) (hnews : ∀ j u, news[j]? = some u → w.cell? (a.add j) = some u) (h1 : ∀ u ∈ news, u.oneCell' = true)
    (hm : 0 < m) (h63 : n + m ≤ maxLen) (hbytes : (n + m) * bytes ≤ 140737488355328) (hbase : base ≤ w.heap.size) :
    ∃ v' w', (Builtin.append_ #[t, t] ty #[v, .slice (some a) m c]).run P w = .ok v' w' ∧ w'.ownsRow base e size v' (n + m) (xs ++ news) ∧ w.grownBy w' v.ownBlock ∧
      (v'.ownBlock = v.ownBlock ∨ v'.ownBlock = some w.heap.size) := by
  obtain ⟨v', w', hr, h2, h3, _⟩ := run_append_own (P := P) (w := w) base t ty e i z size bytes ht hi hz hsize hby hzs hsz v n xs hown a m c news hl hnews h1 h63 hbytes hbase
  refine ⟨v', w', hr, h2, h3, ?_⟩
  subst hsize
  subst hby
  have hsmall : n + m ≤ 9223372036854775807 := by simp only [maxLen] at h63; omega
  rcases hown.2 with ⟨rfl, rfl⟩ | ⟨g, cap, cur, rfl, hbg, hg, hnc, hcm, hcs, htake⟩
  · have hq := run_append_nil (P := P) w t ty e i z ht hi hz a m c news hl hnews hm (by omega) (by have hb := hbytes; simp only [Nat.zero_add] at hb; omega)
    rw [hq] at hr
    obtain ⟨rfl, _⟩ : _ = v' ∧ _ := by simpa using hr
    exact .inr rfl
  · by_cases hroom : n + m ≤ cap
    · have hq := run_append_room (P := P) (w := w) t ty e i ht hi g n cap cur hg a m c news hl hnews h1 hroom (by rw [hl, hcs, ← Nat.add_mul]; exact Nat.mul_le_mul_right _ hroom)
      rw [hq] at hr
      obtain ⟨rfl, _⟩ : _ = v' ∧ _ := by simpa using hr
      exact .inl rfl
    · have hq := run_append_grow (P := P) w t ty e i z ht hi hz ⟨g, 0, none⟩ n cap xs hown.1 (hown.cells (g := g) rfl) a m c news hl hnews (by omega) (by omega) (growslice_fits (by omega) hbytes)
      rw [hq] at hr
      obtain ⟨rfl, _⟩ : _ = v' ∧ _ := by simpa using hr
      exact .inr rfl
end
end Go.Proofs.YtbaelbafhdjlnaaGreatDoor

/- Trees copied by the document's own functions: contracts. -/
namespace Go.Proofs.YtbaelbafhdjlnaaGreatDoor
open Go.RowKit
set_option linter.unusedVariables false

def ncells (t : Nd) (lv : Value) : List Value := [.int .i64 t.op, .int .i64 t.n, .string t.s, lv, .int .i64 t.a]
/-- The cells of the first nodes of a list. -/
def nrow (l : List Nd) (lvs : Nat → Value) (j : Nat) : List Value := (List.range j).flatMap fun i => ncells (l.getD i default) (lvs i)
theorem nrow_len (l : List Nd) (lvs : Nat → Value) : ∀ j, (nrow l lvs j).length = j * 5
  | 0 => rfl
  | j + 1 => by
    have := nrow_len l lvs j
    unfold nrow at this ⊢
    rw [List.range_succ, List.flatMap_append, List.length_append, this]
    simp [ncells]
    omega
theorem nrow_succ (l : List Nd) (lvs : Nat → Value) (j : Nat) : nrow l lvs (j + 1) = nrow l lvs j ++ ncells (l.getD j default) (lvs j) := by
  unfold nrow
  rw [List.range_succ, List.flatMap_append]
  simp
theorem nrow_set (l : List Nd) (lvs : Nat → Value) (j : Nat) (x : Value) : nrow l (fun i => if i = j then x else lvs i) j = nrow l lvs j := by
  unfold nrow
  rw [List.flatMap_def, List.flatMap_def]
  congr 1
  refine List.map_congr_left fun i hi => ?_
  have h := List.mem_range.1 hi
  have h2 : i ≠ j := by omega
  simp only [if_neg h2]
theorem nrow_at (l : List Nd) (lvs : Nat → Value) : ∀ (j i r : Nat), i < j → r < 5 → (nrow l lvs j)[i * 5 + r]? = (ncells (l.getD i default) (lvs i))[r]?
  | 0, i, r, h, _ => by omega
  | j + 1, i, r, h, hr => by
    rw [nrow_succ]
    have hlen := nrow_len l lvs j
    by_cases hij : i < j
    · rw [List.getElem?_append_left (by omega)]
      exact nrow_at l lvs j i r hij hr
    · obtain rfl : i = j := by omega
      rw [List.getElem?_append_right (by omega), hlen, Nat.add_sub_cancel_left]
theorem Tryz.infoNode : (Tryz.prog.info? 32).map (fun i => (i.zero, i.size, i.bytes)) = some (some (.agg #[.int .i64 0, .int .i64 0, .string ⟨#[]⟩, .slice none 0 0, .int .i64 0]), 5, 64) := by kernel_rfl
theorem info_of {P : Program} {e : TypeId} {z : Value} {s b : Nat} (h : (P.info? e).map (fun i => (i.zero, i.size, i.bytes)) = some (some z, s, b)) : ∃ i, P.info? e = some i ∧ i.zero = some z ∧ i.size = s ∧ i.bytes = b := by
  obtain ⟨i, hi, he⟩ := Option.map_eq_some_iff.1 h
  simp only [Prod.mk.injEq] at he
  exact ⟨i, hi, he.1, he.2.1, he.2.2⟩
def StopN (p : Prop) : Prop := p
theorem stop_append_n {P : Program} {ops : Array Oper} {rest : List Oper} {x y dst ty pos aft g} {a : Act} {w : World} {Q : Exit → Act → World → Prop}
    (h : StopN (wpList P ops Q (⟨dst, .call { callee := .builtin .append, args := x, argTypes := y }, ty, pos, aft, g⟩ :: rest) a w)) : wpList P ops Q (⟨dst, .call { callee := .builtin .append, args := x, argTypes := y }, ty, pos, aft, g⟩ :: rest) a w := h
section
variable {P : Program} {w : World}
theorem wp_append_where {o : Oper} {a : Act} {K : Act → World → Prop} {Q : Exit → Act → World → Prop} (s x : Operand) (t : TypeId)
    (ho : o.op = .call { callee := .builtin .append, args := #[s, x], argTypes := #[t, t] })
    (base : Nat) (e : TypeId) (i : TypeInfo) (z : Value) (size bytes : Nat) (ht : P.underlying t = some (.slice e)) (hi : P.info? e = some i) (hz : i.zero = some z)
    (hsize : i.size = size) (hby : i.bytes = bytes) (hzs : z.cells.size = size) (hsz : 0 < size)
    (v : Value) (n : Nat) (xs : List Value) (hs : a.eval s = v) (hown : w.ownsRow base e size v n xs)
    (ad : Addr) (m c : Nat) (news : List Value) (hx : a.eval x = .slice (some ad) m c) (hl : news.length = m * size) (hnews : ∀ j u, news[j]? = some u → w.cell? (ad.add j) = some u) (h1 : ∀ u ∈ news, u.oneCell' = true)
    (hm : 0 < m) (h63 : n + m ≤ maxLen) (hbytes : (n + m) * bytes ≤ 140737488355328) (hbase : base ≤ w.heap.size)
    (h : ∀ v' w', w'.ownsRow base e size v' (n + m) (xs ++ news) → w.grownBy w' v.ownBlock → (v'.ownBlock = v.ownBlock ∨ v'.ownBlock = some w.heap.size) → K (a.put o.dst v') w') : o.wp P a w K Q := by
  obtain ⟨v', w', hr, h2, h3, h4⟩ := run_append_own_where (P := P) base t o.type e i z size bytes ht hi hz hsize hby hzs hsz v n xs hown ad m c news hl hnews h1 hm h63 hbytes hbase
  unfold Oper.wp
  simp [execOp, ho, resolve, invoke, builtin, hs, hx, hr, Result.andThen]
  exact h v' w' h2 h3 h4
end
theorem own_form5 {w : World} {B : Nat} {T : TypeId} {z m : Nat} {v : Value} {xs : List Value} (h : w.ownsRow B T z v m xs) : ∃ a c, v = .slice a m c := by
  rcases h.2 with ⟨rfl, rfl⟩ | ⟨g, cap, cur, rfl, _⟩
  · exact ⟨none, 0, rfl⟩
  · exact ⟨_, cap, rfl⟩
theorem nfr_grow {a b : World} (h : Fr a b) (r : Option Nat) : a.grownBy b r := ⟨h.os, h.tape, h.output, h.size, fun k hk _ => h.block k hk⟩
/-- What a row of copied nodes is. -/
theorem LNP.row {w : World} {B : Nat} {v : Value} {l : List Nd} {lvs : Nat → Value} (h : w.ownsRow B 32 5 v l.length (nrow l lvs l.length))
    (hw : ∀ t ∈ l, wfN t) (hs : ∀ (i : Nat) (t : Nd), l[i]? = some t → LNP (fun b => B ≤ b) w (lvs i) t.l) : LNP (fun b => B ≤ b) w v l := by
  rcases h.2 with ⟨rfl, h0⟩ | ⟨g, cap, cur, rfl, hb, hg, hm, hmx, hsz, ht⟩
  · obtain rfl : l = [] := List.eq_nil_of_length_eq_zero h0
    exact .mk none 0 [] (fun _ => .slice none 0 0) (Nat.le_refl _) (Nat.zero_le _) (fun _ => rfl) (fun h => absurd h (by decide)) (fun t h => by cases h) (fun i t h => by simp at h)
  · refine .mk _ cap l lvs hm hmx (fun h => by cases h) (fun hp => ⟨g, 0, rfl, hb, fun i t hi => ?_⟩) hw hs
    have hil := (List.getElem?_eq_some_iff.1 hi).1
    have key : ∀ r x, r < 5 → (ncells t (lvs i))[r]? = some x → w.cell? ⟨g, 0 + i * 5 + r, none⟩ = some x := fun r x hr hx => by
      have h1 := nrow_at l lvs l.length i r hil hr
      rw [List.getD_eq_getElem?_getD, hi, Option.getD_some, hx] at h1
      rw [← ht, List.getElem?_take_of_lt (by omega)] at h1
      simp only [World.cell?, hg, Nat.zero_add]
      simpa using h1
    exact ⟨key 0 _ (by omega) rfl, key 1 _ (by omega) rfl, key 2 _ (by omega) rfl, key 3 _ (by omega) rfl, key 4 _ (by omega) rfl⟩
/-- A block of one node's cells. -/
def Nb (w : World) (b : Nat) (x0 x1 x2 x3 x4 : Value) : Prop := w.heap[b]? = some (.cells #[x0, x1, x2, x3, x4] 32 (0, 0))
theorem Nb.lt {w : World} {b : Nat} {x0 x1 x2 x3 x4 : Value} (h : Nb w b x0 x1 x2 x3 x4) : b < w.heap.size := (Array.getElem?_eq_some_iff.1 h).1
theorem Nb.fr {w w' : World} {b : Nat} {x0 x1 x2 x3 x4 : Value} (h : Nb w b x0 x1 x2 x3 x4) (k : Fr w w') : Nb w' b x0 x1 x2 x3 x4 := (k.block b h.lt).trans h
theorem Nb.cells {w : World} {b : Nat} {x0 x1 x2 x3 x4 : Value} (h : Nb w b x0 x1 x2 x3 x4) : w.cell? ⟨b, 0, none⟩ = some x0 ∧ w.cell? ⟨b, 1, none⟩ = some x1 ∧ w.cell? ⟨b, 2, none⟩ = some x2 ∧ w.cell? ⟨b, 3, none⟩ = some x3 ∧ w.cell? ⟨b, 4, none⟩ = some x4 := by
  unfold Nb at h
  simp [World.cell?, h]
theorem Nb.free {w : World} {b : Nat} {x0 x1 x2 x3 x4 : Value} (h : Nb w b x0 x1 x2 x3 x4) (i : Nat) : w.frozen? ⟨b, i, none⟩ = false := by
  unfold Nb at h
  simp [World.frozen?, h]
theorem Nb.new (w : World) (x0 x1 x2 x3 x4 : Value) : Nb (w.alloc (.cells #[x0, x1, x2, x3, x4] 32)) w.heap.size x0 x1 x2 x3 x4 := by
  unfold Nb; simp only [World.alloc, Array.getElem?_push_size]
theorem Nb.new1 (w : World) (o : Obj) (x0 x1 x2 x3 x4 : Value) : Nb ((w.alloc o).alloc (.cells #[x0, x1, x2, x3, x4] 32)) (w.heap.size + 1) x0 x1 x2 x3 x4 := by
  have h := Nb.new (w.alloc o) x0 x1 x2 x3 x4
  simpa using h
set_option maxHeartbeats 4000000 in
theorem CopyNode_of (t : Nd) (lt : Value) (w : World) (ht : ∃ a n c, lt = .slice a n c) (HP : Hid (∀ W, Fr w W → Calls Tryz.prog 173 #[lt] W fun e w' => ∃ lv, e = .returned lv ∧ LNP (fun b => W.heap.size ≤ b) w' lv t.l ∧ Fr W w')) :
    Calls Tryz.prog 89 #[ndV t lt] w fun e w' => ∃ lv, e = .returned (ndV t lv) ∧ LNP (fun b => w.heap.size ≤ b) w' lv t.l ∧ Fr w w' := by
  obtain ⟨a, n, c, rfl⟩ := ht
  have HFR : Hid (∀ x y : Obj, Fr w ((w.alloc x).alloc y)) := Lib.hid (fun x y => ((Fr.refl w).alloc x).alloc y)
  obtain ⟨tl, htl⟩ : ∃ x, x = t.l := ⟨_, rfl⟩
  rw [← htl] at HP ⊢
  unfold ndV
  obtain ⟨o1, hO1⟩ : ∃ x, x = t.op := ⟨_, rfl⟩
  obtain ⟨n1, hN1⟩ : ∃ x, x = t.n := ⟨_, rfl⟩
  obtain ⟨s1, hS1⟩ : ∃ x, x = t.s := ⟨_, rfl⟩
  obtain ⟨a1, hA1⟩ : ∃ x, x = t.a := ⟨_, rfl⟩
  rw [← hO1, ← hN1, ← hS1, ← hA1]
  clear hO1 hN1 hS1 hA1 htl
  go_enter Tryz.func89, Tryz.ntmps89
  go_wp2_with fail
  refine (HP.out _ (HFR.out _ _)).mono ?_
  rintro e w1 ⟨lv, rfl, hlv, hf1⟩
  obtain ⟨la, lc, rfl, _, _, _⟩ := hlv.ln.form
  have HB0 := Lib.hid (((Nb.new w (.int .i64 o1) (.int .i64 n1) (.string s1) (.slice a n c) (.int .i64 a1)).fr ((Fr.refl _).alloc (.cells #[.int .i64 0, .int .i64 0, .string ⟨#[]⟩, .slice none 0 0, .int .i64 0] 32))).fr hf1)
  have HB1 := Lib.hid ((Nb.new1 w (.cells #[.int .i64 o1, .int .i64 n1, .string s1, .slice a n c, .int .i64 a1] 32) (.int .i64 0) (.int .i64 0) (.string ⟨#[]⟩) (.slice none 0 0) (.int .i64 0)).fr hf1)
  have HLV := Lib.hid hlv
  have HF1 := Lib.hid hf1
  clear hlv hf1
  obtain ⟨p0, p1, p2, p3, p4⟩ := HB0.out.cells
  obtain ⟨q0, q1, q2, q3, q4⟩ := HB1.out.cells
  have f0 := HB0.out.free 0
  have f1 := HB0.out.free 1
  have f2 := HB0.out.free 2
  have f3 := HB0.out.free 3
  have f4 := HB0.out.free 4
  have g0 := HB1.out.free 0
  have g1 := HB1.out.free 1
  have g2 := HB1.out.free 2
  have g3 := HB1.out.free 3
  have g4 := HB1.out.free 4
  go_wp2_with fail
  refine bodyPost_ret (v := .agg #[.int .i64 o1, .int .i64 n1, .string s1, .slice la tl.length lc, .int .i64 a1]) (by simp [results, Tryz.results89, go_sem, q0, q1, q2, q3, q4]) rfl ?_
  have hsz : ∀ x y : Obj, ((w.alloc x).alloc y).heap.size = w.heap.size + 2 := fun x y => by simp
  refine ⟨_, rfl, HLV.out.keep fun b off u hb hu => ?_, ?_⟩
  · rw [hsz] at hb
    refine ⟨by omega, ?_⟩
    rw [World.cell?_setCell_far _ _ _ _ (by show w.heap.size + 1 ≠ b; omega), World.cell?_setCell_far _ _ _ _ (by show w.heap.size + 1 ≠ b; omega), World.cell?_setCell_far _ _ _ _ (by show w.heap.size + 1 ≠ b; omega), World.cell?_setCell_far _ _ _ _ (by show w.heap.size + 1 ≠ b; omega), World.cell?_setCell_far _ _ _ _ (by show w.heap.size + 1 ≠ b; omega), World.cell?_setCell_far _ _ _ _ (by show w.heap.size ≠ b; omega)]
    exact hu
  · have h0 := (HFR.out _ _).trans HF1.out
    have e0 : w.heap.size ≤ w.heap.size + 1 := by omega
    exact (((((h0.setCell (Nat.le_refl _) _).setCell e0 _).setCell e0 _).setCell e0 _).setCell e0 _).setCell e0 _
theorem own_fr5 {w0 wr w' : World} {v : Value} {T : TypeId} {z m : Nat} {xs : List Value} (h : Fr w0 wr) (ho : wr.ownsRow w0.heap.size T z v m xs) (hg : wr.grownBy w' v.ownBlock) : Fr w0 w' :=
  Below.grown h hg h.size (fun k hk => (ho.lt k hk).1)
theorem size_alloc' (w : World) (o : Obj) : (w.alloc o).heap.size = w.heap.size + 1 := by simp
theorem getD_some {l : List Nd} {j : Nat} {t : Nd} (h : l[j]? = some t) : l.getD j default = t := by
  rw [List.getD_eq_getElem?_getD, h]; rfl
theorem Nb.news {W : World} {B : Nat} {t : Nd} {lv : Value} (h : Nb W B (.int .i64 t.op) (.int .i64 t.n) (.string t.s) lv (.int .i64 t.a)) : ∀ j u, (ncells t lv)[j]? = some u → W.cell? ((⟨B, 0, none⟩ : Addr).add j) = some u := by
  intro j u hu
  obtain ⟨y0, y1, y2, y3, y4⟩ := h.cells
  rw [ap_add, Nat.zero_add]
  match j, hu with
  | 0, hu => obtain rfl : _ = u := Option.some.inj hu; exact y0
  | 1, hu => obtain rfl : _ = u := Option.some.inj hu; exact y1
  | 2, hu => obtain rfl : _ = u := Option.some.inj hu; exact y2
  | 3, hu => obtain rfl : _ = u := Option.some.inj hu; exact y3
  | 4, hu => obtain rfl : _ = u := Option.some.inj hu; exact y4
theorem ncells_one (t : Nd) (a : Option Addr) (n c : Nat) : ∀ u ∈ ncells t (.slice a n c), u.oneCell' = true := by
  intro u hu
  simp only [ncells, List.mem_cons, List.not_mem_nil, or_false] at hu
  rcases hu with rfl | rfl | rfl | rfl | rfl <;> rfl
set_option maxRecDepth 100000 in
set_option maxHeartbeats 4000000 in
theorem CopyNodes_of (l : List Nd) (v : Value) (w : World) (hv : LN w v l) (hl : l.length ≤ 2000000)
    (HQ : Hid (∀ (i : Nat) (t : Nd) (lt : Value) (W : World), l[i]? = some t → Fr w W → LN W lt t.l → Calls Tryz.prog 89 #[ndV t lt] W fun e w' => ∃ lv, e = .returned (ndV t lv) ∧ LNP (fun b => W.heap.size ≤ b) w' lv t.l ∧ Fr W w')) :
    Calls Tryz.prog 173 #[v] w fun e w' => ∃ lv, e = .returned lv ∧ LNP (fun b => w.heap.size ≤ b) w' lv l ∧ Fr w w' := by
  have HV := Lib.hid hv
  have HL := Lib.hid hl
  have HWF : Hid (∀ t ∈ l, wfN t) := Lib.hid (by cases hv with | mk a cap l lv hc hm hz hr hw hs => exact hw)
  obtain ⟨i0, hi0, hz0, hz1, hz2⟩ := info_of Tryz.infoNode
  have HI := Lib.hid (And.intro hi0 (And.intro hz0 (And.intro hz1 hz2)))
  obtain ⟨a, cap, rfl, hc, hm, _⟩ := hv.form
  obtain ⟨n, hn⟩ : ∃ n, n = l.length := ⟨_, rfl⟩
  have HN := Lib.hid hn
  rw [← hn] at hc HV ⊢
  have hn6 : n ≤ 2000000 := by omega
  clear hn hv hm hi0 hz0 hz1 hz2 hl
  go_enter Tryz.func173, Tryz.ntmps173
  go_wp2_with fail
  go_loopw [3, 4] (fun o i wr => ∃ (j : Nat) (lvs : Nat → Value), j ≤ n ∧ i = .int .i64 j ∧ wr.ownsRow w.heap.size 32 5 o j (nrow l lvs j) ∧ Hid (∀ (i : Nat) (t : Nd), i < j → l[i]? = some t → LNP (fun b => w.heap.size ≤ b ∧ b < wr.heap.size ∧ o.ownBlock ≠ some b) wr (lvs i) t.l) ∧ Fr w wr) (fun _ i _ => n - (intOf i).toNat)
  case atStart => exact ⟨0, fun _ => .slice none 0 0, Nat.zero_le _, rfl, World.ownsRow_nil _ _ _ _, Lib.hid (fun i t h => by omega), Fr.refl _⟩
  case round =>
    obtain ⟨j, lvs, hj, rfl, hown, HS, hfr⟩ := hrel
    have HO := Lib.hid hown
    clear hown
    obtain ⟨A0, c0, rfl⟩ := own_form5 HO.out
    by_cases hlt : j < n
    · obtain ⟨t, ht⟩ : ∃ t, l[j]? = some t := ⟨_, List.getElem?_eq_getElem (by rw [← HN.out]; exact hlt)⟩
      obtain ⟨b, off, lv, rfl, hc5, hln, hwf⟩ := (HV.out.fr hfr).at_ ht
      obtain ⟨x0, x1, x2, x3, x4⟩ := hc5
      obtain ⟨la, lc, rfl, _, _, _⟩ := hln.form
      obtain ⟨ll, hll⟩ : ∃ x : Nat, x = t.l.length := ⟨_, rfl⟩
      rw [← hll] at x3 hln
      have HLN := Lib.hid hln
      have HTT := Lib.hid ht
      have HC : Hid (∀ W, Fr wr W → Calls Tryz.prog 89 #[.agg #[.int .i64 t.op, .int .i64 t.n, .string t.s, .slice la ll lc, .int .i64 t.a]] W fun e w' => ∃ lv, e = .returned (ndV t lv) ∧ LNP (fun b => W.heap.size ≤ b) w' lv t.l ∧ Fr W w') := Lib.hid (fun W hW =>
        HQ.out j t _ W HTT.out (hfr.trans hW) (HLN.out.fr hW))
      clear hln ht hll hwf
      go_wp2_with fail
      refine (HC.out _ (Fr.refl _)).mono ?_
      rintro e w1 ⟨lv1, rfl, hlv1, hf1⟩
      have HLV1 := Lib.hid hlv1
      obtain ⟨la1, lc1, rfl, _, _, _⟩ := hlv1.ln.form
      obtain ⟨l1, hl1⟩ : ∃ x : Nat, x = t.l.length := ⟨_, rfl⟩
      rw [← hl1] at HLV1 ⊢
      have HF1 := Lib.hid hf1
      have hfin := hfr.trans hf1
      clear hlv1 hf1 hl1
      unfold ndV
      go_wp2_with (with_reducible refine stop_append_n ?_)
      unfold StopN
      refine wpList_plain rfl fun K hK => ?_
      refine wp_append_where (.tmp 11) (.tmp 17) 22 rfl w.heap.size 32 i0 _ 5 64 Tryz.underlying22 HI.out.1 HI.out.2.1 HI.out.2.2.1 HI.out.2.2.2 rfl (by omega) _ j _ (by rfl) (HO.out.kept (nfr_grow (HF1.out.alloc _) none) (by cases Value.ownBlock _ <;> simp)) ⟨w1.heap.size, 0, none⟩ 1 1 (ncells t (.slice la1 l1 lc1)) (by rfl) (by rfl) (Nb.news (Nb.new w1 _ _ _ _ _)) (ncells_one _ _ _ _) (by omega) (by unfold maxLen; omega) (by omega) (Fr.alloc hfin _).size fun v2 w2 hown2 hg2 hwh => hK _ _ ?_
      have hf2 := own_fr5 (Fr.alloc hfin _) (HO.out.kept (nfr_grow (HF1.out.alloc _) none) (by cases Value.ownBlock _ <;> simp)) hg2
      have HO2 : Hid (w2.ownsRow w.heap.size 32 5 v2 (j + 1) (nrow l (fun i => if i = j then .slice la1 l1 lc1 else lvs i) (j + 1))) := Lib.hid (by
        rw [nrow_succ, nrow_set, getD_some HTT.out, if_pos rfl]; exact hown2)
      have HS2 : Hid (∀ (i : Nat) (t : Nd), i < j + 1 → l[i]? = some t → LNP (fun b => w.heap.size ≤ b ∧ b < w2.heap.size ∧ v2.ownBlock ≠ some b) w2 (if i = j then .slice la1 l1 lc1 else lvs i) t.l) := Lib.hid (fun i u hi hu => by
        have hgs := hg2.size
        rw [size_alloc'] at hgs hwh
        have hws := HF1.out.size
        have hfs := hfr.size
        by_cases hij : i = j
        · subst hij
          obtain rfl : t = u := Option.some.inj (HTT.out.symm.trans hu)
          rw [if_pos rfl]
          refine HLV1.out.keep fun b off x hb hx => ?_
          have hlt1 : b < w1.heap.size := World.block_lt_of_cell? w1 _ hx
          have hne : Value.ownBlock (.slice A0 i c0) ≠ some b := fun h => by have := (HO.out.lt b h).2; omega
          have h3 : (w1.alloc (.cells #[.int .i64 t.op, .int .i64 t.n, .string t.s, .slice la1 l1 lc1, .int .i64 t.a] 32)).cell? ⟨b, off, none⟩ = some x := ((Fr.refl w1).alloc _).cell hx
          refine ⟨⟨by omega, by omega, ?_⟩, cell_block (hg2.block b (by rw [size_alloc']; omega) hne.symm) h3⟩
          rcases hwh with h | h
          · rw [h]; exact hne
          · rw [h]; intro h5; have := Option.some.inj h5; omega
        · rw [if_neg hij]
          refine (HS.out i u (by omega) hu).keep fun b off x hb hx => ?_
          obtain ⟨hb1, hb2, hb3⟩ := hb
          have h3 : (w1.alloc (.cells #[.int .i64 t.op, .int .i64 t.n, .string t.s, .slice la1 l1 lc1, .int .i64 t.a] 32)).cell? ⟨b, off, none⟩ = some x := (HF1.out.alloc _).cell hx
          refine ⟨⟨hb1, by omega, ?_⟩, cell_block (hg2.block b (by rw [size_alloc']; omega) hb3.symm) h3⟩
          rcases hwh with h | h
          · rw [h]; exact hb3
          · rw [h]; intro h5; have := Option.some.inj h5; omega)
      clear hown2 hg2 hwh hK
      go_wp2_with fail
      go_roundw
      case rel => exact ⟨j + 1, _, by omega, by go_num, HO2.out, HS2, hf2⟩
      case measure => simp [intOf]; omega
    · obtain rfl : j = n := by omega
      go_wp2_with fail
      go_ret
      refine ⟨_, rfl, ?_, hfr⟩
      have h := HO.out
      rw [HN.out] at h ⊢
      exact LNP.row h HWF.out fun i t hi => (HS.out i t (by rw [HN.out]; exact (List.getElem?_eq_some_iff.1 hi).1) hi).keep fun b off u hb hu => ⟨hb.1, hu⟩
theorem CopyNodes_any : ∀ (m : Nat) (l : List Nd), bulks l ≤ m → m ≤ 2000000 → ∀ (v : Value) (w : World), LN w v l →
    Calls Tryz.prog 173 #[v] w fun e w' => ∃ lv, e = .returned lv ∧ LNP (fun b => w.heap.size ≤ b) w' lv l ∧ Fr w w' := by
  intro m
  induction m using Nat.strongRecOn with
  | _ m ih =>
    intro l hl hm v w hv
    refine CopyNodes_of l v w hv (by have := bulks_len l; omega) (Lib.hid fun i t lt W ht hW hlt => ?_)
    obtain ⟨a1, c1, e1, _⟩ := hlt.form
    refine CopyNode_of t lt W ⟨_, _, _, e1⟩ (Lib.hid fun W2 hW2 => ?_)
    have h3 := bulks_mem (List.mem_of_getElem? ht)
    have h4 := t.bulk_eq
    exact ih (bulks t.l) (by omega) t.l (Nat.le_refl _) (by omega) lt W2 (hlt.fr hW2)
theorem CopyNode_any (t : Nd) (lt : Value) (w : World) (hb : t.bulk ≤ 2000000) (h : LN w lt t.l) :
    Calls Tryz.prog 89 #[ndV t lt] w fun e w' => ∃ lv, e = .returned (ndV t lv) ∧ LNP (fun b => w.heap.size ≤ b) w' lv t.l ∧ Fr w w' := by
  obtain ⟨a1, c1, e1, _⟩ := h.form
  have h4 := t.bulk_eq
  exact CopyNode_of t lt w ⟨_, _, _, e1⟩ (Lib.hid fun W hW => CopyNodes_any (bulks t.l) t.l (Nat.le_refl _) (by omega) lt W (h.fr hW))
end Go.Proofs.YtbaelbafhdjlnaaGreatDoor

/- A procedure by its name: the contract of the document's own function. -/
namespace Go.Proofs.YtbaelbafhdjlnaaGreatDoor
open Go.RowKit
set_option linter.unusedVariables false

def isP (name : ByteArray) (t : Nd) : Bool := decide (t.op = 64) && decide (t.s = name)
/-- The procedure of a name, or no node, and the error. -/
def procR (l : List Nd) (name : ByteArray) : Nd × Int := match l.find? (isP name) with
  | some t => (t, 0)
  | none => (default, 4)
theorem procR_nil (name : ByteArray) : procR [] name = (default, 4) := rfl
theorem procR_cons (t : Nd) (r : List Nd) (name : ByteArray) : procR (t :: r) name = if isP name t = true then (t, 0) else procR r name := by
  unfold procR
  rw [List.find?_cons]
  cases h : isP name t <;> simp
theorem procR_drop {l : List Nd} {j : Nat} {t : Nd} (ht : l[j]? = some t) (name : ByteArray) : procR (l.drop j) name = if isP name t = true then (t, 0) else procR (l.drop (j + 1)) name := by
  rw [drop1 ht, procR_cons]
/-- A section's two cells. -/
def SecB (w : World) (b : Nat) (x0 x1 : Value) : Prop := w.heap[b]? = some (.cells #[x0, x1] 24 (0, 0))
theorem SecB.lt {w : World} {b : Nat} {x0 x1 : Value} (h : SecB w b x0 x1) : b < w.heap.size := (Array.getElem?_eq_some_iff.1 h).1
theorem SecB.fr {w w' : World} {b : Nat} {x0 x1 : Value} (h : SecB w b x0 x1) (k : Fr w w') : SecB w' b x0 x1 := (k.block b h.lt).trans h
theorem SecB.cells {w : World} {b : Nat} {x0 x1 : Value} (h : SecB w b x0 x1) : w.cell? ⟨b, 0, none⟩ = some x0 ∧ w.cell? ⟨b, 1, none⟩ = some x1 := by
  unfold SecB at h
  simp [World.cell?, h]
theorem SecB.new (w : World) (x0 x1 : Value) : SecB (w.alloc (.cells #[x0, x1] 24)) w.heap.size x0 x1 := by
  unfold SecB; simp only [World.alloc, Array.getElem?_push_size]
set_option maxRecDepth 100000 in
set_option maxHeartbeats 4000000 in
theorem RProc_any (s name : ByteArray) (l : List Nd) (v : Value) (w : World) (hv : LN w v l) (hb : bulks l ≤ 2000000) :
    Calls Tryz.prog 36 #[.agg #[.string s, v], .string name] w fun e w' => ∃ lv, e = .returned (.tuple #[ndV (procR l name).1 lv, .int .i64 (procR l name).2]) ∧ LN w' lv (procR l name).1.l ∧ Fr w w' := by
  have HV := Lib.hid hv
  have HB := Lib.hid hb
  obtain ⟨a, cap, rfl, hc, hm, _⟩ := hv.form
  obtain ⟨n, hn⟩ : ∃ n, n = l.length := ⟨_, rfl⟩
  have HN := Lib.hid hn
  rw [← hn] at hc HV ⊢
  have hn6 : n ≤ 2000000 := by have := bulks_len l; omega
  obtain ⟨R, hR⟩ : ∃ r, r = procR l name := ⟨_, rfl⟩
  have HR := Lib.hid hR
  rw [← hR]
  obtain ⟨w0, hw0⟩ : ∃ w0, w0 = (w.alloc (.cells #[.string s, .slice a n cap] 24)).alloc (.cells #[.int .i64 0, .int .i64 0, .string ⟨#[]⟩, .slice none 0 0, .int .i64 0] 32) := ⟨_, rfl⟩
  have HF0 : Hid (Fr w w0) := Lib.hid (by rw [hw0]; exact ((Fr.refl w).alloc _).alloc _)
  have HS : Hid (SecB w0 w.heap.size (.string s) (.slice a n cap)) := Lib.hid (by rw [hw0]; exact (SecB.new w _ _).fr ((Fr.refl _).alloc _))
  have HN0 : Hid (Nb w0 (w.heap.size + 1) (.int .i64 0) (.int .i64 0) (.string ⟨#[]⟩) (.slice none 0 0) (.int .i64 0)) := Lib.hid (by rw [hw0]; exact Nb.new1 w _ _ _ _ _ _)
  have HW0 := Lib.hid hw0
  clear hn hv hm hb hR hw0
  go_enter Tryz.func36, Tryz.ntmps36
  go_wp2_with fail
  try rw [← HW0.out]
  go_loopw [6] (fun i wr => ∃ j : Nat, j ≤ n ∧ i = .int .i64 j ∧ Hid (R = procR (l.drop j) name) ∧ Fr w0 wr) (fun i _ => n - (intOf i).toNat)
  case atStart => exact ⟨0, Nat.zero_le _, rfl, Lib.hid (by rw [HR.out]; rfl), Fr.refl _⟩
  case round =>
    obtain ⟨j, hj, rfl, HJ, hfr⟩ := hrel
    obtain ⟨s0, s1⟩ := (HS.out.fr hfr).cells
    by_cases hlt : j < n
    · obtain ⟨t, ht⟩ : ∃ t, l[j]? = some t := ⟨_, List.getElem?_eq_getElem (by rw [← HN.out]; exact hlt)⟩
      have HST := Lib.hid (procR_drop ht name)
      obtain ⟨b, off, lv, rfl, hc5, hln, _⟩ := (HV.out.fr (HF0.out.trans hfr)).at_ ht
      obtain ⟨x0, x1, x2, x3, x4⟩ := hc5
      obtain ⟨la, lc, rfl, _, _, _⟩ := hln.form
      obtain ⟨ll, hll⟩ : ∃ x : Nat, x = t.l.length := ⟨_, rfl⟩
      rw [← hll] at x3 hln
      have HLN := Lib.hid hln
      have htb := bulks_mem (List.mem_of_getElem? ht)
      have HC : Hid (∀ W, Fr wr W → Calls Tryz.prog 89 #[.agg #[.int .i64 t.op, .int .i64 t.n, .string t.s, .slice la ll lc, .int .i64 t.a]] W fun e w' => ∃ lv, e = .returned (ndV t lv) ∧ LNP (fun b => W.heap.size ≤ b) w' lv t.l ∧ Fr W w') := Lib.hid (fun W hW =>
        CopyNode_any t _ W (by have := HB.out; omega) (HLN.out.fr hW))
      clear hln ht hll htb
      by_cases hop : t.op = 64
      · have zo : (t.op == 64) = true := by rw [beq_iff_eq]; exact hop
        by_cases hs : t.s = name
        · have zs := s_yes hs
          have HRT : Hid (R = (t, 0)) := Lib.hid (by rw [HJ.out, HST.out, if_pos (by unfold isP; simp [hop, hs])])
          clear hop hs
          go_wp2_with fail
          refine (HC.out _ (Fr.refl _)).mono ?_
          rintro e w1 ⟨lv1, rfl, hlv1, hf1⟩
          obtain ⟨la1, lc1, rfl, _, _, _⟩ := hlv1.ln.form
          have HLV := Lib.hid hlv1
          have HF1 := Lib.hid (hfr.trans hf1)
          clear hlv1 hf1
          have HB1 := Lib.hid (HN0.out.fr HF1.out)
          obtain ⟨q0, q1, q2, q3, q4⟩ := HB1.out.cells
          have g0 := HB1.out.free 0
          have g1 := HB1.out.free 1
          have g2 := HB1.out.free 2
          have g3 := HB1.out.free 3
          have g4 := HB1.out.free 4
          unfold ndV
          go_wp2_with fail
          refine bodyPost_ret (v := .tuple #[.agg #[.int .i64 t.op, .int .i64 t.n, .string t.s, .slice la1 t.l.length lc1, .int .i64 t.a], .int .i64 0]) (by simp [results, Tryz.results36, go_sem, q0, q1, q2, q3, q4]) rfl ?_
          rw [HRT.out]
          refine ⟨_, rfl, ?_, ?_⟩
          · have hwz : w.heap.size + 1 < wr.heap.size := (HN0.out.fr hfr).lt
            refine LNP.ln (P := fun _ => True) (HLV.out.keep fun b off u hb hu => ⟨trivial, ?_⟩)
            rw [World.cell?_setCell_far _ _ _ _ (by show w.heap.size + 1 ≠ b; omega), World.cell?_setCell_far _ _ _ _ (by show w.heap.size + 1 ≠ b; omega), World.cell?_setCell_far _ _ _ _ (by show w.heap.size + 1 ≠ b; omega), World.cell?_setCell_far _ _ _ _ (by show w.heap.size + 1 ≠ b; omega), World.cell?_setCell_far _ _ _ _ (by show w.heap.size + 1 ≠ b; omega)]
            exact hu
          · have e0 : w.heap.size ≤ w.heap.size + 1 := by omega
            exact ((((((HF0.out.trans HF1.out).setCell e0 _).setCell e0 _).setCell e0 _).setCell e0 _).setCell e0 _)
        · have zs := s_no hs
          have HJ2 : Hid (R = procR (l.drop (j + 1)) name) := Lib.hid (by rw [HJ.out, HST.out, if_neg (by unfold isP; simp [hs])])
          clear hop hs
          go_wp2_with fail
          go_roundw
          case rel => exact ⟨j + 1, by omega, by go_num, HJ2, hfr⟩
          case measure => simp [intOf]; omega
      · have zo : (t.op == 64) = false := by rw [beq_eq_false_iff_ne]; exact hop
        have HJ2 : Hid (R = procR (l.drop (j + 1)) name) := Lib.hid (by rw [HJ.out, HST.out, if_neg (by unfold isP; simp [hop])])
        clear hop
        go_wp2_with fail
        go_roundw
        case rel => exact ⟨j + 1, by omega, by go_num, HJ2, hfr⟩
        case measure => simp [intOf]; omega
    · obtain rfl : j = n := by omega
      have HRT : Hid (R = (default, 4)) := Lib.hid (by rw [HJ.out, List.drop_eq_nil_of_le (by rw [← HN.out]; exact Nat.le_refl _)]; rfl)
      have HB1 := Lib.hid (HN0.out.fr hfr)
      obtain ⟨q0, q1, q2, q3, q4⟩ := HB1.out.cells
      have g0 := HB1.out.free 0
      have g1 := HB1.out.free 1
      have g2 := HB1.out.free 2
      have g3 := HB1.out.free 3
      have g4 := HB1.out.free 4
      go_wp2_with fail
      refine bodyPost_ret (v := .tuple #[.agg #[.int .i64 0, .int .i64 0, .string ⟨#[]⟩, .slice none 0 0, .int .i64 0], .int .i64 4]) (by simp [results, Tryz.results36, go_sem, q0, q1, q2, q3, q4]) rfl ?_
      rw [HRT.out]
      have e0 : w.heap.size ≤ w.heap.size + 1 := by omega
      exact ⟨.slice none 0 0, rfl, LN.nil _, ((((((HF0.out.trans hfr).setCell e0 _).setCell e0 _).setCell e0 _).setCell e0 _).setCell e0 _)⟩
end Go.Proofs.YtbaelbafhdjlnaaGreatDoor
