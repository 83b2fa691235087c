/- append of a slice that may be nil onto a row of the call's own; lists of instructions and entries as rows of cells. -/
import Derived.Test.YtbhhjbnobcgfeaaWC
import Derived.Maps.AppendAt
namespace Go.Proofs.Ytbhhjbnobcgfeaa
open Go.RowKit
set_option linter.unusedVariables false
set_option linter.unusedSimpArgs false

theorem run_append_row {P : Program} {w : World} (base : Nat) (t ty e : TypeId) (i : TypeInfo) (z : Value) (size bytes : Nat) (ht : P.underlying t = some (.slice e)) (hi : P.info? e = some i) (hz : i.zero = some z)
    (hsize : i.size = size) (hby : i.bytes = bytes) (hzs : z.cells.size = size) (hsz : 0 < size) (v : Value) (n : Nat) (xs : List Value) (hown : w.ownsRow base e size v n xs)
    (xa : Option Addr) (m c : Nat) (news : List Value) (hm0 : xa = none → m = 0) (hl : news.length = m * size) (hnews : ∀ ad, xa = some ad → ∀ j u, news[j]? = some u → w.cell? (ad.add j) = some u) (h1 : ∀ u ∈ news, u.oneCell' = true)
    (h63 : n + m ≤ maxLen) (hbytes : (n + m) * bytes ≤ 140737488355328) (hbase : base ≤ w.heap.size) :
    ∃ v' w', (Builtin.append_ #[t, t] ty #[v, .slice xa m c]).run P w = .ok v' w' ∧ w'.ownsRow base e size v' (n + m) (xs ++ news) ∧ w.grownBy w' v.ownBlock := by
  cases xa with
  | none =>
    obtain rfl := hm0 rfl
    obtain rfl : news = [] := List.eq_nil_of_length_eq_zero (by omega)
    refine ⟨v, w, ?_, by simpa using hown, World.grownBy.refl w _⟩
    rcases hown.2 with ⟨rfl, rfl⟩ | ⟨g, c', cur, rfl, _, _, hnc, _⟩
    · simp [Builtin.append_, run_underlying ht, sizeOf, typeInfo, hi, Builtin.lenOf, Builtin.firstCells]
    · simp [Builtin.append_, run_underlying ht, sizeOf, typeInfo, hi, Builtin.lenOf, Builtin.firstCells, hnc, storeCells]
  | some ad =>
    obtain ⟨v', w', r1, r2, r3, _, _⟩ := run_append_own_at (P := P) w base t ty e i z size bytes ht hi hz hsize hby hzs hsz v n xs hown ad m c news hl (hnews ad rfl) h1 h63 hbytes hbase
    exact ⟨v', w', r1, r2, r3⟩
theorem wpList_append_row {P : Program} {w : World} {ops : Array Oper} {rest : List Oper} {o : Oper} {a : Act} {Q : Exit → Act → World → Prop} (hgd : o.guard = none) (s x : Operand) (t : TypeId)
    (ho : o.op = .call { callee := .builtin .append, args := #[s, x], argTypes := #[t, t] })
    (base : Nat) (e : TypeId) (i : TypeInfo) (z : Value) (size bytes : Nat) (ht : P.underlying t = some (.slice e)) (hi : P.info? e = some i) (hz : i.zero = some z)
    (hsize : i.size = size) (hby : i.bytes = bytes) (hzs : z.cells.size = size) (hsz : 0 < size) (v : Value) (n : Nat) (xs : List Value) (hs : a.eval s = v) (hown : w.ownsRow base e size v n xs)
    (xa : Option Addr) (m c : Nat) (news : List Value) (hx : a.eval x = .slice xa m c) (hm0 : xa = none → m = 0) (hl : news.length = m * size) (hnews : ∀ ad, xa = some ad → ∀ j u, news[j]? = some u → w.cell? (ad.add j) = some u) (h1 : ∀ u ∈ news, u.oneCell' = true)
    (h63 : n + m ≤ maxLen) (hbytes : (n + m) * bytes ≤ 140737488355328) (hbase : base ≤ w.heap.size)
    (h : ∀ v' w', w'.ownsRow base e size v' (n + m) (xs ++ news) → w.grownBy w' v.ownBlock → wpList P ops Q rest (a.put o.dst v') w') : wpList P ops Q (o :: rest) a w := by
  refine wpList_plain hgd fun K hK => ?_
  obtain ⟨v', w', r1, r2, r3⟩ := run_append_row (P := P) base t o.type e i z size bytes ht hi hz hsize hby hzs hsz v n xs hown xa m c news hm0 hl hnews h1 h63 hbytes hbase
  unfold Oper.wp execOp
  simp only [ho, resolve, invoke, builtin, Sem.run_bind, Sem.run_pure, Result.andThen_ok, List.map_toArray, List.map_cons, List.map_nil, hs, hx, r1]
  exact hK _ _ (h v' w' r2 r3)
theorem ops_row {l : List Op3} {w : World} {xa : Option Addr} {n cap : Nat} (h : OpsV w (.slice xa n cap) l) : ∀ ad, xa = some ad → ∀ j u, (rowN (clO_cs l) l.length)[j]? = some u → w.cell? (ad.add j) = some u := by
  rintro ad rfl j u hu
  obtain ⟨i, r, rfl, hr, hi, hu2⟩ := rowN_split (by omega) (clO_len l) hu
  obtain ⟨x, hx⟩ : ∃ x, l[i]? = some x := ⟨_, List.getElem?_eq_getElem hi⟩
  obtain ⟨b, off, e, hcell⟩ := h.at_ hx
  obtain rfl : ad = ⟨b, off, none⟩ := Option.some.inj e
  have hd : l.getD i default = x := by rw [List.getD_eq_getElem?_getD, hx]; rfl
  unfold clO_cs at hu2
  rw [hd] at hu2
  rw [ap_add, ← Nat.add_assoc]
  match r, hr, hu2 with
  | 0, _, hu2 => obtain rfl : _ = u := Option.some.inj hu2; exact hcell.op
  | 1, _, hu2 => obtain rfl : _ = u := Option.some.inj hu2; exact hcell.n
  | 2, _, hu2 => obtain rfl : _ = u := Option.some.inj hu2; exact hcell.m
theorem ens_row {l : List En2} {w : World} {xa : Option Addr} {n cap : Nat} (h : EnsV w (.slice xa n cap) l) : ∀ ad, xa = some ad → ∀ j u, (rowN (clE_cs l) l.length)[j]? = some u → w.cell? (ad.add j) = some u := by
  rintro ad rfl j u hu
  obtain ⟨i, r, rfl, hr, hi, hu2⟩ := rowN_split (by omega) (clE_len l) hu
  obtain ⟨x, hx⟩ : ∃ x, l[i]? = some x := ⟨_, List.getElem?_eq_getElem hi⟩
  obtain ⟨b, off, e, hcell⟩ := h.at_ hx
  obtain rfl : ad = ⟨b, off, none⟩ := Option.some.inj e
  have hd : l.getD i default = x := by rw [List.getD_eq_getElem?_getD, hx]; rfl
  unfold clE_cs at hu2
  rw [hd] at hu2
  rw [ap_add, ← Nat.add_assoc]
  match r, hr, hu2 with
  | 0, _, hu2 => obtain rfl : _ = u := Option.some.inj hu2; exact hcell.g
  | 1, _, hu2 => obtain rfl : _ = u := Option.some.inj hu2; exact hcell.p
theorem ops_one (l : List Op3) (n : Nat) : ∀ u ∈ rowN (clO_cs l) n, u.oneCell' = true := rowN_mem _ _ (fun i _ u hu => by
  simp only [clO_cs, List.mem_cons, List.not_mem_nil, or_false] at hu
  rcases hu with rfl | rfl | rfl <;> rfl)
theorem ens_one (l : List En2) (n : Nat) : ∀ u ∈ rowN (clE_cs l) n, u.oneCell' = true := rowN_mem _ _ (fun i _ u hu => by
  simp only [clE_cs, List.mem_cons, List.not_mem_nil, or_false] at hu
  rcases hu with rfl | rfl <;> rfl)
end Go.Proofs.Ytbhhjbnobcgfeaa
