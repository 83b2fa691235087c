/- What a world keeps outside some blocks; lists that lie in blocks of a kind. Nothing here speaks of a program's functions. -/
import Derived.Test.YtbhhjbnobcgfeaaOW
namespace Go.Proofs.Ytbhhjbnobcgfeaa
open Go.RowKit
set_option linter.unusedVariables false
set_option linter.unusedSimpArgs false

/-- But for blocks X nothing of what was there turns. -/
structure Ex (X : Nat → Prop) (w w' : World) : Prop where
  size : w.heap.size ≤ w'.heap.size
  block : ∀ k, k < w.heap.size → ¬ X k → w'.heap[k]? = w.heap[k]?
theorem Ex.refl (X : Nat → Prop) (w : World) : Ex X w w := ⟨Nat.le_refl _, fun _ _ _ => rfl⟩
theorem Ex.trans {X : Nat → Prop} {a b c : World} (h : Ex X a b) (k : Ex X b c) : Ex X a c :=
  ⟨Nat.le_trans h.size k.size, fun i hi hx => (k.block i (Nat.lt_of_lt_of_le hi h.size) hx).trans (h.block i hi hx)⟩
theorem Fr.ex {X : Nat → Prop} {w w' : World} (h : Fr w w') : Ex X w w' := ⟨h.size, fun k hk _ => h.block k hk⟩
theorem Ex.fr {X : Nat → Prop} {a b c : World} (h : Ex X a b) (k : Fr b c) : Ex X a c := h.trans k.ex
theorem Ex.set {X : Nat → Prop} {a b : World} (h : Ex X a b) {p : Addr} (hp : X p.block) (v : Value) : Ex X a (b.setCell p v) :=
  h.trans ⟨by simp [World.setCell], fun k hk hx => Below.heap_setCell _ _ _ _ (fun e => hx (by rw [e]; exact hp))⟩
theorem Ex.one (w : World) (b o : Nat) (v : Value) : Ex (fun k => k = b) w (w.setCell ⟨b, o, none⟩ v) := (Ex.refl (fun k => k = b) w).set (p := ⟨b, o, none⟩) rfl v
theorem Ex.mono {X Y : Nat → Prop} {a b : World} (h : Ex X a b) (k : ∀ i, X i → Y i) : Ex Y a b := ⟨h.size, fun i hi hy => h.block i hi (fun hx => hy (k i hx))⟩
theorem Ex.cell {X : Nat → Prop} {w w' : World} (h : Ex X w w') {b o : Nat} {v : Value} (hx : ¬ X b) (hc : w.cell? ⟨b, o, none⟩ = some v) : w'.cell? ⟨b, o, none⟩ = some v :=
  (World.cell?_of_block (w := w) (h.block b (World.block_lt_of_cell? w _ hc) hx)).trans hc
theorem Ex.row {X : Nat → Prop} {w w' : World} (h : Ex X w w') {b : Nat} {t : TypeId} {n : Nat} {f : Nat → Value} (hx : ¬ X b) (k : w.rowIs b t n f) : w'.rowIs b t n f := k.of_block (h.block b k.lt hx)
/-- An own row stays while other blocks are written. -/
theorem Ex.own {X : Nat → Prop} {w w' : World} (h : Ex X w w') {base : Nat} {T : TypeId} {z : Nat} {v : Value} {n : Nat} {xs : List Value} (hx : ∀ k, v.ownBlock = some k → ¬ X k) (k : w.ownsRow base T z v n xs) : w'.ownsRow base T z v n xs := by
  refine ⟨k.1, ?_⟩
  rcases k.2 with hn | ⟨g, cap, cur, rfl, hb, hgg, rest⟩
  · exact .inl hn
  · refine .inr ⟨g, cap, cur, rfl, hb, ?_, rest⟩
    rw [h.block g (Array.getElem?_eq_some_iff.1 hgg).1 (hx g rfl)]
    exact hgg
/-- A list whose elements lie in a block of a kind. -/
def SlP {α : Type} (P : Nat → Prop) (z : Nat) (C : World → Nat → Nat → α → Prop) (w : World) (v : Value) (l : List α) : Prop :=
  ∃ a cap, v = .slice a l.length cap ∧ l.length ≤ cap ∧ cap ≤ maxLen ∧ (a = none → cap = 0) ∧ (0 < l.length → ∃ b off, a = some ⟨b, off, none⟩ ∧ P b ∧ ∀ (i : Nat) (x : α), l[i]? = some x → C w b (off + i * z) x)
theorem SlP.sl {α : Type} {P : Nat → Prop} {z : Nat} {C : World → Nat → Nat → α → Prop} {w : World} {v : Value} {l : List α} (h : SlP P z C w v l) : SlE z C w v l := by
  obtain ⟨a, cap, h1, h2, h3, h4, h5⟩ := h
  exact ⟨a, cap, h1, h2, h3, h4, fun hp => by obtain ⟨b, off, e, _, hg⟩ := h5 hp; exact ⟨b, off, e, hg⟩⟩
theorem SlP.mono {α : Type} {P Q : Nat → Prop} {z : Nat} {C : World → Nat → Nat → α → Prop} {w : World} {v : Value} {l : List α} (h : SlP P z C w v l) (k : ∀ b, P b → Q b) : SlP Q z C w v l := by
  obtain ⟨a, cap, h1, h2, h3, h4, h5⟩ := h
  exact ⟨a, cap, h1, h2, h3, h4, fun hp => by obtain ⟨b, off, e, hb, hg⟩ := h5 hp; exact ⟨b, off, e, k b hb, hg⟩⟩
theorem SlP.to {α : Type} {P : Nat → Prop} {z : Nat} {C C' : World → Nat → Nat → α → Prop} {w w' : World} {v : Value} {l : List α} (h : SlP P z C w v l) (hC : ∀ b o x, P b → C w b o x → C' w' b o x) : SlP P z C' w' v l := by
  obtain ⟨a, cap, h1, h2, h3, h4, h5⟩ := h
  exact ⟨a, cap, h1, h2, h3, h4, fun hp => by obtain ⟨b, off, e, hb, hg⟩ := h5 hp; exact ⟨b, off, e, hb, fun i x hx => hC _ _ _ hb (hg i x hx)⟩⟩
theorem SlP.ints {P X : Nat → Prop} {w w' : World} {v : Value} {l : List Int} (h : SlP P 1 InC w v l) (hx : ∀ b, P b → ¬ X b) (k : Ex X w w') : SlP P 1 InC w' v l := h.to (fun b _ _ hb hc => k.cell (hx b hb) hc)
theorem SlP.ens {P X : Nat → Prop} {w w' : World} {v : Value} {l : List En2} (h : SlP P 2 EnC w v l) (hx : ∀ b, P b → ¬ X b) (k : Ex X w w') : SlP P 2 EnC w' v l := h.to (fun b _ _ hb hc => ⟨k.cell (hx b hb) hc.g, k.cell (hx b hb) hc.p⟩)
/-- Cells of an area; the words lie in a block of a kind, too. -/
def DtP (P : Nat → Prop) (w : World) (b off : Nat) (x : Dt) : Prop := w.cell? ⟨b, off, none⟩ = some (.string x.t) ∧ w.cell? ⟨b, off + 1, none⟩ = some (.bool x.b) ∧ ∃ lv, w.cell? ⟨b, off + 2, none⟩ = some lv ∧ SlP P 1 InC w lv x.ws
theorem SlP.dts {P X : Nat → Prop} {w w' : World} {v : Value} {l : List Dt} (h : SlP P 3 (DtP P) w v l) (hx : ∀ b, P b → ¬ X b) (k : Ex X w w') : SlP P 3 (DtP P) w' v l :=
  h.to (fun b _ _ hb hc => by
    obtain ⟨h1, h2, lv, h3, h4⟩ := hc
    exact ⟨k.cell (hx b hb) h1, k.cell (hx b hb) h2, lv, k.cell (hx b hb) h3, h4.ints hx k⟩)
theorem SlP.dtsV {P : Nat → Prop} {w : World} {v : Value} {l : List Dt} (h : SlP P 3 (DtP P) w v l) : DtsV w v l :=
  (h.to (C' := DtC) (fun b o x hb hc => by
    obtain ⟨h1, h2, lv, h3, h4⟩ := hc
    exact ⟨h1, h2, lv, h3, h4.sl⟩)).sl
theorem own_base {w : World} {base base' : Nat} {T : TypeId} {z : Nat} {v : Value} {n : Nat} {xs : List Value} (h : w.ownsRow base T z v n xs) (hb : base' ≤ base) : w.ownsRow base' T z v n xs := by
  refine ⟨h.1, ?_⟩
  rcases h.2 with hn | ⟨g, cap, cur, e, hg, r⟩
  · exact .inl hn
  · exact .inr ⟨g, cap, cur, e, Nat.le_trans hb hg, r⟩
/-- An own row of entries, of numbers, as lists in a block from 'base' on. -/
theorem own_ens {w : World} {base : Nat} {v : Value} {l : List En2} (h : w.ownsRow base 61 2 v l.length (rowN (clE_cs l) l.length)) : SlP (fun b => base ≤ b ∧ b < w.heap.size) 2 EnC w v l := by
  obtain ⟨a, cap, h1, h2, h3, h4, h5⟩ := clE_sl h
  refine ⟨a, cap, h1, h2, h3, h4, fun hp => ?_⟩
  obtain ⟨b, off, e, hg⟩ := h5 hp
  refine ⟨b, off, e, ?_, hg⟩
  subst h1; subst e
  exact h.lt b rfl
theorem own_ints {w : World} {base : Nat} {v : Value} {l : List Int} (h : w.ownsRow base 3 1 v l.length (rowN (clI_cs l) l.length)) : SlP (fun b => base ≤ b) 1 InC w v l := by
  obtain ⟨a, cap, h1, h2, h3, h4, h5⟩ := clI_sl h
  refine ⟨a, cap, h1, h2, h3, h4, fun hp => ?_⟩
  obtain ⟨b, off, e, hg⟩ := h5 hp
  refine ⟨b, off, e, ?_, hg⟩
  subst h1; subst e
  exact (h.lt b rfl).1
/-- An own row of areas whose words' lists lie in such blocks. -/
theorem own_dts {w : World} {base : Nat} {v : Value} {l : List Dt} {lvs : Nat → Value} (h : w.ownsRow base 41 3 v l.length (rowN (clD_cs l lvs) l.length)) (hl : ∀ i x, l[i]? = some x → SlP (fun b => base ≤ b) 1 InC w (lvs i) x.ws) : SlP (fun b => base ≤ b) 3 (DtP (fun b => base ≤ b)) w v l := by
  rcases row_cell (clD_len l lvs) h with ⟨rfl, hn⟩ | ⟨g, cap, rfl, hb, hn, hm, hc⟩
  · obtain rfl : l = [] := List.eq_nil_of_length_eq_zero hn
    exact ⟨none, 0, rfl, Nat.le_refl _, Nat.zero_le _, fun _ => rfl, fun h => absurd h (Nat.lt_irrefl 0)⟩
  · refine ⟨some ⟨g, 0, none⟩, cap, rfl, hn, hm, fun e => (by cases e), fun _ => ⟨g, 0, rfl, hb, fun i x hx => ?_⟩⟩
    have hi := (List.getElem?_eq_some_iff.1 hx).1
    have hd : l.getD i default = x := by rw [List.getD_eq_getElem?_getD, hx]; rfl
    have hk := fun r u hr hu => hc i r u hi hr hu
    unfold clD_cs at hk
    rw [hd] at hk
    rw [Nat.zero_add]
    exact ⟨hk 0 _ (by omega) rfl, hk 1 _ (by omega) rfl, lvs i, hk 2 _ (by omega) rfl, hl i x hx⟩
end Go.Proofs.Ytbhhjbnobcgfeaa
