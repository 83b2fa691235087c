/- Lists of tokens compared. -/
import Derived.Test.YtkkapgidddfdoaaDoorSC
namespace Go.Proofs.YtkkapgidddfdoaaDoor
open Go.RowKit
set_option linter.unusedVariables false

theorem toks_cons (t : Tp) (L : List Tp) : toks (t :: L) = .int .i64 t.k :: .string t.t :: .int .i64 t.n :: .int .i64 t.a :: toks L := rfl
theorem toks_at : ∀ (L : List Tp) (k : Nat) (t : Tp), L[k]? = some t → (toks L)[k * 4]? = some (.int .i64 t.k) ∧ (toks L)[k * 4 + 1]? = some (.string t.t) ∧ (toks L)[k * 4 + 2]? = some (.int .i64 t.n) ∧ (toks L)[k * 4 + 3]? = some (.int .i64 t.a) := by
  intro L
  induction L with
  | nil => intro k t h; simp at h
  | cons x L ih =>
    intro k t h
    cases k with
    | zero =>
      obtain rfl : x = t := by simpa using h
      rw [toks_cons]
      exact ⟨rfl, rfl, rfl, rfl⟩
    | succ k =>
      have h' : L[k]? = some t := by simpa using h
      obtain ⟨h0, h1, h2, h3⟩ := ih k t h'
      rw [toks_cons, show (k + 1) * 4 = k * 4 + 4 by omega]
      exact ⟨h0, h1, h2, h3⟩
/-- The cells of tokens that lie from a place on. -/
def Tc (w : World) (b off : Nat) (L : List Tp) : Prop := ∀ j x, (toks L)[j]? = some x → w.cell? ⟨b, off + j, none⟩ = some x
theorem Tc.fr {w w' : World} {b off : Nat} {L : List Tp} (h : Tc w b off L) (k : Fr w w') : Tc w' b off L := fun j x hx => k.cell (h j x hx)
theorem Tc.at_ {w : World} {b off : Nat} {L : List Tp} (h : Tc w b off L) {k : Nat} {t : Tp} (ht : L[k]? = some t) :
    w.cell? ⟨b, off + k * 4, none⟩ = some (.int .i64 t.k) ∧ w.cell? ⟨b, off + k * 4 + 1, none⟩ = some (.string t.t) ∧ w.cell? ⟨b, off + k * 4 + 2, none⟩ = some (.int .i64 t.n) ∧ w.cell? ⟨b, off + k * 4 + 3, none⟩ = some (.int .i64 t.a) := by
  obtain ⟨h0, h1, h2, h3⟩ := toks_at L k t ht
  exact ⟨h _ _ h0, h _ _ h1, h _ _ h2, h _ _ h3⟩
theorem TkV.tc {w : World} {v : Value} {L : List Tp} (h : TkV w v L) (hl : 0 < L.length) : ∃ b off cap, v = .slice (some ⟨b, off, none⟩) L.length cap ∧ L.length ≤ cap ∧ Tc w b off L := by
  obtain ⟨a, cap, rfl, hle, hr⟩ := h
  obtain ⟨b, off, rfl, hc⟩ := hr hl
  exact ⟨b, off, cap, rfl, hle, hc⟩
theorem toks_take (L : List Tp) (k : Nat) : toks (L.take k) = (toks L).take (k * 4) := by
  induction L generalizing k with
  | nil => simp [toks]
  | cons t L ih =>
    cases k with
    | zero => simp [toks]
    | succ k => rw [List.take_succ_cons, toks_cons, toks_cons, ih, show (k + 1) * 4 = k * 4 + 4 by omega]; rfl
theorem Tc.take {w : World} {b off : Nat} {L : List Tp} (h : Tc w b off L) (k : Nat) : Tc w b off (L.take k) := by
  intro j x hx
  rw [toks_take, List.getElem?_take] at hx
  split at hx
  · exact h j x hx
  · cases hx
theorem cellsT_one (L : List Tp) : ∀ u ∈ toks L, u.oneCell' = true := by
  intro u hu
  unfold toks at hu
  obtain ⟨t, _, h⟩ := List.mem_flatMap.1 hu
  simp only [cellsT, List.mem_cons, List.not_mem_nil, or_false] at h
  rcases h with rfl | rfl | rfl | rfl <;> rfl
section
variable {P : Program} {w : World}
theorem step_append_own {ops : Array Oper} {o : Oper} {a : Act} {K : Act → World → Prop} {Q : Exit → Act → World → Prop} {E : Prop} (hgd : o.guard = none) (s x : Operand) (t : TypeId)
    (ho : o.op = .call { callee := .builtin .append, args := #[s, x], argTypes := #[t, t] })
    (base : Nat) (e : TypeId) (i : TypeInfo) (z : Value) (size bytes : Nat) (ht : P.underlying t = some (.slice e)) (hi : P.info? e = some i) (hz : i.zero = some z)
    (hsize : i.size = size) (hby : i.bytes = bytes) (hzs : z.cells.size = size) (hsz : 0 < size)
    (v : Value) (n : Nat) (xs : List Value) (hs : a.eval s = v) (hown : w.ownsRow base e size v n xs)
    (ad : Addr) (m c : Nat) (news : List Value) (hx : a.eval x = .slice (some ad) m c) (hl : news.length = m * size) (hnews : ∀ j u, news[j]? = some u → w.cell? (ad.add j) = some u) (h1 : ∀ u ∈ news, u.oneCell' = true)
    (h63 : n + m ≤ maxLen) (hbytes : (n + m) * bytes ≤ 140737488355328) (hbase : base ≤ w.heap.size)
    (h : ∀ v' w', w'.ownsRow base e size v' (n + m) (xs ++ news) → w.grownBy w' v.ownBlock → K (a.put o.dst v') w') :
    if Region.wanted o (yielded ops a.tmps) = true then Oper.wp P o a w K Q else E := by
  have hw : Region.wanted o (yielded ops a.tmps) = true := by simp [Region.wanted, hgd]
  rw [if_pos hw]
  exact wp_append_own w s x t ho base e i z size bytes ht hi hz hsize hby hzs hsz v n xs hs hown ad m c news hx hl hnews h1 h63 hbytes hbase fun v' w' a b _ => h v' w' a b
end
set_option maxHeartbeats 1000000 in
theorem eqTokens_same (w : World) (L : List Tp) (hL : L.length ≤ 1000000) (hp : 0 < L.length) (b1 o1 c1 b2 o2 c2 : Nat) (h1 : Tc w b1 o1 L) (h2 : Tc w b2 o2 L) :
    Calls Tryd.prog 15 #[.slice (some ⟨b1, o1, none⟩) L.length c1, .slice (some ⟨b2, o2, none⟩) L.length c2] w fun e w' => e = .returned (.bool true) ∧ Fr w w' := by
  have H1 := Lib.hid h1
  have H2 := Lib.hid h2
  clear h1 h2
  go_enter Tryd.func15, Tryd.ntmps15
  go_wp2
  go_loopw [5] (fun i wr => ∃ k : Nat, k ≤ L.length ∧ i = .int .i64 k ∧ Fr w wr) (fun i _ => L.length - (intOf i).toNat)
  case atStart => exact ⟨0, Nat.zero_le _, rfl, Fr.refl _⟩
  case round =>
    obtain ⟨k, hk, rfl, hfr⟩ := hrel
    by_cases hlt : k < L.length
    · obtain ⟨t, ht⟩ : ∃ t, L[k]? = some t := ⟨_, List.getElem?_eq_getElem hlt⟩
      obtain ⟨p0, p1, p2, p3⟩ := (H1.out.fr hfr).at_ ht
      obtain ⟨q0, q1, q2, q3⟩ := (H2.out.fr hfr).at_ ht
      have x0 : ((t.k : Int) == (t.k : Int)) = true := by simp
      have x1 : (t.t.toList == t.t.toList) = true := by simp
      have x2 : (t.n == t.n) = true := by simp
      have x3 : ((t.a : Int) == (t.a : Int)) = true := by simp
      go_wp2
      go_quiet (fail)
      go_wp2
      go_roundw
      case rel => exact ⟨k + 1, by omega, by go_num, hfr.drewN _⟩
      case measure => simp [intOf]; omega
    · obtain rfl : k = L.length := by omega
      go_wp2
      go_ret
      exact ⟨rfl, hfr⟩
end Go.Proofs.YtkkapgidddfdoaaDoor
