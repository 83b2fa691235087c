/- Tokens of any numbers, in memory: cells, a copy of the first of them, a comparison. -/
import Derived.Test.YtkkapgidddfdoaaDoorLU
import Derived.Test.YtkkapgidddfdoaaDoorMT
import Derived.Test.YtkkapgidddfdoaaDoorLR
namespace Go.Proofs.YtkkapgidddfdoaaDoor
open Go.RowKit
set_option linter.unusedVariables false

def gcells (t : Tg) : List Value := [.int .i64 t.k, .string t.t, .int .i64 t.n, .int .i64 t.a]
def gtoks (L : List Tg) : List Value := L.flatMap gcells
theorem gtoks_cons (t : Tg) (L : List Tg) : gtoks (t :: L) = .int .i64 t.k :: .string t.t :: .int .i64 t.n :: .int .i64 t.a :: gtoks L := rfl
theorem gtoks_snoc (L : List Tg) (t : Tg) : gtoks (L ++ [t]) = gtoks L ++ gcells t := by unfold gtoks; simp
theorem gtoks_len : ∀ L : List Tg, (gtoks L).length = L.length * 4
  | [] => rfl
  | t :: L => by
    rw [gtoks_cons]
    simp only [List.length_cons]
    have := gtoks_len L
    omega
theorem gtoks_one (L : List Tg) : ∀ u ∈ gtoks L, u.oneCell' = true := by
  intro u hu
  unfold gtoks at hu
  obtain ⟨t, _, h⟩ := List.mem_flatMap.1 hu
  simp only [gcells, List.mem_cons, List.not_mem_nil, or_false] at h
  rcases h with rfl | rfl | rfl | rfl <;> rfl
theorem gtoks_at : ∀ (L : List Tg) (k : Nat) (t : Tg), L[k]? = some t → (gtoks L)[k * 4]? = some (.int .i64 t.k) ∧ (gtoks L)[k * 4 + 1]? = some (.string t.t) ∧ (gtoks L)[k * 4 + 2]? = some (.int .i64 t.n) ∧ (gtoks L)[k * 4 + 3]? = some (.int .i64 t.a) := by
  intro L
  induction L with
  | nil => intro k t h; simp at h
  | cons x L ih =>
    intro k t h
    cases k with
    | zero =>
      obtain rfl : x = t := by simpa using h
      rw [gtoks_cons]
      exact ⟨rfl, rfl, rfl, rfl⟩
    | succ k =>
      have h' : L[k]? = some t := by simpa using h
      obtain ⟨h0, h1, h2, h3⟩ := ih k t h'
      rw [gtoks_cons, show (k + 1) * 4 = k * 4 + 4 by omega]
      exact ⟨h0, h1, h2, h3⟩
theorem Gc.tl {w : World} {b off : Nat} {t : Tg} {L : List Tg} (h : Gc w b off (t :: L)) : Gc w b (off + 4) L := fun i u hu => by
  obtain ⟨h0, h1, h2, h3⟩ := h (i + 1) u (by simpa using hu)
  rw [show off + (i + 1) * 4 = off + 4 + i * 4 by omega] at h0 h1 h2 h3
  exact ⟨h0, h1, h2, h3⟩
theorem Gc.news {w : World} {b : Nat} : ∀ (L : List Tg) (off : Nat), Gc w b off L → ∀ j u, (gtoks L)[j]? = some u → w.cell? ⟨b, off + j, none⟩ = some u
  | [], _, _, j, u, hu => by simp [gtoks] at hu
  | t :: L, off, h, j, u, hu => by
    obtain ⟨h0, h1, h2, h3⟩ := h 0 t rfl
    rw [Nat.zero_mul, Nat.add_zero] at h0 h1 h2 h3
    rw [gtoks_cons] at hu
    match j, hu with
    | 0, hu => obtain rfl : _ = u := Option.some.inj hu; exact h0
    | 1, hu => obtain rfl : _ = u := Option.some.inj hu; exact h1
    | 2, hu => obtain rfl : _ = u := Option.some.inj hu; exact h2
    | 3, hu => obtain rfl : _ = u := Option.some.inj hu; exact h3
    | j + 4, hu =>
      have := Gc.news L (off + 4) h.tl j u hu
      rwa [show off + 4 + j = off + (j + 4) by omega] at this
theorem Gc.take {w : World} {b off : Nat} {L : List Tg} (h : Gc w b off L) (n : Nat) : Gc w b off (L.take n) := fun i t ht => h i t (by
  rw [List.getElem?_take] at ht
  split at ht
  · exact ht
  · cases ht)
theorem own_gc {w : World} {B : Nat} {v : Value} {L : List Tg} (h : w.ownsRow B 38 4 v L.length (gtoks L)) (hp : 0 < L.length) : ∃ g cap, v = .slice (some ⟨g, 0, none⟩) L.length cap ∧ Gc w g 0 L := by
  rcases h.2 with ⟨rfl, h0⟩ | ⟨g, cap, cur, rfl, hb, hg, hm, _, hsz, ht⟩
  · omega
  · refine ⟨g, cap, rfl, fun i t hi => ?_⟩
    have key : ∀ j x, (gtoks L)[j]? = some x → w.cell? ⟨g, 0 + j, none⟩ = some x := fun j x hx => by
      rw [Nat.zero_add]
      have hj : j < L.length * 4 := by
        have := (List.getElem?_eq_some_iff.1 hx).1
        rw [gtoks_len] at this; exact this
      rw [← ht, List.getElem?_take_of_lt hj] at hx
      simp only [World.cell?, hg]
      simpa using hx
    obtain ⟨h0, h1, h2, h3⟩ := gtoks_at L i t hi
    exact ⟨key _ _ h0, key _ _ h1, key _ _ h2, key _ _ h3⟩
def tg (t : Tp) : Tg := ⟨t.k, t.t, t.n, t.a⟩
theorem Tc.gc {w : World} {b off : Nat} {M : List Tp} (h : Tc w b off M) : Gc w b off (M.map tg) := fun i t ht => by
  rw [List.getElem?_map] at ht
  obtain ⟨x, hx, rfl⟩ := Option.map_eq_some_iff.1 ht
  exact h.at_ hx
section
variable {P : Program} {w : World}
theorem wpList_want {ops : Array Oper} {rest : List Oper} {o : Oper} {a : Act} {Q : Exit → Act → World → Prop} (hw : Region.wanted o (yielded ops a.tmps) = true)
    (h : ∀ K : Act → World → Prop, (∀ a w, wpList P ops Q rest a w → K a w) → o.wp P a w K Q) : wpList P ops Q (o :: rest) a w :=
  wpList_step fun K hK => by rw [if_pos hw]; exact h K hK
theorem wp_take {o : Oper} {a : Act} {K : Act → World → Prop} {Q : Exit → Act → World → Prop} (s x : Operand) (t : TypeId)
    (ho : o.op = .call { callee := .builtin .append, args := #[s, x], argTypes := #[t, t] })
    (e : TypeId) (i : TypeInfo) (z : Value) (ht : P.underlying t = some (.slice e)) (hi : P.info? e = some i) (hz : i.zero = some z)
    (hsize : i.size = 4) (hby : i.bytes = 40) (hzs : z.cells.size = 4) (hs : a.eval s = .slice none 0 0)
    (ad : Option Addr) (n c : Nat) (hx : a.eval x = .slice ad n c) (L : List Tg) (hn : L.length = n) (hL : 0 < n → ∃ b off, ad = some ⟨b, off, none⟩ ∧ Gc w b off L) (hb : n ≤ 1000000)
    (h : ∀ v' w', w'.ownsRow w.heap.size e 4 v' n (gtoks L) → w.grownBy w' none → K (a.put o.dst v') w') : o.wp P a w K Q := by
  by_cases h0 : n = 0
  · subst h0
    obtain rfl : L = [] := List.eq_nil_of_length_eq_zero hn
    cases ad with
    | none =>
      have hrun : (Builtin.append_ #[t, t] o.type #[.slice none 0 0, .slice none 0 c]).run P w = .ok (.slice none 0 0) w := by
        simp [Builtin.append_, run_underlying ht, sizeOf, typeInfo, hi, Builtin.lenOf, Builtin.firstCells]
      unfold Oper.wp
      simp [execOp, ho, resolve, invoke, builtin, hs, hx, hrun, Result.andThen]
      exact h _ _ (World.ownsRow_nil _ _ _ _) (Fr.refl w).grow
    | some ad =>
      refine wp_append_own w s x t ho w.heap.size e i z 4 40 ht hi hz hsize hby hzs (by omega) (.slice none 0 0) 0 [] hs (World.ownsRow_nil _ _ _ _) ad 0 c [] hx rfl (fun j u hu => by simp at hu) (fun u hu => by cases hu) (by unfold maxLen; omega) (by omega) (Nat.le_refl _) fun v' w' h1 h2 _ => h v' w' h1 h2
  · obtain ⟨b, off, rfl, hg⟩ := hL (by omega)
    refine wp_append_own w s x t ho w.heap.size e i z 4 40 ht hi hz hsize hby hzs (by omega) (.slice none 0 0) 0 [] hs (World.ownsRow_nil _ _ _ _) ⟨b, off, none⟩ n c (gtoks L) hx (by rw [gtoks_len, hn]) (fun j u hu => by rw [ap_add]; exact Gc.news L off hg j u hu) (gtoks_one L) (by unfold maxLen; omega) (by omega) (Nat.le_refl _) fun v' w' h1 h2 _ => h v' w' (by rw [Nat.zero_add, List.nil_append] at h1; exact h1) h2
end
set_option maxHeartbeats 2000000 in
theorem alike_g (w : World) (L1 L2 : List Tg) (n : Nat) (hn1 : n = L1.length) (hn2 : n = L2.length) (hn : n ≤ 1000000) (hl : ∀ (j : Nat) (t u : Tg), L1[j]? = some t → L2[j]? = some u → t.k = u.k ∧ t.t = u.t ∧ t.n = u.n) (b1 o1 c1 b2 o2 c2 : Nat) (h1 : Gc w b1 o1 L1) (h2 : Gc w b2 o2 L2) :
    Calls Tryd.prog 25 #[.slice (some ⟨b1, o1, none⟩) n c1, .slice (some ⟨b2, o2, none⟩) n c2] w fun e w' => e = .returned (.bool true) ∧ Fr w w' := by
  have H1 := Lib.hid h1
  have H2 := Lib.hid h2
  have HL := Lib.hid hl
  have HN1 := Lib.hid hn1
  have HN2 := Lib.hid hn2
  clear h1 h2 hl hn1 hn2
  go_enter Tryd.func25, Tryd.ntmps25
  go_wp2
  go_loopw [5] (fun i wr => ∃ k : Nat, k ≤ n ∧ i = .int .i64 k ∧ Fr w wr) (fun i _ => n - (intOf i).toNat)
  case atStart => exact ⟨0, Nat.zero_le _, rfl, Fr.refl _⟩
  case round =>
    obtain ⟨k, hk, rfl, hfr⟩ := hrel
    by_cases hlt : k < n
    · obtain ⟨t, ht⟩ : ∃ t, L1[k]? = some t := ⟨_, List.getElem?_eq_getElem (by rw [← HN1.out]; exact hlt)⟩
      obtain ⟨u, hu⟩ : ∃ t, L2[k]? = some t := ⟨_, List.getElem?_eq_getElem (by rw [← HN2.out]; exact hlt)⟩
      obtain ⟨e0, e1, e2⟩ := HL.out k t u ht hu
      obtain ⟨p0, p1, p2, p3⟩ := (H1.out.fr hfr) k t ht
      obtain ⟨q0, q1, q2, q3⟩ := (H2.out.fr hfr) k u hu
      rw [← e0] at q0
      rw [← e1] at q1
      rw [← e2] at q2
      have x0 : (t.k == t.k) = true := by simp
      have x1 : (t.t.toList == t.t.toList) = true := by simp
      have x2 : (t.n == t.n) = true := by simp
      clear e0 e1 e2 p3 q3 ht hu
      go_wp2
      go_quiet (fail)
      go_wp2
      go_roundw
      case rel => exact ⟨k + 1, by omega, by go_num, hfr.drewN _⟩
      case measure => simp [intOf]; omega
    · obtain rfl : k = n := by omega
      go_wp2
      go_ret
      exact ⟨rfl, hfr⟩
end Go.Proofs.YtkkapgidddfdoaaDoor
