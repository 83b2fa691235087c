/- Which labels lead to a result's place: the code's walk from behind. -/
import Derived.RangeFuncNested
import Derived.RangeFuncLeaves
import Derived.RangeFuncBox
import Derived.Shelf.Abstract
import Derived.WalkKit
import Derived.OwnWalkIn
import Derived.TacticsInMore
import Derived.LoopNIn
import Derived.LoopIn
import Derived.Test.YtdnckbcknahakaaGreatFF
namespace Go.Proofs.YtdnckbcknahakaaGreat
open Go.RowKit Go.Shelf
set_option linter.unusedVariables false
set_option linter.unusedSimpArgs false

attribute [local go_sem] Oper.semAt_some

/-- What a round is handed: an index, an instruction. -/
def encB (L : List Op3) (x : Fin L.length) : Array Value := #[.int .i64 ((x.val : Nat) : Int), .agg #[.int .i64 (L.get x).op, .int .i64 (L.get x).n, .int .i64 (L.get x).m]]
/-- What a round keeps. -/
def KpB (n₀ Bs : Nat) (W W' : World) : Prop := Below n₀ W W' ∧ ∀ v, W.cell? ⟨Bs, 0, none⟩ = some v → W'.cell? ⟨Bs, 0, none⟩ = some v
theorem KpB.trans {n₀ Bs : Nat} {A B C : World} (h : KpB n₀ Bs A B) (k : KpB n₀ Bs B C) : KpB n₀ Bs A C := ⟨h.1.trans k.1, fun v hv => k.2 v (h.2 v hv)⟩
theorem KpB.refl (n₀ Bs : Nat) (A : World) : KpB n₀ Bs A A := ⟨Below.refl _ _, fun _ h => h⟩
theorem KpB.put {n₀ Bs : Nat} {w : World} (hn : n₀ ≤ w.heap.size) (W : World) (l : Nat) (o o' : Obj) (hl : w.heap.size ≤ l) (h : W.heap[l]? = some o) (hc : o.isCells = false) (hw : o.isWalk = false) : KpB n₀ Bs W (W.putObj l o') := by
  refine ⟨belowK_b hn W l o o' hl h hc hw, fun v hv => ?_⟩
  by_cases e : l = Bs
  · subst e
    unfold World.cell? at hv
    simp only [h] at hv
    cases o <;> simp_all [Obj.isCells]
  · have hg := (grownBy_putObj' W l o').block Bs (World.block_lt_of_cell? W ⟨Bs, 0, none⟩ hv) (by intro h2; cases h2; exact e rfl)
    unfold World.cell? at hv ⊢
    rw [hg]
    exact hv
set_option maxRecDepth 100000 in
set_option maxHeartbeats 4000000 in
theorem back1_in (F : Fence) (n : Nat) (h110 : F.fn 146) (hro : F.round = none) (hn : 1 ≤ n) (l Bs : Nat) (L : List Op3) (a : Option Addr) (cap : Nat) (hL : L.length ≤ 1000000) (w0 : World) (hO : OpsV w0 (.slice a L.length cap) L) (J Jx : List (Fin L.length) → World → Prop)
    (hY : ∀ pre x W, J pre W → pre.length < L.length → YieldAt F (n - 1) Tryz.prog l (encB L x) W fun e W' =>
      (e = .returned (.bool true) ∧ J (pre ++ [x]) W' ∧ KpB w0.heap.size Bs W W') ∨ (e = .returned (.bool false) ∧ Jx (pre ++ [x]) W'))
    (W : World) (hb : Fr w0 W) (hBs : W.cell? ⟨Bs, 0, none⟩ = some (.slice a L.length cap)) (h0 : J [] W) :
    CallsIn F n Tryz.prog 146 #[.func (.yield l) #[] #[], .pointer (some ⟨Bs, 0, none⟩)] W fun e W' => (∃ v, e = .returned v) ∧
      ((∃ ys : List (Fin L.length), ys.map L.get = L.reverse ∧ J ys W') ∨ (∃ pre, True ∧ Jx pre W')) := by
  have HO := Lib.hid hO
  obtain ⟨N, hN⟩ : ∃ N, N = L.length := ⟨_, rfl⟩
  have HN := Lib.hid hN
  have hBs0 := hBs
  rw [← hN] at hBs
  have w1 : IntKind.i64.wrap ((N : Int) - 1) = (N : Int) - 1 := IntWalk.i64_in _ (by omega)
  have HS0 : Hid (((L.drop N).reverse = [] ∧ L.length - N = 0) ∧ N ≤ 1000000) := Lib.hid ⟨by rw [hN]; simp, by omega⟩
  clear hN
  refine callsIn_of_wp Tryz.func146 rfl h110 ?_ hro
  simp only [Tryz.ntmps146, List.size_toArray, List.length_cons, List.length_nil, Nat.reduceAdd, Nat.reduceSub, Array.replicate_succ, Array.replicate_zero, List.push_toArray, List.append_toArray, List.nil_append, List.cons_append]
  gi_wp2
  gi_loopw [3] (fun i wr => ∃ (k : Nat) (pre : List (Fin L.length)) (z : Int), k ≤ N ∧ i = .int .i64 z ∧ z = (k : Int) - 1 ∧ Hid (pre.map L.get = (L.drop k).reverse ∧ pre.length = L.length - k) ∧ J pre wr ∧ KpB w0.heap.size Bs W wr) (fun i _ => (intOf i + 1).toNat)
  case atStart => exact ⟨N, [], _, Nat.le_refl _, rfl, rfl, Lib.hid ⟨by rw [HS0.out.1.1]; rfl, by rw [HS0.out.1.2]; rfl⟩, h0, KpB.refl _ _ _⟩
  case round =>
    obtain ⟨k, pre, z, hk, rfl, hz, HP, hJ, hK⟩ := hrel
    cases k with
    | zero =>
      obtain rfl : z = -1 := by omega
      clear hz
      gi_wp2
      go_end0
      exact ⟨⟨_, rfl⟩, .inl ⟨pre, by have := HP.out.1; simpa using this, hJ⟩⟩
    | succ k =>
      obtain rfl : z = (k : Int) := by omega
      have hkL : k < L.length := by have := HN.out; omega
      obtain ⟨x, hx⟩ : ∃ x : Fin L.length, x = ⟨k, hkL⟩ := ⟨_, rfl⟩
      have hxv : x.val = k := by rw [hx]
      obtain ⟨t, ht⟩ : ∃ t, t = L.get x := ⟨_, rfl⟩
      have hLk : L[k]? = some t := by rw [ht, hx]; simp [hkL]
      obtain ⟨b, off, rfl, hc⟩ := (HO.out.fr' (show Fr w0 wr from Below.trans hb hK.1)).at_ hLk
      obtain ⟨x0, x1, x2⟩ := hc
      have hbx := hK.2 _ hBs
      obtain ⟨fn, tmps, assign, body, hy, hR⟩ := hY pre x wr hJ (by have := HP.out.2; have := HN.out; omega)
      unfold encB at hy
      rw [hxv, ← ht] at hy
      obtain ⟨⟨q0, q1, q2⟩, hq⟩ : ∃ y, y = t := ⟨_, rfl⟩
      subst hq
      simp only at x0 x1 x2 hy
      have HX := Lib.hid (And.intro hx (And.intro ht hkL))
      clear hx ht hxv hLk hz
      gi_wp2
      refine hR.mono ?_
      rintro e W3 (⟨rfl, hJ3, hk3⟩ | ⟨rfl, hJx3⟩)
      · have HP2 : Hid ((pre ++ [x]).map L.get = (L.drop k).reverse ∧ (pre ++ [x]).length = L.length - k) := Lib.hid (by
          obtain ⟨hp1, hp2⟩ := HP.out
          obtain ⟨hx, ht, hkL⟩ := HX.out
          constructor
          · rw [List.map_append, hp1, List.map_cons, List.map_nil, ← ht, List.drop_eq_getElem_cons hkL, List.reverse_cons]
            congr 2
            rw [ht, hx]; rfl
          · rw [List.length_append, hp2]; simp; omega)
        gi_wp2
        go_roundw
        case rel => exact ⟨k, pre ++ [x], (k : Int) - 1, by omega, by first | rfl | exact congrArg (Value.int .i64) (IntWalk.i64_in _ (by omega)), rfl, HP2, hJ3, hK.trans hk3⟩
        case measure => simp [intOf] <;> omega
      · gi_wp2
        refine bodyPost_ret (results_none rfl _ _ _) rfl ?_
        exact ⟨⟨_, rfl⟩, .inr ⟨_, trivial, hJx3⟩⟩

set_option maxHeartbeats 1000000 in
theorem Backward_in (F : Fence) (n : Nat) (h : F.fn 136) (hro : F.round = none) (a : Option Addr) (len cap : Nat) (w : World) :
    CallsIn F n Tryz.prog 136 #[.slice a len cap] w fun e w' => e = .returned (.func (.func 146) #[] #[.pointer (some ⟨w.heap.size, 0, none⟩)]) ∧ w' = w.alloc (.cells #[.slice a len cap] 40) := by
  refine callsIn_of_wp Tryz.func136 rfl h ?_ hro
  simp only [Tryz.ntmps136, List.size_toArray, List.length_cons, List.length_nil, Nat.reduceAdd, Nat.reduceSub, Array.replicate_succ, Array.replicate_zero, List.push_toArray, List.append_toArray, List.nil_append, List.cons_append]
  gi_wp2
  go_ret
  exact ⟨rfl, rfl⟩
theorem back_stops (F : Fence) (n : Nat) (h110 : F.fn 146) (hro : F.round = none) (hn : 1 ≤ n) (Bs : Nat) (L : List Op3) (a : Option Addr) (cap : Nat) (hL : L.length ≤ 1000000) (w0 w : World) (hO : OpsV w0 (.slice a L.length cap) L) (hB : Bs < w.heap.size) (hb : Fr w0 w) (hc : w.cell? ⟨Bs, 0, none⟩ = some (.slice a L.length cap)) :
    SeqStopsK F n Tryz.prog 146 #[.pointer (some ⟨Bs, 0, none⟩)] (encB L) (KpB w0.heap.size Bs) (fun ys => ys.map L.get = L.reverse) (fun _ => True) L.length w := fun l J Jx W hW _ _ hY h0 =>
  back1_in F n h110 hro hn l Bs L a cap hL w0 hO J Jx hY W (hb.trans hW) ((hW.cell (p := ⟨Bs, 0, none⟩) hB).trans hc) h0
theorem rows_own {β : Type} (B : Nat) (t : TypeId) (n : Nat) (f : β → Nat → Value) : Own (fun s W => W.rowIs B t n (f s)) := fun s X Y row hs hg hrow =>
  hs.of_block (hg.block B hs.lt (fun e' => by
    obtain ⟨o, ho, hc⟩ := hrow B e'.symm
    obtain ⟨c, hb, _⟩ := hs
    rw [hb] at ho; cases ho; cases hc))
/-- Three cells of a block. -/
def Box3 (W : World) (B : Nat) (t : TypeId) (x y z : Value) : Prop := W.heap[B]? = some (.cells #[x, y, z] t (0, 0))
theorem box3_own {β : Type} (B : Nat) (t : TypeId) (x y z : Value) : Own (fun (_ : β) W => Box3 W B t x y z) := fun s X Y row hs hg hrow =>
  (hg.block B (Array.getElem?_eq_some_iff.1 hs).1 (fun e' => by obtain ⟨o, ho, hc⟩ := hrow B e'.symm; rw [show X.heap[B]? = _ from hs] at ho; cases ho; cases hc)).trans hs
theorem Box3.new (W : World) (t : TypeId) (x y z : Value) : Box3 (W.alloc (.cells #[x, y, z] t)) W.heap.size t x y z := World.alloc_heap_new W _
theorem Box3.cells {W : World} {B : Nat} {t : TypeId} {x y z : Value} (h : Box3 W B t x y z) : W.cell? ⟨B, 0, none⟩ = some x ∧ W.cell? ⟨B, 1, none⟩ = some y ∧ W.cell? ⟨B, 2, none⟩ = some z := by
  simp [World.cell?, show W.heap[B]? = _ from h]
theorem Boxed.far {W : World} {B : Nat} {t : TypeId} {v : Value} (h : Boxed W B t v) (p : Addr) (hne : B ≠ p.block) (u : Value) : Boxed (W.setCell p u) B t v := by
  unfold Boxed at h ⊢
  simp only [World.setCell, Array.getElem?_modify]
  rw [if_neg (fun e => hne e.symm)]
  exact h
theorem KpB.set {n₀ Bs : Nat} (W : World) (p : Addr) (u : Value) (h1 : n₀ ≤ p.block) (h2 : Bs ≠ p.block) : KpB n₀ Bs W (W.setCell p u) :=
  ⟨(Below.refl _ _).setCell h1 _, fun v hv => by rw [World.cell?_setCell_far _ _ _ _ (fun e => h2 e.symm)]; exact hv⟩
theorem KpB.al {n₀ Bs : Nat} (W : World) (o : Obj) (h : n₀ ≤ W.heap.size) : KpB n₀ Bs W (W.alloc o) :=
  ⟨(Below.refl _ _).alloc h _, fun v hv => ((Fr.refl W).alloc o).cell hv⟩
/-- The state behind some rounds. -/
def stB (l : List Op3) : (Nat → Bool) × Bool := l.foldl (fun s o => ltF o s) (fun _ => false, false)
theorem stB_snoc (l : List Op3) (o : Op3) : stB (l ++ [o]) = ltF o (stB l) := by unfold stB; rw [List.foldl_append]; rfl
theorem stB_all (l : List Op3) : (stB l.reverse).1 = takesL l := by unfold stB takesL; rw [List.foldl_reverse]
theorem run_make_bools (n : Nat) (hn : n ≤ 1000000) (w : World) : (Instr.makeSlice 56 (.int .i64 (n : Int)) (.int .i64 (n : Int))).run Tryz.prog w = .ok (.slice (some ⟨w.heap.size, 0, none⟩) n n) (w.alloc (.cells (madeCells #[.bool false] n) 4)) :=
  run_make_row' _ _ _ 1 Tryz.underlying56 (by kernel_rfl) rfl _ _ n (by omega) (by omega) w
set_option maxRecDepth 100000 in
set_option maxHeartbeats 8000000 in
theorem labelsOfTakes_in (F : Fence) (n : Nat) (h101 : F.fn 117) (h108 : F.fn 136) (h110 : F.fn 146) (hro : F.round = none) (hn : 6 ≤ n) (nm : ByteArray) (dv gv : Value) (procs : Int) (lb : Nat) (l : List Op3) (v : Value) (w : World) (hv : OpsV w v l) (hb : l.length ≤ 1000000) (hlb : lb ≤ 100000)
    (h19 : ∀ x ∈ l, x.op = 19 → 1 ≤ x.n ∧ x.n ≤ lb) :
    CallsIn F n Tryz.prog 117 #[.agg #[.string nm, dv, v, gv, .int .i64 procs, .int .i64 (lb : Nat)]] w fun e w' => ∃ g : Nat, e = .returned (.slice (some ⟨g, 0, none⟩) (lb + 1) (lb + 1)) ∧ w.heap.size ≤ g ∧ w'.rowIs g 4 (lb + 1) (fun k => .bool (takesL l k)) ∧ Fr w w' := by
  have HV := Lib.hid hv
  obtain ⟨a, cap, rfl, hc, hm, _⟩ := hv.form
  have H19 := Lib.hid h19
  have h1 : 1 ≤ n := by omega
  have w1 : IntKind.i64.wrap ((lb : Int) + 1) = ((lb + 1 : Nat) : Int) := by rw [show ((lb : Int) + 1) = ((lb + 1 : Nat) : Int) by omega]; exact IntWalk.i64_in _ (by omega)
  obtain ⟨m, hm2⟩ : ∃ m, m = lb + 1 := ⟨_, rfl⟩
  have HM2 := Lib.hid hm2
  rw [← hm2] at w1 ⊢
  have hmk := fun W => run_make_bools m (by omega) W
  clear hm2 h19 hv
  refine callsIn_of_wp_marks Tryz.func117 rfl h101 ?_ hro
  simp only [Tryz.ntmps117, List.size_toArray, List.length_cons, List.length_nil, Nat.reduceAdd, Nat.reduceSub, Array.replicate_succ, Array.replicate_zero, List.push_toArray, List.append_toArray, List.nil_append, List.cons_append]
  gi_wp2_with (gi_at_call 136; refine (Backward_in F (n - 1) h108 hro _ _ _ _).mono ?_; rintro e w' ⟨rfl, rfl⟩)
  have bR := ((((World.rowIs_made (w.alloc (.cells #[.string nm, dv, .slice a l.length cap, gv, .int .i64 procs, .int .i64 (lb : Nat)] 43)) (.bool false) m 4).alloc (.cells #[.slice (some ⟨w.heap.size + 1, 0, none⟩) m m] 56)).alloc (.cells #[.bool false] 4)).alloc (.cells #[.slice a l.length cap] 40))
  rw [show (w.alloc (.cells #[.string nm, dv, .slice a l.length cap, gv, .int .i64 procs, .int .i64 (lb : Nat)] 43)).heap.size = w.heap.size + 1 from by simp] at bR
  have bT := ((Boxed.new ((w.alloc (.cells #[.string nm, dv, .slice a l.length cap, gv, .int .i64 procs, .int .i64 (lb : Nat)] 43)).alloc (.cells (madeCells #[.bool false] m) 4)) 56 (.slice (some ⟨w.heap.size + 1, 0, none⟩) m m)).alloc (.cells #[.bool false] 4)).alloc (.cells #[.slice a l.length cap] 40)
  have bK := (Boxed.new (((w.alloc (.cells #[.string nm, dv, .slice a l.length cap, gv, .int .i64 procs, .int .i64 (lb : Nat)] 43)).alloc (.cells (madeCells #[.bool false] m) 4)).alloc (.cells #[.slice (some ⟨w.heap.size + 1, 0, none⟩) m m] 56)) 4 (.bool false)).alloc (.cells #[.slice a l.length cap] 40)
  have bB := Boxed.new ((((w.alloc (.cells #[.string nm, dv, .slice a l.length cap, gv, .int .i64 procs, .int .i64 (lb : Nat)] 43)).alloc (.cells (madeCells #[.bool false] m) 4)).alloc (.cells #[.slice (some ⟨w.heap.size + 1, 0, none⟩) m m] 56)).alloc (.cells #[.bool false] 4)) 40 (.slice a l.length cap)
  simp only [World.size_alloc] at bT bK bB
  have hF : Fr w ((((w.alloc (.cells #[.string nm, dv, .slice a l.length cap, gv, .int .i64 procs, .int .i64 (lb : Nat)] 43)).alloc (.cells (madeCells #[.bool false] m) 4)).alloc (.cells #[.slice (some ⟨w.heap.size + 1, 0, none⟩) m m] 56)).alloc (.cells #[.bool false] 4) |>.alloc (.cells #[.slice a l.length cap] 40)) := (((((Fr.refl w).alloc _).alloc _).alloc _).alloc _).alloc _
  have hsz : ((((w.alloc (.cells #[.string nm, dv, .slice a l.length cap, gv, .int .i64 procs, .int .i64 (lb : Nat)] 43)).alloc (.cells (madeCells #[.bool false] m) 4)).alloc (.cells #[.slice (some ⟨w.heap.size + 1, 0, none⟩) m m] 56)).alloc (.cells #[.bool false] 4) |>.alloc (.cells #[.slice a l.length cap] 40)).heap.size = w.heap.size + 5 := by simp
  obtain ⟨W0, hW0⟩ : ∃ W0, ((((w.alloc (.cells #[.string nm, dv, .slice a l.length cap, gv, .int .i64 procs, .int .i64 (lb : Nat)] 43)).alloc (.cells (madeCells #[.bool false] m) 4)).alloc (.cells #[.slice (some ⟨w.heap.size + 1, 0, none⟩) m m] 56)).alloc (.cells #[.bool false] 4) |>.alloc (.cells #[.slice a l.length cap] 40)) = W0 := ⟨_, rfl⟩
  rw [hW0] at bR bT bK bB hF hsz ⊢
  clear hW0
  refine wpIn_rangeFunc_ownH hro h1 (gf := 146) (lb := #[.pointer (some ⟨w.heap.size + 1 + 1 + 1 + 1, 0, none⟩)]) rfl h110 (enters_of Tryz.func146 (by kernel_rfl) rfl)
    (back_stops F (n - 1) h110 hro (by omega) (w.heap.size + 1 + 1 + 1 + 1) l a cap hb w W0 HV.out (by omega) hF bB.cell) KpB.trans (KpB.put (by omega)) (Below.refl _ _) (fun _ => rfl)
    (fun pre W => (W.rowIs (w.heap.size + 1) 4 m (fun k => .bool ((stB (pre.map l.get)).1 k)) ∧ (Boxed W (w.heap.size + 1 + 1) 56 (.slice (some ⟨w.heap.size + 1, 0, none⟩) m m) ∧ Boxed W (w.heap.size + 1 + 1 + 1) 4 (.bool (stB (pre.map l.get)).2))) ∧ Below w.heap.size w W)
    (fun _ _ _ => False)
    (OwnFrom.and (OwnFrom.and (Own.from (rows_own _ _ _ (fun (pre : List (Fin l.length)) k => Value.bool ((stB (pre.map l.get)).1 k))) _) (OwnFrom.and (Own.from (boxed_own _ _ (fun _ => Value.slice (some ⟨w.heap.size + 1, 0, none⟩) m m)) _) (Own.from (boxed_own _ _ (fun (pre : List (Fin l.length)) => Value.bool (stB (pre.map l.get)).2)) _))) (ownFrom_below (Nat.le_refl _) (by omega)))
    (fun _ _ _ _ _ hs _ _ => hs)
    ⟨⟨bR, bT, bK⟩, hF⟩
    (fun x a' W => ∃ Bx, w.heap.size + 1 + 1 + 1 < Bx ∧ Box3 W Bx 60 (.int .i64 (l.get x).op) (.int .i64 (l.get x).n) (.int .i64 (l.get x).m) ∧ a' = { tmps := #[.agg #[.string nm, dv, .slice a l.length cap, gv, .int .i64 procs, .int .i64 (lb : Nat)], .pointer (some ⟨w.heap.size, 0, none⟩), .slice none 0 0, .pointer (some ⟨w.heap.size + 1 + 1, 0, none⟩), .pointer (some ⟨w.heap.size + 1 + 1 + 1, 0, none⟩), undef, .pointer (some ⟨Bx, 0, none⟩), .pointer (some ⟨w.heap.size, 5, none⟩), .int .i64 (lb : Nat), .int .i64 (m : Nat), .slice (some ⟨w.heap.size + 1, 0, none⟩) m m, .pointer (some ⟨w.heap.size, 2, none⟩), .slice a l.length cap, .func (.func 146) #[] #[.pointer (some ⟨w.heap.size + 1 + 1 + 1 + 1, 0, none⟩)], .int .i64 ((x.val : Nat) : Int), .agg #[.int .i64 (l.get x).op, .int .i64 (l.get x).n, .int .i64 (l.get x).m], undef, undef, undef, undef, undef, undef, undef, undef, undef, undef, undef, undef], defers := [] })
    (fun x a' _ X Y row hs hg hr => by obtain ⟨Bx, h1, h2, h3⟩ := hs; exact ⟨Bx, h1, box3_own (β := Unit) Bx _ _ _ _ () X Y row h2 hg (fun r e => (hr r e).2), h3⟩)
    ?assign ?body ?done ?stop
  case assign =>
    rintro l' pre x W K ⟨⟨bR1, bT1, bK1⟩, hB1⟩ hK
    unfold encB
    obtain ⟨t, ht⟩ : ∃ t, t = l.get x := ⟨_, rfl⟩
    rw [← ht] at hK ⊢
    clear ht
    gi_wp2
    have hlt5 : w.heap.size + 1 + 1 + 1 < W.heap.size := bK1.lt
    exact hK _ _ ((KeepsOthers.alloc _ _).from _) (KpB.al _ _ hB1.size) ⟨⟨bR1.alloc _, bT1.alloc _, bK1.alloc _⟩, hB1.alloc hB1.size _⟩ ⟨W.heap.size, hlt5, Box3.new W _ _ _ _, rfl⟩
  case body =>
    rintro l' pre x a' W hl ⟨r, hr⟩ ⟨⟨bR1, bT1, bK1⟩, hB1⟩ ⟨Bx, hBx, bX, rfl⟩ hlt
    have HI := Lib.hid hB1
    obtain ⟨z0, z1, z2⟩ := bX.cells
    have cT := bT1.cell
    have cK := bK1.cell
    have fK := bK1.frozen
    obtain ⟨t, ht⟩ : ∃ t, t = l.get x := ⟨_, rfl⟩
    have hmem : t ∈ l := by rw [ht]; exact List.get_mem _ _
    have HMEM := Lib.hid hmem
    have HST : Hid (stB ((pre ++ [x]).map l.get) = ltF t (stB (pre.map l.get))) := Lib.hid (by rw [List.map_append, List.map_cons, List.map_nil, stB_snoc, ht])
    rw [← ht] at z0 z1 z2 ⊢
    obtain ⟨⟨q0, q1, q2⟩, hq⟩ : ∃ y, y = t := ⟨_, rfl⟩
    subst hq
    obtain ⟨⟨tk, tb⟩, hst⟩ : ∃ y, y = stB (pre.map l.get) := ⟨_, rfl⟩
    rw [← hst] at HST cK bK1 bR1
    simp only at z0 z1 z2 cK bK1 bR1
    have BR := Lib.hid bR1
    have BT := Lib.hid bT1
    have BK := Lib.hid bK1
    clear ht hmem hst bR1 bT1 bK1
    by_cases hk : q0 = 19
    · have e19 : (q0 == 19) = true := by rw [beq_iff_eq]; exact hk
      obtain ⟨k, hkk⟩ : ∃ k : Nat, q1 = (k : Int) := ⟨q1.toNat, by have := H19.out _ HMEM.out hk; simp only at this; omega⟩
      have hkm : k < m := by have := H19.out _ HMEM.out hk; have := HM2.out; simp only at *; omega
      subst hkk
      have y1 := BR.out.cell hkm
      have y2 := BR.out.frozen k
      have HST2 : Hid (stB ((pre ++ [x]).map l.get) = (upd tk k tb, tb)) := Lib.hid (by rw [HST.out]; simp [ltF, hk])
      clear hk
      gi_wp2
      refine ⟨(KeepsOthers.setCell _ _ _).from _, KpB.set W ⟨w.heap.size + 1, k, none⟩ _ (by show w.heap.size ≤ w.heap.size + 1; omega) (by show w.heap.size + 1 + 1 + 1 + 1 ≠ w.heap.size + 1; omega), ⟨⟨(BR.out.set k _).congr (fun i hi => ?_), Boxed.far BT.out _ (by show w.heap.size + 1 + 1 ≠ w.heap.size + 1; omega) _, ?_⟩, HI.out.setCell (p := ⟨w.heap.size + 1, k, none⟩) (by show w.heap.size ≤ w.heap.size + 1; omega) _⟩⟩
      · rw [HST2.out]
        show (if i = k then Value.bool tb else .bool (tk i)) = .bool (upd tk k tb i)
        unfold upd
        by_cases h : i = k
        · rw [if_pos h, if_pos h]
        · rw [if_neg h, if_neg h]
      · rw [HST2.out]
        exact Boxed.far BK.out _ (by show w.heap.size + 1 + 1 + 1 ≠ w.heap.size + 1; omega) _
    · have e19 : (q0 == 19) = false := by rw [beq_eq_false_iff_ne]; exact hk
      have HST2 : Hid (stB ((pre ++ [x]).map l.get) = (tk, q0 == 28)) := Lib.hid (by rw [HST.out]; simp only [ltF, if_neg hk]; rw [show (q0 == 28) = decide (q0 = 28) from by rw [Bool.eq_iff_iff]; simp])
      clear hk
      gi_wp2
      refine ⟨(KeepsOthers.setCell _ _ _).from _, KpB.set W ⟨w.heap.size + 1 + 1 + 1, 0, none⟩ _ (by show w.heap.size ≤ w.heap.size + 1 + 1 + 1; omega) (by show w.heap.size + 1 + 1 + 1 + 1 ≠ w.heap.size + 1 + 1 + 1; omega), ⟨⟨?_, Boxed.far BT.out _ (by show w.heap.size + 1 + 1 ≠ w.heap.size + 1 + 1 + 1; omega) _, ?_⟩, HI.out.setCell (p := ⟨w.heap.size + 1 + 1 + 1, 0, none⟩) (by show w.heap.size ≤ w.heap.size + 1 + 1 + 1; omega) _⟩⟩
      · rw [HST2.out]
        exact BR.out.setOther (by show w.heap.size + 1 ≠ w.heap.size + 1 + 1 + 1; omega) _
      · rw [HST2.out]
        exact BK.out.set _
  case done =>
    rintro D ys W hD hys ⟨⟨bR1, bT1, bK1⟩, hB1⟩ hK
    have cT := bT1.cell
    have HST : Hid ((stB (ys.map l.get)).1 = takesL l) := Lib.hid (by rw [hys]; exact stB_all l)
    have BR := Lib.hid bR1
    gi_wp2
    refine ⟨by simp, .inl ⟨_, _, rfl, run_takeDeferred hK, ?_⟩⟩
    refine ⟨_, results_tmp rfl _ _ _, w.heap.size + 1, rfl, by omega, ?_, ?_⟩
    · refine (BR.out.of_block ?_).congr (fun k _ => by rw [HST.out])
      exact (grownBy_putObj' W D (.deferred none)).block _ BR.out.lt (by intro e; cases e; omega)
    · exact hB1.trans (belowK_b (w := w) (Nat.le_refl _) W D _ _ (by omega) hK rfl rfl)
  case stop =>
    rintro D c pre W _ _ h _
    exact h.elim
theorem labelsOfTakes_any (nm : ByteArray) (dv gv : Value) (procs : Int) (lb : Nat) (l : List Op3) (v : Value) (w : World) (hv : OpsV w v l) (hb : l.length ≤ 1000000) (hlb : lb ≤ 100000)
    (h19 : ∀ x ∈ l, x.op = 19 → 1 ≤ x.n ∧ x.n ≤ lb) :
    Calls Tryz.prog 117 #[.agg #[.string nm, dv, v, gv, .int .i64 procs, .int .i64 (lb : Nat)]] w fun e w' => ∃ g : Nat, e = .returned (.slice (some ⟨g, 0, none⟩) (lb + 1) (lb + 1)) ∧ w.heap.size ≤ g ∧ w'.rowIs g 4 (lb + 1) (fun k => .bool (takesL l k)) ∧ Fr w w' :=
  (callsIn_wide (n := 6)).1 (labelsOfTakes_in Fence.wide 6 trivial trivial trivial rfl (by omega) nm dv gv procs lb l v w hv hb hlb h19)
end Go.Proofs.YtdnckbcknahakaaGreat
