/- The library's function that inserts into a list of numbers: its contract, laid over this program by the library's own theorem. -/
import Derived.Shelf.Spec.SlicesInsertGrow
import Derived.Test.YtdnckbcknahakaaGreatSA
namespace Go.Proofs.YtdnckbcknahakaaGreat
open Go.Shelf Go.RowKit Go.Lib
def ins_ren : Go.Shelf.Ren := ⟨fun | 21 => 39 | 27 => 50 | 28 => 51 | 35 => 81 | 39 => 118 | n => n, fun | 22 => 22 | 3 => 3 | 4 => 4 | 0 => 0 | n => n, fun | n => n⟩
theorem ins_lay : Go.Proofs.Lays2.n21 Tryz.prog ins_ren := {
  mixed := by kernel_rfl
  f21 := Tryz.func39.trans (congrArg some (by kernel_rfl))
  f27 := Tryz.func50.trans (congrArg some (by kernel_rfl))
  f28 := Tryz.func51.trans (congrArg some (by kernel_rfl))
  f35 := Tryz.func81.trans (congrArg some (by kernel_rfl))
  f39 := Tryz.func118.trans (congrArg some (by kernel_rfl))
  t0 := Tryz.underlying0
  a0 := Tryz.isAgg0
  z0 := Tryz.sizeOf0
  v0 := Tryz.zeroValue0
  t3 := Tryz.underlying3
  a3 := Tryz.isAgg3
  z3 := Tryz.sizeOf3
  v3 := Tryz.zeroValue3
  t4 := Tryz.underlying4
  a4 := Tryz.isAgg4
  z4 := Tryz.sizeOf4
  v4 := Tryz.zeroValue4
  t22 := Tryz.underlying22
  a22 := Tryz.isAgg22
  z22 := Tryz.sizeOf22
  v22 := Tryz.zeroValue22
  i3 := by kernel_rfl }
theorem insert_one (b off vb voff vc : Nat) (x y : Value) (w : World) (hx : w.cell? ⟨b, off, none⟩ = some x) (hy : w.cell? ⟨vb, voff, none⟩ = some y) (h1 : x.oneCell' = true) (h2 : y.oneCell' = true) :
    Calls Tryz.prog 39 #[.slice (some ⟨b, off, none⟩) 1 1, .int .i64 0, .slice (some ⟨vb, voff, none⟩) 1 vc] w fun e w' => ∃ rc fq, e = .returned (.slice (some ⟨w.heap.size, 0, none⟩) 2 rc) ∧ 2 ≤ rc ∧ Arr w' w.heap.size 3 rc fq ∧ fq 0 = y ∧ fq 1 = x ∧ Fr w w' := by
  refine (Go.Proofs.Any2.slices_Insert_int_grow ins_lay b off 1 1 0 vb voff 1 vc [x] [y] w (by omega) (by omega) (by omega) (by omega) (by omega) rfl rfl
    (fun j v h => by
      match j, h with
      | 0, h => obtain rfl : x = v := Option.some.inj h; exact hx)
    (fun j v h => by
      match j, h with
      | 0, h => obtain rfl : y = v := Option.some.inj h; exact hy)
    (fun v hv => by simp only [List.mem_cons, List.not_mem_nil, or_false] at hv; subst hv; exact h1)
    (fun v hv => by simp only [List.mem_cons, List.not_mem_nil, or_false] at hv; subst hv; exact h2)).mono ?_
  rintro e w' ⟨rfl, hw'⟩
  obtain ⟨G, hG⟩ : ∃ G, G = grownCap w (1 + 1) 1 (ins_ren.t 3) := ⟨_, rfl⟩
  have hg2 : 2 ≤ G := by rw [hG]; exact grownCap_ge w _ _ _
  rw [← hG] at hw' ⊢
  obtain ⟨ROW, hROW⟩ : ∃ ROW : Array Value, ROW = (List.take 0 [x]).toArray ++ Builtin.zeroCells (Value.int .i64 0).cells (1 + 1 - 0) ++ Builtin.zeroCells (Value.int .i64 0).cells (G - (1 + 1)) := ⟨_, rfl⟩
  rw [← hROW] at hw'
  have hsz : ROW.size = G := by
    rw [hROW]
    simp [Builtin.zeroCells, Value.cells]
    omega
  have hA : Arr (w.alloc (.cells ROW 3)) w.heap.size 3 G (fun i => (ROW[i]?).getD undef) :=
    ⟨ROW, Blk.new _ _ _, hsz, fun i hi => by show ROW[i]? = some ((ROW[i]?).getD undef); rw [Array.getElem?_eq_getElem (by omega)]; rfl⟩
  have hB := ((((hA.fr (Fr.refl _).drew).set (show 0 < G by omega) y).fr (Fr.refl _).drew).set (show 1 < G by omega) x)
  have hF : Fr w _ := ((((((Fr.refl w).alloc (.cells ROW 3)).drew).setCell (p := ⟨w.heap.size, 0, none⟩) (Nat.le_refl _) y).drew).setCell (p := ⟨w.heap.size, 1, none⟩) (Nat.le_refl _) x)
  subst hw'
  exact ⟨G, _, rfl, hg2, hB, by unfold upd; simp, by unfold upd; simp, hF⟩
end Go.Proofs.YtdnckbcknahakaaGreat
