/- Memory is filled. -/
import Derived.Test.YtdnckbcknahakaaGreatSN9
import Derived.Test.YtdnckbcknahakaaGreatSV
import Derived.LoopN
namespace Go.Proofs.YtdnckbcknahakaaGreat
open Go.RowKit
set_option linter.unusedVariables false
set_option linter.unusedSimpArgs false

structure FiS (w wr : World) (mb ib gb j : Nat) : Prop where
  f : ∃ f, Arr wr mb 88 32000 f ∧ (2 ≤ j → f 3 = .int .i64 32503) ∧ (11 ≤ j → f 1 = .int .i64 32001)
  c : Blk wr w.heap.size 43 #[.string ⟨#[]⟩, .slice none 0 0, .slice (some ⟨ib, 0, none⟩) 7 7, .slice (some ⟨gb, 0, none⟩) 1 1, .int .i64 1, .int .i64 0]
  c8 : C8 wr ib gb
  x : Ex (fun k => k = mb) w wr
theorem FiS.fr {w wr w' : World} {mb ib gb j : Nat} (h : FiS w wr mb ib gb j) (k : Fr wr w') : FiS w w' mb ib gb j :=
  ⟨(by obtain ⟨f, h1, h2⟩ := h.f; exact ⟨f, h1.fr k, h2⟩), h.c.fr k, h.c8.fr k, h.x.fr k⟩
set_option maxRecDepth 100000 in
set_option maxHeartbeats 40000000 in
theorem fill_any (mb ib gb : Nat) (pv : Value) (w : World) (h : C8 w ib gb) (hf : ∃ f, Arr w mb 88 32000 f) (h1 : ib ≠ mb) (h2 : gb ≠ mb) :
    Calls Tryz.prog 30 #[.pointer (some ⟨mb, 0, none⟩), cv8 ib gb, pv] w fun e w' => e = .returned (.tuple #[]) ∧ FiS w w' mb ib gb 11 := by
  have HC := Lib.hid h
  have HF := Lib.hid hf
  have HN : Hid (ib ≠ mb ∧ gb ≠ mb ∧ mb < w.heap.size) := Lib.hid ⟨h1, h2, by obtain ⟨f, hf⟩ := hf; exact hf.lt⟩
  clear h hf h1 h2
  unfold cv8
  go_enter Tryz.func30, Tryz.ntmps30
  go_wp2_with (first
    | (go_at_call 41; refine (given_any _).mono ?_; rintro e wa ⟨rfl, rfl⟩)
    | fail)
  have HS0 : Hid (FiS w ((w.alloc (.cells #[.string ⟨#[]⟩, .slice none 0 0, .slice (some ⟨ib, 0, none⟩) 7 7, .slice (some ⟨gb, 0, none⟩) 1 1, .int .i64 1, .int .i64 0] 43)).alloc (.cells givC 124)) mb ib gb 0) := Lib.hid (by
    have k := ((Fr.refl w).alloc (.cells #[.string ⟨#[]⟩, .slice none 0 0, .slice (some ⟨ib, 0, none⟩) 7 7, .slice (some ⟨gb, 0, none⟩) 1 1, .int .i64 1, .int .i64 0] 43)).alloc (.cells givC 124)
    obtain ⟨f, hf⟩ := HF.out
    exact ⟨⟨f, hf.fr k, fun h => absurd h (by omega), fun h => absurd h (by omega)⟩, Blk.fr (Blk.new w _ _) ((Fr.refl _).alloc _), HC.out.fr k, k.ex⟩)
  go_loopw [15] (fun n wr => ∃ j : Nat, j ≤ 10 ∧ n = .int .i64 (j : Int) ∧ Hid (FiS w wr mb ib gb j)) (fun n _ => 10 - (intOf n).toNat)
  case atStart => exact ⟨0, by omega, rfl, HS0⟩
  case round =>
    obtain ⟨j, hj, rfl, HR⟩ := hrel
    match j, hj with
    | 0, _ =>
      obtain ⟨f, hF, h3, _⟩ := HR.out.f
      have a1 : wr.cell? ⟨mb, 2, none⟩ = some (f 2) := hF.cell (by omega)
      have a2 := hF.free 2
      have HR2 : Hid (FiS w (wr.setCell ⟨mb, 2, none⟩ (.int .i64 32502)) mb ib gb 1) := Lib.hid ⟨⟨_, hF.set (by omega) _, fun h => absurd h (by omega), fun h => absurd h (by omega)⟩, HR.out.c.far (fun e => by have := HN.out.2.2; have e : w.heap.size = mb := e; omega) _,
        ⟨HR.out.c8.o.far HN.out.1 _, HR.out.c8.g.far HN.out.2.1 _⟩, HR.out.x.set rfl _⟩
      clear hF h3
      go_wp2_with fail
      go_roundw
      case rel => exact ⟨1, by omega, rfl, HR2⟩
      case measure => simp [intOf]
    | 1, _ =>
      obtain ⟨f, hF, h3, _⟩ := HR.out.f
      have a1 : wr.cell? ⟨mb, 3, none⟩ = some (f 3) := hF.cell (by omega)
      have a2 := hF.free 3
      have HR2 : Hid (FiS w (wr.setCell ⟨mb, 3, none⟩ (.int .i64 32503)) mb ib gb 2) := Lib.hid ⟨⟨_, hF.set (by omega) _, fun h => by simp [upd], fun h => absurd h (by omega)⟩, HR.out.c.far (fun e => by have := HN.out.2.2; have e : w.heap.size = mb := e; omega) _,
        ⟨HR.out.c8.o.far HN.out.1 _, HR.out.c8.g.far HN.out.2.1 _⟩, HR.out.x.set rfl _⟩
      clear hF h3
      go_wp2_with fail
      go_roundw
      case rel => exact ⟨2, by omega, rfl, HR2⟩
      case measure => simp [intOf]
    | 2, _ =>
      obtain ⟨f, hF, h3, _⟩ := HR.out.f
      have a1 : wr.cell? ⟨mb, 4, none⟩ = some (f 4) := hF.cell (by omega)
      have a2 := hF.free 4
      have HR2 : Hid (FiS w (wr.setCell ⟨mb, 4, none⟩ (.int .i64 32504)) mb ib gb 3) := Lib.hid ⟨⟨_, hF.set (by omega) _, fun h => by simp only [upd]; exact (if_neg (by omega)).trans (h3 (by omega)), fun h => absurd h (by omega)⟩, HR.out.c.far (fun e => by have := HN.out.2.2; have e : w.heap.size = mb := e; omega) _,
        ⟨HR.out.c8.o.far HN.out.1 _, HR.out.c8.g.far HN.out.2.1 _⟩, HR.out.x.set rfl _⟩
      clear hF h3
      go_wp2_with fail
      go_roundw
      case rel => exact ⟨3, by omega, rfl, HR2⟩
      case measure => simp [intOf]
    | 3, _ =>
      obtain ⟨f, hF, h3, _⟩ := HR.out.f
      have a1 : wr.cell? ⟨mb, 5, none⟩ = some (f 5) := hF.cell (by omega)
      have a2 := hF.free 5
      have HR2 : Hid (FiS w (wr.setCell ⟨mb, 5, none⟩ (.int .i64 32505)) mb ib gb 4) := Lib.hid ⟨⟨_, hF.set (by omega) _, fun h => by simp only [upd]; exact (if_neg (by omega)).trans (h3 (by omega)), fun h => absurd h (by omega)⟩, HR.out.c.far (fun e => by have := HN.out.2.2; have e : w.heap.size = mb := e; omega) _,
        ⟨HR.out.c8.o.far HN.out.1 _, HR.out.c8.g.far HN.out.2.1 _⟩, HR.out.x.set rfl _⟩
      clear hF h3
      go_wp2_with fail
      go_roundw
      case rel => exact ⟨4, by omega, rfl, HR2⟩
      case measure => simp [intOf]
    | 4, _ =>
      obtain ⟨f, hF, h3, _⟩ := HR.out.f
      have a1 : wr.cell? ⟨mb, 6, none⟩ = some (f 6) := hF.cell (by omega)
      have a2 := hF.free 6
      have HR2 : Hid (FiS w (wr.setCell ⟨mb, 6, none⟩ (.int .i64 32506)) mb ib gb 5) := Lib.hid ⟨⟨_, hF.set (by omega) _, fun h => by simp only [upd]; exact (if_neg (by omega)).trans (h3 (by omega)), fun h => absurd h (by omega)⟩, HR.out.c.far (fun e => by have := HN.out.2.2; have e : w.heap.size = mb := e; omega) _,
        ⟨HR.out.c8.o.far HN.out.1 _, HR.out.c8.g.far HN.out.2.1 _⟩, HR.out.x.set rfl _⟩
      clear hF h3
      go_wp2_with fail
      go_roundw
      case rel => exact ⟨5, by omega, rfl, HR2⟩
      case measure => simp [intOf]
    | 5, _ =>
      obtain ⟨f, hF, h3, _⟩ := HR.out.f
      have a1 : wr.cell? ⟨mb, 7, none⟩ = some (f 7) := hF.cell (by omega)
      have a2 := hF.free 7
      have HR2 : Hid (FiS w (wr.setCell ⟨mb, 7, none⟩ (.int .i64 32507)) mb ib gb 6) := Lib.hid ⟨⟨_, hF.set (by omega) _, fun h => by simp only [upd]; exact (if_neg (by omega)).trans (h3 (by omega)), fun h => absurd h (by omega)⟩, HR.out.c.far (fun e => by have := HN.out.2.2; have e : w.heap.size = mb := e; omega) _,
        ⟨HR.out.c8.o.far HN.out.1 _, HR.out.c8.g.far HN.out.2.1 _⟩, HR.out.x.set rfl _⟩
      clear hF h3
      go_wp2_with fail
      go_roundw
      case rel => exact ⟨6, by omega, rfl, HR2⟩
      case measure => simp [intOf]
    | 6, _ =>
      obtain ⟨f, hF, h3, _⟩ := HR.out.f
      have a1 : wr.cell? ⟨mb, 8, none⟩ = some (f 8) := hF.cell (by omega)
      have a2 := hF.free 8
      have HR2 : Hid (FiS w (wr.setCell ⟨mb, 8, none⟩ (.int .i64 32508)) mb ib gb 7) := Lib.hid ⟨⟨_, hF.set (by omega) _, fun h => by simp only [upd]; exact (if_neg (by omega)).trans (h3 (by omega)), fun h => absurd h (by omega)⟩, HR.out.c.far (fun e => by have := HN.out.2.2; have e : w.heap.size = mb := e; omega) _,
        ⟨HR.out.c8.o.far HN.out.1 _, HR.out.c8.g.far HN.out.2.1 _⟩, HR.out.x.set rfl _⟩
      clear hF h3
      go_wp2_with fail
      go_roundw
      case rel => exact ⟨7, by omega, rfl, HR2⟩
      case measure => simp [intOf]
    | 7, _ =>
      obtain ⟨f, hF, h3, _⟩ := HR.out.f
      have a1 : wr.cell? ⟨mb, 9, none⟩ = some (f 9) := hF.cell (by omega)
      have a2 := hF.free 9
      have HR2 : Hid (FiS w (wr.setCell ⟨mb, 9, none⟩ (.int .i64 32509)) mb ib gb 8) := Lib.hid ⟨⟨_, hF.set (by omega) _, fun h => by simp only [upd]; exact (if_neg (by omega)).trans (h3 (by omega)), fun h => absurd h (by omega)⟩, HR.out.c.far (fun e => by have := HN.out.2.2; have e : w.heap.size = mb := e; omega) _,
        ⟨HR.out.c8.o.far HN.out.1 _, HR.out.c8.g.far HN.out.2.1 _⟩, HR.out.x.set rfl _⟩
      clear hF h3
      go_wp2_with fail
      go_roundw
      case rel => exact ⟨8, by omega, rfl, HR2⟩
      case measure => simp [intOf]
    | 8, _ =>
      obtain ⟨f, hF, h3, _⟩ := HR.out.f
      have a1 : wr.cell? ⟨mb, 10, none⟩ = some (f 10) := hF.cell (by omega)
      have a2 := hF.free 10
      have HR2 : Hid (FiS w (wr.setCell ⟨mb, 10, none⟩ (.int .i64 32510)) mb ib gb 9) := Lib.hid ⟨⟨_, hF.set (by omega) _, fun h => by simp only [upd]; exact (if_neg (by omega)).trans (h3 (by omega)), fun h => absurd h (by omega)⟩, HR.out.c.far (fun e => by have := HN.out.2.2; have e : w.heap.size = mb := e; omega) _,
        ⟨HR.out.c8.o.far HN.out.1 _, HR.out.c8.g.far HN.out.2.1 _⟩, HR.out.x.set rfl _⟩
      clear hF h3
      go_wp2_with fail
      go_roundw
      case rel => exact ⟨9, by omega, rfl, HR2⟩
      case measure => simp [intOf]
    | 9, _ =>
      obtain ⟨f, hF, h3, _⟩ := HR.out.f
      have a1 : wr.cell? ⟨mb, 11, none⟩ = some (f 11) := hF.cell (by omega)
      have a2 := hF.free 11
      have HR2 : Hid (FiS w (wr.setCell ⟨mb, 11, none⟩ (.int .i64 32511)) mb ib gb 10) := Lib.hid ⟨⟨_, hF.set (by omega) _, fun h => by simp only [upd]; exact (if_neg (by omega)).trans (h3 (by omega)), fun h => absurd h (by omega)⟩, HR.out.c.far (fun e => by have := HN.out.2.2; have e : w.heap.size = mb := e; omega) _,
        ⟨HR.out.c8.o.far HN.out.1 _, HR.out.c8.g.far HN.out.2.1 _⟩, HR.out.x.set rfl _⟩
      clear hF h3
      go_wp2_with fail
      go_roundw
      case rel => exact ⟨10, by omega, rfl, HR2⟩
      case measure => simp [intOf]
    | 10, _ =>
      have y3 : wr.cell? ⟨w.heap.size, 3, none⟩ = some (.slice (some ⟨gb, 0, none⟩) 1 1) := HR.out.c.cell rfl
      have g0 : wr.cell? ⟨gb, 0, none⟩ = some (.int .i64 1) := HR.out.c8.g.cell rfl
      have g1 : wr.cell? ⟨gb, 1, none⟩ = some (.int .i64 1) := HR.out.c8.g.cell rfl
      have HA : Hid (FiS w (wr.alloc (.cells #[.int .i64 1, .int .i64 1] 100)) mb ib gb 10) := Lib.hid (HR.out.fr ((Fr.refl _).alloc _))
      obtain ⟨f, hF, h3, _⟩ := HA.out.f
      have b1 : (wr.alloc (.cells #[.int .i64 1, .int .i64 1] 100)).cell? ⟨mb, 1, none⟩ = some (f 1) := hF.cell (by omega)
      have b2 : (wr.alloc (.cells #[.int .i64 1, .int .i64 1] 100)).frozen? ⟨mb, 1, none⟩ = false := hF.free 1
      have HZ : Hid (FiS w (((wr.alloc (.cells #[.int .i64 1, .int .i64 1] 100)).setCell ⟨mb, 1, none⟩ (.int .i64 32001)).drew) mb ib gb 11) := Lib.hid (FiS.fr (⟨⟨_, hF.set (by omega) _, fun h => by simp only [upd]; exact (if_neg (by omega)).trans (h3 (by omega)), fun h => by simp [upd]⟩, HA.out.c.far (fun e => by have := HN.out.2.2; have e : w.heap.size = mb := e; omega) _,
        ⟨HA.out.c8.o.far HN.out.1 _, HA.out.c8.g.far HN.out.2.1 _⟩, HA.out.x.set rfl _⟩ : FiS w ((wr.alloc (.cells #[.int .i64 1, .int .i64 1] 100)).setCell ⟨mb, 1, none⟩ (.int .i64 32001)) mb ib gb 11) (Fr.refl _).drew)
      have y1 : (((wr.alloc (.cells #[.int .i64 1, .int .i64 1] 100)).setCell ⟨mb, 1, none⟩ (.int .i64 32001)).drew).cell? ⟨w.heap.size, 1, none⟩ = some (.slice none 0 0) := HZ.out.c.cell rfl
      clear hF h3
      go_wp2_with fail
      refine wp_loop_rounds 2 ?_
      rw [rounds_succ]
      go_wp2_with fail
      go_region
      go_wp2_with fail
      rw [rounds_succ]
      go_wp2_with fail
      refine wp_loop_rounds 1 ?_
      rw [rounds_succ]
      go_wp2_with fail
      go_end0
      exact ⟨rfl, HZ.out⟩
    | (k + 11), hj => exact absurd hj (by omega)
end Go.Proofs.YtdnckbcknahakaaGreat
