/- The contract of the function that changes a byte. -/
import Derived.Test.YtflkcelgbnojaaaI
import Derived.Test.YtflkcelgbnojaaaPB
import Derived.Laws.CopyOwn
import Derived.RegionTactic
namespace Go.Proofs.Ytflkcelgbnojaaa
open Go.RowKit
set_option linter.unusedVariables false

theorem heap_new2 (w : World) (o : Obj) : (w.alloc o).heap[w.heap.size]? = some o := by simp only [World.alloc, Array.getElem?_push_size]
theorem add_at2 (b off j : Nat) : (⟨b, off, none⟩ : Addr).add j = ⟨b, off + j, none⟩ := by unfold Addr.add; split <;> simp_all
theorem stop_copy2 {P : Program} {ops : Array Oper} {rest : List Oper} {x y dst ty pos aft g} {a : Act} {w : World} {Q : Exit → Act → World → Prop}
    (h : Stop (wpList P ops Q (⟨dst, .call { callee := .builtin .copy, args := x, argTypes := y }, ty, pos, aft, g⟩ :: rest) a w)) : wpList P ops Q (⟨dst, .call { callee := .builtin .copy, args := x, argTypes := y }, ty, pos, aft, g⟩ :: rest) a w := h
theorem copied (w1 : World) (T : TypeId) (L : Nat) (z : Value) (f : Nat → Value) :
    ((w1.alloc (.cells (madeCells #[z] L) T)).setRow w1.heap.size ((madeCells #[z] L).toList.take 0 ++ ((List.range L).map f ++ (madeCells #[z] L).toList.drop (0 + ((List.range L).map f).length))).toArray).rowIs w1.heap.size T L f ∧
    Fr w1 ((w1.alloc (.cells (madeCells #[z] L) T)).setRow w1.heap.size ((madeCells #[z] L).toList.take 0 ++ ((List.range L).map f ++ (madeCells #[z] L).toList.drop (0 + ((List.range L).map f).length))).toArray) := by
  refine ⟨⟨_, setRow_heap _ _ _ _ _ _ (heap_new2 ..), ?_, fun i hi => ?_⟩, below_setRow ((Fr.refl w1).alloc _) (Nat.le_refl _) _⟩
  · simp [madeCells]
  · simp [madeCells, hi]
theorem PutByte_no (a : Option Addr) (L cap : Nat) (i v n : Int) (big : Bool) (hi : -9223372036854775808 ≤ i) (hi2 : i ≤ 9223372036854775807) (h : cbE L i n ≠ 0) (w : World) :
    Calls Try.prog 28 #[.slice a L cap, .int .i64 i, .int .i64 v, .agg #[.int .i64 n, .bool big]] w fun e w' => e = .returned (.tuple #[.slice none 0 0, .int .i64 (cbE L i n)]) ∧ Fr w w' := by
  have h1 : (cbE L i n != 0) = true := by simpa using h
  clear h
  go_enter Try.func28, Try.ntmps28
  go_wp2_with fail
  refine (checkByte_any _ _ _ _ _ _ hi hi2 _).mono ?_; rintro e w1 ⟨rfl, hf⟩
  go_wp2_with fail
  go_ret2
  exact ⟨rfl, ((Fr.refl w).alloc _).trans hf⟩

theorem Bx.both {w : World} {b : Nat} {n : Int} {big : Bool} (h : w.cell? ⟨b, 0, none⟩ = some (.int .i64 n)) (k : w.cell? ⟨b, 1, none⟩ = some (.bool big)) : Bx w b n big := ⟨h, k⟩
theorem keep2 {w1 W W' : World} {g : Nat} {y z : Value} (k : Fr W W') (h : W.cell? ⟨g, 0, none⟩ = some y ∧ W.cell? ⟨g, 1, none⟩ = some z ∧ Fr w1 W) :
    W'.cell? ⟨g, 0, none⟩ = some y ∧ W'.cell? ⟨g, 1, none⟩ = some z ∧ Fr w1 W' := ⟨k.cell h.1, k.cell h.2.1, h.2.2.trans k⟩

set_option maxHeartbeats 2000000 in
theorem PutByte_at {n : Int} (hn : OkB n) (s : Nat) (hs : (s : Int) = szI n) (big : Bool) (b off L cap i : Nat) (v : Int) (f : Nat → Int) (w : World) (hq : i / s < L) (hL : L ≤ 1000000) (hr : Row w b off L (fun i => .int .i64 (f i))) :
    Calls Try.prog 28 #[.slice (some ⟨b, off, none⟩) L cap, .int .i64 i, .int .i64 v, .agg #[.int .i64 n, .bool big]] w fun e w' =>
      ∃ g : Nat, e = .returned (.tuple #[.slice (some ⟨g, 0, none⟩) L L, .int .i64 0]) ∧ w.heap.size ≤ g ∧ w'.rowIs g 3 L (fun j => .int .i64 (nrm (if j = i / s then pb (f j) (v % 256) (blw i n big).toNat else f j) n)) ∧ Fr w w' := by
  have H := Lib.hid hn
  obtain ⟨s1, s2⟩ := szI_bd hn
  have h : okB n = true := by simpa [okB] using hn
  have hs1 : 2 ≤ s := by omega
  have hs2 : s ≤ 4 := by omega
  have hi : i ≤ 4000000 := by
    have := Nat.div_add_mod i s
    have hm : i % s < s := Nat.mod_lt _ (by omega)
    have : s * (i / s) ≤ 4 * (i / s) := Nat.mul_le_mul_right _ hs2
    omega
  obtain ⟨q, hqq⟩ : ∃ q, q = i / s := ⟨_, rfl⟩
  rw [← hqq] at hq ⊢
  have hq2 : (i : Int) / szI n = (q : Int) := by rw [hqq, ← hs, Int.natCast_ediv]
  have he : cbE L i n = 0 := by unfold cbE; rw [if_pos h, if_neg (by rw [hq2]; omega)]
  have hw1 : IntKind.i64.wrap ((i : Int).tdiv (szI n)) = (q : Int) := by
    rw [Int.tdiv_eq_ediv_of_nonneg (by omega), hq2]; exact IntWalk.i64_in _ (by omega)
  have hw3 : IntKind.i64.wrap (q : Int) = (q : Int) := IntWalk.i64_in _ (by omega)
  have hs0 : ¬ szI n = 0 := by omega
  have hq0 : (0 : Int) ≤ q := by omega
  obtain ⟨z1, z2⟩ := blw_bd hn i (by omega) big
  have HE := Lib.hid he
  have HR := Lib.hid hr
  have hmk : ∀ W : World, (Instr.makeSlice 37 (.int .i64 (L : Int)) (.int .i64 (L : Int))).run Try.prog W = .ok (.slice (some ⟨W.heap.size, 0, none⟩) L L) (W.alloc (.cells (madeCells #[.int .i64 0] L) 3)) :=
    fun W => run_make_row' _ _ _ 8 Try.underlying37 (by kernel_rfl) rfl _ _ L (by omega) (by omega) W
  clear hr he hn hqq hs h
  go_enter Try.func28, Try.ntmps28
  go_wp2_with fail
  refine (checkByte_any _ _ _ _ _ _ (by omega) (by omega) _).mono ?_; rintro e w1 ⟨rfl, hf⟩
  rw [HE.out]
  have HB := Lib.hid (Bx.fr (b := w.heap.size) (Bx.new _ _ _ _) hf)
  have hf1 : Fr w w1 := ((Fr.refl w).alloc _).trans hf
  have HCP := Lib.hid (copied w1 3 L (.int .i64 0) (fun j => .int .i64 (f j)))
  clear hf
  go_wp2_with (with_reducible refine stop_copy2 ?_)
  unfold Stop
  refine wpList_copy_own rfl (.tmp 24) (.tmp 25) 37 37 rfl 3 Try.underlying37 (by kernel_rfl) w1.heap.size 0 L L ⟨b, off, none⟩ L cap rfl rfl (madeCells #[.int .i64 0] L) 3 (heap_new2 ..) ((List.range L).map fun j => .int .i64 (f j)) (by simp) ?_ (by simp [madeCells]) (by simp [Value.oneCell']) ?_
  · intro j u hu
    have hj : j < L := by
      have := (List.getElem?_eq_some_iff.1 hu).1
      simpa using this
    have hu2 : u = .int .i64 (f j) := by simpa [hj] using hu.symm
    rw [hu2]
    have hc := ((HR.out.fr hf1).fr ((Fr.refl w1).alloc (.cells (madeCells #[.int .i64 0] L) 3))) j hj
    rw [add_at2]; exact hc
  obtain ⟨W4, hW4⟩ : ∃ W4, W4 = ((w1.alloc (.cells (madeCells #[Value.int .i64 0] L) 3)).setRow w1.heap.size ((madeCells #[Value.int .i64 0] L).toList.take 0 ++ ((List.range L).map (fun j => Value.int .i64 (f j)) ++ (madeCells #[Value.int .i64 0] L).toList.drop (0 + ((List.range L).map (fun j => Value.int .i64 (f j))).length))).toArray) := ⟨_, rfl⟩
  rw [← hW4]
  rw [← hW4] at HCP
  clear hW4
  obtain ⟨d0, d1⟩ := HB.out.fr HCP.out.2
  have hS : W4.drew.cell? ⟨w.heap.size, 0, none⟩ = some (.int .i64 n) ∧ W4.drew.cell? ⟨w.heap.size, 1, none⟩ = some (.bool big) ∧ Fr W4 W4.drew := ⟨d0, d1, (Fr.refl W4).drew⟩
  clear d0 d1
  go_wp2
  go_region_held3 (fun W => W.cell? ⟨w.heap.size, 0, none⟩ = some (.int .i64 n) ∧ W.cell? ⟨w.heap.size, 1, none⟩ = some (.bool big) ∧ Fr W4 W) (first | exact hS | exact keep2 (by assumption) (by assumption))
    ((first | (go_at_call 62; refine (size_any H.out _ _).mono ?_; rintro e wx ⟨rfl, hfx⟩) | (go_at_call 61; refine (below_any H.out _ _ (by omega) (by omega) _).mono ?_; rintro e wx ⟨rfl, hfx⟩)))
  have hS2 := keep2 (w1 := W4) (g := w.heap.size) (y := .int .i64 n) (z := .bool big) (Fr.refl _) (by assumption)
  clear hS
  obtain ⟨d0, d1, hf5⟩ := hS2
  have hrow5 := hf5.row HCP.out.1
  have hcq := hrow5.cell hq
  have hfq := hrow5.frozen q
  have HROW := Lib.hid hrow5
  have HB5 := Lib.hid (Bx.both d0 d1)
  obtain ⟨p1, p2⟩ := pow_bd (blw i n big) z1 (by omega)
  have hv1 : 0 ≤ v % 256 ∧ v % 256 < 256 := ⟨Int.emod_nonneg _ (by decide), Int.emod_lt_of_pos _ (by decide)⟩
  have hm : 0 ≤ v % 256 * 2 ^ (blw i n big).toNat ∧ v % 256 * 2 ^ (blw i n big).toNat ≤ 547608330240 := by
    refine ⟨Int.mul_nonneg hv1.1 (by omega), ?_⟩
    have h3 : v % 256 * 2 ^ (blw i n big).toNat ≤ 255 * 2 ^ (blw i n big).toNat := Int.mul_le_mul_of_nonneg_right (by omega) (by omega)
    omega
  have k1 : IntKind.i64.wrap (255 * 2 ^ (blw i n big).toNat) = 255 * 2 ^ (blw i n big).toNat := IntWalk.i64_in _ (by omega)
  have k2 : IntKind.u8.wrap v = v % 256 := IntKind.wrap_u8 v
  have k3 : IntKind.i64.wrap (v % 256) = v % 256 := IntWalk.i64_in _ (by omega)
  have k4 : IntKind.i64.wrap (v % 256 * 2 ^ (blw i n big).toNat) = v % 256 * 2 ^ (blw i n big).toNat := IntWalk.i64_in _ (by omega)
  have hr6 : (wx.setCell ⟨w1.heap.size, q, none⟩ (.int .i64 (bits .or .i64 (bits .andNot .i64 (f q) (255 * 2 ^ (blw i n big).toNat)) (v % 256 * 2 ^ (blw i n big).toNat)))).drew.rowIs w1.heap.size 3 L (fun j => .int .i64 (if j = q then pb (f j) (v % 256) (blw i n big).toNat else f j)) :=
    (hrow5.set q _).congr (fun j hj => by
      by_cases hjq : j = q
      · subst hjq; rw [if_pos rfl, if_pos rfl]; rfl
      · rw [if_neg hjq, if_neg hjq])
  have hf6 : Fr w1 (wx.setCell ⟨w1.heap.size, q, none⟩ (.int .i64 (bits .or .i64 (bits .andNot .i64 (f q) (255 * 2 ^ (blw i n big).toNat)) (v % 256 * 2 ^ (blw i n big).toNat)))).drew :=
    ((HCP.out.2.trans hf5).setCell (Nat.le_refl _) _).drew
  have HR6 := Lib.hid hr6
  obtain ⟨e0, e1⟩ := HB.out.fr hf6
  clear hrow5 hv1 hm d0 d1 p1 p2 hr6
  go_wp2
  go_region_with (fail)
  go_wp2_with fail
  refine (normAll_any H.out _ _ _ _ _ (by omega) HR6.out).mono ?_
  rintro e w7 ⟨rfl, hr7, hg7⟩
  have HR7 := Lib.hid hr7
  clear hr7
  go_wp2_with fail
  go_ret2
  exact ⟨w1.heap.size, rfl, hf1.size, HR7.out, hf1.trans (Fr.new (Nat.le_refl _) ((hf6.gr _).trans hg7))⟩
end Go.Proofs.Ytflkcelgbnojaaa
