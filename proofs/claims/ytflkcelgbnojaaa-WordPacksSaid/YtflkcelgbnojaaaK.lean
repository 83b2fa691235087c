/- The contract of the function that packs a string. -/
import Derived.Test.YtflkcelgbnojaaaO
namespace Go.Proofs.Ytflkcelgbnojaaa
open Go.RowKit
set_option linter.unusedVariables false

/-- Byte i of a packed string. -/
def pβ (s : ByteArray) (i : Nat) : Nat := if i = 0 then s.size else if i ≤ s.size then (s.data.toList.getD (i - 1) 0).toNat else 0
theorem pβ_lt (s : ByteArray) (hs : s.size ≤ 255) (i : Nat) : pβ s i < 256 := by
  unfold pβ; split
  · omega
  · split
    · exact UInt8.toNat_lt _
    · decide

theorem wpList_copy_string {P : Program} {w : World} {ops : Array Oper} {rest : List Oper} {o : Oper} {a : Act} {Q : Exit → Act → World → Prop} (hgd : o.guard = none) (d s : Operand) (dT sT : TypeId)
    (ho : o.op = .call { callee := .builtin .copy, args := #[d, s], argTypes := #[dT, sT] }) (elem : TypeId) (hu : P.underlying dT = some (.slice elem)) (hz : ∀ w, (Go.sizeOf elem).run P w = .ok 1 w)
    (b off dLen dCap : Nat) (hd : a.eval d = .slice (some ⟨b, off, none⟩) dLen dCap) (t : ByteArray) (hs : a.eval s = .string t) (hle : t.size ≤ dLen)
    (hc : ∀ j, j < t.size → (w.cell? ⟨b, off + j, none⟩).isSome = true) (hf : ∀ j, j < t.size → w.frozen? ⟨b, off + j, none⟩ = false)
    (h : wpList P ops Q rest (a.put o.dst (goInt t.size)) (w.setCells b off (t.data.toList.map fun x => Value.int .u8 (x.toNat : Int)))) : wpList P ops Q (o :: rest) a w := by
  refine wpList_plain hgd fun K hK => ?_
  have hrun := run_copy_string (P := P) w dT sT o.type elem b off dLen dCap t hu hz hle hc hf
  unfold Oper.wp
  simp [execOp, ho, resolve, invoke, builtin, hd, hs, hrun, Result.andThen]
  exact hK _ _ h

theorem stop_copy {P : Program} {ops : Array Oper} {rest : List Oper} {x y dst ty pos aft g} {a : Act} {w : World} {Q : Exit → Act → World → Prop}
    (h : Stop (wpList P ops Q (⟨dst, .call { callee := .builtin .copy, args := x, argTypes := y }, ty, pos, aft, g⟩ :: rest) a w)) : wpList P ops Q (⟨dst, .call { callee := .builtin .copy, args := x, argTypes := y }, ty, pos, aft, g⟩ :: rest) a w := h

theorem pack_world (w2 : World) (s : ByteArray) (M : Nat) (T : TypeId) (hM : s.size + 1 ≤ M) :
    ((w2.alloc (.cells ((madeCells #[Value.int .u8 0] M).setIfInBounds 0 (.int .u8 s.size)) T)).setCells w2.heap.size 1 (s.data.toList.map fun x => Value.int .u8 (x.toNat : Int))).rowIs w2.heap.size T M (fun i => .int .u8 (pβ s i)) ∧
    Fr w2 ((w2.alloc (.cells ((madeCells #[Value.int .u8 0] M).setIfInBounds 0 (.int .u8 s.size)) T)).setCells w2.heap.size 1 (s.data.toList.map fun x => Value.int .u8 (x.toNat : Int))) := by
  have hsz : ((madeCells #[Value.int .u8 0] M).setIfInBounds 0 (.int .u8 s.size)).size = M := by simp [madeCells]
  have h0 := World.rowIs_alloc w2 ((madeCells #[Value.int .u8 0] M).setIfInBounds 0 (.int .u8 s.size)) T (fun i => if i = 0 then .int .u8 s.size else .int .u8 0) (fun i hi => by
    rw [hsz] at hi
    rw [Array.getElem?_setIfInBounds]
    by_cases h : i = 0
    · subst h; simp [madeCells, hi]
    · rw [if_neg (fun e => h e.symm), if_neg h]; simp [madeCells, hi, Nat.mod_one])
  rw [hsz] at h0
  have hl : s.data.toList.length = s.size := by simp
  refine ⟨(rowIs_setCells _ 1 _ _ h0).congr (fun i hi => ?_), below_setCells (Nat.le_refl _) _ _ _ ((Fr.refl w2).alloc _)⟩
  unfold pβ
  simp only [List.length_map, hl]
  by_cases h : i = 0
  · subst h; simp
  · by_cases h2 : i ≤ s.size
    · rw [if_pos (by omega), if_neg h, if_pos h2, List.getElem?_map, List.getD_eq_getElem?_getD, List.getElem?_eq_getElem (by omega)]
      rfl
    · rw [if_neg (by omega), if_neg h, if_neg h, if_neg h2]; rfl

set_option maxHeartbeats 1000000 in
theorem Pack_16 (big : Bool) (s : ByteArray) (hs : s.size ≤ 255) (w : World) :
    Calls Try.prog 31 #[.string s, .agg #[.int .i64 16, .bool big]] w fun e w' =>
      ∃ g m : Nat, (m : Int) = (1 + s.size + 2 - 1) / 2 ∧ e = .returned (.tuple #[.slice (some ⟨g, 0, none⟩) m m, .int .i64 0]) ∧ w.heap.size ≤ g ∧ w'.rowIs g 3 m (fun j => .int .i64 (nrm (wv (pβ s) 16 big (m * 2) j) 16)) ∧ Fr w w' := by
  have hok : okB 16 = true := rfl
  obtain ⟨m, hm⟩ := Int.eq_ofNat_of_zero_le (show 0 ≤ (1 + (s.size : Int) + 2 - 1) / 2 by omega)
  have hm1 : 1 ≤ m := by omega
  have hm2 : s.size + 1 ≤ m * 2 := by omega
  have hm3 : m ≤ 200 := by omega
  have hmk : ∀ W : World, (Instr.makeSlice 46 (.int .i64 ((1 + (s.size : Int) + 2 - 1) / 2 * 2)) (.int .i64 ((1 + (s.size : Int) + 2 - 1) / 2 * 2))).run Try.prog W = .ok (.slice (some ⟨W.heap.size, 0, none⟩) (m * 2) (m * 2)) (W.alloc (.cells (madeCells #[.int .u8 0] (m * 2)) 5)) := by
    rw [hm, show (m : Int) * 2 = ((m * 2 : Nat) : Int) from by omega]; exact fun W => run_make_row' _ _ _ 1 Try.underlying46 (by kernel_rfl) rfl _ _ (m * 2) (by omega) (by omega) W
  have HM := Lib.hid hm
  clear hm
  go_enter Try.func31, Try.ntmps31
  go_wp2_with fail
  refine (Valid_any _ _ _).mono ?_; rintro e w1 ⟨rfl, hf⟩
  obtain ⟨c0, c1⟩ := Bx.fr (b := w.heap.size) (Bx.new _ _ _ _) hf
  rw [hok]
  go_wp2_with fail
  refine (size_any (.inl rfl) _ _).mono ?_; rintro e w2 ⟨rfl, hf2⟩
  rw [show szI 16 = 2 from rfl]
  have HBX := Lib.hid (Bx.fr (b := w.heap.size) ⟨c0, c1⟩ hf2)
  have hrow := World.rowIs_made w2 (.int .u8 0) (m * 2) 5
  have hcell := hrow.cell (i := 0) (by omega)
  have hfz := hrow.frozen 0
  have HPW := Lib.hid (pack_world w2 s (m * 2) 5 hm2)
  clear hrow
  go_wp2_with (with_reducible refine stop_copy ?_)
  unfold Stop
  have hr0 : (w2.alloc (.cells ((madeCells #[Value.int .u8 0] (m * 2)).setIfInBounds 0 (.int .u8 s.size)) 5)).rowIs w2.heap.size 5 (m * 2) (fun i => if i = 0 then .int .u8 s.size else .int .u8 0) := by
    have h := ((World.rowIs_made w2 (.int .u8 0) (m * 2) 5).set 0 (.int .u8 s.size))
    rwa [World.setCell_alloc_at _ _ _ _ _ rfl] at h
  refine wpList_copy_string rfl (.tmp 35) (.tmp 36) 46 9 rfl 5 Try.underlying46 (fun _ => by kernel_rfl) w2.heap.size 1 (m * 2 - 1) (m * 2 - 1) rfl s rfl (by omega) (fun j hj => ?_) (fun j hj => hr0.frozen _) ?_
  · rw [hr0.cell (i := 1 + j) (by omega)]; rfl
  clear hr0 hcell hfz
  obtain ⟨W4, hW4⟩ : ∃ W4, W4 = ((w2.alloc (.cells ((madeCells #[Value.int .u8 0] (m * 2)).setIfInBounds 0 (.int .u8 s.size)) 5)).setCells w2.heap.size 1 (s.data.toList.map fun x => Value.int .u8 (x.toNat : Int))) := ⟨_, rfl⟩
  rw [← hW4]
  rw [← hW4] at HPW
  obtain ⟨d0, d1⟩ := HBX.out.fr HPW.out.2
  clear hW4
  go_wp2_with fail
  refine (wordsOf_any (.inl rfl) _ _ 0 (m * 2) _ (pβ s) _ (by omega) ?_ (fun i _ => pβ_lt s hs i) ?_).mono ?_
  · show ((m * 2 : Nat) : Int) % 2 = 0; omega
  · intro i hi; rw [Nat.zero_add]; exact HPW.out.1.cell hi
  · rintro e w5 ⟨g, m', hm', rfl, hg, hrow5, hf5⟩
    have hmm : m' = m := by
      have h : (m' : Int) = ((m * 2 : Nat) : Int) / 2 := hm'
      omega
    subst hmm
    have HR5 := Lib.hid hrow5
    have hfr5 := (((((Fr.refl w).alloc _).trans hf).trans hf2).trans HPW.out.2).trans hf5
    clear hrow5 hm'
    go_wp2_with fail
    go_ret2
    exact ⟨g, m', HM.out.symm, rfl, Nat.le_trans (((((Fr.refl w).alloc _).trans hf).trans hf2).trans HPW.out.2).size hg, HR5.out, hfr5⟩
set_option maxHeartbeats 1000000 in
theorem Pack_24 (big : Bool) (s : ByteArray) (hs : s.size ≤ 255) (w : World) :
    Calls Try.prog 31 #[.string s, .agg #[.int .i64 24, .bool big]] w fun e w' =>
      ∃ g m : Nat, (m : Int) = (1 + s.size + 3 - 1) / 3 ∧ e = .returned (.tuple #[.slice (some ⟨g, 0, none⟩) m m, .int .i64 0]) ∧ w.heap.size ≤ g ∧ w'.rowIs g 3 m (fun j => .int .i64 (nrm (wv (pβ s) 24 big (m * 3) j) 24)) ∧ Fr w w' := by
  have hok : okB 24 = true := rfl
  obtain ⟨m, hm⟩ := Int.eq_ofNat_of_zero_le (show 0 ≤ (1 + (s.size : Int) + 3 - 1) / 3 by omega)
  have hm1 : 1 ≤ m := by omega
  have hm2 : s.size + 1 ≤ m * 3 := by omega
  have hm3 : m ≤ 200 := by omega
  have hmk : ∀ W : World, (Instr.makeSlice 46 (.int .i64 ((1 + (s.size : Int) + 3 - 1) / 3 * 3)) (.int .i64 ((1 + (s.size : Int) + 3 - 1) / 3 * 3))).run Try.prog W = .ok (.slice (some ⟨W.heap.size, 0, none⟩) (m * 3) (m * 3)) (W.alloc (.cells (madeCells #[.int .u8 0] (m * 3)) 5)) := by
    rw [hm, show (m : Int) * 3 = ((m * 3 : Nat) : Int) from by omega]; exact fun W => run_make_row' _ _ _ 1 Try.underlying46 (by kernel_rfl) rfl _ _ (m * 3) (by omega) (by omega) W
  have HM := Lib.hid hm
  clear hm
  go_enter Try.func31, Try.ntmps31
  go_wp2_with fail
  refine (Valid_any _ _ _).mono ?_; rintro e w1 ⟨rfl, hf⟩
  obtain ⟨c0, c1⟩ := Bx.fr (b := w.heap.size) (Bx.new _ _ _ _) hf
  rw [hok]
  go_wp2_with fail
  refine (size_any (.inr (.inl rfl)) _ _).mono ?_; rintro e w2 ⟨rfl, hf2⟩
  rw [show szI 24 = 3 from rfl]
  have HBX := Lib.hid (Bx.fr (b := w.heap.size) ⟨c0, c1⟩ hf2)
  have hrow := World.rowIs_made w2 (.int .u8 0) (m * 3) 5
  have hcell := hrow.cell (i := 0) (by omega)
  have hfz := hrow.frozen 0
  have HPW := Lib.hid (pack_world w2 s (m * 3) 5 hm2)
  clear hrow
  go_wp2_with (with_reducible refine stop_copy ?_)
  unfold Stop
  have hr0 : (w2.alloc (.cells ((madeCells #[Value.int .u8 0] (m * 3)).setIfInBounds 0 (.int .u8 s.size)) 5)).rowIs w2.heap.size 5 (m * 3) (fun i => if i = 0 then .int .u8 s.size else .int .u8 0) := by
    have h := ((World.rowIs_made w2 (.int .u8 0) (m * 3) 5).set 0 (.int .u8 s.size))
    rwa [World.setCell_alloc_at _ _ _ _ _ rfl] at h
  refine wpList_copy_string rfl (.tmp 35) (.tmp 36) 46 9 rfl 5 Try.underlying46 (fun _ => by kernel_rfl) w2.heap.size 1 (m * 3 - 1) (m * 3 - 1) rfl s rfl (by omega) (fun j hj => ?_) (fun j hj => hr0.frozen _) ?_
  · rw [hr0.cell (i := 1 + j) (by omega)]; rfl
  clear hr0 hcell hfz
  obtain ⟨W4, hW4⟩ : ∃ W4, W4 = ((w2.alloc (.cells ((madeCells #[Value.int .u8 0] (m * 3)).setIfInBounds 0 (.int .u8 s.size)) 5)).setCells w2.heap.size 1 (s.data.toList.map fun x => Value.int .u8 (x.toNat : Int))) := ⟨_, rfl⟩
  rw [← hW4]
  rw [← hW4] at HPW
  obtain ⟨d0, d1⟩ := HBX.out.fr HPW.out.2
  clear hW4
  go_wp2_with fail
  refine (wordsOf_any (.inr (.inl rfl)) _ _ 0 (m * 3) _ (pβ s) _ (by omega) ?_ (fun i _ => pβ_lt s hs i) ?_).mono ?_
  · show ((m * 3 : Nat) : Int) % 3 = 0; omega
  · intro i hi; rw [Nat.zero_add]; exact HPW.out.1.cell hi
  · rintro e w5 ⟨g, m', hm', rfl, hg, hrow5, hf5⟩
    have hmm : m' = m := by
      have h : (m' : Int) = ((m * 3 : Nat) : Int) / 3 := hm'
      omega
    subst hmm
    have HR5 := Lib.hid hrow5
    have hfr5 := (((((Fr.refl w).alloc _).trans hf).trans hf2).trans HPW.out.2).trans hf5
    clear hrow5 hm'
    go_wp2_with fail
    go_ret2
    exact ⟨g, m', HM.out.symm, rfl, Nat.le_trans (((((Fr.refl w).alloc _).trans hf).trans hf2).trans HPW.out.2).size hg, HR5.out, hfr5⟩
set_option maxHeartbeats 1000000 in
theorem Pack_32 (big : Bool) (s : ByteArray) (hs : s.size ≤ 255) (w : World) :
    Calls Try.prog 31 #[.string s, .agg #[.int .i64 32, .bool big]] w fun e w' =>
      ∃ g m : Nat, (m : Int) = (1 + s.size + 4 - 1) / 4 ∧ e = .returned (.tuple #[.slice (some ⟨g, 0, none⟩) m m, .int .i64 0]) ∧ w.heap.size ≤ g ∧ w'.rowIs g 3 m (fun j => .int .i64 (nrm (wv (pβ s) 32 big (m * 4) j) 32)) ∧ Fr w w' := by
  have hok : okB 32 = true := rfl
  obtain ⟨m, hm⟩ := Int.eq_ofNat_of_zero_le (show 0 ≤ (1 + (s.size : Int) + 4 - 1) / 4 by omega)
  have hm1 : 1 ≤ m := by omega
  have hm2 : s.size + 1 ≤ m * 4 := by omega
  have hm3 : m ≤ 200 := by omega
  have hmk : ∀ W : World, (Instr.makeSlice 46 (.int .i64 ((1 + (s.size : Int) + 4 - 1) / 4 * 4)) (.int .i64 ((1 + (s.size : Int) + 4 - 1) / 4 * 4))).run Try.prog W = .ok (.slice (some ⟨W.heap.size, 0, none⟩) (m * 4) (m * 4)) (W.alloc (.cells (madeCells #[.int .u8 0] (m * 4)) 5)) := by
    rw [hm, show (m : Int) * 4 = ((m * 4 : Nat) : Int) from by omega]; exact fun W => run_make_row' _ _ _ 1 Try.underlying46 (by kernel_rfl) rfl _ _ (m * 4) (by omega) (by omega) W
  have HM := Lib.hid hm
  clear hm
  go_enter Try.func31, Try.ntmps31
  go_wp2_with fail
  refine (Valid_any _ _ _).mono ?_; rintro e w1 ⟨rfl, hf⟩
  obtain ⟨c0, c1⟩ := Bx.fr (b := w.heap.size) (Bx.new _ _ _ _) hf
  rw [hok]
  go_wp2_with fail
  refine (size_any (.inr (.inr rfl)) _ _).mono ?_; rintro e w2 ⟨rfl, hf2⟩
  rw [show szI 32 = 4 from rfl]
  have HBX := Lib.hid (Bx.fr (b := w.heap.size) ⟨c0, c1⟩ hf2)
  have hrow := World.rowIs_made w2 (.int .u8 0) (m * 4) 5
  have hcell := hrow.cell (i := 0) (by omega)
  have hfz := hrow.frozen 0
  have HPW := Lib.hid (pack_world w2 s (m * 4) 5 hm2)
  clear hrow
  go_wp2_with (with_reducible refine stop_copy ?_)
  unfold Stop
  have hr0 : (w2.alloc (.cells ((madeCells #[Value.int .u8 0] (m * 4)).setIfInBounds 0 (.int .u8 s.size)) 5)).rowIs w2.heap.size 5 (m * 4) (fun i => if i = 0 then .int .u8 s.size else .int .u8 0) := by
    have h := ((World.rowIs_made w2 (.int .u8 0) (m * 4) 5).set 0 (.int .u8 s.size))
    rwa [World.setCell_alloc_at _ _ _ _ _ rfl] at h
  refine wpList_copy_string rfl (.tmp 35) (.tmp 36) 46 9 rfl 5 Try.underlying46 (fun _ => by kernel_rfl) w2.heap.size 1 (m * 4 - 1) (m * 4 - 1) rfl s rfl (by omega) (fun j hj => ?_) (fun j hj => hr0.frozen _) ?_
  · rw [hr0.cell (i := 1 + j) (by omega)]; rfl
  clear hr0 hcell hfz
  obtain ⟨W4, hW4⟩ : ∃ W4, W4 = ((w2.alloc (.cells ((madeCells #[Value.int .u8 0] (m * 4)).setIfInBounds 0 (.int .u8 s.size)) 5)).setCells w2.heap.size 1 (s.data.toList.map fun x => Value.int .u8 (x.toNat : Int))) := ⟨_, rfl⟩
  rw [← hW4]
  rw [← hW4] at HPW
  obtain ⟨d0, d1⟩ := HBX.out.fr HPW.out.2
  clear hW4
  go_wp2_with fail
  refine (wordsOf_any (.inr (.inr rfl)) _ _ 0 (m * 4) _ (pβ s) _ (by omega) ?_ (fun i _ => pβ_lt s hs i) ?_).mono ?_
  · show ((m * 4 : Nat) : Int) % 4 = 0; omega
  · intro i hi; rw [Nat.zero_add]; exact HPW.out.1.cell hi
  · rintro e w5 ⟨g, m', hm', rfl, hg, hrow5, hf5⟩
    have hmm : m' = m := by
      have h : (m' : Int) = ((m * 4 : Nat) : Int) / 4 := hm'
      omega
    subst hmm
    have HR5 := Lib.hid hrow5
    have hfr5 := (((((Fr.refl w).alloc _).trans hf).trans hf2).trans HPW.out.2).trans hf5
    clear hrow5 hm'
    go_wp2_with fail
    go_ret2
    exact ⟨g, m', HM.out.symm, rfl, Nat.le_trans (((((Fr.refl w).alloc _).trans hf).trans hf2).trans HPW.out.2).size hg, HR5.out, hfr5⟩
end Go.Proofs.Ytflkcelgbnojaaa
