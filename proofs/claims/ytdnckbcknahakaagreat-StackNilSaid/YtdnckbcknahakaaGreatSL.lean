/- The small code's machine: its instructions. -/
import Derived.Test.YtdnckbcknahakaaGreatSK
namespace Go.Proofs.YtdnckbcknahakaaGreat
open Go.RowKit
set_option linter.unusedVariables false
set_option linter.unusedSimpArgs false

set_option maxRecDepth 100000 in
set_option maxHeartbeats 4000000 in
theorem goOn_enter (L : Lay) (F D pl : Int) (oa ob : Value) (st : Int) (en : Bool) (f fc fb : Nat → Value) (w : World) (k : LayOk L) (h : Dyn w L (mkS L F D pl oa ob st en) f fc fb) :
    Calls Tryz.prog 103 #[.pointer (some ⟨L.b, 0, none⟩), .agg #[.int .i64 24, .int .i64 1, .int .i64 0]] w (RetD L (mkS L F 2 pl oa ob st en) f fc fb (.int .i64 0) w) := by
  obtain ⟨w0, hw0⟩ : ∃ y, y = w.alloc (.cells #[.int .i64 24, .int .i64 1, .int .i64 0] 60) := ⟨_, rfl⟩
  have HF0 : Hid (Fr w w0) := Lib.hid (by rw [hw0]; exact (Fr.refl w).alloc _)
  have HB0 : Hid (Blk w0 w.heap.size 60 #[.int .i64 24, .int .i64 1, .int .i64 0]) := Lib.hid (by rw [hw0]; exact Blk.new _ _ _)
  have HW0 := Lib.hid hw0
  have HD := Lib.hid (h.fr HF0.out)
  have HB : Hid (w.heap.size ≠ L.b) := Lib.hid (by have := h.m.lt; omega)
  have K := Lib.hid k
  have g2 := Blk.free HD.out.m 2
  have c2 : w0.cell? ⟨L.b, 2, none⟩ = some (.int .i64 D) := Blk.cell HD.out.m rfl
  rw [hw0] at g2 c2
  clear h k hw0
  have hne := HB.out
  go_enter Tryz.func103, Tryz.ntmps103
  go_wp2_with fail
  rw [← HW0.out]
  go_ret
  exact ⟨rfl, ⟨Blk.set HD.out.m 2 _ rfl, HD.out.f.far (fun e => K.out.b1 e.symm) _, HD.out.c.far (fun e => K.out.b2 e.symm) _, HD.out.g.far (fun e => K.out.b3 e.symm) _⟩, (Fr.ex HF0.out).set (Or.inl rfl) _⟩
set_option maxRecDepth 100000 in
set_option maxHeartbeats 4000000 in
theorem goOn_stack4 (L : Lay) (F D pl : Int) (oa ob : Value) (st : Int) (en : Bool) (f fc fb : Nat → Value) (w : World) (k : LayOk L) (h : Dyn w L (mkS L F D pl oa ob st en) f fc fb) :
    Calls Tryz.prog 103 #[.pointer (some ⟨L.b, 0, none⟩), .agg #[.int .i64 18, .int .i64 4, .int .i64 0]] w (RetD L (mkS L F 4 pl oa ob st en) f fc fb (.int .i64 0) w) := by
  obtain ⟨w0, hw0⟩ : ∃ y, y = w.alloc (.cells #[.int .i64 18, .int .i64 4, .int .i64 0] 60) := ⟨_, rfl⟩
  have HF0 : Hid (Fr w w0) := Lib.hid (by rw [hw0]; exact (Fr.refl w).alloc _)
  have HB0 : Hid (Blk w0 w.heap.size 60 #[.int .i64 18, .int .i64 4, .int .i64 0]) := Lib.hid (by rw [hw0]; exact Blk.new _ _ _)
  have HW0 := Lib.hid hw0
  have HD := Lib.hid (h.fr HF0.out)
  have HB : Hid (w.heap.size ≠ L.b) := Lib.hid (by have := h.m.lt; omega)
  have K := Lib.hid k
  have g2 := Blk.free HD.out.m 2
  have c2 : w0.cell? ⟨L.b, 2, none⟩ = some (.int .i64 D) := Blk.cell HD.out.m rfl
  rw [hw0] at g2 c2
  clear h k hw0
  have hne := HB.out
  go_enter Tryz.func103, Tryz.ntmps103
  go_wp2_with fail
  rw [← HW0.out]
  go_ret
  exact ⟨rfl, ⟨Blk.set HD.out.m 2 _ rfl, HD.out.f.far (fun e => K.out.b1 e.symm) _, HD.out.c.far (fun e => K.out.b2 e.symm) _, HD.out.g.far (fun e => K.out.b3 e.symm) _⟩, (Fr.ex HF0.out).set (Or.inl rfl) _⟩
set_option maxRecDepth 100000 in
set_option maxHeartbeats 4000000 in
theorem goOn_stack2 (L : Lay) (F D pl : Int) (oa ob : Value) (st : Int) (en : Bool) (f fc fb : Nat → Value) (w : World) (k : LayOk L) (h : Dyn w L (mkS L F D pl oa ob st en) f fc fb) :
    Calls Tryz.prog 103 #[.pointer (some ⟨L.b, 0, none⟩), .agg #[.int .i64 18, .int .i64 2, .int .i64 0]] w (RetD L (mkS L F 2 pl oa ob st en) f fc fb (.int .i64 0) w) := by
  obtain ⟨w0, hw0⟩ : ∃ y, y = w.alloc (.cells #[.int .i64 18, .int .i64 2, .int .i64 0] 60) := ⟨_, rfl⟩
  have HF0 : Hid (Fr w w0) := Lib.hid (by rw [hw0]; exact (Fr.refl w).alloc _)
  have HB0 : Hid (Blk w0 w.heap.size 60 #[.int .i64 18, .int .i64 2, .int .i64 0]) := Lib.hid (by rw [hw0]; exact Blk.new _ _ _)
  have HW0 := Lib.hid hw0
  have HD := Lib.hid (h.fr HF0.out)
  have HB : Hid (w.heap.size ≠ L.b) := Lib.hid (by have := h.m.lt; omega)
  have K := Lib.hid k
  have g2 := Blk.free HD.out.m 2
  have c2 : w0.cell? ⟨L.b, 2, none⟩ = some (.int .i64 D) := Blk.cell HD.out.m rfl
  rw [hw0] at g2 c2
  clear h k hw0
  have hne := HB.out
  go_enter Tryz.func103, Tryz.ntmps103
  go_wp2_with fail
  rw [← HW0.out]
  go_ret
  exact ⟨rfl, ⟨Blk.set HD.out.m 2 _ rfl, HD.out.f.far (fun e => K.out.b1 e.symm) _, HD.out.c.far (fun e => K.out.b2 e.symm) _, HD.out.g.far (fun e => K.out.b3 e.symm) _⟩, (Fr.ex HF0.out).set (Or.inl rfl) _⟩
set_option maxRecDepth 100000 in
set_option maxHeartbeats 4000000 in
theorem goOn_call (L : Lay) (F D : Nat) (pl st : Int) (en : Bool) (f fc fb : Nat → Value) (w : World) (k : LayOk L) (s : Sta w L) (h : Dyn w L (mkS L (F : Int) ((D : Int) + 1) pl (.pointer none) (.slice none 0 0) st en) f fc fb) (t a c : Nat) (ht : F + D = t) (htl : t < 32000) (htv : f t = .int .i64 32503) (ha : F + 2 = a) (hcc : F + 2 + 2 = c) (hl : c < 32000) (hv : f c = .int .i64 65) :
    Calls Tryz.prog 103 #[.pointer (some ⟨L.b, 0, none⟩), .agg #[.int .i64 23, .int .i64 2, .int .i64 0]] w fun e w' => e = .returned (.int .i64 0) ∧ (∃ ob, Dyn w' L (mkS L (F : Int) 3 pl (.pointer (some ⟨L.b, 11, none⟩)) ob st en) (upd f a (.int .i64 0)) fc fb ∧ w'.ownsRow w.heap.size 5 1 ob 1 [.int .u8 65]) ∧ Ex (Kd L) w w' := by
  obtain ⟨w0, hw0⟩ : ∃ y, y = w.alloc (.cells #[.int .i64 23, .int .i64 2, .int .i64 0] 60) := ⟨_, rfl⟩
  have HF0 : Hid (Fr w w0) := Lib.hid (by rw [hw0]; exact (Fr.refl w).alloc _)
  have HB0 : Hid (Blk w0 w.heap.size 60 #[.int .i64 23, .int .i64 2, .int .i64 0]) := Lib.hid (by rw [hw0]; exact Blk.new _ _ _)
  have HW0 := Lib.hid hw0
  have CC := Lib.hid (call_d L F D 2 pl st en f fc fb w0 k (s.fr HF0.out) (h.fr HF0.out) t a c ht htl htv ha hcc hl hv)
  clear h k s hw0 ht htl htv ha hcc hl hv
  go_enter Tryz.func103, Tryz.ntmps103
  go_wp2_with fail
  rw [← HW0.out]
  refine (CC.out).mono ?_
  rintro e w1 ⟨rfl, ⟨ob, hd, ho⟩, hx⟩
  have HD := Lib.hid hd
  have HO := Lib.hid (own_base8 ho HF0.out.size)
  have HX := Lib.hid ((Fr.ex HF0.out).trans hx)
  clear hd ho hx
  go_wp2_with fail
  go_ret
  exact ⟨rfl, ⟨ob, HD.out, HO.out⟩, HX.out⟩
set_option maxRecDepth 100000 in
set_option maxHeartbeats 4000000 in
theorem goOn_back (L : Lay) (D pl : Int) (oa ob : Value) (st : Int) (f fc fb : Nat → Value) (w : World) (k : LayOk L) (s : Sta w L) (h : Dyn w L (mkS L 8000 D pl oa ob st false) f fc fb) (h0 : f 8000 = .int .i64 8000) (h1 : f 8001 = .int .i64 (-1)) :
    Calls Tryz.prog 103 #[.pointer (some ⟨L.b, 0, none⟩), .agg #[.int .i64 26, .int .i64 0, .int .i64 0]] w (RetD L (mkS L 8000 D pl oa ob st true) f fc fb (.int .i64 0) w) := by
  obtain ⟨w0, hw0⟩ : ∃ y, y = w.alloc (.cells #[.int .i64 26, .int .i64 0, .int .i64 0] 60) := ⟨_, rfl⟩
  have HF0 : Hid (Fr w w0) := Lib.hid (by rw [hw0]; exact (Fr.refl w).alloc _)
  have HB0 : Hid (Blk w0 w.heap.size 60 #[.int .i64 26, .int .i64 0, .int .i64 0]) := Lib.hid (by rw [hw0]; exact Blk.new _ _ _)
  have HW0 := Lib.hid hw0
  have CC := Lib.hid (giveBack_d L D pl oa ob st f fc fb w0 k (s.fr HF0.out) (h.fr HF0.out) h0 h1)
  clear h k s hw0 h0 h1
  go_enter Tryz.func103, Tryz.ntmps103
  go_wp2_with fail
  rw [← HW0.out]
  refine (CC.out).mono ?_
  rintro e w1 ⟨rfl, hd, hx⟩
  have HD := Lib.hid hd
  have HX := Lib.hid ((Fr.ex HF0.out).trans hx)
  clear hd hx
  go_wp2_with fail
  go_ret
  exact ⟨rfl, HD.out, HX.out⟩
set_option maxRecDepth 100000 in
set_option maxHeartbeats 4000000 in
theorem do_enter (L : Lay) (F D pl : Int) (oa ob : Value) (st : Int) (en : Bool) (f fc fb : Nat → Value) (w : World) (k : LayOk L) (h : Dyn w L (mkS L F D pl oa ob st en) f fc fb) :
    Calls Tryz.prog 66 #[.pointer (some ⟨L.b, 0, none⟩), .agg #[.int .i64 24, .int .i64 1, .int .i64 0]] w (RetD L (mkS L F 2 pl oa ob st en) f fc fb (.int .i64 0) w) := by
  obtain ⟨w0, hw0⟩ : ∃ y, y = w.alloc (.cells #[.int .i64 24, .int .i64 1, .int .i64 0] 60) := ⟨_, rfl⟩
  have HF0 : Hid (Fr w w0) := Lib.hid (by rw [hw0]; exact (Fr.refl w).alloc _)
  have HB0 : Hid (Blk w0 w.heap.size 60 #[.int .i64 24, .int .i64 1, .int .i64 0]) := Lib.hid (by rw [hw0]; exact Blk.new _ _ _)
  have HW0 := Lib.hid hw0
  have CC := Lib.hid (goOn_enter L F D pl oa ob st en f fc fb w0 k (h.fr HF0.out))
  clear hw0
  go_enter Tryz.func66, Tryz.ntmps66
  go_wp2_with fail
  rw [← HW0.out]
  refine (CC.out).mono ?_
  rintro e w1 ⟨rfl, hd, hx⟩
  have HD := Lib.hid hd
  have HX := Lib.hid ((Fr.ex HF0.out).trans hx)
  clear hd hx
  go_wp2_with fail
  go_ret
  exact ⟨rfl, HD.out, HX.out⟩
set_option maxRecDepth 100000 in
set_option maxHeartbeats 4000000 in
theorem do_stack4 (L : Lay) (F D pl : Int) (oa ob : Value) (st : Int) (en : Bool) (f fc fb : Nat → Value) (w : World) (k : LayOk L) (h : Dyn w L (mkS L F D pl oa ob st en) f fc fb) :
    Calls Tryz.prog 66 #[.pointer (some ⟨L.b, 0, none⟩), .agg #[.int .i64 18, .int .i64 4, .int .i64 0]] w (RetD L (mkS L F 4 pl oa ob st en) f fc fb (.int .i64 0) w) := by
  obtain ⟨w0, hw0⟩ : ∃ y, y = w.alloc (.cells #[.int .i64 18, .int .i64 4, .int .i64 0] 60) := ⟨_, rfl⟩
  have HF0 : Hid (Fr w w0) := Lib.hid (by rw [hw0]; exact (Fr.refl w).alloc _)
  have HB0 : Hid (Blk w0 w.heap.size 60 #[.int .i64 18, .int .i64 4, .int .i64 0]) := Lib.hid (by rw [hw0]; exact Blk.new _ _ _)
  have HW0 := Lib.hid hw0
  have CC := Lib.hid (goOn_stack4 L F D pl oa ob st en f fc fb w0 k (h.fr HF0.out))
  clear hw0
  go_enter Tryz.func66, Tryz.ntmps66
  go_wp2_with fail
  rw [← HW0.out]
  refine (CC.out).mono ?_
  rintro e w1 ⟨rfl, hd, hx⟩
  have HD := Lib.hid hd
  have HX := Lib.hid ((Fr.ex HF0.out).trans hx)
  clear hd hx
  go_wp2_with fail
  go_ret
  exact ⟨rfl, HD.out, HX.out⟩
set_option maxRecDepth 100000 in
set_option maxHeartbeats 4000000 in
theorem do_stack2 (L : Lay) (F D pl : Int) (oa ob : Value) (st : Int) (en : Bool) (f fc fb : Nat → Value) (w : World) (k : LayOk L) (h : Dyn w L (mkS L F D pl oa ob st en) f fc fb) :
    Calls Tryz.prog 66 #[.pointer (some ⟨L.b, 0, none⟩), .agg #[.int .i64 18, .int .i64 2, .int .i64 0]] w (RetD L (mkS L F 2 pl oa ob st en) f fc fb (.int .i64 0) w) := by
  obtain ⟨w0, hw0⟩ : ∃ y, y = w.alloc (.cells #[.int .i64 18, .int .i64 2, .int .i64 0] 60) := ⟨_, rfl⟩
  have HF0 : Hid (Fr w w0) := Lib.hid (by rw [hw0]; exact (Fr.refl w).alloc _)
  have HB0 : Hid (Blk w0 w.heap.size 60 #[.int .i64 18, .int .i64 2, .int .i64 0]) := Lib.hid (by rw [hw0]; exact Blk.new _ _ _)
  have HW0 := Lib.hid hw0
  have CC := Lib.hid (goOn_stack2 L F D pl oa ob st en f fc fb w0 k (h.fr HF0.out))
  clear hw0
  go_enter Tryz.func66, Tryz.ntmps66
  go_wp2_with fail
  rw [← HW0.out]
  refine (CC.out).mono ?_
  rintro e w1 ⟨rfl, hd, hx⟩
  have HD := Lib.hid hd
  have HX := Lib.hid ((Fr.ex HF0.out).trans hx)
  clear hd hx
  go_wp2_with fail
  go_ret
  exact ⟨rfl, HD.out, HX.out⟩
set_option maxRecDepth 100000 in
set_option maxHeartbeats 4000000 in
theorem do_num (L : Lay) (F D : Nat) (pl : Int) (oa ob : Value) (st : Int) (en : Bool) (f fc fb : Nat → Value) (w : World) (k : LayOk L) (h : Dyn w L (mkS L (F : Int) (D : Int) pl oa ob st en) f fc fb) (a : Nat) (ha : F + D = a) (hl : a < 32000) :
    Calls Tryz.prog 66 #[.pointer (some ⟨L.b, 0, none⟩), .agg #[.int .i64 1, .int .i64 65, .int .i64 0]] w (RetD L (mkS L (F : Int) ((D : Int) + 1) pl oa ob st en) (upd f a (.int .i64 65)) fc fb (.int .i64 0) w) := by
  obtain ⟨w0, hw0⟩ : ∃ y, y = w.alloc (.cells #[.int .i64 1, .int .i64 65, .int .i64 0] 60) := ⟨_, rfl⟩
  have HF0 : Hid (Fr w w0) := Lib.hid (by rw [hw0]; exact (Fr.refl w).alloc _)
  have HB0 : Hid (Blk w0 w.heap.size 60 #[.int .i64 1, .int .i64 65, .int .i64 0]) := Lib.hid (by rw [hw0]; exact Blk.new _ _ _)
  have HW0 := Lib.hid hw0
  have CC := Lib.hid (push_d L F D pl oa ob st en f fc fb 65 w0 k (h.fr HF0.out) a ha hl)
  clear hw0
  go_enter Tryz.func66, Tryz.ntmps66
  go_wp2_with fail
  rw [← HW0.out]
  refine (CC.out).mono ?_
  rintro e w1 ⟨rfl, hd, hx⟩
  have HD := Lib.hid hd
  have HX := Lib.hid ((Fr.ex HF0.out).trans hx)
  clear hd hx
  go_wp2_with fail
  go_ret
  exact ⟨rfl, HD.out, HX.out⟩
set_option maxRecDepth 100000 in
set_option maxHeartbeats 4000000 in
theorem do_global (L : Lay) (F D : Nat) (pl : Int) (oa ob : Value) (st : Int) (en : Bool) (f fc fb : Nat → Value) (w : World) (k : LayOk L) (h : Dyn w L (mkS L (F : Int) (D : Int) pl oa ob st en) f fc fb) (h3 : f 3 = .int .i64 32503) (a : Nat) (ha : F + D = a) (hl : a < 32000) :
    Calls Tryz.prog 66 #[.pointer (some ⟨L.b, 0, none⟩), .agg #[.int .i64 5, .int .i64 3, .int .i64 0]] w (RetD L (mkS L (F : Int) ((D : Int) + 1) pl oa ob st en) (upd f a (.int .i64 32503)) fc fb (.int .i64 0) w) := by
  obtain ⟨w0, hw0⟩ : ∃ y, y = w.alloc (.cells #[.int .i64 5, .int .i64 3, .int .i64 0] 60) := ⟨_, rfl⟩
  have HF0 : Hid (Fr w w0) := Lib.hid (by rw [hw0]; exact (Fr.refl w).alloc _)
  have HB0 : Hid (Blk w0 w.heap.size 60 #[.int .i64 5, .int .i64 3, .int .i64 0]) := Lib.hid (by rw [hw0]; exact Blk.new _ _ _)
  have HW0 := Lib.hid hw0
  have CC := Lib.hid (pushFrom_d L F D pl oa ob st en f fc fb 3 32503 w0 k (h.fr HF0.out) (by omega) h3 a ha hl)
  clear hw0
  go_enter Tryz.func66, Tryz.ntmps66
  go_wp2_with fail
  rw [← HW0.out]
  refine (CC.out).mono ?_
  rintro e w1 ⟨rfl, hd, hx⟩
  have HD := Lib.hid hd
  have HX := Lib.hid ((Fr.ex HF0.out).trans hx)
  clear hd hx
  go_wp2_with fail
  go_ret
  exact ⟨rfl, HD.out, HX.out⟩
set_option maxRecDepth 100000 in
set_option maxHeartbeats 4000000 in
theorem do_call (L : Lay) (F D : Nat) (pl st : Int) (en : Bool) (f fc fb : Nat → Value) (w : World) (k : LayOk L) (s : Sta w L) (h : Dyn w L (mkS L (F : Int) ((D : Int) + 1) pl (.pointer none) (.slice none 0 0) st en) f fc fb) (t a c : Nat) (ht : F + D = t) (htl : t < 32000) (htv : f t = .int .i64 32503) (ha : F + 2 = a) (hcc : F + 2 + 2 = c) (hl : c < 32000) (hv : f c = .int .i64 65) :
    Calls Tryz.prog 66 #[.pointer (some ⟨L.b, 0, none⟩), .agg #[.int .i64 23, .int .i64 2, .int .i64 0]] w fun e w' => e = .returned (.int .i64 0) ∧ (∃ ob, Dyn w' L (mkS L (F : Int) 3 pl (.pointer (some ⟨L.b, 11, none⟩)) ob st en) (upd f a (.int .i64 0)) fc fb ∧ w'.ownsRow w.heap.size 5 1 ob 1 [.int .u8 65]) ∧ Ex (Kd L) w w' := by
  obtain ⟨w0, hw0⟩ : ∃ y, y = w.alloc (.cells #[.int .i64 23, .int .i64 2, .int .i64 0] 60) := ⟨_, rfl⟩
  have HF0 : Hid (Fr w w0) := Lib.hid (by rw [hw0]; exact (Fr.refl w).alloc _)
  have HB0 : Hid (Blk w0 w.heap.size 60 #[.int .i64 23, .int .i64 2, .int .i64 0]) := Lib.hid (by rw [hw0]; exact Blk.new _ _ _)
  have HW0 := Lib.hid hw0
  have CC := Lib.hid (goOn_call L F D pl st en f fc fb w0 k (s.fr HF0.out) (h.fr HF0.out) t a c ht htl htv ha hcc hl hv)
  clear hw0
  go_enter Tryz.func66, Tryz.ntmps66
  go_wp2_with fail
  rw [← HW0.out]
  refine (CC.out).mono ?_
  rintro e w1 ⟨rfl, ⟨ob, hd, ho⟩, hx⟩
  have HD := Lib.hid hd
  have HO := Lib.hid (own_base8 ho HF0.out.size)
  have HX := Lib.hid ((Fr.ex HF0.out).trans hx)
  clear hd ho hx
  go_wp2_with fail
  go_ret
  exact ⟨rfl, ⟨ob, HD.out, HO.out⟩, HX.out⟩
set_option maxRecDepth 100000 in
set_option maxHeartbeats 4000000 in
theorem do_back (L : Lay) (D pl : Int) (oa ob : Value) (st : Int) (f fc fb : Nat → Value) (w : World) (k : LayOk L) (s : Sta w L) (h : Dyn w L (mkS L 8000 D pl oa ob st false) f fc fb) (h0 : f 8000 = .int .i64 8000) (h1 : f 8001 = .int .i64 (-1)) :
    Calls Tryz.prog 66 #[.pointer (some ⟨L.b, 0, none⟩), .agg #[.int .i64 26, .int .i64 0, .int .i64 0]] w (RetD L (mkS L 8000 D pl oa ob st true) f fc fb (.int .i64 0) w) := by
  obtain ⟨w0, hw0⟩ : ∃ y, y = w.alloc (.cells #[.int .i64 26, .int .i64 0, .int .i64 0] 60) := ⟨_, rfl⟩
  have HF0 : Hid (Fr w w0) := Lib.hid (by rw [hw0]; exact (Fr.refl w).alloc _)
  have HB0 : Hid (Blk w0 w.heap.size 60 #[.int .i64 26, .int .i64 0, .int .i64 0]) := Lib.hid (by rw [hw0]; exact Blk.new _ _ _)
  have HW0 := Lib.hid hw0
  have CC := Lib.hid (goOn_back L D pl oa ob st f fc fb w0 k (s.fr HF0.out) (h.fr HF0.out) h0 h1)
  clear hw0
  go_enter Tryz.func66, Tryz.ntmps66
  go_wp2_with fail
  rw [← HW0.out]
  refine (CC.out).mono ?_
  rintro e w1 ⟨rfl, hd, hx⟩
  have HD := Lib.hid hd
  have HX := Lib.hid ((Fr.ex HF0.out).trans hx)
  clear hd hx
  go_wp2_with fail
  go_ret
  exact ⟨rfl, HD.out, HX.out⟩
end Go.Proofs.YtdnckbcknahakaaGreat
