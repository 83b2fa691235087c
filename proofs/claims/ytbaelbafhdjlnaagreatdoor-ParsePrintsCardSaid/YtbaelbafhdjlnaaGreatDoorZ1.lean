/- A part of the proof that the law ParsePrints holds for every input. -/
import Derived.Test.YtbaelbafhdjlnaaGreatDoorY5
import Derived.Test.YtbaelbafhdjlnaaGreatDoorX3
import Derived.Test.YtbaelbafhdjlnaaGreatDoorY3
import Derived.Test.YtbaelbafhdjlnaaGreatDoorY1
import Derived.Test.YtbaelbafhdjlnaaGreatDoorY2
import Derived.Test.YtbaelbafhdjlnaaGreatDoorX2
import Derived.Test.YtbaelbafhdjlnaaGreatDoorX1
namespace Go.Proofs.YtbaelbafhdjlnaaGreatDoor
open Go.RowKit _root_.Go.Proofs.Tryz
set_option linter.unusedVariables false
set_option linter.unusedSimpArgs false
set_option maxRecDepth 100000
def tkG (s : ByteArray) : Prop := 0 < s.size ∧ s.size ≤ 1000000 ∧ bt s (s.size - 1) ≠ 10
theorem tkG.ok {s : ByteArray} (h : tkG s) : tkOk s := ⟨h.1,h.2.1⟩
theorem bt_right (a b : ByteArray) (h : 0 < b.size) : bt (a ++ b) ((a ++ b).size - 1) = bt b (b.size - 1) := by
 have e : (a ++ b).size - 1 = a.data.size + (b.size - 1) := by rw [ByteArray.size_append]; show a.size + b.size - 1 = a.size + _; omega
 have hb : b.size - 1 < b.data.size := by show b.size - 1 < b.size; omega
 rw [e]
 unfold bt
 rw [ByteArray.data_append]
 simp [Array.getD,hb]
theorem pt_mid (t : ByteArray) : ∀ (r : List ByteArray) (v : ByteArray),(∀ s ∈ r,tkG s) → 0 < v.size → bt v (v.size - 1) ≠ 10 → pt (t ++ v) r = t ++ r.foldl (fun t s => t ++ ⟨#[32]⟩ ++ s) v := by
 intro r
 induction r with
 | nil => intro v _ _ _; rfl
 | cons x r ih =>
  intro v hr h0 h1
  have hx := hr x (List.mem_cons_self)
  have hs : sepB (t ++ v) = t ++ v ++ ⟨#[32]⟩ := by
   unfold sepB
   rw [if_pos ⟨by rw [ByteArray.size_append]; omega,by rw [bt_right _ _ h0]; exact h1⟩]
  show pt (sepB (t ++ v) ++ x) r = _
  rw [hs,List.foldl_cons,ByteArray.append_assoc,ByteArray.append_assoc,← ByteArray.append_assoc (a := v)]
  refine ih _ (fun s h => hr s (List.mem_cons_of_mem _ h)) (by rw [ByteArray.size_append]; have := hx.1; omega) ?_
  rw [bt_right _ _ hx.1]
  exact hx.2.2
theorem pt_line (t : ByteArray) (A : List ByteArray) (ht : ¬ (0 < t.size ∧ bt t (t.size - 1) ≠ 10)) (hA : ∀ s ∈ A,tkG s) : pt t A = t ++ lineB A := by
 cases A with
 | nil => show t = t ++ ⟨#[]⟩; apply ByteArray.ext; simp
 | cons x r =>
  have hx := hA x (List.mem_cons_self)
  show pt (sepB t ++ x) r = t ++ r.foldl (fun t s => t ++ ⟨#[32]⟩ ++ s) x
  rw [show sepB t = t from by unfold sepB; rw [if_neg ht]]
  exact pt_mid t r x (fun s h => hA s (List.mem_cons_of_mem _ h)) hx.1 hx.2.2
theorem pt_line0 (A : List ByteArray) (hA : ∀ s ∈ A,tkG s) : pt ⟨#[]⟩ A = lineB A := by
 have h := pt_line (⟨#[]⟩ : BA) A (fun h => absurd h.1 (Nat.lt_irrefl 0)) hA
 rw [h]
 apply ByteArray.ext
 simp
theorem pt_lineF (t : ByteArray) (A : List ByteArray) (hA : ∀ s ∈ A,tkG s) : pt (t ++ ⟨#[10]⟩) A = t ++ ⟨#[10]⟩ ++ lineB A :=
 pt_line _ _ (fun h => h.2 (by rw [bt_right _ _ (by decide)]; rfl)) hA
def lvB (n : Int) : Int := if n = 10 ∨ n = 11 then 1 else if n = 9 then 2 else if n = 8 then 3 else if n = 6 ∨ n = 7 then 6 else if n = 4 ∨ n = 5 then 7 else if n = 1 ∨ n = 2 ∨ n = 3 then 8 else 5
def lvR (op n : Int) : Int := if op = 14 then 0 else if op = 12 then lvB n else if op = 13 then (if n = 19 then 4 else 7) else if op = 8 ∨ op = 9 ∨ op = 17 then 9 else if op = 10 ∨ op = 11 ∨ op = 7 then 10 else 11
def okOp (op n : Int) : Prop := (op = 1 ∨ op = 2 ∨ op = 3 ∨ op = 4 ∨ op = 5 ∨ op = 6 ∨ op = 7 ∨ op = 10 ∨ op = 11 ∨ op = 14 ∨ op = 15 ∨ op = 16 ∨ op = 18) ∨ ((op = 8 ∨ op = 9 ∨ op = 17) ∧ n = 0) ∨ (op = 12 ∧ (n = 1 ∨ n = 2 ∨ n = 3 ∨ n = 4 ∨ n = 5 ∨ n = 6 ∨ n = 7 ∨ n = 8 ∨ n = 9 ∨ n = 10 ∨ n = 11 ∨ n = 12 ∨ n = 13 ∨ n = 14 ∨ n = 15 ∨ n = 16 ∨ n = 17)) ∨ (op = 13 ∧ (n = 18 ∨ n = 19))
theorem rlv_any (n : Nd) (h : okOp n.op n.n) : RLv n (lvR n.op n.n) := by
 rcases h with h | ⟨h,hn⟩ | ⟨h,hn⟩ | ⟨h,hn⟩
 ·rcases h with h | h | h | h | h | h | h | h | h | h | h | h | h
  ·have := rlev_op .l1 n h; rw [h]; exact this
  ·have := rlev_op .l2 n h; rw [h]; exact this
  ·have := rlev_op .l3 n h; rw [h]; exact this
  ·have := rlev_op .l4 n h; rw [h]; exact this
  ·have := rlev_op .l5 n h; rw [h]; exact this
  ·have := rlev_op .l6 n h; rw [h]; exact this
  ·have := rlev_op .l7 n h; rw [h]; exact this
  ·have := rlev_op .l10 n h; rw [h]; exact this
  ·have := rlev_op .l11 n h; rw [h]; exact this
  ·have := rlev_op .l14 n h; rw [h]; exact this
  ·have := rlev_op .l15 n h; rw [h]; exact this
  ·have := rlev_op .l16 n h; rw [h]; exact this
  ·have := rlev_op .l18 n h; rw [h]; exact this
 ·rcases h with h | h | h
  ·have := rlev_op .l8 n h; rw [h]; exact this
  ·have := rlev_op .l9 n h; rw [h]; exact this
  ·have := rlev_op .l17 n h; rw [h]; exact this
 ·rcases hn with hn | hn | hn | hn | hn | hn | hn | hn | hn | hn | hn | hn | hn | hn | hn | hn | hn
  ·have := rlev_bin .b1 n h hn; rw [h,hn]; exact this
  ·have := rlev_bin .b2 n h hn; rw [h,hn]; exact this
  ·have := rlev_bin .b3 n h hn; rw [h,hn]; exact this
  ·have := rlev_bin .b4 n h hn; rw [h,hn]; exact this
  ·have := rlev_bin .b5 n h hn; rw [h,hn]; exact this
  ·have := rlev_bin .b6 n h hn; rw [h,hn]; exact this
  ·have := rlev_bin .b7 n h hn; rw [h,hn]; exact this
  ·have := rlev_bin .b8 n h hn; rw [h,hn]; exact this
  ·have := rlev_bin .b9 n h hn; rw [h,hn]; exact this
  ·have := rlev_bin .b10 n h hn; rw [h,hn]; exact this
  ·have := rlev_bin .b11 n h hn; rw [h,hn]; exact this
  ·have := rlev_bin .b12 n h hn; rw [h,hn]; exact this
  ·have := rlev_bin .b13 n h hn; rw [h,hn]; exact this
  ·have := rlev_bin .b14 n h hn; rw [h,hn]; exact this
  ·have := rlev_bin .b15 n h hn; rw [h,hn]; exact this
  ·have := rlev_bin .b16 n h hn; rw [h,hn]; exact this
  ·have := rlev_bin .b17 n h hn; rw [h,hn]; exact this
 ·rcases hn with hn | hn
  ·have := rlev_13_18 n h hn; rw [h,hn]; exact this
  ·have := rlev_13_19 n h hn; rw [h,hn]; exact this
theorem lv_same (op n L : Int) (h : okOp op n) (hL : L ≤ 10) : L ≤ lvE op n ↔ L ≤ lvR op n := by
 rcases h with h | ⟨h,rfl⟩ | ⟨rfl,hn⟩ | ⟨rfl,hn⟩
 ·have e : opfN op n = none := opfN_not op n (by omega)
  unfold lvE
  rw [e]
  rcases h with rfl | rfl | rfl | rfl | rfl | rfl | rfl | rfl | rfl | rfl | rfl | rfl | rfl <;> simp [lvR] <;> omega
 ·rcases h with rfl | rfl | rfl
  ·rw [show lvE 8 0 = lvR 8 0 from by decide]
  ·rw [show lvE 9 0 = lvR 9 0 from by decide]
  ·rw [show lvE 17 0 = lvR 17 0 from by decide]
 ·rcases hn with rfl | rfl | rfl | rfl | rfl | rfl | rfl | rfl | rfl | rfl | rfl | rfl | rfl | rfl | rfl | rfl | rfl
  ·rw [show lvE 12 1 = lvR 12 1 from by decide]
  ·rw [show lvE 12 2 = lvR 12 2 from by decide]
  ·rw [show lvE 12 3 = lvR 12 3 from by decide]
  ·rw [show lvE 12 4 = lvR 12 4 from by decide]
  ·rw [show lvE 12 5 = lvR 12 5 from by decide]
  ·rw [show lvE 12 6 = lvR 12 6 from by decide]
  ·rw [show lvE 12 7 = lvR 12 7 from by decide]
  ·rw [show lvE 12 8 = lvR 12 8 from by decide]
  ·rw [show lvE 12 9 = lvR 12 9 from by decide]
  ·rw [show lvE 12 10 = lvR 12 10 from by decide]
  ·rw [show lvE 12 11 = lvR 12 11 from by decide]
  ·rw [show lvE 12 12 = lvR 12 12 from by decide]
  ·rw [show lvE 12 13 = lvR 12 13 from by decide]
  ·rw [show lvE 12 14 = lvR 12 14 from by decide]
  ·rw [show lvE 12 15 = lvR 12 15 from by decide]
  ·rw [show lvE 12 16 = lvR 12 16 from by decide]
  ·rw [show lvE 12 17 = lvR 12 17 from by decide]
 ·rcases hn with rfl | rfl
  ·rw [show lvE 13 18 = lvR 13 18 from by decide]
  ·rw [show lvE 13 19 = lvR 13 19 from by decide]
def par (L : Int) (n : Nd) (A : List ByteArray) : List ByteArray := if L ≤ lvR n.op n.n then A else [⟨#[40]⟩] ++ A ++ [⟨#[41]⟩]
def parF (n : Nd) (A : List ByteArray) : List ByteArray := if n.op = 7 ∨ 11 ≤ lvR n.op n.n then A else [⟨#[40]⟩] ++ A ++ [⟨#[41]⟩]
def BothE (n : Nd) (A : List ByteArray) : Prop := okOp n.op n.n ∧ Wx 156 ar0 n A ∧ Rx 83 mk1 n A ∧ A.length ≤ 200000
def BothC (n : Nd) (A : List ByteArray) : Prop := Wx 85 ar0 n A ∧ Rx 86 mk1 n A ∧ A.length ≤ 200000
theorem both_at (n : Nd) (A : List ByteArray) (L : Int) (hL : L ≤ 10) (h : BothE n A) : Wx 82 (arL L) n (par L n A) ∧ Rx 158 (mkL L) n (par L n A) := by
 obtain ⟨ho,hw,hr,hs⟩ := h
 constructor
 ·have h1 := expression_x L n A hw
  unfold par
  by_cases hl : L ≤ lvR n.op n.n
  ·rw [if_pos hl]; rw [if_pos ((lv_same _ _ _ ho hL).2 hl)] at h1; exact h1
  ·rw [if_neg hl]; rw [if_neg (fun h => hl ((lv_same _ _ _ ho hL).1 h))] at h1; exact h1
 ·exact rat_x n L _ A (rlv_any n ho) hr (by omega)
theorem lv_eleven (op n : Int) (h : okOp op n) : 11 ≤ lvE op n ↔ op = 7 ∨ 11 ≤ lvR op n := by
 rcases h with h | ⟨h,rfl⟩ | ⟨rfl,hn⟩ | ⟨rfl,hn⟩
 ·have e : opfN op n = none := opfN_not op n (by omega)
  unfold lvE
  rw [e]
  rcases h with rfl | rfl | rfl | rfl | rfl | rfl | rfl | rfl | rfl | rfl | rfl | rfl | rfl <;> simp [lvR]
 ·rcases h with rfl | rfl | rfl <;> decide
 ·rcases hn with rfl | rfl | rfl | rfl | rfl | rfl | rfl | rfl | rfl | rfl | rfl | rfl | rfl | rfl | rfl | rfl | rfl <;> decide
 ·rcases hn with rfl | rfl <;> decide
theorem both_fn (n : Nd) (A : List ByteArray) (h : BothE n A) : Wx 82 (arL 11) n (parF n A) ∧ (n.op = 7 → Rx 83 mk1 n (parF n A)) ∧ (¬ n.op = 7 → Rx 158 (mkL 11) n (parF n A)) := by
 obtain ⟨ho,hw,hr,hs⟩ := h
 refine ⟨?_,fun h7 => ?_,fun h7 => ?_⟩
 ·have h1 := expression_x 11 n A hw
  unfold parF
  by_cases hl : n.op = 7 ∨ 11 ≤ lvR n.op n.n
  ·rw [if_pos hl]; rw [if_pos ((lv_eleven _ _ ho).2 hl)] at h1; exact h1
  ·rw [if_neg hl]; rw [if_neg (fun h => hl ((lv_eleven _ _ ho).1 h))] at h1; exact h1
 ·unfold parF; rw [if_pos (.inl h7)]; exact hr
 ·have h1 := rat_x n 11 _ A (rlv_any n ho) hr (by omega)
  unfold parF
  by_cases hl : 11 ≤ lvR n.op n.n
  ·rw [if_pos (.inr hl)]; rw [if_pos hl] at h1; exact h1
  ·rw [if_neg (fun h => by rcases h with h | h; exact h7 h; exact hl h)]; rw [if_neg hl] at h1; exact h1
theorem e_load (n c0 : Nd) (A0 : List ByteArray) (hop : n.op = 10) (hnl : n.l = [c0]) (h0 : BothE c0 A0) (hs : ([(⟨#[33]⟩ : BA)] ++ par 10 c0 A0).length ≤ 200000) : BothE n ([(⟨#[33]⟩ : BA)] ++ par 10 c0 A0) :=
 ⟨.inl (by omega),bare_load n c0 _ hop hnl (both_at c0 A0 10 (by decide) h0).1,r_load n c0 _ hop hnl (both_at c0 A0 10 (by decide) h0).2 (by rw [List.length_append] at hs; omega),hs⟩
theorem e_addr (n c0 : Nd) (A0 : List ByteArray) (hop : n.op = 11) (hnl : n.l = [c0]) (h0 : BothE c0 A0) (hs : ([(⟨#[64]⟩ : BA)] ++ par 10 c0 A0).length ≤ 200000) : BothE n ([(⟨#[64]⟩ : BA)] ++ par 10 c0 A0) :=
 ⟨.inl (by omega),bare_addr n c0 _ hop hnl (both_at c0 A0 10 (by decide) h0).1,r_addr n c0 _ hop hnl (both_at c0 A0 10 (by decide) h0).2 (by rw [List.length_append] at hs; omega),hs⟩
theorem e_not (n c0 : Nd) (A0 : List ByteArray) (hop : n.op = 13) (hn : n.n = 19) (hnl : n.l = [c0]) (h0 : BothE c0 A0) (hs : ([(⟨#[126]⟩ : BA)] ++ par 4 c0 A0).length ≤ 200000) : BothE n ([(⟨#[126]⟩ : BA)] ++ par 4 c0 A0) :=
 ⟨.inr (.inr (.inr ⟨hop,.inr hn⟩)),bare_un n _ hop (unary_not n c0 _ hn hnl (both_at c0 A0 4 (by decide) h0).1),r_not n c0 _ hop hn hnl (both_at c0 A0 4 (by decide) h0).2 (by rw [List.length_append] at hs; omega),hs⟩
theorem e_neg (n c0 : Nd) (A0 : List ByteArray) (hop : n.op = 13) (hn : n.n = 18) (hnl : n.l = [c0]) (h0 : BothE c0 A0) (hs : ([(⟨#[45]⟩ : BA)] ++ par 8 c0 A0).length ≤ 200000) : BothE n ([(⟨#[45]⟩ : BA)] ++ par 8 c0 A0) :=
 ⟨.inr (.inr (.inr ⟨hop,.inl hn⟩)),bare_un n _ hop (unary_neg n c0 _ hnl (by omega) (both_at c0 A0 8 (by decide) h0).1),r_neg n c0 _ hop hn hnl (both_at c0 A0 8 (by decide) h0).2 (by rw [List.length_append] at hs; omega),hs⟩
theorem e_valof (n c0 : Nd) (A0 : List ByteArray) (hop : n.op = 15) (hnl : n.l = [c0]) (h0 : BothC c0 A0) (hs : ([(⟨#[118,97,108,111,102]⟩ : BA)] ++ A0).length ≤ 200000) : BothE n ([(⟨#[118,97,108,111,102]⟩ : BA)] ++ A0) :=
 ⟨.inl (by omega),simple_x n _ (opfN_not _ _ (by omega)) (by omega) (by omega) (by omega) (by omega) (by omega) (simple_valof n c0 _ hop hnl h0.1),r_valof n c0 _ hop hnl h0.2.1 (by rw [List.length_append] at hs; omega),hs⟩
theorem e_sub (n c0 c1 : Nd) (A0 A1 : List ByteArray) (hop : n.op = 8) (hn : n.n = 0) (hnl : n.l = [c0,c1]) (h0 : BothE c0 A0) (h1 : BothE c1 A1) (hs : (par 9 c0 A0 ++ [(⟨#[33]⟩ : BA)] ++ par 10 c1 A1).length ≤ 200000) : BothE n (par 9 c0 A0 ++ [(⟨#[33]⟩ : BA)] ++ par 10 c1 A1) :=
 ⟨.inr (.inl ⟨by omega,hn⟩),bare_op_x n c0 c1 ⟨(⟨#[33]⟩ : BA),8,0,9⟩ _ _ (by rw [hop,hn]; rfl) hnl (both_at c0 A0 9 (by decide) h0).1 (both_at c1 A1 10 (by decide) h1).1,r_sub n c0 c1 _ _ hop hnl (both_at c0 A0 9 (by decide) h0).2 (both_at c1 A1 10 (by decide) h1).2 (by omega),hs⟩
theorem e_byte (n c0 c1 : Nd) (A0 A1 : List ByteArray) (hop : n.op = 9) (hn : n.n = 0) (hnl : n.l = [c0,c1]) (h0 : BothE c0 A0) (h1 : BothE c1 A1) (hs : (par 9 c0 A0 ++ [(⟨#[37]⟩ : BA)] ++ par 10 c1 A1).length ≤ 200000) : BothE n (par 9 c0 A0 ++ [(⟨#[37]⟩ : BA)] ++ par 10 c1 A1) :=
 ⟨.inr (.inl ⟨by omega,hn⟩),bare_op_x n c0 c1 ⟨(⟨#[37]⟩ : BA),9,0,9⟩ _ _ (by rw [hop,hn]; rfl) hnl (both_at c0 A0 9 (by decide) h0).1 (both_at c1 A1 10 (by decide) h1).1,r_byte n c0 c1 _ _ hop hnl (both_at c0 A0 9 (by decide) h0).2 (both_at c1 A1 10 (by decide) h1).2 (by omega),hs⟩
theorem e_sel (n c0 c1 : Nd) (A0 A1 : List ByteArray) (hop : n.op = 17) (hn : n.n = 0) (hnl : n.l = [c0,c1]) (h0 : BothE c0 A0) (h1 : BothE c1 A1) (hs : (par 9 c0 A0 ++ [(⟨#[111,102]⟩ : BA)] ++ par 10 c1 A1).length ≤ 200000) : BothE n (par 9 c0 A0 ++ [(⟨#[111,102]⟩ : BA)] ++ par 10 c1 A1) :=
 ⟨.inr (.inl ⟨by omega,hn⟩),bare_op_x n c0 c1 ⟨(⟨#[111,102]⟩ : BA),17,0,9⟩ _ _ (by rw [hop,hn]; rfl) hnl (both_at c0 A0 9 (by decide) h0).1 (both_at c1 A1 10 (by decide) h1).1,r_sel n c0 c1 _ _ hop hnl (both_at c0 A0 9 (by decide) h0).2 (both_at c1 A1 10 (by decide) h1).2 (by omega),hs⟩
theorem e_bin_1 (n c0 c1 : Nd) (A0 A1 : List ByteArray) (hop : n.op = 12) (hn : n.n = 1) (hnl : n.l = [c0,c1]) (h0 : BothE c0 A0) (h1 : BothE c1 A1) (hs : (par 8 c0 A0 ++ [(⟨#[42]⟩ : BA)] ++ par 9 c1 A1).length ≤ 200000) : BothE n (par 8 c0 A0 ++ [(⟨#[42]⟩ : BA)] ++ par 9 c1 A1) :=
 ⟨.inr (.inr (.inl ⟨hop,by omega⟩)),bare_op_x n c0 c1 ⟨(⟨#[42]⟩ : BA),12,1,8⟩ _ _ (by rw [hop,hn]; rfl) hnl (both_at c0 A0 8 (by decide) h0).1 (both_at c1 A1 9 (by decide) h1).1,r_bin n c0 c1 .b1 _ _ hop hn hnl (rlev_bin .b1 n hop hn) (both_at c0 A0 8 (by decide) h0).2 (both_at c1 A1 9 (by decide) h1).2 (by omega),hs⟩
theorem e_bin_2 (n c0 c1 : Nd) (A0 A1 : List ByteArray) (hop : n.op = 12) (hn : n.n = 2) (hnl : n.l = [c0,c1]) (h0 : BothE c0 A0) (h1 : BothE c1 A1) (hs : (par 8 c0 A0 ++ [(⟨#[47]⟩ : BA)] ++ par 9 c1 A1).length ≤ 200000) : BothE n (par 8 c0 A0 ++ [(⟨#[47]⟩ : BA)] ++ par 9 c1 A1) :=
 ⟨.inr (.inr (.inl ⟨hop,by omega⟩)),bare_op_x n c0 c1 ⟨(⟨#[47]⟩ : BA),12,2,8⟩ _ _ (by rw [hop,hn]; rfl) hnl (both_at c0 A0 8 (by decide) h0).1 (both_at c1 A1 9 (by decide) h1).1,r_bin n c0 c1 .b2 _ _ hop hn hnl (rlev_bin .b2 n hop hn) (both_at c0 A0 8 (by decide) h0).2 (both_at c1 A1 9 (by decide) h1).2 (by omega),hs⟩
theorem e_bin_3 (n c0 c1 : Nd) (A0 A1 : List ByteArray) (hop : n.op = 12) (hn : n.n = 3) (hnl : n.l = [c0,c1]) (h0 : BothE c0 A0) (h1 : BothE c1 A1) (hs : (par 8 c0 A0 ++ [(⟨#[114,101,109]⟩ : BA)] ++ par 9 c1 A1).length ≤ 200000) : BothE n (par 8 c0 A0 ++ [(⟨#[114,101,109]⟩ : BA)] ++ par 9 c1 A1) :=
 ⟨.inr (.inr (.inl ⟨hop,by omega⟩)),bare_op_x n c0 c1 ⟨(⟨#[114,101,109]⟩ : BA),12,3,8⟩ _ _ (by rw [hop,hn]; rfl) hnl (both_at c0 A0 8 (by decide) h0).1 (both_at c1 A1 9 (by decide) h1).1,r_bin n c0 c1 .b3 _ _ hop hn hnl (rlev_bin .b3 n hop hn) (both_at c0 A0 8 (by decide) h0).2 (both_at c1 A1 9 (by decide) h1).2 (by omega),hs⟩
theorem e_bin_4 (n c0 c1 : Nd) (A0 A1 : List ByteArray) (hop : n.op = 12) (hn : n.n = 4) (hnl : n.l = [c0,c1]) (h0 : BothE c0 A0) (h1 : BothE c1 A1) (hs : (par 7 c0 A0 ++ [(⟨#[43]⟩ : BA)] ++ par 8 c1 A1).length ≤ 200000) : BothE n (par 7 c0 A0 ++ [(⟨#[43]⟩ : BA)] ++ par 8 c1 A1) :=
 ⟨.inr (.inr (.inl ⟨hop,by omega⟩)),bare_op_x n c0 c1 ⟨(⟨#[43]⟩ : BA),12,4,7⟩ _ _ (by rw [hop,hn]; rfl) hnl (both_at c0 A0 7 (by decide) h0).1 (both_at c1 A1 8 (by decide) h1).1,r_bin n c0 c1 .b4 _ _ hop hn hnl (rlev_bin .b4 n hop hn) (both_at c0 A0 7 (by decide) h0).2 (both_at c1 A1 8 (by decide) h1).2 (by omega),hs⟩
theorem e_bin_5 (n c0 c1 : Nd) (A0 A1 : List ByteArray) (hop : n.op = 12) (hn : n.n = 5) (hnl : n.l = [c0,c1]) (h0 : BothE c0 A0) (h1 : BothE c1 A1) (hs : (par 7 c0 A0 ++ [(⟨#[45]⟩ : BA)] ++ par 8 c1 A1).length ≤ 200000) : BothE n (par 7 c0 A0 ++ [(⟨#[45]⟩ : BA)] ++ par 8 c1 A1) :=
 ⟨.inr (.inr (.inl ⟨hop,by omega⟩)),bare_op_x n c0 c1 ⟨(⟨#[45]⟩ : BA),12,5,7⟩ _ _ (by rw [hop,hn]; rfl) hnl (both_at c0 A0 7 (by decide) h0).1 (both_at c1 A1 8 (by decide) h1).1,r_bin n c0 c1 .b5 _ _ hop hn hnl (rlev_bin .b5 n hop hn) (both_at c0 A0 7 (by decide) h0).2 (both_at c1 A1 8 (by decide) h1).2 (by omega),hs⟩
theorem e_bin_6 (n c0 c1 : Nd) (A0 A1 : List ByteArray) (hop : n.op = 12) (hn : n.n = 6) (hnl : n.l = [c0,c1]) (h0 : BothE c0 A0) (h1 : BothE c1 A1) (hs : (par 6 c0 A0 ++ [(⟨#[60,60]⟩ : BA)] ++ par 7 c1 A1).length ≤ 200000) : BothE n (par 6 c0 A0 ++ [(⟨#[60,60]⟩ : BA)] ++ par 7 c1 A1) :=
 ⟨.inr (.inr (.inl ⟨hop,by omega⟩)),bare_op_x n c0 c1 ⟨(⟨#[60,60]⟩ : BA),12,6,6⟩ _ _ (by rw [hop,hn]; rfl) hnl (both_at c0 A0 6 (by decide) h0).1 (both_at c1 A1 7 (by decide) h1).1,r_bin n c0 c1 .b6 _ _ hop hn hnl (rlev_bin .b6 n hop hn) (both_at c0 A0 6 (by decide) h0).2 (both_at c1 A1 7 (by decide) h1).2 (by omega),hs⟩
theorem e_bin_7 (n c0 c1 : Nd) (A0 A1 : List ByteArray) (hop : n.op = 12) (hn : n.n = 7) (hnl : n.l = [c0,c1]) (h0 : BothE c0 A0) (h1 : BothE c1 A1) (hs : (par 6 c0 A0 ++ [(⟨#[62,62]⟩ : BA)] ++ par 7 c1 A1).length ≤ 200000) : BothE n (par 6 c0 A0 ++ [(⟨#[62,62]⟩ : BA)] ++ par 7 c1 A1) :=
 ⟨.inr (.inr (.inl ⟨hop,by omega⟩)),bare_op_x n c0 c1 ⟨(⟨#[62,62]⟩ : BA),12,7,6⟩ _ _ (by rw [hop,hn]; rfl) hnl (both_at c0 A0 6 (by decide) h0).1 (both_at c1 A1 7 (by decide) h1).1,r_bin n c0 c1 .b7 _ _ hop hn hnl (rlev_bin .b7 n hop hn) (both_at c0 A0 6 (by decide) h0).2 (both_at c1 A1 7 (by decide) h1).2 (by omega),hs⟩
theorem e_bin_8 (n c0 c1 : Nd) (A0 A1 : List ByteArray) (hop : n.op = 12) (hn : n.n = 8) (hnl : n.l = [c0,c1]) (h0 : BothE c0 A0) (h1 : BothE c1 A1) (hs : (par 3 c0 A0 ++ [(⟨#[38]⟩ : BA)] ++ par 4 c1 A1).length ≤ 200000) : BothE n (par 3 c0 A0 ++ [(⟨#[38]⟩ : BA)] ++ par 4 c1 A1) :=
 ⟨.inr (.inr (.inl ⟨hop,by omega⟩)),bare_op_x n c0 c1 ⟨(⟨#[38]⟩ : BA),12,8,3⟩ _ _ (by rw [hop,hn]; rfl) hnl (both_at c0 A0 3 (by decide) h0).1 (both_at c1 A1 4 (by decide) h1).1,r_bin n c0 c1 .b8 _ _ hop hn hnl (rlev_bin .b8 n hop hn) (both_at c0 A0 3 (by decide) h0).2 (both_at c1 A1 4 (by decide) h1).2 (by omega),hs⟩
theorem e_bin_9 (n c0 c1 : Nd) (A0 A1 : List ByteArray) (hop : n.op = 12) (hn : n.n = 9) (hnl : n.l = [c0,c1]) (h0 : BothE c0 A0) (h1 : BothE c1 A1) (hs : (par 2 c0 A0 ++ [(⟨#[124]⟩ : BA)] ++ par 3 c1 A1).length ≤ 200000) : BothE n (par 2 c0 A0 ++ [(⟨#[124]⟩ : BA)] ++ par 3 c1 A1) :=
 ⟨.inr (.inr (.inl ⟨hop,by omega⟩)),bare_op_x n c0 c1 ⟨(⟨#[124]⟩ : BA),12,9,2⟩ _ _ (by rw [hop,hn]; rfl) hnl (both_at c0 A0 2 (by decide) h0).1 (both_at c1 A1 3 (by decide) h1).1,r_bin n c0 c1 .b9 _ _ hop hn hnl (rlev_bin .b9 n hop hn) (both_at c0 A0 2 (by decide) h0).2 (both_at c1 A1 3 (by decide) h1).2 (by omega),hs⟩
theorem e_bin_10 (n c0 c1 : Nd) (A0 A1 : List ByteArray) (hop : n.op = 12) (hn : n.n = 10) (hnl : n.l = [c0,c1]) (h0 : BothE c0 A0) (h1 : BothE c1 A1) (hs : (par 1 c0 A0 ++ [(⟨#[120,111,114]⟩ : BA)] ++ par 2 c1 A1).length ≤ 200000) : BothE n (par 1 c0 A0 ++ [(⟨#[120,111,114]⟩ : BA)] ++ par 2 c1 A1) :=
 ⟨.inr (.inr (.inl ⟨hop,by omega⟩)),bare_op_x n c0 c1 ⟨(⟨#[120,111,114]⟩ : BA),12,10,1⟩ _ _ (by rw [hop,hn]; rfl) hnl (both_at c0 A0 1 (by decide) h0).1 (both_at c1 A1 2 (by decide) h1).1,r_bin n c0 c1 .b10 _ _ hop hn hnl (rlev_bin .b10 n hop hn) (both_at c0 A0 1 (by decide) h0).2 (both_at c1 A1 2 (by decide) h1).2 (by omega),hs⟩
theorem e_bin_11 (n c0 c1 : Nd) (A0 A1 : List ByteArray) (hop : n.op = 12) (hn : n.n = 11) (hnl : n.l = [c0,c1]) (h0 : BothE c0 A0) (h1 : BothE c1 A1) (hs : (par 1 c0 A0 ++ [(⟨#[101,113,118]⟩ : BA)] ++ par 2 c1 A1).length ≤ 200000) : BothE n (par 1 c0 A0 ++ [(⟨#[101,113,118]⟩ : BA)] ++ par 2 c1 A1) :=
 ⟨.inr (.inr (.inl ⟨hop,by omega⟩)),bare_op_x n c0 c1 ⟨(⟨#[101,113,118]⟩ : BA),12,11,1⟩ _ _ (by rw [hop,hn]; rfl) hnl (both_at c0 A0 1 (by decide) h0).1 (both_at c1 A1 2 (by decide) h1).1,r_bin n c0 c1 .b11 _ _ hop hn hnl (rlev_bin .b11 n hop hn) (both_at c0 A0 1 (by decide) h0).2 (both_at c1 A1 2 (by decide) h1).2 (by omega),hs⟩
theorem e_bin_12 (n c0 c1 : Nd) (A0 A1 : List ByteArray) (hop : n.op = 12) (hn : n.n = 12) (hnl : n.l = [c0,c1]) (h0 : BothE c0 A0) (h1 : BothE c1 A1) (hs : (par 6 c0 A0 ++ [(⟨#[61]⟩ : BA)] ++ par 6 c1 A1).length ≤ 200000) : BothE n (par 6 c0 A0 ++ [(⟨#[61]⟩ : BA)] ++ par 6 c1 A1) :=
 ⟨.inr (.inr (.inl ⟨hop,by omega⟩)),bare_op_x n c0 c1 ⟨(⟨#[61]⟩ : BA),12,12,5⟩ _ _ (by rw [hop,hn]; rfl) hnl (both_at c0 A0 6 (by decide) h0).1 (both_at c1 A1 6 (by decide) h1).1,r_bin n c0 c1 .b12 _ _ hop hn hnl (rlev_bin .b12 n hop hn) (both_at c0 A0 6 (by decide) h0).2 (both_at c1 A1 6 (by decide) h1).2 (by omega),hs⟩
theorem e_bin_13 (n c0 c1 : Nd) (A0 A1 : List ByteArray) (hop : n.op = 12) (hn : n.n = 13) (hnl : n.l = [c0,c1]) (h0 : BothE c0 A0) (h1 : BothE c1 A1) (hs : (par 6 c0 A0 ++ [(⟨#[126,61]⟩ : BA)] ++ par 6 c1 A1).length ≤ 200000) : BothE n (par 6 c0 A0 ++ [(⟨#[126,61]⟩ : BA)] ++ par 6 c1 A1) :=
 ⟨.inr (.inr (.inl ⟨hop,by omega⟩)),bare_op_x n c0 c1 ⟨(⟨#[126,61]⟩ : BA),12,13,5⟩ _ _ (by rw [hop,hn]; rfl) hnl (both_at c0 A0 6 (by decide) h0).1 (both_at c1 A1 6 (by decide) h1).1,r_bin n c0 c1 .b13 _ _ hop hn hnl (rlev_bin .b13 n hop hn) (both_at c0 A0 6 (by decide) h0).2 (both_at c1 A1 6 (by decide) h1).2 (by omega),hs⟩
theorem e_bin_14 (n c0 c1 : Nd) (A0 A1 : List ByteArray) (hop : n.op = 12) (hn : n.n = 14) (hnl : n.l = [c0,c1]) (h0 : BothE c0 A0) (h1 : BothE c1 A1) (hs : (par 6 c0 A0 ++ [(⟨#[60]⟩ : BA)] ++ par 6 c1 A1).length ≤ 200000) : BothE n (par 6 c0 A0 ++ [(⟨#[60]⟩ : BA)] ++ par 6 c1 A1) :=
 ⟨.inr (.inr (.inl ⟨hop,by omega⟩)),bare_op_x n c0 c1 ⟨(⟨#[60]⟩ : BA),12,14,5⟩ _ _ (by rw [hop,hn]; rfl) hnl (both_at c0 A0 6 (by decide) h0).1 (both_at c1 A1 6 (by decide) h1).1,r_bin n c0 c1 .b14 _ _ hop hn hnl (rlev_bin .b14 n hop hn) (both_at c0 A0 6 (by decide) h0).2 (both_at c1 A1 6 (by decide) h1).2 (by omega),hs⟩
theorem e_bin_15 (n c0 c1 : Nd) (A0 A1 : List ByteArray) (hop : n.op = 12) (hn : n.n = 15) (hnl : n.l = [c0,c1]) (h0 : BothE c0 A0) (h1 : BothE c1 A1) (hs : (par 6 c0 A0 ++ [(⟨#[60,61]⟩ : BA)] ++ par 6 c1 A1).length ≤ 200000) : BothE n (par 6 c0 A0 ++ [(⟨#[60,61]⟩ : BA)] ++ par 6 c1 A1) :=
 ⟨.inr (.inr (.inl ⟨hop,by omega⟩)),bare_op_x n c0 c1 ⟨(⟨#[60,61]⟩ : BA),12,15,5⟩ _ _ (by rw [hop,hn]; rfl) hnl (both_at c0 A0 6 (by decide) h0).1 (both_at c1 A1 6 (by decide) h1).1,r_bin n c0 c1 .b15 _ _ hop hn hnl (rlev_bin .b15 n hop hn) (both_at c0 A0 6 (by decide) h0).2 (both_at c1 A1 6 (by decide) h1).2 (by omega),hs⟩
theorem e_bin_16 (n c0 c1 : Nd) (A0 A1 : List ByteArray) (hop : n.op = 12) (hn : n.n = 16) (hnl : n.l = [c0,c1]) (h0 : BothE c0 A0) (h1 : BothE c1 A1) (hs : (par 6 c0 A0 ++ [(⟨#[62]⟩ : BA)] ++ par 6 c1 A1).length ≤ 200000) : BothE n (par 6 c0 A0 ++ [(⟨#[62]⟩ : BA)] ++ par 6 c1 A1) :=
 ⟨.inr (.inr (.inl ⟨hop,by omega⟩)),bare_op_x n c0 c1 ⟨(⟨#[62]⟩ : BA),12,16,5⟩ _ _ (by rw [hop,hn]; rfl) hnl (both_at c0 A0 6 (by decide) h0).1 (both_at c1 A1 6 (by decide) h1).1,r_bin n c0 c1 .b16 _ _ hop hn hnl (rlev_bin .b16 n hop hn) (both_at c0 A0 6 (by decide) h0).2 (both_at c1 A1 6 (by decide) h1).2 (by omega),hs⟩
theorem e_bin_17 (n c0 c1 : Nd) (A0 A1 : List ByteArray) (hop : n.op = 12) (hn : n.n = 17) (hnl : n.l = [c0,c1]) (h0 : BothE c0 A0) (h1 : BothE c1 A1) (hs : (par 6 c0 A0 ++ [(⟨#[62,61]⟩ : BA)] ++ par 6 c1 A1).length ≤ 200000) : BothE n (par 6 c0 A0 ++ [(⟨#[62,61]⟩ : BA)] ++ par 6 c1 A1) :=
 ⟨.inr (.inr (.inl ⟨hop,by omega⟩)),bare_op_x n c0 c1 ⟨(⟨#[62,61]⟩ : BA),12,17,5⟩ _ _ (by rw [hop,hn]; rfl) hnl (both_at c0 A0 6 (by decide) h0).1 (both_at c1 A1 6 (by decide) h1).1,r_bin n c0 c1 .b17 _ _ hop hn hnl (rlev_bin .b17 n hop hn) (both_at c0 A0 6 (by decide) h0).2 (both_at c1 A1 6 (by decide) h1).2 (by omega),hs⟩
theorem lvR_pos (op n : Int) : 0 ≤ lvR op n := by
 unfold lvR lvB
 repeat' split
 all_goals decide
theorem both_part (n : Nd) (A : List ByteArray) (h : BothE n A) : Wx 167 ar0 n A := by
 have h1 := (both_at n A 0 (by decide) h).1
 unfold par at h1
 rw [if_pos (lvR_pos _ _)] at h1
 exact part_x n A h1
theorem simple_b (n : Nd) (A : List ByteArray) (ho : n.op = 1 ∨ n.op = 2 ∨ n.op = 3 ∨ n.op = 4 ∨ n.op = 5 ∨ n.op = 6 ∨ n.op = 15 ∨ n.op = 16 ∨ n.op = 18) (hw : Wx 218 ar0 n A) : Wx 156 ar0 n A :=
 simple_x n A (opfN_not _ _ (by omega)) (by omega) (by omega) (by omega) (by omega) (by omega) hw
theorem e_num (n : Nd) (hop : n.op = 1) (hw : wf64 n.n) (hr : -9223372036854775808 ≤ n.n ∧ n.n ≤ 9223372036854775807) (ht : tkOk (num n.n).t) : BothE n [(num n.n).t] :=
 ⟨.inl (by omega),simple_b n _ (by omega) (fun t => simple_num_w n t hop hw ht.1 ht.2),r_num n hop hr,by simp⟩
theorem e_str (n : Nd) (hop : n.op = 2) (hs : n.s.size ≤ 2000000) (ht : tkOk (quo n.s).t) : BothE n [(quo n.s).t] :=
 ⟨.inl (by omega),simple_b n _ (by omega) (simple_str_w n hop hs ht),r_str n hop hs,by simp⟩
theorem e_name (n : Nd) (hop : n.op = 6) (ht : tkOk n.s) : BothE n [n.s] :=
 ⟨.inl (by omega),simple_b n _ (by omega) (fun t => simple_name_w n t hop ht.1 ht.2),r_name n hop,by simp⟩
theorem e_table (n : Nd) (tk : Nd → List ByteArray) (hop : n.op = 16) (hlen : n.l.length ≤ 1000000) (hd : ∀ x ∈ n.l,BothE x (tk x)) (hs : ([(⟨#[116,97,98,108,101]⟩ : BA)] ++ ([(⟨#[40]⟩ : BA)] ++ joinT ⟨#[44]⟩ (n.l.map tk) ++ [(⟨#[41]⟩ : BA)])).length ≤ 200000) : BothE n ([(⟨#[116,97,98,108,101]⟩ : BA)] ++ ([(⟨#[40]⟩ : BA)] ++ joinT ⟨#[44]⟩ (n.l.map tk) ++ [(⟨#[41]⟩ : BA)])) :=
 ⟨.inl (by omega),simple_b n _ (by omega) (simple_table n tk hop hlen (fun x hx => both_part x _ (hd x hx))),r_table n tk hop (fun x hx => (hd x hx).2.2.1) (by simp only [List.length_append] at hs; omega),hs⟩
theorem e_slct (n : Nd) (tk : Nd → List ByteArray) (hop : n.op = 18) (hlen : n.l.length ≤ 1000000) (hd : ∀ x ∈ n.l,BothE x (tk x)) (hs : ([(⟨#[115,108,99,116]⟩ : BA)] ++ ([(⟨#[40]⟩ : BA)] ++ joinT ⟨#[44]⟩ (n.l.map tk) ++ [(⟨#[41]⟩ : BA)])).length ≤ 200000) : BothE n ([(⟨#[115,108,99,116]⟩ : BA)] ++ ([(⟨#[40]⟩ : BA)] ++ joinT ⟨#[44]⟩ (n.l.map tk) ++ [(⟨#[41]⟩ : BA)])) :=
 ⟨.inl (by omega),simple_b n _ (by omega) (simple_slct n tk hop hlen (fun x hx => both_part x _ (hd x hx))),r_slct n tk hop (fun x hx => (hd x hx).2.2.1) (by simp only [List.length_append] at hs; omega),hs⟩
theorem e_call (n x : Nd) (r : List Nd) (tk : Nd → List ByteArray) (A0 : List ByteArray) (hop : n.op = 7) (hnl : n.l = x :: r) (hlen : r.length ≤ 1000000) (h0 : BothE x A0) (hd : ∀ y ∈ r,BothE y (tk y)) (hs : (parF x A0 ++ ([(⟨#[40]⟩ : BA)] ++ joinT ⟨#[44]⟩ (r.map tk) ++ [(⟨#[41]⟩ : BA)])).length ≤ 200000) : BothE n (parF x A0 ++ ([(⟨#[40]⟩ : BA)] ++ joinT ⟨#[44]⟩ (r.map tk) ++ [(⟨#[41]⟩ : BA)])) := by
 refine ⟨.inl (by omega),bare_call_x n x r tk _ hop hnl hlen (both_fn x A0 h0).1 (fun y hy => both_part y _ (hd y hy)),?_,hs⟩
 by_cases h7 : x.op = 7
 ·exact r_call_call n x r tk _ hop hnl h7 ((both_fn x A0 h0).2.1 h7) (fun y hy => (hd y hy).2.2.1) (by omega)
 ·exact r_call_at n x r tk _ hop hnl h7 ((both_fn x A0 h0).2.2 h7) (fun y hy => (hd y hy).2.2.1) (by omega)
theorem e_cond (n c0 c1 c2 : Nd) (tk : Nd → List ByteArray) (A0 : List ByteArray) (hop : n.op = 14) (hnl : n.l = [c0,c1,c2]) (h0 : BothE c0 A0) (h1 : BothE c1 (tk c1)) (h2 : BothE c2 (tk c2)) (hs : (par 1 c0 A0 ++ [(⟨#[45,62]⟩ : BA)] ++ tk c1 ++ [(⟨#[44]⟩ : BA)] ++ tk c2).length ≤ 200000) : BothE n (par 1 c0 A0 ++ [(⟨#[45,62]⟩ : BA)] ++ tk c1 ++ [(⟨#[44]⟩ : BA)] ++ tk c2) := by
 refine ⟨.inl (by omega),?_,r_cond n c0 c1 c2 _ _ _ hop hnl (both_at c0 A0 1 (by decide) h0).2 h1.2.2.1 h2.2.2.1 (by omega),hs⟩
 have h := bare_cond n c0 [c1,c2] tk _ hop hnl rfl (both_at c0 A0 1 (by decide) h0).1 (fun y hy => by
  simp at hy
  rcases hy with rfl | rfl
  ·exact both_part _ _ h1
  ·exact both_part _ _ h2)
 simpa [joinT,List.append_assoc] using h
theorem e_true (n : Nd) (hop : n.op = 3) : BothE n [(⟨#[116,114,117,101]⟩ : BA)] := ⟨.inl (by omega),simple_b n _ (by omega) (fun t => simple_key3 n t hop),r_true n hop,by simp⟩
theorem e_false (n : Nd) (hop : n.op = 4) : BothE n [(⟨#[102,97,108,115,101]⟩ : BA)] := ⟨.inl (by omega),simple_b n _ (by omega) (fun t => simple_key4 n t hop),r_false n hop,by simp⟩
theorem e_any (n : Nd) (hop : n.op = 5) : BothE n [(⟨#[63]⟩ : BA)] := ⟨.inl (by omega),simple_b n _ (by omega) (fun t => simple_key5 n t hop),r_any n hop,by simp⟩
theorem rx_eq {fn : Nat} {ar : Value → Array Value} {n : Nd} {A B : List ByteArray} (h : Rx fn ar n A) (e : A = B) : Rx fn ar n B := e ▸ h
theorem wx_eq {fn : Nat} {ar : Value → Value → Array Value} {n : Nd} {A B : List ByteArray} (h : Wx fn ar n A) (e : A = B) : Wx fn ar n B := e ▸ h
theorem k_break (n : Nd) (hop : n.op = 44) : BothC n [(⟨#[98,114,101,97,107]⟩ : BA)] := ⟨item_disp DsK.d44 n _ hop (basic_break n hop),r_break n hop,by simp⟩
theorem k_loop (n : Nd) (hop : n.op = 45) : BothC n [(⟨#[108,111,111,112]⟩ : BA)] := ⟨item_disp DsK.d45 n _ hop (basic_loop n hop),r_loop n hop,by simp⟩
theorem k_endcase (n : Nd) (hop : n.op = 46) : BothC n [(⟨#[101,110,100,99,97,115,101]⟩ : BA)] := ⟨item_disp DsK.d46 n _ hop (basic_endcase n hop),r_endcase n hop,by simp⟩
theorem k_return (n : Nd) (hop : n.op = 47) : BothC n [(⟨#[114,101,116,117,114,110]⟩ : BA)] := ⟨item_disp DsK.d47 n _ hop (basic_return n hop),r_return n hop,by simp⟩
theorem k_finish (n : Nd) (hop : n.op = 51) : BothC n [(⟨#[102,105,110,105,115,104]⟩ : BA)] := ⟨item_disp DsK.d51 n _ hop (basic_finish n hop),r_finish n hop,by simp⟩
theorem k_null (n : Nd) (hop : n.op = 53) : BothC n [] := ⟨item_disp DsK.d53 n _ hop (basic_null n hop),r_null n hop,by simp⟩
theorem k_goto (n : Nd) (hop : n.op = 49) (ht : tkOk n.s) : BothC n [(⟨#[103,111,116,111]⟩ : BA),n.s] := ⟨item_disp DsK.d49 n _ hop (basic_goto n hop ht),r_goto n hop,by simp⟩
theorem k_if (n c0 c1 : Nd) (A0 A1 : List ByteArray) (hop : n.op = 32) (hnl : n.l = [c0,c1]) (h0 : BothE c0 A0) (h1 : BothC c1 A1) (hs : ([(⟨#[105,102]⟩ : BA)] ++ A0 ++ [(⟨#[100,111]⟩ : BA)] ++ A1).length ≤ 200000) : BothC n ([(⟨#[105,102]⟩ : BA)] ++ A0 ++ [(⟨#[100,111]⟩ : BA)] ++ A1) :=
 ⟨wx_eq (item_disp DsK.d32 n _ hop (guarded_x (⟨#[105,102]⟩ : BA) ⟨by decide,by decide⟩ n c0 c1 A0 A1 hnl (both_part c0 A0 h0) h1.1)) (by simp),rx_eq (r_guard n c0 c1 _ _ .gif hop hnl h0.2.2.1 h1.2.1 (by have h := hs; simp at h ⊢; omega)) (by simp),hs⟩
theorem k_unless (n c0 c1 : Nd) (A0 A1 : List ByteArray) (hop : n.op = 33) (hnl : n.l = [c0,c1]) (h0 : BothE c0 A0) (h1 : BothC c1 A1) (hs : ([(⟨#[117,110,108,101,115,115]⟩ : BA)] ++ A0 ++ [(⟨#[100,111]⟩ : BA)] ++ A1).length ≤ 200000) : BothC n ([(⟨#[117,110,108,101,115,115]⟩ : BA)] ++ A0 ++ [(⟨#[100,111]⟩ : BA)] ++ A1) :=
 ⟨wx_eq (item_disp DsK.d33 n _ hop (guarded_x (⟨#[117,110,108,101,115,115]⟩ : BA) ⟨by decide,by decide⟩ n c0 c1 A0 A1 hnl (both_part c0 A0 h0) h1.1)) (by simp),rx_eq (r_guard n c0 c1 _ _ .gunless hop hnl h0.2.2.1 h1.2.1 (by have h := hs; simp at h ⊢; omega)) (by simp),hs⟩
theorem k_while (n c0 c1 : Nd) (A0 A1 : List ByteArray) (hop : n.op = 35) (hnl : n.l = [c0,c1]) (h0 : BothE c0 A0) (h1 : BothC c1 A1) (hs : ([(⟨#[119,104,105,108,101]⟩ : BA)] ++ A0 ++ [(⟨#[100,111]⟩ : BA)] ++ A1).length ≤ 200000) : BothC n ([(⟨#[119,104,105,108,101]⟩ : BA)] ++ A0 ++ [(⟨#[100,111]⟩ : BA)] ++ A1) :=
 ⟨wx_eq (item_disp DsK.d35 n _ hop (guarded_x (⟨#[119,104,105,108,101]⟩ : BA) ⟨by decide,by decide⟩ n c0 c1 A0 A1 hnl (both_part c0 A0 h0) h1.1)) (by simp),rx_eq (r_guard n c0 c1 _ _ .gwhile hop hnl h0.2.2.1 h1.2.1 (by have h := hs; simp at h ⊢; omega)) (by simp),hs⟩
theorem k_until (n c0 c1 : Nd) (A0 A1 : List ByteArray) (hop : n.op = 36) (hnl : n.l = [c0,c1]) (h0 : BothE c0 A0) (h1 : BothC c1 A1) (hs : ([(⟨#[117,110,116,105,108]⟩ : BA)] ++ A0 ++ [(⟨#[100,111]⟩ : BA)] ++ A1).length ≤ 200000) : BothC n ([(⟨#[117,110,116,105,108]⟩ : BA)] ++ A0 ++ [(⟨#[100,111]⟩ : BA)] ++ A1) :=
 ⟨wx_eq (item_disp DsK.d36 n _ hop (guarded_x (⟨#[117,110,116,105,108]⟩ : BA) ⟨by decide,by decide⟩ n c0 c1 A0 A1 hnl (both_part c0 A0 h0) h1.1)) (by simp),rx_eq (r_guard n c0 c1 _ _ .guntil hop hnl h0.2.2.1 h1.2.1 (by have h := hs; simp at h ⊢; omega)) (by simp),hs⟩
theorem k_test (n c0 c1 c2 : Nd) (A0 A1 A2 : List ByteArray) (hop : n.op = 34) (hnl : n.l = [c0,c1,c2]) (h0 : BothE c0 A0) (h1 : BothC c1 A1) (h2 : BothC c2 A2) (hs : ([(⟨#[116,101,115,116]⟩ : BA)] ++ A0 ++ [(⟨#[116,104,101,110]⟩ : BA)] ++ A1 ++ [(⟨#[101,108,115,101]⟩ : BA)] ++ A2).length ≤ 200000) : BothC n ([(⟨#[116,101,115,116]⟩ : BA)] ++ A0 ++ [(⟨#[116,104,101,110]⟩ : BA)] ++ A1 ++ [(⟨#[101,108,115,101]⟩ : BA)] ++ A2) :=
 ⟨wx_eq (item_test n c0 c1 c2 A0 A1 A2 hop hnl (both_part c0 A0 h0) h1.1 h2.1) (by simp),rx_eq (r_test n c0 c1 c2 _ _ _ hop hnl h0.2.2.1 h1.2.1 h2.2.1 (by have h := hs; simp at h ⊢; omega)) (by simp),hs⟩
theorem k_repwh (n c0 c1 : Nd) (A0 A1 : List ByteArray) (hop : n.op = 38) (hnl : n.l = [c0,c1]) (h0 : BothC c0 A0) (h1 : BothE c1 A1) (hs : (A0 ++ [(⟨#[114,101,112,101,97,116,119,104,105,108,101]⟩ : BA)] ++ A1).length ≤ 200000) : BothC n (A0 ++ [(⟨#[114,101,112,101,97,116,119,104,105,108,101]⟩ : BA)] ++ A1) :=
 ⟨wx_eq (item_disp DsK.d38 n _ hop (rep_wh n c0 c1 A0 A1 hop hnl h0.1 (both_part c1 A1 h1))) (by simp),rx_eq (r_rep2 n c0 c1 _ _ .rwhile hop hnl h0.2.1 h1.2.2.1 (by have h := hs; simp at h ⊢; omega)) (by simp),hs⟩
theorem k_repun (n c0 c1 : Nd) (A0 A1 : List ByteArray) (hop : n.op = 39) (hnl : n.l = [c0,c1]) (h0 : BothC c0 A0) (h1 : BothE c1 A1) (hs : (A0 ++ [(⟨#[114,101,112,101,97,116,117,110,116,105,108]⟩ : BA)] ++ A1).length ≤ 200000) : BothC n (A0 ++ [(⟨#[114,101,112,101,97,116,117,110,116,105,108]⟩ : BA)] ++ A1) :=
 ⟨wx_eq (item_disp DsK.d39 n _ hop (rep_un n c0 c1 A0 A1 hop hnl h0.1 (both_part c1 A1 h1))) (by simp),rx_eq (r_rep2 n c0 c1 _ _ .runtil hop hnl h0.2.1 h1.2.2.1 (by have h := hs; simp at h ⊢; omega)) (by simp),hs⟩
theorem k_switch (n c0 c1 : Nd) (A0 A1 : List ByteArray) (hop : n.op = 41) (hnl : n.l = [c0,c1]) (h0 : BothE c0 A0) (h1 : BothC c1 A1) (hs : ([(⟨#[115,119,105,116,99,104,111,110]⟩ : BA)] ++ A0 ++ [(⟨#[105,110,116,111]⟩ : BA)] ++ A1).length ≤ 200000) : BothC n ([(⟨#[115,119,105,116,99,104,111,110]⟩ : BA)] ++ A0 ++ [(⟨#[105,110,116,111]⟩ : BA)] ++ A1) :=
 ⟨wx_eq (item_switch n c0 c1 A0 A1 hop hnl (both_part c0 A0 h0) h1.1) (by simp),rx_eq (r_switch n c0 c1 _ _ hop hnl h0.2.2.1 h1.2.1 (by have h := hs; simp at h ⊢; omega)) (by simp),hs⟩
theorem k_case (n c0 c1 : Nd) (A0 A1 : List ByteArray) (hop : n.op = 42) (hnl : n.l = [c0,c1]) (h0 : BothE c0 A0) (h1 : BothC c1 A1) (hs : ([(⟨#[99,97,115,101]⟩ : BA)] ++ A0 ++ [(⟨#[58]⟩ : BA)] ++ A1).length ≤ 200000) : BothC n ([(⟨#[99,97,115,101]⟩ : BA)] ++ A0 ++ [(⟨#[58]⟩ : BA)] ++ A1) :=
 ⟨wx_eq (item_case n c0 c1 A0 A1 hop hnl (both_part c0 A0 h0) h1.1) (by simp),rx_eq (r_case n c0 c1 _ _ hop hnl h0.2.2.1 h1.2.1 (by have h := hs; simp at h ⊢; omega)) (by simp),hs⟩
theorem k_default (n c0 : Nd) (A0 : List ByteArray) (hop : n.op = 43) (hnl : n.l = [c0]) (h0 : BothC c0 A0) (hs : ([(⟨#[100,101,102,97,117,108,116]⟩ : BA),(⟨#[58]⟩ : BA)] ++ A0).length ≤ 200000) : BothC n ([(⟨#[100,101,102,97,117,108,116]⟩ : BA),(⟨#[58]⟩ : BA)] ++ A0) :=
 ⟨wx_eq (item_default n c0 A0 hop hnl h0.1) (by simp),rx_eq (r_default n c0 _ hop hnl h0.2.1 (by have h := hs; simp at h ⊢; omega)) (by simp),hs⟩
theorem k_result (n c0 : Nd) (A0 : List ByteArray) (hop : n.op = 48) (hnl : n.l = [c0]) (h0 : BothE c0 A0) (hs : ([(⟨#[114,101,115,117,108,116,105,115]⟩ : BA)] ++ A0).length ≤ 200000) : BothC n ([(⟨#[114,101,115,117,108,116,105,115]⟩ : BA)] ++ A0) :=
 ⟨wx_eq (item_disp DsK.d48 n _ hop (basic_result n c0 A0 hop hnl (both_part c0 A0 h0))) (by simp),rx_eq (r_result n c0 _ hop hnl h0.2.2.1 (by have h := hs; simp at h ⊢; omega)) (by simp),hs⟩
theorem k_repeat (n c0 : Nd) (A0 : List ByteArray) (hop : n.op = 37) (hnl : n.l = [c0]) (h0 : BothC c0 A0) (hs : (A0 ++ [(⟨#[114,101,112,101,97,116]⟩ : BA)]).length ≤ 200000) : BothC n (A0 ++ [(⟨#[114,101,112,101,97,116]⟩ : BA)]) :=
 ⟨wx_eq (item_disp DsK.d37 n _ hop (rep_plain n c0 A0 hop hnl h0.1)) (by simp),rx_eq (r_repeat n c0 _ hop hnl h0.2.1 (by have h := hs; simp at h ⊢; omega)) (by simp),hs⟩
theorem k_label (n c0 : Nd) (A0 : List ByteArray) (hop : n.op = 50) (hnl : n.l = [c0]) (ht : tkOk n.s) (h0 : BothC c0 A0) (hs : ([n.s,(⟨#[58]⟩ : BA)] ++ A0).length ≤ 200000) : BothC n ([n.s,(⟨#[58]⟩ : BA)] ++ A0) :=
 ⟨wx_eq (item_label n c0 A0 hop hnl h0.1 ht) (by simp),rx_eq (r_label n c0 _ hop hnl h0.2.1 (by have h := hs; simp at h ⊢; omega)) (by simp),hs⟩
theorem k_vec (n c0 : Nd) (A0 : List ByteArray) (hop : n.op = 55) (hnl : n.l = [c0]) (ht : tkOk n.s) (h0 : BothE c0 A0) (hs : ([(⟨#[108,101,116]⟩ : BA),n.s,(⟨#[61]⟩ : BA),(⟨#[118,101,99]⟩ : BA)] ++ A0).length ≤ 200000) : BothC n ([(⟨#[108,101,116]⟩ : BA),n.s,(⟨#[61]⟩ : BA),(⟨#[118,101,99]⟩ : BA)] ++ A0) :=
 ⟨wx_eq (item_vec n c0 A0 hop hnl (both_part c0 A0 h0) ht) (by simp),rx_eq (r_vec n c0 _ hop hnl h0.2.2.1 (by have h := hs; simp at h ⊢; omega)) (by simp),hs⟩
theorem k_ccall (n c0 : Nd) (A0 : List ByteArray) (hop : n.op = 31) (hnl : n.l = [c0]) (h0 : BothE c0 A0) (hs : A0.length ≤ 200000) : BothC n A0 :=
 ⟨item_disp DsK.d31 n _ hop (fun t => basic_call n c0 [] t _ hop hnl ((both_part c0 A0 h0) t)),r_ccall n c0 _ hop hnl h0.2.2.1,hs⟩
theorem k_for0 (n c0 c1 c2 : Nd) (A0 A1 A2 : List ByteArray) (hop : n.op = 40) (hn : n.n = 0) (hnl : n.l = [c0,c1,c2]) (ht : tkOk n.s) (h0 : BothE c0 A0) (h1 : BothE c1 A1) (h2 : BothC c2 A2) (hs : ([(⟨#[102,111,114]⟩ : BA),n.s,(⟨#[61]⟩ : BA)] ++ A0 ++ [(⟨#[116,111]⟩ : BA)] ++ A1 ++ [(⟨#[100,111]⟩ : BA)] ++ A2).length ≤ 200000) : BothC n ([(⟨#[102,111,114]⟩ : BA),n.s,(⟨#[61]⟩ : BA)] ++ A0 ++ [(⟨#[116,111]⟩ : BA)] ++ A1 ++ [(⟨#[100,111]⟩ : BA)] ++ A2) :=
 ⟨wx_eq (item_disp DsK.d40 n _ hop (count_0 n c0 c1 c2 A0 A1 A2 hn hnl (both_part c0 A0 h0) (both_part c1 A1 h1) h2.1 ht)) (by simp),rx_eq (r_for0 n c0 c1 c2 _ _ _ hop hn hnl h0.2.2.1 h1.2.2.1 h2.2.1 (by have h := hs; simp at h ⊢; omega)) (by simp),hs⟩
theorem k_for1 (n c0 c1 c2 c3 : Nd) (A0 A1 A2 A3 : List ByteArray) (hop : n.op = 40) (hn : n.n = 1) (hnl : n.l = [c0,c1,c2,c3]) (ht : tkOk n.s) (h0 : BothE c0 A0) (h1 : BothE c1 A1) (h2 : BothE c2 A2) (h3 : BothC c3 A3) (hs : ([(⟨#[102,111,114]⟩ : BA),n.s,(⟨#[61]⟩ : BA)] ++ A0 ++ [(⟨#[116,111]⟩ : BA)] ++ A1 ++ [(⟨#[98,121]⟩ : BA)] ++ A2 ++ [(⟨#[100,111]⟩ : BA)] ++ A3).length ≤ 200000) : BothC n ([(⟨#[102,111,114]⟩ : BA),n.s,(⟨#[61]⟩ : BA)] ++ A0 ++ [(⟨#[116,111]⟩ : BA)] ++ A1 ++ [(⟨#[98,121]⟩ : BA)] ++ A2 ++ [(⟨#[100,111]⟩ : BA)] ++ A3) :=
 ⟨wx_eq (item_disp DsK.d40 n _ hop (count_1 n c0 c1 c2 c3 A0 A1 A2 A3 hn hnl (both_part c0 A0 h0) (both_part c1 A1 h1) (both_part c2 A2 h2) h3.1 ht)) (by simp),rx_eq (r_for1 n c0 c1 c2 c3 _ _ _ _ hop hn hnl h0.2.2.1 h1.2.2.1 h2.2.2.1 h3.2.1 (by have h := hs; simp at h ⊢; omega)) (by simp),hs⟩
theorem k_block (n : Nd) (tk : Nd → List ByteArray) (hop : n.op = 52) (hlen : n.l.length ≤ 1000000) (hd : ∀ x ∈ n.l,BothC x (tk x)) (hs : ([(⟨#[123]⟩ : BA)] ++ joinT ⟨#[59]⟩ (n.l.map tk) ++ [(⟨#[125]⟩ : BA)]).length ≤ 200000) : BothC n ([(⟨#[123]⟩ : BA)] ++ joinT ⟨#[59]⟩ (n.l.map tk) ++ [(⟨#[125]⟩ : BA)]) :=
 ⟨wx_eq (item_disp DsK.d52 n _ hop (basic_block n tk hop hlen (fun x hx => (hd x hx).1))) (by simp),rx_eq (r_block n tk hop (fun x hx => (hd x hx).2.1) (by have h := hs; simp at h; omega)) (by simp),hs⟩
theorem k_assign (n : Nd) (N : Nat) (tk : Nd → List ByteArray) (hop : n.op = 30) (hnN : n.n = N) (h1 : 1 ≤ N) (hN : n.l.length = N + N) (hN6 : N ≤ 1000) (hd : ∀ x ∈ n.l,BothE x (tk x)) (hs : ((joinT ⟨#[44]⟩ ((n.l.take N).map tk) ++ [(⟨#[58,61]⟩ : BA)] ++ joinT ⟨#[44]⟩ ((n.l.drop N).map tk))).length ≤ 200000) : BothC n ((joinT ⟨#[44]⟩ ((n.l.take N).map tk) ++ [(⟨#[58,61]⟩ : BA)] ++ joinT ⟨#[44]⟩ ((n.l.drop N).map tk))) :=
 ⟨wx_eq (item_disp DsK.d30 n _ hop (basic_assign n _ hop (pairs_x (⟨#[58,61]⟩ : BA) ⟨by decide,by decide⟩ n N tk hnN h1 hN hN6 (fun x hx => both_part x _ (hd x hx))))) (by simp),rx_eq (r_assign n N tk hop hnN h1 hN hN6 (fun x hx => (hd x hx).2.2.1) (by have h := hs; simp at h ⊢; omega)) (by simp),hs⟩
theorem k_let (n : Nd) (N : Nat) (tk : Nd → List ByteArray) (hop : n.op = 54) (hnN : n.n = N) (h1 : 1 ≤ N) (hN : n.l.length = N + N) (hN6 : N ≤ 1000) (hd : ∀ x ∈ n.l,BothE x (tk x)) (hs : ([(⟨#[108,101,116]⟩ : BA)] ++ (joinT ⟨#[44]⟩ ((n.l.take N).map tk) ++ [(⟨#[61]⟩ : BA)] ++ joinT ⟨#[44]⟩ ((n.l.drop N).map tk))).length ≤ 200000) : BothC n ([(⟨#[108,101,116]⟩ : BA)] ++ (joinT ⟨#[44]⟩ ((n.l.take N).map tk) ++ [(⟨#[61]⟩ : BA)] ++ joinT ⟨#[44]⟩ ((n.l.drop N).map tk))) :=
 ⟨wx_eq (item_let n _ hop (pairs_x (⟨#[61]⟩ : BA) ⟨by decide,by decide⟩ n N tk hnN h1 hN hN6 (fun x hx => both_part x _ (hd x hx)))) (by simp),rx_eq (r_let n N tk hop hnN h1 hN hN6 (fun x hx => (hd x hx).2.2.1) (by have h := hs; simp at h ⊢; omega)) (by simp),hs⟩
def BothD (n : Nd) (A : List ByteArray) : Prop := Wx 75 ar0 n A ∧ Rx 80 mk1 n A ∧ A.length ≤ 200000
theorem d_60 (n : Nd) (tk : Nd → List ByteArray) (hop : n.op = 60) (hlen : n.l.length ≤ 1000000) (hd : ∀ x ∈ n.l,∃ e,x.l = [e] ∧ tkOk x.s ∧ BothE e (tk x)) (hs : ([(⟨#[109,97,110,105,102,101,115,116]⟩ : BA)] ++ ([(⟨#[123]⟩ : BA)] ++ joinT ⟨#[59]⟩ (n.l.map (fun x => [x.s,(⟨#[61]⟩ : BA)] ++ tk x)) ++ [(⟨#[125]⟩ : BA)])).length ≤ 200000) : BothD n ([(⟨#[109,97,110,105,102,101,115,116]⟩ : BA)] ++ ([(⟨#[123]⟩ : BA)] ++ joinT ⟨#[59]⟩ (n.l.map (fun x => [x.s,(⟨#[61]⟩ : BA)] ++ tk x)) ++ [(⟨#[125]⟩ : BA)])) :=
 ⟨wx_eq (declaration_60 n (fun x => [x.s,(⟨#[61]⟩ : BA)] ++ tk x) hop hlen (fun x hx => by
  obtain ⟨e,h1,h2,h3⟩ := hd x hx
  exact const_one (⟨#[61]⟩ : BA) ⟨by decide,by decide⟩ x e _ h1 h2 (both_part e _ h3))) (by simp),r_decl .d60 n tk hop (fun x hx => by
  obtain ⟨e,h1,h2,h3⟩ := hd x hx
  exact ⟨e,h1,h3.2.2.1⟩) (by have h := hs; rw [List.length_append,List.length_append,List.length_append] at h; omega),hs⟩
theorem d_61 (n : Nd) (tk : Nd → List ByteArray) (hop : n.op = 61) (hlen : n.l.length ≤ 1000000) (hd : ∀ x ∈ n.l,∃ e,x.l = [e] ∧ tkOk x.s ∧ BothE e (tk x)) (hs : ([(⟨#[115,116,97,116,105,99]⟩ : BA)] ++ ([(⟨#[123]⟩ : BA)] ++ joinT ⟨#[59]⟩ (n.l.map (fun x => [x.s,(⟨#[61]⟩ : BA)] ++ tk x)) ++ [(⟨#[125]⟩ : BA)])).length ≤ 200000) : BothD n ([(⟨#[115,116,97,116,105,99]⟩ : BA)] ++ ([(⟨#[123]⟩ : BA)] ++ joinT ⟨#[59]⟩ (n.l.map (fun x => [x.s,(⟨#[61]⟩ : BA)] ++ tk x)) ++ [(⟨#[125]⟩ : BA)])) :=
 ⟨wx_eq (declaration_61 n (fun x => [x.s,(⟨#[61]⟩ : BA)] ++ tk x) hop hlen (fun x hx => by
  obtain ⟨e,h1,h2,h3⟩ := hd x hx
  exact const_one (⟨#[61]⟩ : BA) ⟨by decide,by decide⟩ x e _ h1 h2 (both_part e _ h3))) (by simp),r_decl .d61 n tk hop (fun x hx => by
  obtain ⟨e,h1,h2,h3⟩ := hd x hx
  exact ⟨e,h1,h3.2.2.1⟩) (by have h := hs; rw [List.length_append,List.length_append,List.length_append] at h; omega),hs⟩
theorem d_62 (n : Nd) (tk : Nd → List ByteArray) (hop : n.op = 62) (hlen : n.l.length ≤ 1000000) (hd : ∀ x ∈ n.l,∃ e,x.l = [e] ∧ tkOk x.s ∧ BothE e (tk x)) (hs : ([(⟨#[103,108,111,98,97,108]⟩ : BA)] ++ ([(⟨#[123]⟩ : BA)] ++ joinT ⟨#[59]⟩ (n.l.map (fun x => [x.s,(⟨#[58]⟩ : BA)] ++ tk x)) ++ [(⟨#[125]⟩ : BA)])).length ≤ 200000) : BothD n ([(⟨#[103,108,111,98,97,108]⟩ : BA)] ++ ([(⟨#[123]⟩ : BA)] ++ joinT ⟨#[59]⟩ (n.l.map (fun x => [x.s,(⟨#[58]⟩ : BA)] ++ tk x)) ++ [(⟨#[125]⟩ : BA)])) :=
 ⟨wx_eq (declaration_62 n (fun x => [x.s,(⟨#[58]⟩ : BA)] ++ tk x) hop hlen (fun x hx => by
  obtain ⟨e,h1,h2,h3⟩ := hd x hx
  exact const_one (⟨#[58]⟩ : BA) ⟨by decide,by decide⟩ x e _ h1 h2 (both_part e _ h3))) (by simp),r_decl .d62 n tk hop (fun x hx => by
  obtain ⟨e,h1,h2,h3⟩ := hd x hx
  exact ⟨e,h1,h3.2.2.1⟩) (by have h := hs; rw [List.length_append,List.length_append,List.length_append] at h; omega),hs⟩
theorem d_proc_be (n bd : Nd) (ps : List Nd) (tk : Nd → List ByteArray) (B : List ByteArray) (hop : n.op = 64) (hn : n.n = 1) (hnl : n.l = ps ++ [bd]) (hlp : ps.length ≤ 1000000) (ht : tkOk n.s) (hps : ∀ x ∈ ps,BothE x (tk x)) (h : BothC bd B) (hs : ([(⟨#[108,101,116]⟩ : BA),n.s,(⟨#[40]⟩ : BA)] ++ joinT ⟨#[44]⟩ (ps.map tk) ++ [(⟨#[41]⟩ : BA)] ++ [(⟨#[98,101]⟩ : BA)] ++ B).length ≤ 200000) : BothD n ([(⟨#[108,101,116]⟩ : BA),n.s,(⟨#[40]⟩ : BA)] ++ joinT ⟨#[44]⟩ (ps.map tk) ++ [(⟨#[41]⟩ : BA)] ++ [(⟨#[98,101]⟩ : BA)] ++ B) :=
 ⟨wx_eq (decl_proc n _ hop (proc_be n bd ps tk B hn hnl hlp ht (fun x hx => both_part x _ (hps x hx)) h.1)) (by simp),rx_eq (r_proc1 n bd ps tk B hop hn hnl hlp (fun x hx => (hps x hx).2.2.1) h.2.1 (by have h := hs; simp at h ⊢; omega)) (by simp),hs⟩
theorem d_proc_eq (n bd : Nd) (ps : List Nd) (tk : Nd → List ByteArray) (B : List ByteArray) (hop : n.op = 64) (hn : n.n = 0) (hnl : n.l = ps ++ [bd]) (hlp : ps.length ≤ 1000000) (ht : tkOk n.s) (hps : ∀ x ∈ ps,BothE x (tk x)) (h : BothE bd B) (hs : ([(⟨#[108,101,116]⟩ : BA),n.s,(⟨#[40]⟩ : BA)] ++ joinT ⟨#[44]⟩ (ps.map tk) ++ [(⟨#[41]⟩ : BA)] ++ [(⟨#[61]⟩ : BA)] ++ B).length ≤ 200000) : BothD n ([(⟨#[108,101,116]⟩ : BA),n.s,(⟨#[40]⟩ : BA)] ++ joinT ⟨#[44]⟩ (ps.map tk) ++ [(⟨#[41]⟩ : BA)] ++ [(⟨#[61]⟩ : BA)] ++ B) :=
 ⟨wx_eq (decl_proc2 n _ hop (proc_eq n bd ps tk B hn hnl hlp ht (fun x hx => both_part x _ (hps x hx)) (both_part bd B h))) (by simp),rx_eq (r_proc0 n bd ps tk B hop hn hnl hlp (fun x hx => (hps x hx).2.2.1) h.2.2.1 (by have h := hs; simp at h ⊢; omega)) (by simp),hs⟩
end Go.Proofs.YtbaelbafhdjlnaaGreatDoor
