/- A part of the proof that the law ParsePrints holds for every input. -/
import Derived.Test.YtbaelbafhdjlnaaGreatDoorZ1
import Derived.Test.YtbaelbafhdjlnaaGreatDoorN6
import Derived.Test.YtbaelbafhdjlnaaGreatDoorM8
namespace Go.Proofs.YtbaelbafhdjlnaaGreatDoor
open Go.RowKit _root_.Go.Proofs.Tryz
set_option linter.unusedVariables false
set_option linter.unusedSimpArgs false
set_option maxRecDepth 100000
set_option maxHeartbeats 4000000
def tkS (s : ByteArray) : Prop := tkG s ∧ s.size ≤ 300
def Ts (A : List ByteArray) : Prop := ∀ s ∈ A,tkS s
theorem tkS.ok {s : ByteArray} (h : tkS s) : tkOk s := ⟨h.1.1,h.1.2.1⟩
theorem tkS.of {s : ByteArray} (h0 : 0 < s.size) (h1 : s.size ≤ 300) (h2 : bt s (s.size - 1) ≠ 10) : tkS s := ⟨⟨h0,by omega,h2⟩,h1⟩
theorem tkS.lit {s : ByteArray} (h : (decide (0 < s.size) && decide (s.size ≤ 300) && decide (bt s (s.size - 1) ≠ 10)) = true) : tkS s := by
 simp only [Bool.and_eq_true,decide_eq_true_eq] at h
 exact .of h.1.1 h.1.2 h.2
theorem ts_nil : Ts [] := fun s h => by cases h
theorem ts_cons {s : ByteArray} {A : List ByteArray} (h : tkS s) (k : Ts A) : Ts (s :: A) := fun x hx => by
 rcases List.mem_cons.1 hx with rfl | hx
 ·exact h
 ·exact k x hx
theorem ts_app {A B : List ByteArray} (h : Ts A) (k : Ts B) : Ts (A ++ B) := fun x hx => by
 rcases List.mem_append.1 hx with hx | hx
 ·exact h x hx
 ·exact k x hx
theorem ts_par {A : List ByteArray} (L : Int) (n : Nd) (h : Ts A) : Ts (par L n A) := by
 unfold par; split
 ·exact h
 ·exact ts_app (ts_app (ts_cons (.lit rfl) ts_nil) h) (ts_cons (.lit rfl) ts_nil)
theorem ts_parF {A : List ByteArray} (n : Nd) (h : Ts A) : Ts (parF n A) := by
 unfold parF; split
 ·exact h
 ·exact ts_app (ts_app (ts_cons (.lit rfl) ts_nil) h) (ts_cons (.lit rfl) ts_nil)
theorem par_len (L : Int) (n : Nd) (A : List ByteArray) : (par L n A).length ≤ A.length + 2 := by
 unfold par; split
 ·omega
 ·simp only [List.length_append,List.length_cons,List.length_nil]; omega
theorem parF_len (n : Nd) (A : List ByteArray) : (parF n A).length ≤ A.length + 2 := by
 unfold parF; split
 ·omega
 ·simp only [List.length_append,List.length_cons,List.length_nil]; omega
theorem ts_join {s : ByteArray} (hs : tkS s) : ∀ {L : List (List ByteArray)},(∀ A ∈ L,Ts A) → Ts (joinT s L)
 | [],_ => ts_nil
 | [x],h => h x (by simp)
 | x :: y :: r,h => ts_app (ts_app (h x (by simp)) (ts_cons hs ts_nil)) (ts_join hs (fun A hA => h A (List.mem_cons_of_mem _ hA)))
theorem ts_joinm {s : ByteArray} (hs : tkS s) (l : List Nd) (tk : Nd → List ByteArray) (h : ∀ x ∈ l,Ts (tk x)) : Ts (joinT s (l.map tk)) :=
 ts_join hs (fun A hA => by obtain ⟨x,hx,rfl⟩ := List.mem_map.1 hA; exact h x hx)
theorem nds_mem {t : Nd} : ∀ {l : List Nd},t ∈ l → ndsN t ≤ ndsL l
 | x :: r,h => by
  rw [ndsL]
  rcases List.mem_cons.1 h with rfl | h
  ·omega
  ·have := nds_mem h; omega
theorem nds_len : ∀ l : List Nd,l.length ≤ ndsL l
 | [] => by simp
 | t :: r => by
  have := nds_len r
  rw [ndsL,List.length_cons,ndsN_eq]
  omega
theorem nds_app : ∀ a b : List Nd,ndsL (a ++ b) = ndsL a + ndsL b
 | [],b => by simp [ndsL]
 | t :: r,b => by rw [List.cons_append,ndsL,ndsL,nds_app r b]; omega
theorem join_len (s : ByteArray) (tk : Nd → List ByteArray) : ∀ l : List Nd,(∀ x ∈ l,(tk x).length + 3 ≤ 9 * ndsN x) → (joinT s (l.map tk)).length ≤ 9 * ndsL l
 | [],_ => by simp [joinT]
 | [x],h => by
  have h1 := h x (by simp)
  simp only [List.map_cons,List.map_nil,joinT,ndsL]; omega
 | x :: y :: r,h => by
  have h1 := h x (by simp)
  have h2 := join_len s tk (y :: r) (fun z hz => h z (List.mem_cons_of_mem _ hz))
  rw [ndsL]
  simp only [List.map_cons,joinT,List.length_append,List.length_cons,List.length_nil] at h2 ⊢
  omega
theorem gr_mem {t : Nd} : ∀ {l : List Nd},t ∈ l → grL l = false → grN t = false
 | x :: r,h,hg => by
  rw [grL,Bool.or_eq_false_iff] at hg
  rcases List.mem_cons.1 h with rfl | h
  ·exact hg.1
  ·exact gr_mem h hg.2
theorem nds1 {t a : Nd} (h : t.l = [a]) : ndsN t = 1 + ndsN a := by rw [ndsN_eq,h]; simp [ndsL]
theorem nds2 {t a b : Nd} (h : t.l = [a,b]) : ndsN t = 1 + (ndsN a + ndsN b) := by rw [ndsN_eq,h]; simp [ndsL]
theorem nds3 {t a b c : Nd} (h : t.l = [a,b,c]) : ndsN t = 1 + (ndsN a + (ndsN b + ndsN c)) := by rw [ndsN_eq,h]; simp [ndsL]
theorem nds4 {t a b c d : Nd} (h : t.l = [a,b,c,d]) : ndsN t = 1 + (ndsN a + (ndsN b + (ndsN c + ndsN d))) := by rw [ndsN_eq,h]; simp [ndsL]
theorem ts_num {n : Int} (h1 : -2147483648 ≤ n) (h2 : n ≤ 2147483647) : tkS (num n).t := by
 unfold num
 rw [if_neg (by omega)]
 split
 ·rename_i h
  have hp := dec_pos n.toNat
  refine .of hp (Nat.le_trans (dec_short 10 n.toNat (by omega) (by omega)) (by omega)) ?_
  have := dec_bt n.toNat ((dec n.toNat).size - 1) (by omega)
  show bt (dec n.toNat) ((dec n.toNat).size - 1) ≠ 10
  omega
 ·have hs : (ofL (hex8 (n + 4294967296).toNat)).size = 8 := by rw [ofL_size]; rfl
  refine .of ?_ ?_ ?_
  ·show 0 < (_ ++ _ : ByteArray).size; rw [ByteArray.size_append]; omega
  ·show (_ ++ _ : ByteArray).size ≤ 300; rw [ByteArray.size_append,hs]; decide
  ·show bt (_ ++ _) ((_ ++ _ : ByteArray).size - 1) ≠ 10
   rw [bt_right _ _ (by omega),hs,hex_bt _ 7 (by omega)]
   unfold hx; split <;> omega
theorem ts_quo {s : ByteArray} (h : (quo s).e = 0) : tkS (quo s).t ∧ s.size ≤ 2000000 := by
 unfold quo at h ⊢
 split at h
 ·exact absurd h (by decide)
 ·split at h
  ·exact absurd h (by decide)
  ·rename_i h1 h2
   rw [if_neg h1,if_neg h2]
   have hq := qk_len s s.size
   have hsz : (ofL (qk s s.size ++ [34])).size = (qk s s.size).length + 1 := by rw [ofL_size,List.length_append]; rfl
   refine ⟨.of ?_ ?_ ?_,by omega⟩
   ·show 0 < (ofL _).size; omega
   ·show (ofL _).size ≤ 300; omega
   ·show bt (ofL _) ((ofL _).size - 1) ≠ 10
    rw [hsz,Nat.add_sub_cancel]
    have hlt : (qk s s.size).length < (qk s s.size ++ [34]).length := by rw [List.length_append]; show _ < _ + 1; omega
    have hgv : (qk s s.size ++ [34])[(qk s s.size).length] = 34 := by simp
    rw [bt_ofL _ _ hlt (by rw [hgv]; omega),hgv]
    decide
theorem ts_name {s : ByteArray} (h : isNm s = true) : tkS s := by
 have h := of_decide_eq_true h
 refine .of h.1 (by omega) ?_
 have hp := h.2.2.2.1 (s.size - 1) (by omega)
 intro e
 rw [e] at hp
 exact absurd hp (by decide)
theorem hasK0 {l : List Nd} (h : hasK (okL l) [] = true) : l = [] := by
 cases l with
 | nil => rfl
 | cons x r => simp [okL,hasK] at h
theorem hasK1 {l : List Nd} {k : Pr} (h : hasK (okL l) [k] = true) : ∃ a,l = [a] ∧ okP a k = true := by
 match l,h with
 | [],h => simp [okL,hasK] at h
 | x :: r,h =>
  rw [okL,hasK,Bool.and_eq_true] at h
  exact ⟨x,by rw [hasK0 h.2],h.1⟩
theorem hasK2 {l : List Nd} {k q : Pr} (h : hasK (okL l) [k,q] = true) : ∃ a b,l = [a,b] ∧ okP a k = true ∧ okP b q = true := by
 match l,h with
 | [],h => simp [okL,hasK] at h
 | x :: r,h =>
  rw [okL,hasK,Bool.and_eq_true] at h
  obtain ⟨b,rfl,hb⟩ := hasK1 h.2
  exact ⟨x,b,rfl,h.1,hb⟩
theorem hasK3 {l : List Nd} {k q p : Pr} (h : hasK (okL l) [k,q,p] = true) : ∃ a b c,l = [a,b,c] ∧ okP a k = true ∧ okP b q = true ∧ okP c p = true := by
 match l,h with
 | [],h => simp [okL,hasK] at h
 | x :: r,h =>
  rw [okL,hasK,Bool.and_eq_true] at h
  obtain ⟨b,c,rfl,hb⟩ := hasK2 h.2
  exact ⟨x,b,c,rfl,h.1,hb⟩
theorem hasK4 {l : List Nd} {k q p u : Pr} (h : hasK (okL l) [k,q,p,u] = true) : ∃ a b c d,l = [a,b,c,d] ∧ okP a k = true ∧ okP b q = true ∧ okP c p = true ∧ okP d u = true := by
 match l,h with
 | [],h => simp [okL,hasK] at h
 | x :: r,h =>
  rw [okL,hasK,Bool.and_eq_true] at h
  obtain ⟨b,c,d,rfl,hb⟩ := hasK3 h.2
  exact ⟨x,b,c,d,rfl,h.1,hb⟩
theorem allK_mem {l : List Nd} {k : Pr} (h : allK (okL l) k = true) : ∀ x ∈ l,okP x k = true := by
 intro x hx
 unfold allK at h
 rw [okL_map,List.all_map] at h
 exact List.all_eq_true.1 h x hx
theorem name_expr {t : Nd} (h : okP t .name = true) : okP t .expr = true := by
 rw [okP_eq] at h ⊢
 have h : nameR t.op t.n t.s (okL t.l) = true := h
 show exprR t.op t.n t.s (okL t.l) = true
 have ho : t.op = 6 := by unfold nameR at h; simp only [Bool.and_eq_true,decide_eq_true_eq] at h; exact h.1.1
 unfold exprR
 rw [if_neg (by omega),if_neg (by omega),if_pos ho]
 exact h
theorem call_expr {t : Nd} (h : okP t .call = true) : okP t .expr = true := by
 rw [okP_eq] at h ⊢
 have h : callR t.op t.n t.s (okL t.l) = true := h
 show exprR t.op t.n t.s (okL t.l) = true
 unfold callR at h
 rw [Bool.and_eq_true] at h
 exact h.2
theorem rep_op {o n : Int} {s : ByteArray} {ps : PL} (h : repR o n s ps = true) : o = 30 ∨ o = 31 ∨ o = 52 ∨ o = 44 ∨ o = 45 ∨ o = 46 ∨ o = 47 ∨ o = 51 ∨ o = 48 ∨ o = 49 ∨ o = 37 ∨ o = 38 ∨ o = 39 := by
 unfold repR at h
 repeat' split at h
 all_goals first | omega | exact absurd h (by decide)
theorem cmd_op {o n : Int} {s : ByteArray} {ps : PL} (h : cmdR o n s ps = true) : (o = 40 ∨ o = 50 ∨ o = 32 ∨ o = 33 ∨ o = 35 ∨ o = 36 ∨ o = 42 ∨ o = 34 ∨ o = 41 ∨ o = 43 ∨ o = 53) ∨ repR o n s ps = true := by
 unfold cmdR at h
 repeat' split at h
 all_goals first | (left; omega) | exact .inr h
theorem rep_cmd {o n : Int} {s : ByteArray} {ps : PL} (h : repR o n s ps = true) : cmdR o n s ps = true := by
 have ho := rep_op h
 unfold cmdR
 rw [if_neg (by omega),if_neg (by omega),if_neg (by omega),if_neg (by omega),if_neg (by omega),if_neg (by omega),if_neg (by omega)]
 exact h
theorem cmd_item {o n : Int} {s : ByteArray} {ps : PL} (h : cmdR o n s ps = true) : itemR o n s ps = true := by
 have ho : o ≠ 54 ∧ o ≠ 55 := by
  rcases cmd_op h with h | h
  ·omega
  ·have := rep_op h; omega
 unfold itemR
 rw [if_neg (by omega),if_neg (by omega)]
 exact h
theorem p_cmd_item {t : Nd} (h : okP t .cmd = true) : okP t .item = true := by
 rw [okP_eq] at h ⊢; exact cmd_item h
theorem p_rep_item {t : Nd} (h : okP t .rep = true) : okP t .item = true := by
 rw [okP_eq] at h ⊢; exact cmd_item (rep_cmd h)
theorem p_block_item {t : Nd} (h : okP t .block = true) : okP t .item = true := by
 rw [okP_eq] at h ⊢
 have h : blockR t.op t.n t.s (okL t.l) = true := h
 refine cmd_item (rep_cmd ?_)
 have ho : t.op = 52 := by unfold blockR at h; simp only [Bool.and_eq_true,decide_eq_true_eq] at h; exact h.1.1
 unfold repR
 rw [if_neg (by omega),if_neg (by omega),if_pos ho]
 exact h
def GE (n : Nd) (A : List ByteArray) : Prop := BothE n A ∧ Ts A ∧ A.length + 3 ≤ 9 * ndsN n
def GC (n : Nd) (A : List ByteArray) : Prop := BothC n A ∧ Ts A ∧ A.length + 3 ≤ 9 * ndsN n
theorem ge_mk {n : Nd} {A : List ByteArray} (hb : A.length ≤ 200000 → BothE n A) (ht : Ts A) (hl : A.length + 3 ≤ 9 * ndsN n) (hn : ndsN n ≤ 20400) : ∃ A,GE n A := ⟨A,hb (by omega),ht,hl⟩
theorem gc_mk {n : Nd} {A : List ByteArray} (hb : A.length ≤ 200000 → BothC n A) (ht : Ts A) (hl : A.length + 3 ≤ 9 * ndsN n) (hn : ndsN n ≤ 20400) : ∃ A,GC n A := ⟨A,hb (by omega),ht,hl⟩
theorem pick {P : Nd → List ByteArray → Prop} {l : List Nd} (h : ∀ x ∈ l,∃ A,P x A) : ∃ tk : Nd → List ByteArray,∀ x ∈ l,P x (tk x) := by
 classical
 refine ⟨fun x => if h' : ∃ A,P x A then h'.choose else [],fun x hx => ?_⟩
 have h' := h x hx
 simp only [dif_pos h']
 exact h'.choose_spec
theorem pairs_of {n : Int} {l : List Nd} {k : Pr} (h : pairsK n (okL l) k = true) : ∃ N : Nat,n = N ∧ 1 ≤ N ∧ l.length = N + N ∧ (∀ x ∈ l.take N,okP x k = true) ∧ (∀ x ∈ l.drop N,okP x .expr = true) := by
 unfold pairsK at h
 simp only [Bool.and_eq_true,decide_eq_true_eq] at h
 obtain ⟨⟨⟨⟨h1,h2⟩,h3⟩,h4⟩,h5⟩ := h
 rw [okL_len] at h2 h3
 rw [okL_len] at h4 h5
 rw [okL_take] at h4
 rw [okL_drop] at h5
 exact ⟨l.length / 2,h2,by omega,by omega,allK_mem h4,allK_mem h5⟩
theorem in_pairs {l : List Nd} (N : Nat) {x : Nd} (h : x ∈ l) : x ∈ l.take N ∨ x ∈ l.drop N := by
 rw [← List.take_append_drop N l] at h
 exact List.mem_append.1 h
theorem g_expr (t : Nd) (hn : ndsN t ≤ 20400) (hg : grN t = false) (IE : ∀ x ∈ t.l,okP x .expr = true → ∃ A,GE x A) (IB : ∀ x ∈ t.l,okP x .block = true → ∃ A,GC x A) (h : okP t .expr = true) : ∃ A,GE t A := by
 rw [okP_eq] at h
 replace h : exprR t.op t.n t.s (okL t.l) = true := h
 have hmost : t.l.length ≤ 1000000 := by have := nds_len t.l; have := ndsN_eq t; omega
 have hnd := ndsN_eq t
 unfold exprR at h
 by_cases hop : t.op = 1
 ·rw [if_pos hop] at h
  simp only [Bool.and_eq_true,decide_eq_true_eq] at h
  obtain ⟨⟨⟨_,h1⟩,h2⟩,h3⟩ := h
  have ht := ts_num h1 h2
  exact ge_mk (fun _ => e_num t hop ⟨by omega,by omega⟩ ⟨by omega,by omega⟩ ht.ok) (ts_cons ht ts_nil) (by simp only [List.length_cons,List.length_nil]; omega) hn
 rw [if_neg hop] at h
 clear hop
 by_cases hop : t.op = 2
 ·rw [if_pos hop] at h
  simp only [Bool.and_eq_true,decide_eq_true_eq,qtb] at h
  have ht := ts_quo h.1.1
  exact ge_mk (fun _ => e_str t hop ht.2 ht.1.ok) (ts_cons ht.1 ts_nil) (by simp only [List.length_cons,List.length_nil]; omega) hn
 rw [if_neg hop] at h
 clear hop
 by_cases hop : t.op = 6
 ·rw [if_pos hop] at h
  simp only [Bool.and_eq_true,decide_eq_true_eq,nameR,named] at h
  have ht := ts_name h.1.2.1
  exact ge_mk (fun _ => e_name t hop ht.ok) (ts_cons ht ts_nil) (by simp only [List.length_cons,List.length_nil]; omega) hn
 rw [if_neg hop] at h
 clear hop
 by_cases hop : t.op = 12
 ·rw [if_pos hop] at h
  simp only [Bool.and_eq_true,decide_eq_true_eq] at h
  obtain ⟨⟨⟨_,h1⟩,h2⟩,h3⟩ := h
  obtain ⟨c0,c1,hl,hk0,hk1⟩ := hasK2 h3
  obtain ⟨A0,g0⟩ := IE c0 (by rw [hl]; simp) hk0
  obtain ⟨A1,g1⟩ := IE c1 (by rw [hl]; simp) hk1
  have hnn := nds2 hl
  have l0 := g0.2.2
  have l1 := g1.2.2
  have hb : t.n = 1 ∨ t.n = 2 ∨ t.n = 3 ∨ t.n = 4 ∨ t.n = 5 ∨ t.n = 6 ∨ t.n = 7 ∨ t.n = 8 ∨ t.n = 9 ∨ t.n = 10 ∨ t.n = 11 ∨ t.n = 12 ∨ t.n = 13 ∨ t.n = 14 ∨ t.n = 15 ∨ t.n = 16 ∨ t.n = 17 := by omega
  rcases hb with hv | hv | hv | hv | hv | hv | hv | hv | hv | hv | hv | hv | hv | hv | hv | hv | hv
  ·exact ge_mk (fun hs => e_bin_1 t c0 c1 A0 A1 hop hv hl g0.1 g1.1 hs) (ts_app (ts_app (ts_par _ _ g0.2.1) (ts_cons (.lit rfl) ts_nil)) (ts_par _ _ g1.2.1)) (by have p0 := par_len 8 c0 A0; have p1 := par_len 9 c1 A1; simp only [List.length_append,List.length_cons,List.length_nil]; omega) hn
  ·exact ge_mk (fun hs => e_bin_2 t c0 c1 A0 A1 hop hv hl g0.1 g1.1 hs) (ts_app (ts_app (ts_par _ _ g0.2.1) (ts_cons (.lit rfl) ts_nil)) (ts_par _ _ g1.2.1)) (by have p0 := par_len 8 c0 A0; have p1 := par_len 9 c1 A1; simp only [List.length_append,List.length_cons,List.length_nil]; omega) hn
  ·exact ge_mk (fun hs => e_bin_3 t c0 c1 A0 A1 hop hv hl g0.1 g1.1 hs) (ts_app (ts_app (ts_par _ _ g0.2.1) (ts_cons (.lit rfl) ts_nil)) (ts_par _ _ g1.2.1)) (by have p0 := par_len 8 c0 A0; have p1 := par_len 9 c1 A1; simp only [List.length_append,List.length_cons,List.length_nil]; omega) hn
  ·exact ge_mk (fun hs => e_bin_4 t c0 c1 A0 A1 hop hv hl g0.1 g1.1 hs) (ts_app (ts_app (ts_par _ _ g0.2.1) (ts_cons (.lit rfl) ts_nil)) (ts_par _ _ g1.2.1)) (by have p0 := par_len 7 c0 A0; have p1 := par_len 8 c1 A1; simp only [List.length_append,List.length_cons,List.length_nil]; omega) hn
  ·exact ge_mk (fun hs => e_bin_5 t c0 c1 A0 A1 hop hv hl g0.1 g1.1 hs) (ts_app (ts_app (ts_par _ _ g0.2.1) (ts_cons (.lit rfl) ts_nil)) (ts_par _ _ g1.2.1)) (by have p0 := par_len 7 c0 A0; have p1 := par_len 8 c1 A1; simp only [List.length_append,List.length_cons,List.length_nil]; omega) hn
  ·exact ge_mk (fun hs => e_bin_6 t c0 c1 A0 A1 hop hv hl g0.1 g1.1 hs) (ts_app (ts_app (ts_par _ _ g0.2.1) (ts_cons (.lit rfl) ts_nil)) (ts_par _ _ g1.2.1)) (by have p0 := par_len 6 c0 A0; have p1 := par_len 7 c1 A1; simp only [List.length_append,List.length_cons,List.length_nil]; omega) hn
  ·exact ge_mk (fun hs => e_bin_7 t c0 c1 A0 A1 hop hv hl g0.1 g1.1 hs) (ts_app (ts_app (ts_par _ _ g0.2.1) (ts_cons (.lit rfl) ts_nil)) (ts_par _ _ g1.2.1)) (by have p0 := par_len 6 c0 A0; have p1 := par_len 7 c1 A1; simp only [List.length_append,List.length_cons,List.length_nil]; omega) hn
  ·exact ge_mk (fun hs => e_bin_8 t c0 c1 A0 A1 hop hv hl g0.1 g1.1 hs) (ts_app (ts_app (ts_par _ _ g0.2.1) (ts_cons (.lit rfl) ts_nil)) (ts_par _ _ g1.2.1)) (by have p0 := par_len 3 c0 A0; have p1 := par_len 4 c1 A1; simp only [List.length_append,List.length_cons,List.length_nil]; omega) hn
  ·exact ge_mk (fun hs => e_bin_9 t c0 c1 A0 A1 hop hv hl g0.1 g1.1 hs) (ts_app (ts_app (ts_par _ _ g0.2.1) (ts_cons (.lit rfl) ts_nil)) (ts_par _ _ g1.2.1)) (by have p0 := par_len 2 c0 A0; have p1 := par_len 3 c1 A1; simp only [List.length_append,List.length_cons,List.length_nil]; omega) hn
  ·exact ge_mk (fun hs => e_bin_10 t c0 c1 A0 A1 hop hv hl g0.1 g1.1 hs) (ts_app (ts_app (ts_par _ _ g0.2.1) (ts_cons (.lit rfl) ts_nil)) (ts_par _ _ g1.2.1)) (by have p0 := par_len 1 c0 A0; have p1 := par_len 2 c1 A1; simp only [List.length_append,List.length_cons,List.length_nil]; omega) hn
  ·exact ge_mk (fun hs => e_bin_11 t c0 c1 A0 A1 hop hv hl g0.1 g1.1 hs) (ts_app (ts_app (ts_par _ _ g0.2.1) (ts_cons (.lit rfl) ts_nil)) (ts_par _ _ g1.2.1)) (by have p0 := par_len 1 c0 A0; have p1 := par_len 2 c1 A1; simp only [List.length_append,List.length_cons,List.length_nil]; omega) hn
  ·exact ge_mk (fun hs => e_bin_12 t c0 c1 A0 A1 hop hv hl g0.1 g1.1 hs) (ts_app (ts_app (ts_par _ _ g0.2.1) (ts_cons (.lit rfl) ts_nil)) (ts_par _ _ g1.2.1)) (by have p0 := par_len 6 c0 A0; have p1 := par_len 6 c1 A1; simp only [List.length_append,List.length_cons,List.length_nil]; omega) hn
  ·exact ge_mk (fun hs => e_bin_13 t c0 c1 A0 A1 hop hv hl g0.1 g1.1 hs) (ts_app (ts_app (ts_par _ _ g0.2.1) (ts_cons (.lit rfl) ts_nil)) (ts_par _ _ g1.2.1)) (by have p0 := par_len 6 c0 A0; have p1 := par_len 6 c1 A1; simp only [List.length_append,List.length_cons,List.length_nil]; omega) hn
  ·exact ge_mk (fun hs => e_bin_14 t c0 c1 A0 A1 hop hv hl g0.1 g1.1 hs) (ts_app (ts_app (ts_par _ _ g0.2.1) (ts_cons (.lit rfl) ts_nil)) (ts_par _ _ g1.2.1)) (by have p0 := par_len 6 c0 A0; have p1 := par_len 6 c1 A1; simp only [List.length_append,List.length_cons,List.length_nil]; omega) hn
  ·exact ge_mk (fun hs => e_bin_15 t c0 c1 A0 A1 hop hv hl g0.1 g1.1 hs) (ts_app (ts_app (ts_par _ _ g0.2.1) (ts_cons (.lit rfl) ts_nil)) (ts_par _ _ g1.2.1)) (by have p0 := par_len 6 c0 A0; have p1 := par_len 6 c1 A1; simp only [List.length_append,List.length_cons,List.length_nil]; omega) hn
  ·exact ge_mk (fun hs => e_bin_16 t c0 c1 A0 A1 hop hv hl g0.1 g1.1 hs) (ts_app (ts_app (ts_par _ _ g0.2.1) (ts_cons (.lit rfl) ts_nil)) (ts_par _ _ g1.2.1)) (by have p0 := par_len 6 c0 A0; have p1 := par_len 6 c1 A1; simp only [List.length_append,List.length_cons,List.length_nil]; omega) hn
  ·exact ge_mk (fun hs => e_bin_17 t c0 c1 A0 A1 hop hv hl g0.1 g1.1 hs) (ts_app (ts_app (ts_par _ _ g0.2.1) (ts_cons (.lit rfl) ts_nil)) (ts_par _ _ g1.2.1)) (by have p0 := par_len 6 c0 A0; have p1 := par_len 6 c1 A1; simp only [List.length_append,List.length_cons,List.length_nil]; omega) hn
 rw [if_neg hop] at h
 clear hop
 by_cases hop : t.op = 13
 ·rw [if_pos hop] at h
  simp only [Bool.and_eq_true,Bool.or_eq_true,decide_eq_true_eq] at h
  obtain ⟨⟨_,h1⟩,h3⟩ := h
  obtain ⟨c0,hl,hk0⟩ := hasK1 h3
  obtain ⟨A0,g0⟩ := IE c0 (by rw [hl]; simp) hk0
  have hnn := nds1 hl
  have l0 := g0.2.2
  rcases h1 with hv | hv
  ·exact ge_mk (fun hs => e_neg t c0 A0 hop hv hl g0.1 hs) (ts_app (ts_cons (.lit rfl) ts_nil) (ts_par _ _ g0.2.1)) (by have p0 := par_len 8 c0 A0; simp only [List.length_append,List.length_cons,List.length_nil]; omega) hn
  ·exact ge_mk (fun hs => e_not t c0 A0 hop hv hl g0.1 hs) (ts_app (ts_cons (.lit rfl) ts_nil) (ts_par _ _ g0.2.1)) (by have p0 := par_len 4 c0 A0; simp only [List.length_append,List.length_cons,List.length_nil]; omega) hn
 rw [if_neg hop] at h
 clear hop
 rw [Bool.and_eq_true] at h
 obtain ⟨hbare,h⟩ := h
 have hn0 : t.n = 0 := by simp only [bare,Bool.and_eq_true,decide_eq_true_eq] at hbare; exact hbare.2
 unfold plainR at h
 by_cases hop : t.op = 3 ∨ t.op = 4 ∨ t.op = 5
 ·rcases hop with hop | hop | hop
  ·exact ge_mk (fun _ => e_true t hop) (ts_cons (.lit rfl) ts_nil) (by simp only [List.length_cons,List.length_nil]; omega) hn
  ·exact ge_mk (fun _ => e_false t hop) (ts_cons (.lit rfl) ts_nil) (by simp only [List.length_cons,List.length_nil]; omega) hn
  ·exact ge_mk (fun _ => e_any t hop) (ts_cons (.lit rfl) ts_nil) (by simp only [List.length_cons,List.length_nil]; omega) hn
 rw [if_neg hop] at h
 clear hop
 by_cases hop : t.op = 7 ∨ t.op = 16
 ·rw [if_pos hop] at h
  simp only [someK,Bool.and_eq_true,decide_eq_true_eq,okL_len] at h
  obtain ⟨tk,htk⟩ := pick (fun x hx => IE x hx (allK_mem h.2 x hx))
  rcases hop with hop | hop
  ·obtain ⟨x,r,hl⟩ : ∃ x r,t.l = x :: r := by
    cases hc : t.l with
    | nil => rw [hc] at h; exact absurd h.1 (by decide)
    | cons x r => exact ⟨x,r,rfl⟩
   rw [hl] at htk
   have g0 := htk x (by simp)
   have gr := fun y hy => htk y (List.mem_cons_of_mem x hy)
   have hjl := join_len ⟨#[44]⟩ tk r (fun y hy => (gr y hy).2.2)
   have hjt := ts_joinm (s := ⟨#[44]⟩) (.lit rfl) r tk (fun y hy => (gr y hy).2.1)
   have hnn : ndsN t = 1 + (ndsN x + ndsL r) := by rw [ndsN_eq,hl,ndsL]
   have l0 := g0.2.2
   have hrl : r.length ≤ 1000000 := by have := nds_len r; omega
   exact ge_mk (fun hs => e_call t x r tk (tk x) hop hl hrl g0.1 (fun y hy => (gr y hy).1) hs) (ts_app (ts_parF _ g0.2.1) (ts_app (ts_app (ts_cons (.lit rfl) ts_nil) hjt) (ts_cons (.lit rfl) ts_nil))) (by have p0 := parF_len x (tk x); simp only [List.length_append,List.length_cons,List.length_nil]; omega) hn
  ·have hjl := join_len ⟨#[44]⟩ tk t.l (fun y hy => (htk y hy).2.2)
   have hjt := ts_joinm (s := ⟨#[44]⟩) (.lit rfl) t.l tk (fun y hy => (htk y hy).2.1)
   exact ge_mk (fun hs => e_table t tk hop hmost (fun y hy => (htk y hy).1) hs) (ts_app (ts_cons (.lit rfl) ts_nil) (ts_app (ts_app (ts_cons (.lit rfl) ts_nil) hjt) (ts_cons (.lit rfl) ts_nil))) (by simp only [List.length_append,List.length_cons,List.length_nil]; omega) hn
 rw [if_neg hop] at h
 clear hop
 by_cases hop : t.op = 8 ∨ t.op = 9 ∨ t.op = 17
 ·rw [if_pos hop] at h
  obtain ⟨c0,c1,hl,hk0,hk1⟩ := hasK2 h
  obtain ⟨A0,g0⟩ := IE c0 (by rw [hl]; simp) hk0
  obtain ⟨A1,g1⟩ := IE c1 (by rw [hl]; simp) hk1
  have hnn := nds2 hl
  have l0 := g0.2.2
  have l1 := g1.2.2
  have p0 := par_len 9 c0 A0
  have p1 := par_len 10 c1 A1
  rcases hop with hop | hop | hop
  ·exact ge_mk (fun hs => e_sub t c0 c1 A0 A1 hop hn0 hl g0.1 g1.1 hs) (ts_app (ts_app (ts_par _ _ g0.2.1) (ts_cons (.lit rfl) ts_nil)) (ts_par _ _ g1.2.1)) (by simp only [List.length_append,List.length_cons,List.length_nil]; omega) hn
  ·exact ge_mk (fun hs => e_byte t c0 c1 A0 A1 hop hn0 hl g0.1 g1.1 hs) (ts_app (ts_app (ts_par _ _ g0.2.1) (ts_cons (.lit rfl) ts_nil)) (ts_par _ _ g1.2.1)) (by simp only [List.length_append,List.length_cons,List.length_nil]; omega) hn
  ·exact ge_mk (fun hs => e_sel t c0 c1 A0 A1 hop hn0 hl g0.1 g1.1 hs) (ts_app (ts_app (ts_par _ _ g0.2.1) (ts_cons (.lit rfl) ts_nil)) (ts_par _ _ g1.2.1)) (by simp only [List.length_append,List.length_cons,List.length_nil]; omega) hn
 rw [if_neg hop] at h
 clear hop
 by_cases hop : t.op = 10 ∨ t.op = 11
 ·rw [if_pos hop] at h
  obtain ⟨c0,hl,hk0⟩ := hasK1 h
  obtain ⟨A0,g0⟩ := IE c0 (by rw [hl]; simp) hk0
  have hnn := nds1 hl
  have l0 := g0.2.2
  have p0 := par_len 10 c0 A0
  rcases hop with hop | hop
  ·exact ge_mk (fun hs => e_load t c0 A0 hop hl g0.1 hs) (ts_app (ts_cons (.lit rfl) ts_nil) (ts_par _ _ g0.2.1)) (by simp only [List.length_append,List.length_cons,List.length_nil]; omega) hn
  ·exact ge_mk (fun hs => e_addr t c0 A0 hop hl g0.1 hs) (ts_app (ts_cons (.lit rfl) ts_nil) (ts_par _ _ g0.2.1)) (by simp only [List.length_append,List.length_cons,List.length_nil]; omega) hn
 rw [if_neg hop] at h
 clear hop
 by_cases hop : t.op = 14 ∨ t.op = 18
 ·rw [if_pos hop] at h
  obtain ⟨c0,c1,c2,hl,hk0,hk1,hk2⟩ := hasK3 h
  have hnn := nds3 hl
  obtain ⟨tk,htk⟩ := pick (l := t.l) (fun x hx => IE x hx (by rw [hl] at hx; simp at hx; rcases hx with rfl | rfl | rfl <;> assumption))
  have htl := htk
  rw [hl] at htk
  have g0 := htk c0 (by simp)
  have g1 := htk c1 (by simp)
  have g2 := htk c2 (by simp)
  have l0 := g0.2.2
  have l1 := g1.2.2
  have l2 := g2.2.2
  rcases hop with hop | hop
  ·exact ge_mk (fun hs => e_cond t c0 c1 c2 tk (tk c0) hop hl g0.1 g1.1 g2.1 hs) (ts_app (ts_app (ts_app (ts_app (ts_par _ _ g0.2.1) (ts_cons (.lit rfl) ts_nil)) g1.2.1) (ts_cons (.lit rfl) ts_nil)) g2.2.1) (by have p0 := par_len 1 c0 (tk c0); simp only [List.length_append,List.length_cons,List.length_nil]; omega) hn
  ·have hjl := join_len ⟨#[44]⟩ tk t.l (fun y hy => (htl y hy).2.2)
   have hjt := ts_joinm (s := ⟨#[44]⟩) (.lit rfl) t.l tk (fun y hy => (htl y hy).2.1)
   exact ge_mk (fun hs => e_slct t tk hop hmost (fun y hy => (htl y hy).1) hs) (ts_app (ts_cons (.lit rfl) ts_nil) (ts_app (ts_app (ts_cons (.lit rfl) ts_nil) hjt) (ts_cons (.lit rfl) ts_nil))) (by simp only [List.length_append,List.length_cons,List.length_nil]; omega) hn
 rw [if_neg hop] at h
 clear hop
 by_cases hop : t.op = 15
 ·rw [if_pos hop] at h
  obtain ⟨c0,hl,hk0⟩ := hasK1 h
  obtain ⟨A0,g0⟩ := IB c0 (by rw [hl]; simp) hk0
  have hnn := nds1 hl
  have l0 := g0.2.2
  exact ge_mk (fun hs => e_valof t c0 A0 hop hl g0.1 hs) (ts_app (ts_cons (.lit rfl) ts_nil) g0.2.1) (by simp only [List.length_append,List.length_cons,List.length_nil]; omega) hn
 rw [if_neg hop] at h
 exact absurd h (by decide)
theorem g_rep (t : Nd) (hn : ndsN t ≤ 20400) (hg : grN t = false) (IE : ∀ x ∈ t.l,okP x .expr = true → ∃ A,GE x A) (IC : ∀ x ∈ t.l,okP x .item = true → ∃ A,GC x A) (h : repR t.op t.n t.s (okL t.l) = true) : ∃ A,GC t A := by
 have hmost : t.l.length ≤ 1000000 := by have := nds_len t.l; have := ndsN_eq t; omega
 have hnd := ndsN_eq t
 unfold repR at h
 by_cases hop : t.op = 30
 ·rw [if_pos hop,Bool.and_eq_true] at h
  obtain ⟨N,hnN,h1,hN,hk0,hk1⟩ := pairs_of h.2
  have hN6 : N ≤ 1000 := by
   rw [grN_eq,Bool.or_eq_false_iff] at hg
   have := of_decide_eq_false hg.1
   rw [hop] at this
   simp [mostN] at this
   omega
  obtain ⟨tk,htk⟩ := pick (l := t.l) (fun x hx => IE x hx (by rcases in_pairs N hx with h | h; exact hk0 x h; exact hk1 x h))
  have hj0 := join_len ⟨#[44]⟩ tk (t.l.take N) (fun y hy => (htk y (List.mem_of_mem_take hy)).2.2)
  have hj1 := join_len ⟨#[44]⟩ tk (t.l.drop N) (fun y hy => (htk y (List.mem_of_mem_drop hy)).2.2)
  have ht0 := ts_joinm (s := ⟨#[44]⟩) (.lit rfl) (t.l.take N) tk (fun y hy => (htk y (List.mem_of_mem_take hy)).2.1)
  have ht1 := ts_joinm (s := ⟨#[44]⟩) (.lit rfl) (t.l.drop N) tk (fun y hy => (htk y (List.mem_of_mem_drop hy)).2.1)
  have hnn : ndsL t.l = ndsL (t.l.take N) + ndsL (t.l.drop N) := by rw [← nds_app,List.take_append_drop]
  exact gc_mk (fun hs => k_assign t N tk hop hnN h1 hN hN6 (fun x hx => (htk x hx).1) hs) (ts_app (ts_app ht0 (ts_cons (.lit rfl) ts_nil)) ht1) (by simp only [List.length_append,List.length_cons,List.length_nil]; omega) hn
 rw [if_neg hop] at h
 clear hop
 by_cases hop : t.op = 31
 ·rw [if_pos hop,Bool.and_eq_true] at h
  obtain ⟨c0,hl,hk0⟩ := hasK1 h.2
  obtain ⟨A0,g0⟩ := IE c0 (by rw [hl]; simp) (call_expr hk0)
  have hnn := nds1 hl
  have l0 := g0.2.2
  exact gc_mk (fun hs => k_ccall t c0 A0 hop hl g0.1 hs) g0.2.1 (by omega) hn
 rw [if_neg hop] at h
 clear hop
 by_cases hop : t.op = 52
 ·rw [if_pos hop] at h
  simp only [blockR,someK,Bool.and_eq_true] at h
  obtain ⟨tk,htk⟩ := pick (l := t.l) (fun x hx => IC x hx (allK_mem h.2.2 x hx))
  have hj0 := join_len ⟨#[59]⟩ tk t.l (fun y hy => (htk y hy).2.2)
  have ht0 := ts_joinm (s := ⟨#[59]⟩) (.lit rfl) t.l tk (fun y hy => (htk y hy).2.1)
  exact gc_mk (fun hs => k_block t tk hop hmost (fun x hx => (htk x hx).1) hs) (ts_app (ts_app (ts_cons (.lit rfl) ts_nil) ht0) (ts_cons (.lit rfl) ts_nil)) (by simp only [List.length_append,List.length_cons,List.length_nil]; omega) hn
 rw [if_neg hop] at h
 clear hop
 by_cases hop : t.op = 44 ∨ t.op = 45 ∨ t.op = 46 ∨ t.op = 47 ∨ t.op = 51
 ·rcases hop with hop | hop | hop | hop | hop
  ·exact gc_mk (fun _ => k_break t hop) (ts_cons (.lit rfl) ts_nil) (by simp only [List.length_cons,List.length_nil]; omega) hn
  ·exact gc_mk (fun _ => k_loop t hop) (ts_cons (.lit rfl) ts_nil) (by simp only [List.length_cons,List.length_nil]; omega) hn
  ·exact gc_mk (fun _ => k_endcase t hop) (ts_cons (.lit rfl) ts_nil) (by simp only [List.length_cons,List.length_nil]; omega) hn
  ·exact gc_mk (fun _ => k_return t hop) (ts_cons (.lit rfl) ts_nil) (by simp only [List.length_cons,List.length_nil]; omega) hn
  ·exact gc_mk (fun _ => k_finish t hop) (ts_cons (.lit rfl) ts_nil) (by simp only [List.length_cons,List.length_nil]; omega) hn
 rw [if_neg hop] at h
 clear hop
 by_cases hop : t.op = 48
 ·rw [if_pos hop,Bool.and_eq_true] at h
  obtain ⟨c0,hl,hk0⟩ := hasK1 h.2
  obtain ⟨A0,g0⟩ := IE c0 (by rw [hl]; simp) hk0
  have hnn := nds1 hl
  have l0 := g0.2.2
  exact gc_mk (fun hs => k_result t c0 A0 hop hl g0.1 hs) (ts_app (ts_cons (.lit rfl) ts_nil) g0.2.1) (by simp only [List.length_append,List.length_cons,List.length_nil]; omega) hn
 rw [if_neg hop] at h
 clear hop
 by_cases hop : t.op = 49
 ·rw [if_pos hop] at h
  simp only [named,Bool.and_eq_true] at h
  have ht := ts_name h.1.1
  exact gc_mk (fun _ => k_goto t hop ht.ok) (ts_cons (.lit rfl) (ts_cons ht ts_nil)) (by simp only [List.length_cons,List.length_nil]; omega) hn
 rw [if_neg hop] at h
 clear hop
 by_cases hop : t.op = 37
 ·rw [if_pos hop,Bool.and_eq_true] at h
  obtain ⟨c0,hl,hk0⟩ := hasK1 h.2
  obtain ⟨A0,g0⟩ := IC c0 (by rw [hl]; simp) (p_rep_item hk0)
  have hnn := nds1 hl
  have l0 := g0.2.2
  exact gc_mk (fun hs => k_repeat t c0 A0 hop hl g0.1 hs) (ts_app g0.2.1 (ts_cons (.lit rfl) ts_nil)) (by simp only [List.length_append,List.length_cons,List.length_nil]; omega) hn
 rw [if_neg hop] at h
 clear hop
 by_cases hop : t.op = 38 ∨ t.op = 39
 ·rw [if_pos hop,Bool.and_eq_true] at h
  obtain ⟨c0,c1,hl,hk0,hk1⟩ := hasK2 h.2
  obtain ⟨A0,g0⟩ := IC c0 (by rw [hl]; simp) (p_rep_item hk0)
  obtain ⟨A1,g1⟩ := IE c1 (by rw [hl]; simp) hk1
  have hnn := nds2 hl
  have l0 := g0.2.2
  have l1 := g1.2.2
  rcases hop with hop | hop
  ·exact gc_mk (fun hs => k_repwh t c0 c1 A0 A1 hop hl g0.1 g1.1 hs) (ts_app (ts_app g0.2.1 (ts_cons (.lit rfl) ts_nil)) g1.2.1) (by simp only [List.length_append,List.length_cons,List.length_nil]; omega) hn
  ·exact gc_mk (fun hs => k_repun t c0 c1 A0 A1 hop hl g0.1 g1.1 hs) (ts_app (ts_app g0.2.1 (ts_cons (.lit rfl) ts_nil)) g1.2.1) (by simp only [List.length_append,List.length_cons,List.length_nil]; omega) hn
 rw [if_neg hop] at h
 exact absurd h (by decide)
theorem g_for (t : Nd) (hn : ndsN t ≤ 20400) (hop : t.op = 40) (IE : ∀ x ∈ t.l,okP x .expr = true → ∃ A,GE x A) (IC : ∀ x ∈ t.l,okP x .item = true → ∃ A,GC x A) (h : forR t.n t.s (okL t.l) = true) : ∃ A,GC t A := by
 unfold forR at h
 rw [Bool.and_eq_true] at h
 have ht := ts_name h.1
 have h := h.2
 split at h
 ·rename_i hv
  obtain ⟨c0,c1,c2,hl,hk0,hk1,hk2⟩ := hasK3 h
  obtain ⟨A0,g0⟩ := IE c0 (by rw [hl]; simp) hk0
  obtain ⟨A1,g1⟩ := IE c1 (by rw [hl]; simp) hk1
  obtain ⟨A2,g2⟩ := IC c2 (by rw [hl]; simp) (p_cmd_item hk2)
  have hnn := nds3 hl
  have l0 := g0.2.2
  have l1 := g1.2.2
  have l2 := g2.2.2
  exact gc_mk (fun hs => k_for0 t c0 c1 c2 A0 A1 A2 hop hv hl ht.ok g0.1 g1.1 g2.1 hs) (ts_app (ts_app (ts_app (ts_app (ts_app (ts_cons (.lit rfl) (ts_cons ht (ts_cons (.lit rfl) ts_nil))) g0.2.1) (ts_cons (.lit rfl) ts_nil)) g1.2.1) (ts_cons (.lit rfl) ts_nil)) g2.2.1) (by simp only [List.length_append,List.length_cons,List.length_nil]; omega) hn
 ·split at h
  ·rename_i hv
   obtain ⟨c0,c1,c2,c3,hl,hk0,hk1,hk2,hk3⟩ := hasK4 h
   obtain ⟨A0,g0⟩ := IE c0 (by rw [hl]; simp) hk0
   obtain ⟨A1,g1⟩ := IE c1 (by rw [hl]; simp) hk1
   obtain ⟨A2,g2⟩ := IE c2 (by rw [hl]; simp) hk2
   obtain ⟨A3,g3⟩ := IC c3 (by rw [hl]; simp) (p_cmd_item hk3)
   have hnn := nds4 hl
   have l0 := g0.2.2
   have l1 := g1.2.2
   have l2 := g2.2.2
   have l3 := g3.2.2
   exact gc_mk (fun hs => k_for1 t c0 c1 c2 c3 A0 A1 A2 A3 hop hv hl ht.ok g0.1 g1.1 g2.1 g3.1 hs) (ts_app (ts_app (ts_app (ts_app (ts_app (ts_app (ts_app (ts_cons (.lit rfl) (ts_cons ht (ts_cons (.lit rfl) ts_nil))) g0.2.1) (ts_cons (.lit rfl) ts_nil)) g1.2.1) (ts_cons (.lit rfl) ts_nil)) g2.2.1) (ts_cons (.lit rfl) ts_nil)) g3.2.1) (by simp only [List.length_append,List.length_cons,List.length_nil]; omega) hn
  ·exact absurd h (by decide)
theorem g_item (t : Nd) (hn : ndsN t ≤ 20400) (hg : grN t = false) (IE : ∀ x ∈ t.l,okP x .expr = true → ∃ A,GE x A) (IC : ∀ x ∈ t.l,okP x .item = true → ∃ A,GC x A) (h : okP t .item = true) : ∃ A,GC t A := by
 rw [okP_eq] at h
 replace h : itemR t.op t.n t.s (okL t.l) = true := h
 have hmost : t.l.length ≤ 1000000 := by have := nds_len t.l; have := ndsN_eq t; omega
 have hnd := ndsN_eq t
 unfold itemR at h
 by_cases hop : t.op = 54
 ·rw [if_pos hop,Bool.and_eq_true] at h
  obtain ⟨N,hnN,h1,hN,hk0,hk1⟩ := pairs_of h.2
  have hN6 : N ≤ 1000 := by
   rw [grN_eq,Bool.or_eq_false_iff] at hg
   have := of_decide_eq_false hg.1
   rw [hop] at this
   simp [mostN] at this
   omega
  obtain ⟨tk,htk⟩ := pick (l := t.l) (fun x hx => IE x hx (by rcases in_pairs N hx with h | h; exact name_expr (hk0 x h); exact hk1 x h))
  have hj0 := join_len ⟨#[44]⟩ tk (t.l.take N) (fun y hy => (htk y (List.mem_of_mem_take hy)).2.2)
  have hj1 := join_len ⟨#[44]⟩ tk (t.l.drop N) (fun y hy => (htk y (List.mem_of_mem_drop hy)).2.2)
  have ht0 := ts_joinm (s := ⟨#[44]⟩) (.lit rfl) (t.l.take N) tk (fun y hy => (htk y (List.mem_of_mem_take hy)).2.1)
  have ht1 := ts_joinm (s := ⟨#[44]⟩) (.lit rfl) (t.l.drop N) tk (fun y hy => (htk y (List.mem_of_mem_drop hy)).2.1)
  have hnn : ndsL t.l = ndsL (t.l.take N) + ndsL (t.l.drop N) := by rw [← nds_app,List.take_append_drop]
  exact gc_mk (fun hs => k_let t N tk hop hnN h1 hN hN6 (fun x hx => (htk x hx).1) hs) (ts_app (ts_cons (.lit rfl) ts_nil) (ts_app (ts_app ht0 (ts_cons (.lit rfl) ts_nil)) ht1)) (by simp only [List.length_append,List.length_cons,List.length_nil]; omega) hn
 rw [if_neg hop] at h
 clear hop
 by_cases hop : t.op = 55
 ·rw [if_pos hop] at h
  simp only [named,Bool.and_eq_true] at h
  have ht := ts_name h.1.1
  obtain ⟨c0,hl,hk0⟩ := hasK1 h.2
  obtain ⟨A0,g0⟩ := IE c0 (by rw [hl]; simp) hk0
  have hnn := nds1 hl
  have l0 := g0.2.2
  exact gc_mk (fun hs => k_vec t c0 A0 hop hl ht.ok g0.1 hs) (ts_app (ts_cons (.lit rfl) (ts_cons ht (ts_cons (.lit rfl) (ts_cons (.lit rfl) ts_nil)))) g0.2.1) (by simp only [List.length_append,List.length_cons,List.length_nil]; omega) hn
 rw [if_neg hop] at h
 clear hop
 unfold cmdR at h
 by_cases hop : t.op = 40
 ·rw [if_pos hop] at h
  exact g_for t hn hop IE IC h
 rw [if_neg hop] at h
 clear hop
 by_cases hop : t.op = 50
 ·rw [if_pos hop] at h
  simp only [named,Bool.and_eq_true] at h
  have ht := ts_name h.1.1
  obtain ⟨c0,hl,hk0⟩ := hasK1 h.2
  obtain ⟨A0,g0⟩ := IC c0 (by rw [hl]; simp) (p_cmd_item hk0)
  have hnn := nds1 hl
  have l0 := g0.2.2
  exact gc_mk (fun hs => k_label t c0 A0 hop hl ht.ok g0.1 hs) (ts_app (ts_cons ht (ts_cons (.lit rfl) ts_nil)) g0.2.1) (by simp only [List.length_append,List.length_cons,List.length_nil]; omega) hn
 rw [if_neg hop] at h
 clear hop
 by_cases hop : t.op = 32 ∨ t.op = 33 ∨ t.op = 35 ∨ t.op = 36 ∨ t.op = 42
 ·rw [if_pos hop,Bool.and_eq_true] at h
  obtain ⟨c0,c1,hl,hk0,hk1⟩ := hasK2 h.2
  obtain ⟨A0,g0⟩ := IE c0 (by rw [hl]; simp) hk0
  obtain ⟨A1,g1⟩ := IC c1 (by rw [hl]; simp) (p_cmd_item hk1)
  have hnn := nds2 hl
  have l0 := g0.2.2
  have l1 := g1.2.2
  have hts : ∀ a b : ByteArray,tkS a → tkS b → Ts ([a] ++ A0 ++ [b] ++ A1) := fun a b ha hb => ts_app (ts_app (ts_app (ts_cons ha ts_nil) g0.2.1) (ts_cons hb ts_nil)) g1.2.1
  rcases hop with hop | hop | hop | hop | hop
  ·exact gc_mk (fun hs => k_if t c0 c1 A0 A1 hop hl g0.1 g1.1 hs) (hts _ _ (.lit rfl) (.lit rfl)) (by simp only [List.length_append,List.length_cons,List.length_nil]; omega) hn
  ·exact gc_mk (fun hs => k_unless t c0 c1 A0 A1 hop hl g0.1 g1.1 hs) (hts _ _ (.lit rfl) (.lit rfl)) (by simp only [List.length_append,List.length_cons,List.length_nil]; omega) hn
  ·exact gc_mk (fun hs => k_while t c0 c1 A0 A1 hop hl g0.1 g1.1 hs) (hts _ _ (.lit rfl) (.lit rfl)) (by simp only [List.length_append,List.length_cons,List.length_nil]; omega) hn
  ·exact gc_mk (fun hs => k_until t c0 c1 A0 A1 hop hl g0.1 g1.1 hs) (hts _ _ (.lit rfl) (.lit rfl)) (by simp only [List.length_append,List.length_cons,List.length_nil]; omega) hn
  ·exact gc_mk (fun hs => k_case t c0 c1 A0 A1 hop hl g0.1 g1.1 hs) (hts _ _ (.lit rfl) (.lit rfl)) (by simp only [List.length_append,List.length_cons,List.length_nil]; omega) hn
 rw [if_neg hop] at h
 clear hop
 by_cases hop : t.op = 34
 ·rw [if_pos hop,Bool.and_eq_true] at h
  obtain ⟨c0,c1,c2,hl,hk0,hk1,hk2⟩ := hasK3 h.2
  obtain ⟨A0,g0⟩ := IE c0 (by rw [hl]; simp) hk0
  obtain ⟨A1,g1⟩ := IC c1 (by rw [hl]; simp) (p_cmd_item hk1)
  obtain ⟨A2,g2⟩ := IC c2 (by rw [hl]; simp) (p_cmd_item hk2)
  have hnn := nds3 hl
  have l0 := g0.2.2
  have l1 := g1.2.2
  have l2 := g2.2.2
  exact gc_mk (fun hs => k_test t c0 c1 c2 A0 A1 A2 hop hl g0.1 g1.1 g2.1 hs) (ts_app (ts_app (ts_app (ts_app (ts_app (ts_cons (.lit rfl) ts_nil) g0.2.1) (ts_cons (.lit rfl) ts_nil)) g1.2.1) (ts_cons (.lit rfl) ts_nil)) g2.2.1) (by simp only [List.length_append,List.length_cons,List.length_nil]; omega) hn
 rw [if_neg hop] at h
 clear hop
 by_cases hop : t.op = 41
 ·rw [if_pos hop,Bool.and_eq_true] at h
  obtain ⟨c0,c1,hl,hk0,hk1⟩ := hasK2 h.2
  obtain ⟨A0,g0⟩ := IE c0 (by rw [hl]; simp) hk0
  obtain ⟨A1,g1⟩ := IC c1 (by rw [hl]; simp) (p_block_item hk1)
  have hnn := nds2 hl
  have l0 := g0.2.2
  have l1 := g1.2.2
  exact gc_mk (fun hs => k_switch t c0 c1 A0 A1 hop hl g0.1 g1.1 hs) (ts_app (ts_app (ts_app (ts_cons (.lit rfl) ts_nil) g0.2.1) (ts_cons (.lit rfl) ts_nil)) g1.2.1) (by simp only [List.length_append,List.length_cons,List.length_nil]; omega) hn
 rw [if_neg hop] at h
 clear hop
 by_cases hop : t.op = 43
 ·rw [if_pos hop,Bool.and_eq_true] at h
  obtain ⟨c0,hl,hk0⟩ := hasK1 h.2
  obtain ⟨A0,g0⟩ := IC c0 (by rw [hl]; simp) (p_cmd_item hk0)
  have hnn := nds1 hl
  have l0 := g0.2.2
  exact gc_mk (fun hs => k_default t c0 A0 hop hl g0.1 hs) (ts_app (ts_cons (.lit rfl) (ts_cons (.lit rfl) ts_nil)) g0.2.1) (by simp only [List.length_append,List.length_cons,List.length_nil]; omega) hn
 rw [if_neg hop] at h
 clear hop
 by_cases hop : t.op = 53
 ·exact gc_mk (fun _ => k_null t hop) ts_nil (by simp only [List.length_nil]; omega) hn
 rw [if_neg hop] at h
 exact g_rep t hn hg IE IC h
theorem g_all : ∀ (m : Nat) (t : Nd),t.bulk ≤ m → ndsN t ≤ 20400 → grN t = false → (okP t .expr = true → ∃ A,GE t A) ∧ (okP t .item = true → ∃ A,GC t A) := by
 intro m
 induction m using Nat.strongRecOn with
 | _ m ih =>
  intro t hb hn hg
  have hsub : ∀ x ∈ t.l,(okP x .expr = true → ∃ A,GE x A) ∧ (okP x .item = true → ∃ A,GC x A) := fun x hx => by
   have h1 := bulks_mem hx
   have h2 := t.bulk_eq
   have h3 := nds_mem hx
   have h4 := ndsN_eq t
   rw [grN_eq,Bool.or_eq_false_iff] at hg
   exact ih x.bulk (by omega) x (Nat.le_refl _) (by omega) (gr_mem hx hg.2)
  exact ⟨fun h => g_expr t hn hg (fun x hx => (hsub x hx).1) (fun x hx hk => (hsub x hx).2 (p_block_item hk)) h,fun h => g_item t hn hg (fun x hx => (hsub x hx).1) (fun x hx => (hsub x hx).2) h⟩
def GD (n : Nd) (A : List ByteArray) : Prop := BothD n A ∧ Ts A ∧ A.length + 3 ≤ 9 * ndsN n
theorem gd_mk {n : Nd} {A : List ByteArray} (hb : A.length ≤ 200000 → BothD n A) (ht : Ts A) (hl : A.length + 3 ≤ 9 * ndsN n) (hn : ndsN n ≤ 20400) : ∃ A,GD n A := ⟨A,hb (by omega),ht,hl⟩
theorem g_decl (t : Nd) (hn : ndsN t ≤ 20400) (hg : grN t = false) (h : okP t .decl = true) : ∃ A,GD t A := by
 rw [okP_eq] at h
 replace h : declR t.op t.n t.s (okL t.l) = true := h
 have hmost : t.l.length ≤ 1000000 := by have := nds_len t.l; have := ndsN_eq t; omega
 have hnd := ndsN_eq t
 have hgl : grL t.l = false := by rw [grN_eq,Bool.or_eq_false_iff] at hg; exact hg.2
 have hall : ∀ x ∈ t.l,(okP x .expr = true → ∃ A,GE x A) ∧ (okP x .item = true → ∃ A,GC x A) := fun x hx => by
  have h3 := nds_mem hx
  exact g_all x.bulk x (Nat.le_refl _) (by omega) (gr_mem hx hgl)
 unfold declR at h
 by_cases hop : t.op = 60 ∨ t.op = 61 ∨ t.op = 62
 ·rw [if_pos hop,Bool.and_eq_true] at h
  obtain ⟨tk,htk⟩ := pick (P := fun x A => ∃ e,x.l = [e] ∧ tkS x.s ∧ GE e A) (l := t.l) (fun x hx => by
   have hc := allK_mem h.2 x hx
   rw [okP_eq] at hc
   have hc : constR x.op x.n x.s (okL x.l) = true := hc
   simp only [constR,named,Bool.and_eq_true] at hc
   obtain ⟨e,hl,hk⟩ := hasK1 hc.2
   have h3 := nds_mem hx
   have h4 := nds1 hl
   have hgx := gr_mem hx hgl
   rw [grN_eq,Bool.or_eq_false_iff] at hgx
   obtain ⟨A,hA⟩ := (g_all e.bulk e (Nat.le_refl _) (by omega) (gr_mem (by rw [hl]; simp) hgx.2)).1 hk
   exact ⟨A,e,hl,ts_name hc.1.2.1,hA⟩)
  have hdd : ∀ x ∈ t.l,∃ e,x.l = [e] ∧ tkOk x.s ∧ BothE e (tk x) := fun x hx => by
   obtain ⟨e,h1,h2,h3⟩ := htk x hx
   exact ⟨e,h1,h2.ok,h3.1⟩
  have hlen : ∀ b : ByteArray,∀ x ∈ t.l,((fun x : Nd => [x.s,b] ++ tk x) x).length + 3 ≤ 9 * ndsN x := fun b x hx => by
   obtain ⟨e,h1,h2,h3⟩ := htk x hx
   have := nds1 h1
   have := h3.2.2
   simp only [List.length_append,List.length_cons,List.length_nil]
   omega
  have hts : ∀ b : ByteArray,tkS b → ∀ x ∈ t.l,Ts ((fun x : Nd => [x.s,b] ++ tk x) x) := fun b hb x hx => by
   obtain ⟨e,h1,h2,h3⟩ := htk x hx
   exact ts_app (ts_cons h2 (ts_cons hb ts_nil)) h3.2.1
  rcases hop with hop | hop | hop
  ·have hj := join_len ⟨#[59]⟩ (fun x : Nd => [x.s,(⟨#[61]⟩ : BA)] ++ tk x) t.l (hlen _)
   have ht := ts_joinm (s := ⟨#[59]⟩) (.lit rfl) t.l (fun x : Nd => [x.s,(⟨#[61]⟩ : BA)] ++ tk x) (hts _ (.lit rfl))
   exact gd_mk (fun hs => d_60 t tk hop hmost hdd hs) (ts_app (ts_cons (.lit rfl) ts_nil) (ts_app (ts_app (ts_cons (.lit rfl) ts_nil) ht) (ts_cons (.lit rfl) ts_nil))) (by rw [List.length_append,List.length_append,List.length_append]; simp only [List.length_cons,List.length_nil]; omega) hn
  ·have hj := join_len ⟨#[59]⟩ (fun x : Nd => [x.s,(⟨#[61]⟩ : BA)] ++ tk x) t.l (hlen _)
   have ht := ts_joinm (s := ⟨#[59]⟩) (.lit rfl) t.l (fun x : Nd => [x.s,(⟨#[61]⟩ : BA)] ++ tk x) (hts _ (.lit rfl))
   exact gd_mk (fun hs => d_61 t tk hop hmost hdd hs) (ts_app (ts_cons (.lit rfl) ts_nil) (ts_app (ts_app (ts_cons (.lit rfl) ts_nil) ht) (ts_cons (.lit rfl) ts_nil))) (by rw [List.length_append,List.length_append,List.length_append]; simp only [List.length_cons,List.length_nil]; omega) hn
  ·have hj := join_len ⟨#[59]⟩ (fun x : Nd => [x.s,(⟨#[58]⟩ : BA)] ++ tk x) t.l (hlen _)
   have ht := ts_joinm (s := ⟨#[59]⟩) (.lit rfl) t.l (fun x : Nd => [x.s,(⟨#[58]⟩ : BA)] ++ tk x) (hts _ (.lit rfl))
   exact gd_mk (fun hs => d_62 t tk hop hmost hdd hs) (ts_app (ts_cons (.lit rfl) ts_nil) (ts_app (ts_app (ts_cons (.lit rfl) ts_nil) ht) (ts_cons (.lit rfl) ts_nil))) (by rw [List.length_append,List.length_append,List.length_append]; simp only [List.length_cons,List.length_nil]; omega) hn
 rw [if_neg hop] at h
 clear hop
 by_cases hop : t.op = 64
 ·rw [if_pos hop] at h
  unfold procK at h
  simp only [Bool.and_eq_true,decide_eq_true_eq,okL_len] at h
  obtain ⟨⟨⟨h1,h2⟩,h3⟩,h4⟩ := h
  rw [okL_take] at h3
  have hnm := ts_name h1
  obtain ⟨bd,hbd⟩ : ∃ bd,t.l[t.l.length - 1]? = some bd := ⟨_,List.getElem?_eq_getElem (by omega)⟩
  have hl : t.l = t.l.take (t.l.length - 1) ++ [bd] := by
   have e := List.take_append_drop (t.l.length - 1) t.l
   have e2 : t.l.drop (t.l.length - 1) = [bd] := by
    rw [drop1 hbd,List.drop_eq_nil_of_le (by omega)]
   rw [e2] at e
   exact e.symm
  obtain ⟨ps,hps⟩ : ∃ ps,ps = t.l.take (t.l.length - 1) := ⟨_,rfl⟩
  rw [← hps] at hl h3
  have hmem : ∀ x ∈ ps,x ∈ t.l := fun x hx => by rw [hl]; exact List.mem_append_left _ hx
  have hbm : bd ∈ t.l := by rw [hl]; simp
  obtain ⟨tk,htk⟩ := pick (l := ps) (fun x hx => (hall x (hmem x hx)).1 (name_expr (allK_mem h3 x hx)))
  have hj := join_len ⟨#[44]⟩ tk ps (fun y hy => (htk y hy).2.2)
  have ht := ts_joinm (s := ⟨#[44]⟩) (.lit rfl) ps tk (fun y hy => (htk y hy).2.1)
  have hlp : ps.length ≤ 1000000 := by
   have : ps.length ≤ t.l.length := by rw [hps]; exact List.length_take_le' _ _
   omega
  have hnn : ndsN t = 1 + (ndsL ps + ndsN bd) := by
   rw [ndsN_eq]
   have : ndsL t.l = ndsL (ps ++ [bd]) := by rw [← hl]
   rw [this,nds_app]
   simp [ndsL]
  split at h4
  ·rename_i hv
   rw [lastK_some _ hbd] at h4
   obtain ⟨B,g0⟩ := (hall bd hbm).1 h4
   have l0 := g0.2.2
   exact gd_mk (fun hs => d_proc_eq t bd ps tk B hop hv hl hlp hnm.ok (fun x hx => (htk x hx).1) g0.1 hs) (ts_app (ts_app (ts_app (ts_app (ts_cons (.lit rfl) (ts_cons hnm (ts_cons (.lit rfl) ts_nil))) ht) (ts_cons (.lit rfl) ts_nil)) (ts_cons (.lit rfl) ts_nil)) g0.2.1) (by simp only [List.length_append,List.length_cons,List.length_nil]; omega) hn
  ·split at h4
   ·rename_i hv
    rw [lastK_some _ hbd] at h4
    obtain ⟨B,g0⟩ := (hall bd hbm).2 (p_cmd_item h4)
    have l0 := g0.2.2
    exact gd_mk (fun hs => d_proc_be t bd ps tk B hop hv hl hlp hnm.ok (fun x hx => (htk x hx).1) g0.1 hs) (ts_app (ts_app (ts_app (ts_app (ts_cons (.lit rfl) (ts_cons hnm (ts_cons (.lit rfl) ts_nil))) ht) (ts_cons (.lit rfl) ts_nil)) (ts_cons (.lit rfl) ts_nil)) g0.2.1) (by simp only [List.length_append,List.length_cons,List.length_nil]; omega) hn
   ·exact absurd h4 (by decide)
 rw [if_neg hop] at h
 exact absurd h (by decide)
end Go.Proofs.YtbaelbafhdjlnaaGreatDoor
