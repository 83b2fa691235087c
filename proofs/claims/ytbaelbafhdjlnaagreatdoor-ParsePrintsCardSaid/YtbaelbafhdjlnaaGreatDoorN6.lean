/- A part of the proof that the law ParsePrints holds for every input. -/
import Derived.Test.YtbaelbafhdjlnaaGreatDoorM6
namespace Go.Proofs.YtbaelbafhdjlnaaGreatDoor
open Go.RowKit _root_.Go.Proofs.Tryz
set_option linter.unusedVariables false
set_option linter.unusedSimpArgs false
set_option maxRecDepth 100000
set_option maxHeartbeats 8000000
theorem two_eq {n : Int} {len : Nat} (h1 : 1 ≤ n) (hn : wf64 n) (hl : len ≤ 9223372036854775807) : ((len : Int) == IntKind.i64.wrap (2 * n)) = decide ((len : Int) = 2 * n) := by
 unfold wf64 at hn
 by_cases h : 2 * n ≤ 9223372036854775807
 ·rw [IntWalk.i64_in _ (by omega)]
  by_cases he : (len : Int) = 2 * n
  ·rw [decide_eq_true he,beq_iff_eq]; exact he
  ·rw [decide_eq_false he,beq_eq_false_iff_ne]; exact he
 ·have hw : IntKind.i64.wrap (2 * n) = 2 * n - 18446744073709551616 := by
   simp only [IntKind.wrap,IntKind.signed,IntKind.bits]
   simp
   omega
  rw [hw,decide_eq_false (by omega),beq_eq_false_iff_ne]
  omega
theorem pairs_alt (n : Int) (ps : PL) (k : Pr) : pairsK n ps k = (decide (1 ≤ n) && decide ((ps.length : Int) = 2 * n) && allK (ps.take (ps.length / 2)) k && allK (ps.drop (ps.length / 2)) .expr) := by
 unfold pairsK
 by_cases h1 : 1 ≤ n
 ·by_cases h2 : (ps.length : Int) = 2 * n
  ·rw [decide_eq_true (show 0 < n by omega),decide_eq_true (show n = ((ps.length / 2 : Nat) : Int) by omega),decide_eq_true (show ps.length % 2 = 0 by omega),decide_eq_true h1,decide_eq_true h2]
   rfl
  ·rw [decide_eq_true h1,decide_eq_false h2,decide_eq_true (show 0 < n by omega)]
   by_cases h3 : n = ((ps.length / 2 : Nat) : Int)
   ·rw [decide_eq_false (show ¬ ps.length % 2 = 0 by omega)]; simp
   ·rw [decide_eq_false h3]; simp
 ·rw [decide_eq_false h1,decide_eq_false (show ¬ 0 < n by omega)]; simp
theorem pairs_expr (n : Int) (ps : PL) : pairsK n ps .expr = (decide (1 ≤ n) && decide ((ps.length : Int) = 2 * n) && allK ps .expr) := by
 rw [pairs_alt,Bool.and_assoc]
 congr 1
 unfold allK
 rw [← List.all_append,List.take_append_drop]
theorem call_one {w : World} {b0 : Option Addr} {len cap : Nat} {l : List Nd} (h : LN w (.slice b0 len cap) l) (hk : hasK (okL l) [.expr] = true) :
 ∃ (b off : Nat) (q : Int),b0 = some ⟨b,off,none⟩ ∧ l.length = 1 ∧ w.cell? ⟨b,off,none⟩ = some (.int .i64 q) ∧ hasK (okL l) [.call] = decide (q = 7) := by
 match l,hk,h with
 | [],hk,_ => rw [okL] at hk; simp [hasK] at hk
 | t :: u :: r,hk,_ => rw [okL,okL] at hk; simp [hasK] at hk
 | [t],hk,h =>
  obtain ⟨b,off,lv,e,hc,_⟩ := h.at_ (i := 0) (t := t) rfl
  have h0 := hc.op
  rw [Nat.zero_mul,Nat.add_zero] at h0
  refine ⟨b,off,t.op,e,rfl,h0,?_⟩
  rw [okL,okL] at hk ⊢
  simp only [hasK,Bool.and_true] at hk ⊢
  rw [okP_eq] at hk ⊢
  show callR _ _ _ _ = _
  unfold callR
  rw [show exprR t.op t.n t.s (okL t.l) = true from hk,Bool.and_true]
theorem call_none {l : List Nd} (hk : hasK (okL l) [.expr] = false) : hasK (okL l) [.call] = false := by
 match l,hk with
 | [],hk => rw [okL]; rfl
 | t :: u :: r,hk => rw [okL,okL]; simp [hasK]
 | [t],hk =>
  rw [okL,okL] at hk ⊢
  simp only [hasK,Bool.and_true] at hk ⊢
  rw [okP_eq] at hk ⊢
  show callR _ _ _ _ = _
  unfold callR
  rw [show exprR t.op t.n t.s (okL t.l) = false from hk,Bool.and_false]
theorem formedCommand_of (t : Nd) (lt : Value) (w : World) (hlt : LN w lt t.l) (hs : t.s.size ≤ 2000000) (hn64 : wf64 t.n) (hq : RQ w t.l) :
 Calls prog 251 #[ndV t lt] w fun e w' => e = .returned (.bool (cmdR t.op t.n t.s (okL t.l))) ∧ Fr w w' := by
 obtain ⟨o,n,s,l,a⟩ := t
 have hlt : LN w lt l := hlt
 have hs : s.size ≤ 2000000 := hs
 have hn64 : wf64 n := hn64
 have hq : RQ w l := hq
 show Calls _ _ #[.agg #[.int .i64 o,.int .i64 n,.string s,lt,.int .i64 a]] w fun e w' => e = .returned (.bool (cmdR o n s (okL l))) ∧ Fr w w'
 obtain ⟨b0,cap,rfl,hcap,hcm,_⟩ := hlt.form
 obtain ⟨len,hlen⟩ : ∃ x,x = l.length := ⟨_,rfl⟩
 rw [← hlen] at hlt ⊢
 obtain ⟨P,hP⟩ : ∃ x,x = okL l := ⟨_,rfl⟩
 rw [← hP]
 have CZ00 : Hid (∀ W,Fr w W → Calls prog 252 #[.agg #[.int .i64 o,.int .i64 n,.string s,.slice b0 len cap,.int .i64 a],.bool false,.bool false] W fun e w' => e = .returned (.bool (bare n s)) ∧ Fr W w') := h_ (fun W h => zero00_any ⟨o,n,s,l,a⟩ (.slice b0 len cap) W)
 have CZ10 : Hid (∀ W,Fr w W → Calls prog 252 #[.agg #[.int .i64 o,.int .i64 n,.string s,.slice b0 len cap,.int .i64 a],.bool true,.bool false] W fun e w' => e = .returned (.bool (empS s)) ∧ Fr W w') := h_ (fun W h => zero10_any ⟨o,n,s,l,a⟩ (.slice b0 len cap) W)
 have CZ01 : Hid (∀ W,Fr w W → Calls prog 252 #[.agg #[.int .i64 o,.int .i64 n,.string s,.slice b0 len cap,.int .i64 a],.bool false,.bool true] W fun e w' => e = .returned (.bool (decide (n = 0))) ∧ Fr W w') := h_ (fun W h => zero01_any ⟨o,n,s,l,a⟩ (.slice b0 len cap) W)
 have CZ11 : Hid (∀ W,Fr w W → Calls prog 252 #[.agg #[.int .i64 o,.int .i64 n,.string s,.slice b0 len cap,.int .i64 a],.bool true,.bool true] W fun e w' => e = .returned (.bool (true)) ∧ Fr W w') := h_ (fun W h => zero11_any ⟨o,n,s,l,a⟩ (.slice b0 len cap) W)
 have CIn : Hid (∀ W,Fr w W → Calls prog 253 #[.string s] W fun e w' => e = .returned (.bool (isNm s)) ∧ Fr W w') := h_ (fun W h => RisName_any s W)
 have CP : Hid (∀ W,Fr w W → ∀ ks kv,IV W kv ks → Calls prog 254 #[.slice b0 len cap,kv] W fun e w' => e = .returned (.bool (hasK P ks)) ∧ Fr W w') := h_ (fun W h ks kv hk => by rw [hP]; exact parts_any l _ W ks kv (hlt.fr h) hk (hq.fr h))
 have CA : Hid (∀ W,Fr w W → ∀ k : Pr,k.ref = true → Calls prog 145 #[.slice b0 len cap,.int .i64 k.num] W fun e w' => e = .returned (.bool (allK P k)) ∧ Fr W w') := h_ (fun W h k hk => by rw [hP]; exact all_any k hk l _ W (hlt.fr h) (hq.fr h))
 have HCM : Hid (len ≤ 9223372036854775807) := h_ (by unfold maxLen at hcm; omega)
 have H31 : Hid (hasK P [.expr] = true → ∃ (b off : Nat) (q : Int),b0 = some ⟨b,off,none⟩ ∧ len = 1 ∧ w.cell? ⟨b,off,none⟩ = some (.int .i64 q) ∧ hasK P [.call] = decide (q = 7)) := h_ (fun h => by
  rw [hP] at h ⊢
  rw [hlen] at hlt ⊢
  exact call_one hlt h)
 have H31b : Hid (hasK P [.expr] = false → hasK P [.call] = false) := h_ (fun h => by
  rw [hP] at h ⊢
  exact call_none h)
 obtain ⟨R,hR⟩ : ∃ r,r = (cmdR o n s P) := ⟨_,rfl⟩
 rw [← hR]
 have HPL : Hid (P.length = len) := h_ (by rw [hP,hlen,okL_len])
 have hn1 := h_ hn64
 clear hlt hq hP hlen hcap hcm hs hn64
 have G := h_ (FB.new w (.int .i64 o) (.int .i64 n) (.string s) (.slice b0 len cap) (.int .i64 a))
 by_cases g : o = 30
 ·subst g
  replace hR : R = (empS s && (decide (1 ≤ n) && decide ((P.length : Int) = 2 * n) && allK P .expr)) := by first | exact hR | (rw [hR]; first | rfl | simp [cmdR,repR,blockR,pairs_expr])
  rcases Bool.eq_false_or_eq_true (empS s) with hv15 | hv15 <;> (rw [hv15] at CZ10; try rw [hv15] at hR)
  rcases c_or (p := 1 ≤ n) (a := (decide ((1 : Int) ≤ n) = true) ∧ (decide (n ≥ (1 : Int)) = true)) (b := (decide ((1 : Int) ≤ n) = false) ∧ (decide (n ≥ (1 : Int)) = false)) (fun h4 => ⟨decide_eq_true h4,decide_eq_true h4⟩) (fun h4 => ⟨decide_eq_false h4,decide_eq_false h4⟩) with ⟨h4,e4,e4b⟩ | ⟨h4,e4,e4b⟩
  rcases c_or (p := (len : Int) = 2 * n) (a := ((len : Int) == wrap64 (2 * n)) = true) (b := ((len : Int) == wrap64 (2 * n)) = false) (fun h5 => by have hx := two_eq h4 hn1.out HCM.out; rw [decide_eq_true h5,IntWalk.i64_left] at hx; exact hx) (fun h5 => by have hx := two_eq h4 hn1.out HCM.out; rw [decide_eq_false h5,IntWalk.i64_left] at hx; exact hx) with ⟨h5,e5⟩ | ⟨h5,e5⟩
  all_goals
   try simp [HPL.out,named,someK,hasK_nil, *] at hR
   have HR := h_ hR
   clear hR
   try clear h5
   go_enter func251,ntmps251
   go_wp2_with fail
   repeat
    first
     | ((with_reducible refine (CZ00.out _ ?_).mono ?_); first | exact G.out.1 | exact (G.out.al _).1)
     | ((with_reducible refine (CZ10.out _ ?_).mono ?_); first | exact G.out.1 | exact (G.out.al _).1)
     | (go_at_call 145; refine (CA.out _ (by first | exact G.out.1 | exact (G.out.al _).1) .expr rfl).mono ?_)
    rintro e w1 ⟨rfl,hf⟩
    first | replace G := h_ (G.out.st hf) | replace G := h_ ((G.out.al _).st hf)
    obtain ⟨k0,k1,k2,k3,k4⟩ := G.out.2.cells
    clear hf
    go_wp2_with fail
   go_ret
   rw [HR.out]
   exact ⟨rfl,(by first | exact G.out.1 | exact (G.out.al _).1)⟩
 have g30 := g
 clear g
 have z30 := nz g30
 by_cases g : o = 31
 ·subst g
  replace hR : R = (bare n s && hasK P [.call]) := by first | exact hR | (rw [hR]; first | rfl | simp [cmdR,repR,blockR,pairs_expr])
  rcases Bool.eq_false_or_eq_true (bare n s) with hv16 | hv16 <;> (rw [hv16] at CZ00; try rw [hv16] at hR)
  have CP1 := h_ (fun W h kv hk => CP.out W h [.expr] kv hk)
  rcases Bool.eq_false_or_eq_true (hasK P [.expr]) with hvp | hvp <;> (rw [hvp] at CP1; (try rw [hvp] at hR); try rw [H31b.out hvp] at hR)
  obtain ⟨b,off,q,rfl,rfl,hcell,hcall⟩ := H31.out hvp
  rcases c_o1 (p := q = 7) (b := (q == 7) = false) (fun h7 => nz h7) with rfl | ⟨h7,e7⟩
  all_goals
   try simp [HPL.out,named,someK,hasK_nil, *] at hR
   have HR := h_ hR
   clear hR
   try clear h5
   try clear hcall
   go_enter func251,ntmps251
   go_wp2_with fail
   repeat
    first
     | (go_at_call 254; refine (CP1.out _ (by first | exact G.out.1 | exact (G.out.al _).1) _ (IV.one _ _ .expr _ (by simp) rfl)).mono ?_)
     | ((with_reducible refine (CZ00.out _ ?_).mono ?_); first | exact G.out.1 | exact (G.out.al _).1)
    rintro e w1 ⟨rfl,hf⟩
    first | replace G := h_ (G.out.st hf) | replace G := h_ ((G.out.al _).st hf)
    obtain ⟨k0,k1,k2,k3,k4⟩ := G.out.2.cells
    clear hf
    try have hcell2 := G.out.1.cell hcell
    go_wp2_with fail
   go_ret
   rw [HR.out]
   exact ⟨rfl,(by first | exact G.out.1 | exact (G.out.al _).1)⟩
 have g31 := g
 clear g
 have z31 := nz g31
 by_cases g : o = 32 ∨ o = 33 ∨ o = 35 ∨ o = 36 ∨ o = 42
 ·rcases g with rfl | rfl | rfl | rfl | rfl
  all_goals
   replace hR : R = (bare n s && hasK P [.expr,.cmd]) := by first | exact hR | (rw [hR]; first | rfl | simp [cmdR,repR,blockR,pairs_expr])
   rcases Bool.eq_false_or_eq_true (bare n s) with hv17 | hv17 <;> (rw [hv17] at CZ00; try rw [hv17] at hR)
   all_goals
    try simp [HPL.out,named,someK,hasK_nil, *] at hR
    have HR := h_ hR
    clear hR
    try clear h5
    go_enter func251,ntmps251
    go_wp2_with fail
    repeat
     first
      | ((with_reducible refine (CZ00.out _ ?_).mono ?_); first | exact G.out.1 | exact (G.out.al _).1)
      | (go_at_call 254; refine (CP.out _ (by first | exact G.out.1 | exact (G.out.al _).1) [.expr,.cmd] _ (IV.two _ _ .expr .cmd _ (by simp) rfl)).mono ?_)
     rintro e w1 ⟨rfl,hf⟩
     first | replace G := h_ (G.out.st hf) | replace G := h_ ((G.out.al _).st hf)
     obtain ⟨k0,k1,k2,k3,k4⟩ := G.out.2.cells
     clear hf
     go_wp2_with fail
    go_ret
    rw [HR.out]
    exact ⟨rfl,(by first | exact G.out.1 | exact (G.out.al _).1)⟩
 simp only [not_or] at g
 obtain ⟨g32,g33,g35,g36,g42⟩ := g
 have z32 := nz g32
 have z33 := nz g33
 have z35 := nz g35
 have z36 := nz g36
 have z42 := nz g42
 by_cases g : o = 34
 ·subst g
  replace hR : R = (bare n s && hasK P [.expr,.cmd,.cmd]) := by first | exact hR | (rw [hR]; first | rfl | simp [cmdR,repR,blockR,pairs_expr])
  rcases Bool.eq_false_or_eq_true (bare n s) with hv18 | hv18 <;> (rw [hv18] at CZ00; try rw [hv18] at hR)
  all_goals
   try simp [HPL.out,named,someK,hasK_nil, *] at hR
   have HR := h_ hR
   clear hR
   try clear h5
   go_enter func251,ntmps251
   go_wp2_with fail
   repeat
    first
     | ((with_reducible refine (CZ00.out _ ?_).mono ?_); first | exact G.out.1 | exact (G.out.al _).1)
     | (go_at_call 254; refine (CP.out _ (by first | exact G.out.1 | exact (G.out.al _).1) [.expr,.cmd,.cmd] _ (IV.three _ _ .expr .cmd .cmd _ (by simp) rfl)).mono ?_)
    rintro e w1 ⟨rfl,hf⟩
    first | replace G := h_ (G.out.st hf) | replace G := h_ ((G.out.al _).st hf)
    obtain ⟨k0,k1,k2,k3,k4⟩ := G.out.2.cells
    clear hf
    go_wp2_with fail
   go_ret
   rw [HR.out]
   exact ⟨rfl,(by first | exact G.out.1 | exact (G.out.al _).1)⟩
 have g34 := g
 clear g
 have z34 := nz g34
 by_cases g : o = 37
 ·subst g
  replace hR : R = (bare n s && hasK P [.rep]) := by first | exact hR | (rw [hR]; first | rfl | simp [cmdR,repR,blockR,pairs_expr])
  rcases Bool.eq_false_or_eq_true (bare n s) with hv19 | hv19 <;> (rw [hv19] at CZ00; try rw [hv19] at hR)
  all_goals
   try simp [HPL.out,named,someK,hasK_nil, *] at hR
   have HR := h_ hR
   clear hR
   try clear h5
   go_enter func251,ntmps251
   go_wp2_with fail
   repeat
    first
     | ((with_reducible refine (CZ00.out _ ?_).mono ?_); first | exact G.out.1 | exact (G.out.al _).1)
     | (go_at_call 254; refine (CP.out _ (by first | exact G.out.1 | exact (G.out.al _).1) [.rep] _ (IV.one _ _ .rep _ (by simp) rfl)).mono ?_)
    rintro e w1 ⟨rfl,hf⟩
    first | replace G := h_ (G.out.st hf) | replace G := h_ ((G.out.al _).st hf)
    obtain ⟨k0,k1,k2,k3,k4⟩ := G.out.2.cells
    clear hf
    go_wp2_with fail
   go_ret
   rw [HR.out]
   exact ⟨rfl,(by first | exact G.out.1 | exact (G.out.al _).1)⟩
 have g37 := g
 clear g
 have z37 := nz g37
 by_cases g : o = 38 ∨ o = 39
 ·rcases g with rfl | rfl
  all_goals
   replace hR : R = (bare n s && hasK P [.rep,.expr]) := by first | exact hR | (rw [hR]; first | rfl | simp [cmdR,repR,blockR,pairs_expr])
   rcases Bool.eq_false_or_eq_true (bare n s) with hv20 | hv20 <;> (rw [hv20] at CZ00; try rw [hv20] at hR)
   all_goals
    try simp [HPL.out,named,someK,hasK_nil, *] at hR
    have HR := h_ hR
    clear hR
    try clear h5
    go_enter func251,ntmps251
    go_wp2_with fail
    repeat
     first
      | ((with_reducible refine (CZ00.out _ ?_).mono ?_); first | exact G.out.1 | exact (G.out.al _).1)
      | (go_at_call 254; refine (CP.out _ (by first | exact G.out.1 | exact (G.out.al _).1) [.rep,.expr] _ (IV.two _ _ .rep .expr _ (by simp) rfl)).mono ?_)
     rintro e w1 ⟨rfl,hf⟩
     first | replace G := h_ (G.out.st hf) | replace G := h_ ((G.out.al _).st hf)
     obtain ⟨k0,k1,k2,k3,k4⟩ := G.out.2.cells
     clear hf
     go_wp2_with fail
    go_ret
    rw [HR.out]
    exact ⟨rfl,(by first | exact G.out.1 | exact (G.out.al _).1)⟩
 simp only [not_or] at g
 obtain ⟨g38,g39⟩ := g
 have z38 := nz g38
 have z39 := nz g39
 by_cases g : o = 40
 ·subst g
  replace hR : R = (forR n s P) := by first | exact hR | (rw [hR]; first | rfl | simp [cmdR,repR,blockR,pairs_expr])
  rcases Bool.eq_false_or_eq_true (isNm s) with hv21 | hv21 <;> (rw [hv21] at CIn; try rw [hv21] at hR)
  have CP1 := h_ (fun W h kv hk => CP.out W h [.expr,.expr,.cmd] kv hk)
  have CP2 := h_ (fun W h kv hk => CP.out W h [.expr,.expr,.expr,.cmd] kv hk)
  rcases c_o1 (p := n = 0) (b := (n == 0) = false) (fun h0 => nz h0) with rfl | ⟨h0,eh0⟩
  rcases Bool.eq_false_or_eq_true (hasK P [.expr,.expr,.cmd]) with hvp | hvp <;> (rw [hvp] at CP1; (try rw [hvp] at hR))
  rotate_left 2
  rcases c_o1 (p := n = 1) (b := (n == 1) = false) (fun h1 => nz h1) with rfl | ⟨h1,eh1⟩
  all_goals
   try simp [HPL.out,forR, *] at hR
   have HR := h_ hR
   clear hR
   try clear h5
   go_enter func251,ntmps251
   go_wp2_with fail
   repeat
    first
     | (go_at_call 254; (with_reducible show Calls _ _ #[_,.slice _ 3 3] _ _); refine (CP1.out _ (by first | exact G.out.1 | exact (G.out.al _).1) _ (IV.three _ _ .expr .expr .cmd _ (by simp) rfl)).mono ?_)
     | (go_at_call 254; (with_reducible show Calls _ _ #[_,.slice _ 4 4] _ _); refine (CP2.out _ (by first | exact G.out.1 | exact (G.out.al _).1) _ (IV.four _ _ .expr .expr .expr .cmd _ (by simp) rfl)).mono ?_)
     | ((with_reducible refine (CZ00.out _ ?_).mono ?_); first | exact G.out.1 | exact (G.out.al _).1)
     | ((with_reducible refine (CZ11.out _ ?_).mono ?_); first | exact G.out.1 | exact (G.out.al _).1)
     | ((with_reducible refine (CIn.out _ ?_).mono ?_); first | exact G.out.1 | exact (G.out.al _).1)
    rintro e w1 ⟨rfl,hf⟩
    first | replace G := h_ (G.out.st hf) | replace G := h_ ((G.out.al _).st hf)
    obtain ⟨k0,k1,k2,k3,k4⟩ := G.out.2.cells
    clear hf
    go_wp2_with fail
   go_ret
   rw [HR.out]
   exact ⟨rfl,(by first | exact G.out.1 | exact (G.out.al _).1)⟩
 have g40 := g
 clear g
 have z40 := nz g40
 by_cases g : o = 41
 ·subst g
  replace hR : R = (bare n s && hasK P [.expr,.block]) := by first | exact hR | (rw [hR]; first | rfl | simp [cmdR,repR,blockR,pairs_expr])
  rcases Bool.eq_false_or_eq_true (bare n s) with hv22 | hv22 <;> (rw [hv22] at CZ00; try rw [hv22] at hR)
  all_goals
   try simp [HPL.out,named,someK,hasK_nil, *] at hR
   have HR := h_ hR
   clear hR
   try clear h5
   go_enter func251,ntmps251
   go_wp2_with fail
   repeat
    first
     | ((with_reducible refine (CZ00.out _ ?_).mono ?_); first | exact G.out.1 | exact (G.out.al _).1)
     | (go_at_call 254; refine (CP.out _ (by first | exact G.out.1 | exact (G.out.al _).1) [.expr,.block] _ (IV.two _ _ .expr .block _ (by simp) rfl)).mono ?_)
    rintro e w1 ⟨rfl,hf⟩
    first | replace G := h_ (G.out.st hf) | replace G := h_ ((G.out.al _).st hf)
    obtain ⟨k0,k1,k2,k3,k4⟩ := G.out.2.cells
    clear hf
    go_wp2_with fail
   go_ret
   rw [HR.out]
   exact ⟨rfl,(by first | exact G.out.1 | exact (G.out.al _).1)⟩
 have g41 := g
 clear g
 have z41 := nz g41
 by_cases g : o = 43
 ·subst g
  replace hR : R = (bare n s && hasK P [.cmd]) := by first | exact hR | (rw [hR]; first | rfl | simp [cmdR,repR,blockR,pairs_expr])
  rcases Bool.eq_false_or_eq_true (bare n s) with hv23 | hv23 <;> (rw [hv23] at CZ00; try rw [hv23] at hR)
  all_goals
   try simp [HPL.out,named,someK,hasK_nil, *] at hR
   have HR := h_ hR
   clear hR
   try clear h5
   go_enter func251,ntmps251
   go_wp2_with fail
   repeat
    first
     | ((with_reducible refine (CZ00.out _ ?_).mono ?_); first | exact G.out.1 | exact (G.out.al _).1)
     | (go_at_call 254; refine (CP.out _ (by first | exact G.out.1 | exact (G.out.al _).1) [.cmd] _ (IV.one _ _ .cmd _ (by simp) rfl)).mono ?_)
    rintro e w1 ⟨rfl,hf⟩
    first | replace G := h_ (G.out.st hf) | replace G := h_ ((G.out.al _).st hf)
    obtain ⟨k0,k1,k2,k3,k4⟩ := G.out.2.cells
    clear hf
    go_wp2_with fail
   go_ret
   rw [HR.out]
   exact ⟨rfl,(by first | exact G.out.1 | exact (G.out.al _).1)⟩
 have g43 := g
 clear g
 have z43 := nz g43
 by_cases g : o = 44 ∨ o = 45 ∨ o = 46 ∨ o = 47 ∨ o = 51 ∨ o = 53
 ·rcases g with rfl | rfl | rfl | rfl | rfl | rfl
  all_goals
   replace hR : R = (bare n s && hasK P []) := by first | exact hR | (rw [hR]; first | rfl | simp [cmdR,repR,blockR,pairs_expr])
   rcases Bool.eq_false_or_eq_true (bare n s) with hv24 | hv24 <;> (rw [hv24] at CZ00; try rw [hv24] at hR)
   rcases c_o1 (p := len = 0) (b := ((len : Int) == 0) = false) (fun hl0 => by rw [beq_eq_false_iff_ne]; omega) with rfl | ⟨hl0,el0⟩
   all_goals
    try simp [HPL.out,named,someK,hasK_nil, *] at hR
    have HR := h_ hR
    clear hR
    try clear h5
    go_enter func251,ntmps251
    go_wp2_with fail
    repeat
     first
      | ((with_reducible refine (CZ00.out _ ?_).mono ?_); first | exact G.out.1 | exact (G.out.al _).1)
     rintro e w1 ⟨rfl,hf⟩
     first | replace G := h_ (G.out.st hf) | replace G := h_ ((G.out.al _).st hf)
     obtain ⟨k0,k1,k2,k3,k4⟩ := G.out.2.cells
     clear hf
     go_wp2_with fail
    go_ret
    rw [HR.out]
    exact ⟨rfl,(by first | exact G.out.1 | exact (G.out.al _).1)⟩
 simp only [not_or] at g
 obtain ⟨g44,g45,g46,g47,g51,g53⟩ := g
 have z44 := nz g44
 have z45 := nz g45
 have z46 := nz g46
 have z47 := nz g47
 have z51 := nz g51
 have z53 := nz g53
 by_cases g : o = 48
 ·subst g
  replace hR : R = (bare n s && hasK P [.expr]) := by first | exact hR | (rw [hR]; first | rfl | simp [cmdR,repR,blockR,pairs_expr])
  rcases Bool.eq_false_or_eq_true (bare n s) with hv25 | hv25 <;> (rw [hv25] at CZ00; try rw [hv25] at hR)
  all_goals
   try simp [HPL.out,named,someK,hasK_nil, *] at hR
   have HR := h_ hR
   clear hR
   try clear h5
   go_enter func251,ntmps251
   go_wp2_with fail
   repeat
    first
     | ((with_reducible refine (CZ00.out _ ?_).mono ?_); first | exact G.out.1 | exact (G.out.al _).1)
     | (go_at_call 254; refine (CP.out _ (by first | exact G.out.1 | exact (G.out.al _).1) [.expr] _ (IV.one _ _ .expr _ (by simp) rfl)).mono ?_)
    rintro e w1 ⟨rfl,hf⟩
    first | replace G := h_ (G.out.st hf) | replace G := h_ ((G.out.al _).st hf)
    obtain ⟨k0,k1,k2,k3,k4⟩ := G.out.2.cells
    clear hf
    go_wp2_with fail
   go_ret
   rw [HR.out]
   exact ⟨rfl,(by first | exact G.out.1 | exact (G.out.al _).1)⟩
 have g48 := g
 clear g
 have z48 := nz g48
 by_cases g : o = 49
 ·subst g
  replace hR : R = (named n s && hasK P []) := by first | exact hR | (rw [hR]; first | rfl | simp [cmdR,repR,blockR,pairs_expr])
  rcases Bool.eq_false_or_eq_true (decide (n = 0)) with hv27 | hv27 <;> (rw [hv27] at CZ01; try rw [hv27] at hR)
  rcases Bool.eq_false_or_eq_true (isNm s) with hv27 | hv27 <;> (rw [hv27] at CIn; try rw [hv27] at hR)
  rcases c_o1 (p := len = 0) (b := ((len : Int) == 0) = false) (fun hl0 => by rw [beq_eq_false_iff_ne]; omega) with rfl | ⟨hl0,el0⟩
  all_goals
   try simp [HPL.out,named,someK,hasK_nil, *] at hR
   have HR := h_ hR
   clear hR
   try clear h5
   go_enter func251,ntmps251
   go_wp2_with fail
   repeat
    first
     | ((with_reducible refine (CZ00.out _ ?_).mono ?_); first | exact G.out.1 | exact (G.out.al _).1)
     | ((with_reducible refine (CZ01.out _ ?_).mono ?_); first | exact G.out.1 | exact (G.out.al _).1)
     | ((with_reducible refine (CIn.out _ ?_).mono ?_); first | exact G.out.1 | exact (G.out.al _).1)
    rintro e w1 ⟨rfl,hf⟩
    first | replace G := h_ (G.out.st hf) | replace G := h_ ((G.out.al _).st hf)
    obtain ⟨k0,k1,k2,k3,k4⟩ := G.out.2.cells
    clear hf
    go_wp2_with fail
   go_ret
   rw [HR.out]
   exact ⟨rfl,(by first | exact G.out.1 | exact (G.out.al _).1)⟩
 have g49 := g
 clear g
 have z49 := nz g49
 by_cases g : o = 50
 ·subst g
  replace hR : R = (named n s && hasK P [.cmd]) := by first | exact hR | (rw [hR]; first | rfl | simp [cmdR,repR,blockR,pairs_expr])
  rcases Bool.eq_false_or_eq_true (decide (n = 0)) with hv29 | hv29 <;> (rw [hv29] at CZ01; try rw [hv29] at hR)
  rcases Bool.eq_false_or_eq_true (isNm s) with hv29 | hv29 <;> (rw [hv29] at CIn; try rw [hv29] at hR)
  all_goals
   try simp [HPL.out,named,someK,hasK_nil, *] at hR
   have HR := h_ hR
   clear hR
   try clear h5
   go_enter func251,ntmps251
   go_wp2_with fail
   repeat
    first
     | ((with_reducible refine (CZ00.out _ ?_).mono ?_); first | exact G.out.1 | exact (G.out.al _).1)
     | ((with_reducible refine (CZ01.out _ ?_).mono ?_); first | exact G.out.1 | exact (G.out.al _).1)
     | ((with_reducible refine (CIn.out _ ?_).mono ?_); first | exact G.out.1 | exact (G.out.al _).1)
     | (go_at_call 254; refine (CP.out _ (by first | exact G.out.1 | exact (G.out.al _).1) [.cmd] _ (IV.one _ _ .cmd _ (by simp) rfl)).mono ?_)
    rintro e w1 ⟨rfl,hf⟩
    first | replace G := h_ (G.out.st hf) | replace G := h_ ((G.out.al _).st hf)
    obtain ⟨k0,k1,k2,k3,k4⟩ := G.out.2.cells
    clear hf
    go_wp2_with fail
   go_ret
   rw [HR.out]
   exact ⟨rfl,(by first | exact G.out.1 | exact (G.out.al _).1)⟩
 have g50 := g
 clear g
 have z50 := nz g50
 by_cases g : o = 52
 ·subst g
  replace hR : R = (bare n s && someK P .item) := by first | exact hR | (rw [hR]; first | rfl | simp [cmdR,repR,blockR,pairs_expr])
  rcases Bool.eq_false_or_eq_true (bare n s) with hv30 | hv30 <;> (rw [hv30] at CZ00; try rw [hv30] at hR)
  rcases c_or (p := 0 < len) (a := decide ((1 : Int) ≤ len) = true) (b := decide ((1 : Int) ≤ len) = false) (fun hl1 => decide_eq_true (by omega)) (fun hl1 => decide_eq_false (by omega)) with ⟨hl1,el1⟩ | ⟨hl1,el1⟩
  all_goals
   try simp [HPL.out,named,someK,hasK_nil, *] at hR
   have HR := h_ hR
   clear hR
   try clear h5
   go_enter func251,ntmps251
   go_wp2_with fail
   repeat
    first
     | ((with_reducible refine (CZ00.out _ ?_).mono ?_); first | exact G.out.1 | exact (G.out.al _).1)
     | (go_at_call 145; refine (CA.out _ (by first | exact G.out.1 | exact (G.out.al _).1) .item rfl).mono ?_)
    rintro e w1 ⟨rfl,hf⟩
    first | replace G := h_ (G.out.st hf) | replace G := h_ ((G.out.al _).st hf)
    obtain ⟨k0,k1,k2,k3,k4⟩ := G.out.2.cells
    clear hf
    go_wp2_with fail
   go_ret
   rw [HR.out]
   exact ⟨rfl,(by first | exact G.out.1 | exact (G.out.al _).1)⟩
 have g52 := g
 clear g
 have z52 := nz g52
 replace hR : R = (false) := by first | (rw [hR]; simp [cmdR,repR,blockR,pairs_expr,g30,g31,g32,g33,g35,g36,g42,g34,g37,g38,g39,g40,g41,g43,g44,g45,g46,g47,g51,g53,g48,g49,g50,g52]; done) | (rw [hR]; rfl)
 clear g30 g31 g32 g33 g35 g36 g42 g34 g37 g38 g39 g40 g41 g43 g44 g45 g46 g47 g51 g53 g48 g49 g50 g52
 all_goals
  try simp [HPL.out,named,someK,hasK_nil, *] at hR
  have HR := h_ hR
  clear hR
  try clear h5
  go_enter func251,ntmps251
  go_wp2_with fail
  repeat
   first
    | ((with_reducible refine (CZ00.out _ ?_).mono ?_); first | exact G.out.1 | exact (G.out.al _).1)
   rintro e w1 ⟨rfl,hf⟩
   first | replace G := h_ (G.out.st hf) | replace G := h_ ((G.out.al _).st hf)
   obtain ⟨k0,k1,k2,k3,k4⟩ := G.out.2.cells
   clear hf
   go_wp2_with fail
  go_ret
  rw [HR.out]
  exact ⟨rfl,(by first | exact G.out.1 | exact (G.out.al _).1)⟩
theorem formedDecl_of (t : Nd) (lt : Value) (w : World) (hlt : LN w lt t.l) (hs : t.s.size ≤ 2000000) (hn64 : wf64 t.n) (hq : RQ w t.l) :
 Calls prog 255 #[ndV t lt] w fun e w' => e = .returned (.bool (declR t.op t.n t.s (okL t.l))) ∧ Fr w w' := by
 obtain ⟨o,n,s,l,a⟩ := t
 have hlt : LN w lt l := hlt
 have hs : s.size ≤ 2000000 := hs
 have hn64 : wf64 n := hn64
 have hq : RQ w l := hq
 show Calls _ _ #[.agg #[.int .i64 o,.int .i64 n,.string s,lt,.int .i64 a]] w fun e w' => e = .returned (.bool (declR o n s (okL l))) ∧ Fr w w'
 obtain ⟨b0,cap,rfl,hcap,hcm,_⟩ := hlt.form
 obtain ⟨len,hlen⟩ : ∃ x,x = l.length := ⟨_,rfl⟩
 rw [← hlen] at hlt ⊢
 obtain ⟨P,hP⟩ : ∃ x,x = okL l := ⟨_,rfl⟩
 rw [← hP]
 have CZ00 : Hid (∀ W,Fr w W → Calls prog 252 #[.agg #[.int .i64 o,.int .i64 n,.string s,.slice b0 len cap,.int .i64 a],.bool false,.bool false] W fun e w' => e = .returned (.bool (bare n s)) ∧ Fr W w') := h_ (fun W h => zero00_any ⟨o,n,s,l,a⟩ (.slice b0 len cap) W)
 have CZ11 : Hid (∀ W,Fr w W → Calls prog 252 #[.agg #[.int .i64 o,.int .i64 n,.string s,.slice b0 len cap,.int .i64 a],.bool true,.bool true] W fun e w' => e = .returned (.bool (true)) ∧ Fr W w') := h_ (fun W h => zero11_any ⟨o,n,s,l,a⟩ (.slice b0 len cap) W)
 have CIn : Hid (∀ W,Fr w W → Calls prog 253 #[.string s] W fun e w' => e = .returned (.bool (isNm s)) ∧ Fr W w') := h_ (fun W h => RisName_any s W)
 have CA : Hid (∀ W,Fr w W → ∀ k : Pr,k.ref = true → Calls prog 145 #[.slice b0 len cap,.int .i64 k.num] W fun e w' => e = .returned (.bool (allK P k)) ∧ Fr W w') := h_ (fun W h k hk => by rw [hP]; exact all_any k hk l _ W (hlt.fr h) (hq.fr h))
 have HCM : Hid (len ≤ 9223372036854775807) := h_ (by unfold maxLen at hcm; omega)
 have HCAP : Hid (len ≤ cap) := h_ (by rw [hlen]; exact hcap)
 have H64 : Hid (0 < len → ∃ (k b off : Nat) (t : Nd) (la : Option Addr) (ll lc : Nat),len = k + 1 ∧ b0 = some ⟨b,off,none⟩ ∧ (∀ p,lastK P p = okP t p) ∧ NdC w b (off + k * 5) t (.slice la ll lc) ∧ (∀ W,Fr w W → ∀ p : Pr,p.ref = true → Calls prog 210 #[.agg #[.int .i64 t.op,.int .i64 t.n,.string t.s,.slice la ll lc,.int .i64 t.a],.int .i64 p.num] W fun e w' => e = .returned (.bool (okP t p)) ∧ Fr W w') ∧ (∀ W,Fr w W → Calls prog 145 #[.slice b0 k cap,.int .i64 6] W fun e w' => e = .returned (.bool (allK (P.take k) .name)) ∧ Fr W w')) := h_ (fun h0 => by
  rw [hlen] at h0 hlt ⊢
  rw [hP]
  obtain ⟨k,hk⟩ : ∃ k,l.length = k + 1 := ⟨l.length - 1,by omega⟩
  obtain ⟨t,ht⟩ : ∃ t,l[k]? = some t := ⟨_,List.getElem?_eq_getElem (by omega)⟩
  have hmem := List.mem_of_getElem? ht
  have CA : ∀ W,Fr w W → Calls prog 145 #[.slice b0 k cap,.int .i64 6] W fun e w' => e = .returned (.bool (allK ((okL l).take k) .name)) ∧ Fr W w' := fun W h => by
   rw [okL_take]
   exact all_any .name rfl (l.take k) _ W ((hlt.fr h).take_ k (by omega)) ((hq.fr h).sub fun t ht => List.mem_of_mem_take ht)
  obtain ⟨b,off,lv,rfl,hc5,hln,_⟩ := hlt.at_ ht
  obtain ⟨la,lc,rfl,_,_,_⟩ := hln.form
  exact ⟨k,b,off,t,la,_,lc,hk,rfl,fun p => lastK_some p (by rw [hk]; exact ht),hc5,fun W hW p hp => hq W hW t hmem _ (hln.fr hW) p hp,CA⟩)
 obtain ⟨R,hR⟩ : ∃ r,r = (declR o n s P) := ⟨_,rfl⟩
 rw [← hR]
 have HPL : Hid (P.length = len) := h_ (by rw [hP,hlen,okL_len])
 have hn1 := h_ hn64
 clear hlt hq hP hlen hcap hcm hs hn64
 have G := h_ (FB.new w (.int .i64 o) (.int .i64 n) (.string s) (.slice b0 len cap) (.int .i64 a))
 by_cases g : o = 60 ∨ o = 61 ∨ o = 62
 ·rcases g with rfl | rfl | rfl
  all_goals
   replace hR : R = (bare n s && allK P .const) := by first | exact hR | (rw [hR]; first | rfl | simp [declR])
   rcases Bool.eq_false_or_eq_true (bare n s) with hv31 | hv31 <;> (rw [hv31] at CZ00; try rw [hv31] at hR)
   all_goals
    try simp [HPL.out,named,someK,hasK_nil, *] at hR
    have HR := h_ hR
    clear hR
    try clear h5
    go_enter func255,ntmps255
    go_wp2_with fail
    repeat
     first
      | ((with_reducible refine (CZ00.out _ ?_).mono ?_); first | exact G.out.1 | exact (G.out.al _).1)
      | (go_at_call 145; refine (CA.out _ (by first | exact G.out.1 | exact (G.out.al _).1) .const rfl).mono ?_)
     rintro e w1 ⟨rfl,hf⟩
     first | replace G := h_ (G.out.st hf) | replace G := h_ ((G.out.al _).st hf)
     obtain ⟨k0,k1,k2,k3,k4⟩ := G.out.2.cells
     clear hf
     go_wp2_with fail
    go_ret
    rw [HR.out]
    exact ⟨rfl,(by first | exact G.out.1 | exact (G.out.al _).1)⟩
 simp only [not_or] at g
 obtain ⟨g60,g61,g62⟩ := g
 have z60 := nz g60
 have z61 := nz g61
 have z62 := nz g62
 by_cases g : o = 64
 ·subst g
  replace hR : R = (procK n s P) := by first | exact hR | (rw [hR]; first | rfl | simp [declR])
  rcases Bool.eq_false_or_eq_true (isNm s) with hv32 | hv32 <;> (rw [hv32] at CIn; try rw [hv32] at hR)
  rcases (Nat.eq_zero_or_pos len).symm with hl0 | rfl
  obtain ⟨k,b,off,t,la,ll,lc,hlk,rfl,hlast,hc5,hCL,hCA⟩ := H64.out (by omega)
  have HC5 := h_ hc5
  have CL := h_ hCL
  have CA1 := h_ hCA
  unfold procK at hR
  rw [HPL.out,show len - 1 = k by omega,hlast,hlast] at hR
  have hcm2 := HCM.out
  have i1 : IntKind.i64.wrap ((len : Int) - 1) = (k : Int) := by rw [show (len : Int) - 1 = (k : Int) by omega]; exact IntWalk.i64_in _ (by omega)
  have i2 : decide ((k : Int) < 0) = false := decide_eq_false (by omega)
  have hl1 : 0 < len := by omega
  have hkl : k < len := by omega
  have hkc : (k : Int) ≤ cap := by have := HCAP.out; omega
  have hkc2 : (k : Int) < len := by omega
  clear hlk hlast hc5 hCL hCA hcm2 hl0
  rcases Bool.eq_false_or_eq_true (allK (P.take k) .name) with hvp | hvp <;> (rw [hvp] at CA1; (try rw [hvp] at hR))
  have CL1 := h_ (fun W h => CL.out W h .expr rfl)
  have CL2 := h_ (fun W h => CL.out W h .cmd rfl)
  rcases c_o1 (p := n = 0) (b := (n == 0) = false) (fun h0 => nz h0) with rfl | ⟨h0,eh0⟩
  clear CL2
  rcases Bool.eq_false_or_eq_true (okP t .expr) with hvq | hvq <;> (rw [hvq] at CL1; (try rw [hvq] at hR))
  rotate_left 2
  clear CL1
  rcases c_o1 (p := n = 1) (b := (n == 1) = false) (fun h1 => nz h1) with rfl | ⟨h1,eh1⟩
  all_goals
   try simp [procK,HPL.out, *] at hR
   have HR := h_ hR
   clear hR
   try clear h5
   go_enter func255,ntmps255
   go_wp2_with fail
   repeat
    first
     | (go_at_call 145; refine (CA1.out _ (by first | exact G.out.1 | exact (G.out.al _).1)).mono ?_)
     | (go_at_call 210; refine (CL1.out _ (by first | exact G.out.1 | exact (G.out.al _).1)).mono ?_)
     | (go_at_call 210; refine (CL2.out _ (by first | exact G.out.1 | exact (G.out.al _).1)).mono ?_)
     | ((with_reducible refine (CZ11.out _ ?_).mono ?_); first | exact G.out.1 | exact (G.out.al _).1)
     | ((with_reducible refine (CIn.out _ ?_).mono ?_); first | exact G.out.1 | exact (G.out.al _).1)
    rintro e w1 ⟨rfl,hf⟩
    first | replace G := h_ (G.out.st hf) | replace G := h_ ((G.out.al _).st hf)
    obtain ⟨k0,k1,k2,k3,k4⟩ := G.out.2.cells
    clear hf
    try obtain ⟨x0,x1,x2,x3,x4⟩ := HC5.out.fr G.out.1
    go_wp2_with fail
   go_ret
   rw [HR.out]
   exact ⟨rfl,(by first | exact G.out.1 | exact (G.out.al _).1)⟩
 have g64 := g
 clear g
 have z64 := nz g64
 replace hR : R = (false) := by first | (rw [hR]; simp [declR,g60,g61,g62,g64]; done) | (rw [hR]; rfl)
 clear g60 g61 g62 g64
 all_goals
  try simp [HPL.out,named,someK,hasK_nil, *] at hR
  have HR := h_ hR
  clear hR
  try clear h5
  go_enter func255,ntmps255
  go_wp2_with fail
  go_ret
  rw [HR.out]
  exact ⟨rfl,(by first | exact G.out.1 | exact (G.out.al _).1)⟩
theorem formed_expr (t : Nd) (lt : Value) (w : World) (hlt : LN w lt t.l) (hs : t.s.size ≤ 2000000) (hn64 : wf64 t.n) (hq : RQ w t.l) :
 Calls prog 210 #[ndV t lt,.int .i64 1] w fun e w' => e = .returned (.bool (nodeR .expr t.op t.n t.s (okL t.l))) ∧ Fr w w' := by
 obtain ⟨o,n,s,l,a⟩ := t
 have hlt : LN w lt l := hlt
 have hs : s.size ≤ 2000000 := hs
 have hn64 : wf64 n := hn64
 have hq : RQ w l := hq
 show Calls _ _ #[.agg #[.int .i64 o,.int .i64 n,.string s,lt,.int .i64 a],.int .i64 1] w fun e w' => e = .returned (.bool (nodeR .expr o n s (okL l))) ∧ Fr w w'
 obtain ⟨b0,cap,rfl,hcap,hcm,_⟩ := hlt.form
 obtain ⟨len,hlen⟩ : ∃ x,x = l.length := ⟨_,rfl⟩
 rw [← hlen] at hlt ⊢
 obtain ⟨P,hP⟩ : ∃ x,x = okL l := ⟨_,rfl⟩
 rw [← hP]
 have CFE : Hid (∀ W,Fr w W → Calls prog 250 #[.agg #[.int .i64 o,.int .i64 n,.string s,.slice b0 len cap,.int .i64 a]] W fun e w' => e = .returned (.bool (exprR o n s P)) ∧ Fr W w') := h_ (fun W h => by rw [hP]; exact formedExpr_of ⟨o,n,s,l,a⟩ _ W (hlt.fr h) hs hn64 (hq.fr h))
 obtain ⟨R,hR⟩ : ∃ r,r = (nodeR .expr o n s P) := ⟨_,rfl⟩
 rw [← hR]
 have HPL : Hid (P.length = len) := h_ (by rw [hP,hlen,okL_len])
 have hn1 := h_ hn64
 clear hlt hq hP hlen hcap hcm hs hn64
 have G := h_ (FB.new w (.int .i64 o) (.int .i64 n) (.string s) (.slice b0 len cap) (.int .i64 a))
 replace hR : R = (exprR o n s P) := by first | (rw [hR]; simp [nodeR]; done) | (rw [hR]; rfl)
 all_goals
  try simp [HPL.out,named,someK,hasK_nil, *] at hR
  have HR := h_ hR
  clear hR
  try clear h5
  go_enter func210,ntmps210
  go_wp2_with fail
  repeat
   first
    | ((with_reducible refine (CFE.out _ ?_).mono ?_); first | exact G.out.1 | exact (G.out.al _).1)
   rintro e w1 ⟨rfl,hf⟩
   first | replace G := h_ (G.out.st hf) | replace G := h_ ((G.out.al _).st hf)
   obtain ⟨k0,k1,k2,k3,k4⟩ := G.out.2.cells
   clear hf
   go_wp2_with fail
  go_ret
  rw [HR.out]
  exact ⟨rfl,(by first | exact G.out.1 | exact (G.out.al _).1)⟩
theorem formed_cmd (t : Nd) (lt : Value) (w : World) (hlt : LN w lt t.l) (hs : t.s.size ≤ 2000000) (hn64 : wf64 t.n) (hq : RQ w t.l) :
 Calls prog 210 #[ndV t lt,.int .i64 2] w fun e w' => e = .returned (.bool (nodeR .cmd t.op t.n t.s (okL t.l))) ∧ Fr w w' := by
 obtain ⟨o,n,s,l,a⟩ := t
 have hlt : LN w lt l := hlt
 have hs : s.size ≤ 2000000 := hs
 have hn64 : wf64 n := hn64
 have hq : RQ w l := hq
 show Calls _ _ #[.agg #[.int .i64 o,.int .i64 n,.string s,lt,.int .i64 a],.int .i64 2] w fun e w' => e = .returned (.bool (nodeR .cmd o n s (okL l))) ∧ Fr w w'
 obtain ⟨b0,cap,rfl,hcap,hcm,_⟩ := hlt.form
 obtain ⟨len,hlen⟩ : ∃ x,x = l.length := ⟨_,rfl⟩
 rw [← hlen] at hlt ⊢
 obtain ⟨P,hP⟩ : ∃ x,x = okL l := ⟨_,rfl⟩
 rw [← hP]
 have CFC : Hid (∀ W,Fr w W → Calls prog 251 #[.agg #[.int .i64 o,.int .i64 n,.string s,.slice b0 len cap,.int .i64 a]] W fun e w' => e = .returned (.bool (cmdR o n s P)) ∧ Fr W w') := h_ (fun W h => by rw [hP]; exact formedCommand_of ⟨o,n,s,l,a⟩ _ W (hlt.fr h) hs hn64 (hq.fr h))
 obtain ⟨R,hR⟩ : ∃ r,r = (nodeR .cmd o n s P) := ⟨_,rfl⟩
 rw [← hR]
 have HPL : Hid (P.length = len) := h_ (by rw [hP,hlen,okL_len])
 have hn1 := h_ hn64
 clear hlt hq hP hlen hcap hcm hs hn64
 have G := h_ (FB.new w (.int .i64 o) (.int .i64 n) (.string s) (.slice b0 len cap) (.int .i64 a))
 replace hR : R = (cmdR o n s P) := by first | (rw [hR]; simp [nodeR]; done) | (rw [hR]; rfl)
 all_goals
  try simp [HPL.out,named,someK,hasK_nil, *] at hR
  have HR := h_ hR
  clear hR
  try clear h5
  go_enter func210,ntmps210
  go_wp2_with fail
  repeat
   first
    | ((with_reducible refine (CFC.out _ ?_).mono ?_); first | exact G.out.1 | exact (G.out.al _).1)
   rintro e w1 ⟨rfl,hf⟩
   first | replace G := h_ (G.out.st hf) | replace G := h_ ((G.out.al _).st hf)
   obtain ⟨k0,k1,k2,k3,k4⟩ := G.out.2.cells
   clear hf
   go_wp2_with fail
  go_ret
  rw [HR.out]
  exact ⟨rfl,(by first | exact G.out.1 | exact (G.out.al _).1)⟩
theorem formed_decl (t : Nd) (lt : Value) (w : World) (hlt : LN w lt t.l) (hs : t.s.size ≤ 2000000) (hn64 : wf64 t.n) (hq : RQ w t.l) :
 Calls prog 210 #[ndV t lt,.int .i64 8] w fun e w' => e = .returned (.bool (nodeR .decl t.op t.n t.s (okL t.l))) ∧ Fr w w' := by
 obtain ⟨o,n,s,l,a⟩ := t
 have hlt : LN w lt l := hlt
 have hs : s.size ≤ 2000000 := hs
 have hn64 : wf64 n := hn64
 have hq : RQ w l := hq
 show Calls _ _ #[.agg #[.int .i64 o,.int .i64 n,.string s,lt,.int .i64 a],.int .i64 8] w fun e w' => e = .returned (.bool (nodeR .decl o n s (okL l))) ∧ Fr w w'
 obtain ⟨b0,cap,rfl,hcap,hcm,_⟩ := hlt.form
 obtain ⟨len,hlen⟩ : ∃ x,x = l.length := ⟨_,rfl⟩
 rw [← hlen] at hlt ⊢
 obtain ⟨P,hP⟩ : ∃ x,x = okL l := ⟨_,rfl⟩
 rw [← hP]
 have CFD : Hid (∀ W,Fr w W → Calls prog 255 #[.agg #[.int .i64 o,.int .i64 n,.string s,.slice b0 len cap,.int .i64 a]] W fun e w' => e = .returned (.bool (declR o n s P)) ∧ Fr W w') := h_ (fun W h => by rw [hP]; exact formedDecl_of ⟨o,n,s,l,a⟩ _ W (hlt.fr h) hs hn64 (hq.fr h))
 obtain ⟨R,hR⟩ : ∃ r,r = (nodeR .decl o n s P) := ⟨_,rfl⟩
 rw [← hR]
 have HPL : Hid (P.length = len) := h_ (by rw [hP,hlen,okL_len])
 have hn1 := h_ hn64
 clear hlt hq hP hlen hcap hcm hs hn64
 have G := h_ (FB.new w (.int .i64 o) (.int .i64 n) (.string s) (.slice b0 len cap) (.int .i64 a))
 replace hR : R = (declR o n s P) := by first | (rw [hR]; simp [nodeR]; done) | (rw [hR]; rfl)
 all_goals
  try simp [HPL.out,named,someK,hasK_nil, *] at hR
  have HR := h_ hR
  clear hR
  try clear h5
  go_enter func210,ntmps210
  go_wp2_with fail
  repeat
   first
    | ((with_reducible refine (CFD.out _ ?_).mono ?_); first | exact G.out.1 | exact (G.out.al _).1)
   rintro e w1 ⟨rfl,hf⟩
   first | replace G := h_ (G.out.st hf) | replace G := h_ ((G.out.al _).st hf)
   obtain ⟨k0,k1,k2,k3,k4⟩ := G.out.2.cells
   clear hf
   go_wp2_with fail
  go_ret
  rw [HR.out]
  exact ⟨rfl,(by first | exact G.out.1 | exact (G.out.al _).1)⟩
theorem formed_name (t : Nd) (lt : Value) (w : World) (hlt : LN w lt t.l) (hs : t.s.size ≤ 2000000) (hn64 : wf64 t.n) (hq : RQ w t.l) :
 Calls prog 210 #[ndV t lt,.int .i64 6] w fun e w' => e = .returned (.bool (nodeR .name t.op t.n t.s (okL t.l))) ∧ Fr w w' := by
 obtain ⟨o,n,s,l,a⟩ := t
 have hlt : LN w lt l := hlt
 have hs : s.size ≤ 2000000 := hs
 have hn64 : wf64 n := hn64
 have hq : RQ w l := hq
 show Calls _ _ #[.agg #[.int .i64 o,.int .i64 n,.string s,lt,.int .i64 a],.int .i64 6] w fun e w' => e = .returned (.bool (nodeR .name o n s (okL l))) ∧ Fr w w'
 obtain ⟨b0,cap,rfl,hcap,hcm,_⟩ := hlt.form
 obtain ⟨len,hlen⟩ : ∃ x,x = l.length := ⟨_,rfl⟩
 rw [← hlen] at hlt ⊢
 obtain ⟨P,hP⟩ : ∃ x,x = okL l := ⟨_,rfl⟩
 rw [← hP]
 have CFE : Hid (∀ W,Fr w W → Calls prog 250 #[.agg #[.int .i64 o,.int .i64 n,.string s,.slice b0 len cap,.int .i64 a]] W fun e w' => e = .returned (.bool (exprR o n s P)) ∧ Fr W w') := h_ (fun W h => by rw [hP]; exact formedExpr_of ⟨o,n,s,l,a⟩ _ W (hlt.fr h) hs hn64 (hq.fr h))
 obtain ⟨R,hR⟩ : ∃ r,r = (nodeR .name o n s P) := ⟨_,rfl⟩
 rw [← hR]
 have HPL : Hid (P.length = len) := h_ (by rw [hP,hlen,okL_len])
 have hn1 := h_ hn64
 clear hlt hq hP hlen hcap hcm hs hn64
 have G := h_ (FB.new w (.int .i64 o) (.int .i64 n) (.string s) (.slice b0 len cap) (.int .i64 a))
 by_cases g : o = 6
 ·subst g
  replace hR : R = (exprR 6 n s P) := by first | exact hR | (rw [hR]; first | rfl | simp [nodeR,nameR,exprR])
  all_goals
   try simp [HPL.out,named,someK,hasK_nil, *] at hR
   have HR := h_ hR
   clear hR
   try clear h5
   go_enter func210,ntmps210
   go_wp2_with fail
   repeat
    first
     | ((with_reducible refine (CFE.out _ ?_).mono ?_); first | exact G.out.1 | exact (G.out.al _).1)
    rintro e w1 ⟨rfl,hf⟩
    first | replace G := h_ (G.out.st hf) | replace G := h_ ((G.out.al _).st hf)
    obtain ⟨k0,k1,k2,k3,k4⟩ := G.out.2.cells
    clear hf
    go_wp2_with fail
   go_ret
   rw [HR.out]
   exact ⟨rfl,(by first | exact G.out.1 | exact (G.out.al _).1)⟩
 have g6 := g
 clear g
 have z6 := nz g6
 replace hR : R = (false) := by first | (rw [hR]; simp [nodeR,nameR,exprR,g6]; done) | (rw [hR]; rfl)
 clear g6
 all_goals
  try simp [HPL.out,named,someK,hasK_nil, *] at hR
  have HR := h_ hR
  clear hR
  try clear h5
  go_enter func210,ntmps210
  go_wp2_with fail
  go_ret
  rw [HR.out]
  exact ⟨rfl,(by first | exact G.out.1 | exact (G.out.al _).1)⟩
theorem formed_block (t : Nd) (lt : Value) (w : World) (hlt : LN w lt t.l) (hs : t.s.size ≤ 2000000) (hn64 : wf64 t.n) (hq : RQ w t.l) :
 Calls prog 210 #[ndV t lt,.int .i64 5] w fun e w' => e = .returned (.bool (nodeR .block t.op t.n t.s (okL t.l))) ∧ Fr w w' := by
 obtain ⟨o,n,s,l,a⟩ := t
 have hlt : LN w lt l := hlt
 have hs : s.size ≤ 2000000 := hs
 have hn64 : wf64 n := hn64
 have hq : RQ w l := hq
 show Calls _ _ #[.agg #[.int .i64 o,.int .i64 n,.string s,lt,.int .i64 a],.int .i64 5] w fun e w' => e = .returned (.bool (nodeR .block o n s (okL l))) ∧ Fr w w'
 obtain ⟨b0,cap,rfl,hcap,hcm,_⟩ := hlt.form
 obtain ⟨len,hlen⟩ : ∃ x,x = l.length := ⟨_,rfl⟩
 rw [← hlen] at hlt ⊢
 obtain ⟨P,hP⟩ : ∃ x,x = okL l := ⟨_,rfl⟩
 rw [← hP]
 have CFC : Hid (∀ W,Fr w W → Calls prog 251 #[.agg #[.int .i64 o,.int .i64 n,.string s,.slice b0 len cap,.int .i64 a]] W fun e w' => e = .returned (.bool (cmdR o n s P)) ∧ Fr W w') := h_ (fun W h => by rw [hP]; exact formedCommand_of ⟨o,n,s,l,a⟩ _ W (hlt.fr h) hs hn64 (hq.fr h))
 obtain ⟨R,hR⟩ : ∃ r,r = (nodeR .block o n s P) := ⟨_,rfl⟩
 rw [← hR]
 have HPL : Hid (P.length = len) := h_ (by rw [hP,hlen,okL_len])
 have hn1 := h_ hn64
 clear hlt hq hP hlen hcap hcm hs hn64
 have G := h_ (FB.new w (.int .i64 o) (.int .i64 n) (.string s) (.slice b0 len cap) (.int .i64 a))
 by_cases g : o = 52
 ·subst g
  replace hR : R = (cmdR 52 n s P) := by first | exact hR | (rw [hR]; first | rfl | simp [nodeR,blockR,cmdR,repR])
  all_goals
   try simp [HPL.out,named,someK,hasK_nil, *] at hR
   have HR := h_ hR
   clear hR
   try clear h5
   go_enter func210,ntmps210
   go_wp2_with fail
   repeat
    first
     | ((with_reducible refine (CFC.out _ ?_).mono ?_); first | exact G.out.1 | exact (G.out.al _).1)
    rintro e w1 ⟨rfl,hf⟩
    first | replace G := h_ (G.out.st hf) | replace G := h_ ((G.out.al _).st hf)
    obtain ⟨k0,k1,k2,k3,k4⟩ := G.out.2.cells
    clear hf
    go_wp2_with fail
   go_ret
   rw [HR.out]
   exact ⟨rfl,(by first | exact G.out.1 | exact (G.out.al _).1)⟩
 have g52 := g
 clear g
 have z52 := nz g52
 replace hR : R = (false) := by first | (rw [hR]; simp [nodeR,blockR,cmdR,repR,g52]; done) | (rw [hR]; rfl)
 clear g52
 all_goals
  try simp [HPL.out,named,someK,hasK_nil, *] at hR
  have HR := h_ hR
  clear hR
  try clear h5
  go_enter func210,ntmps210
  go_wp2_with fail
  go_ret
  rw [HR.out]
  exact ⟨rfl,(by first | exact G.out.1 | exact (G.out.al _).1)⟩
theorem formed_rep (t : Nd) (lt : Value) (w : World) (hlt : LN w lt t.l) (hs : t.s.size ≤ 2000000) (hn64 : wf64 t.n) (hq : RQ w t.l) :
 Calls prog 210 #[ndV t lt,.int .i64 4] w fun e w' => e = .returned (.bool (nodeR .rep t.op t.n t.s (okL t.l))) ∧ Fr w w' := by
 obtain ⟨o,n,s,l,a⟩ := t
 have hlt : LN w lt l := hlt
 have hs : s.size ≤ 2000000 := hs
 have hn64 : wf64 n := hn64
 have hq : RQ w l := hq
 show Calls _ _ #[.agg #[.int .i64 o,.int .i64 n,.string s,lt,.int .i64 a],.int .i64 4] w fun e w' => e = .returned (.bool (nodeR .rep o n s (okL l))) ∧ Fr w w'
 obtain ⟨b0,cap,rfl,hcap,hcm,_⟩ := hlt.form
 obtain ⟨len,hlen⟩ : ∃ x,x = l.length := ⟨_,rfl⟩
 rw [← hlen] at hlt ⊢
 obtain ⟨P,hP⟩ : ∃ x,x = okL l := ⟨_,rfl⟩
 rw [← hP]
 have CFC : Hid (∀ W,Fr w W → Calls prog 251 #[.agg #[.int .i64 o,.int .i64 n,.string s,.slice b0 len cap,.int .i64 a]] W fun e w' => e = .returned (.bool (cmdR o n s P)) ∧ Fr W w') := h_ (fun W h => by rw [hP]; exact formedCommand_of ⟨o,n,s,l,a⟩ _ W (hlt.fr h) hs hn64 (hq.fr h))
 obtain ⟨R,hR⟩ : ∃ r,r = (nodeR .rep o n s P) := ⟨_,rfl⟩
 rw [← hR]
 have HPL : Hid (P.length = len) := h_ (by rw [hP,hlen,okL_len])
 have hn1 := h_ hn64
 clear hlt hq hP hlen hcap hcm hs hn64
 have G := h_ (FB.new w (.int .i64 o) (.int .i64 n) (.string s) (.slice b0 len cap) (.int .i64 a))
 by_cases g : o = 30 ∨ o = 31 ∨ o = 52 ∨ o = 44 ∨ o = 45 ∨ o = 46 ∨ o = 47 ∨ o = 51 ∨ o = 48 ∨ o = 49 ∨ o = 37 ∨ o = 38 ∨ o = 39
 ·replace hR : R = (cmdR o n s P) := by rw [hR]; rcases g with rfl | rfl | rfl | rfl | rfl | rfl | rfl | rfl | rfl | rfl | rfl | rfl | rfl <;> first | rfl | simp [nodeR,repR,cmdR,blockR]
  rcases g with rfl | rfl | rfl | rfl | rfl | rfl | rfl | rfl | rfl | rfl | rfl | rfl | rfl
  all_goals
   skip
   all_goals
    try simp [HPL.out,named,someK,hasK_nil, *] at hR
    have HR := h_ hR
    clear hR
    try clear h5
    go_enter func210,ntmps210
    go_wp2_with fail
    repeat
     first
      | ((with_reducible refine (CFC.out _ ?_).mono ?_); first | exact G.out.1 | exact (G.out.al _).1)
     rintro e w1 ⟨rfl,hf⟩
     first | replace G := h_ (G.out.st hf) | replace G := h_ ((G.out.al _).st hf)
     obtain ⟨k0,k1,k2,k3,k4⟩ := G.out.2.cells
     clear hf
     go_wp2_with fail
    go_ret
    rw [HR.out]
    exact ⟨rfl,(by first | exact G.out.1 | exact (G.out.al _).1)⟩
 simp only [not_or] at g
 obtain ⟨g30,g31,g52,g44,g45,g46,g47,g51,g48,g49,g37,g38,g39⟩ := g
 have z30 := nz g30
 have z31 := nz g31
 have z52 := nz g52
 have z44 := nz g44
 have z45 := nz g45
 have z46 := nz g46
 have z47 := nz g47
 have z51 := nz g51
 have z48 := nz g48
 have z49 := nz g49
 have z37 := nz g37
 have z38 := nz g38
 have z39 := nz g39
 replace hR : R = (false) := by first | (rw [hR]; simp [nodeR,repR,cmdR,blockR,g30,g31,g52,g44,g45,g46,g47,g51,g48,g49,g37,g38,g39]; done) | (rw [hR]; rfl)
 clear g30 g31 g52 g44 g45 g46 g47 g51 g48 g49 g37 g38 g39
 all_goals
  try simp [HPL.out,named,someK,hasK_nil, *] at hR
  have HR := h_ hR
  clear hR
  try clear h5
  go_enter func210,ntmps210
  go_wp2_with fail
  go_ret
  rw [HR.out]
  exact ⟨rfl,(by first | exact G.out.1 | exact (G.out.al _).1)⟩
theorem formed_const (t : Nd) (lt : Value) (w : World) (hlt : LN w lt t.l) (hs : t.s.size ≤ 2000000) (hn64 : wf64 t.n) (hq : RQ w t.l) :
 Calls prog 210 #[ndV t lt,.int .i64 7] w fun e w' => e = .returned (.bool (nodeR .const t.op t.n t.s (okL t.l))) ∧ Fr w w' := by
 obtain ⟨o,n,s,l,a⟩ := t
 have hlt : LN w lt l := hlt
 have hs : s.size ≤ 2000000 := hs
 have hn64 : wf64 n := hn64
 have hq : RQ w l := hq
 show Calls _ _ #[.agg #[.int .i64 o,.int .i64 n,.string s,lt,.int .i64 a],.int .i64 7] w fun e w' => e = .returned (.bool (nodeR .const o n s (okL l))) ∧ Fr w w'
 obtain ⟨b0,cap,rfl,hcap,hcm,_⟩ := hlt.form
 obtain ⟨len,hlen⟩ : ∃ x,x = l.length := ⟨_,rfl⟩
 rw [← hlen] at hlt ⊢
 obtain ⟨P,hP⟩ : ∃ x,x = okL l := ⟨_,rfl⟩
 rw [← hP]
 have CZ01 : Hid (∀ W,Fr w W → Calls prog 252 #[.agg #[.int .i64 o,.int .i64 n,.string s,.slice b0 len cap,.int .i64 a],.bool false,.bool true] W fun e w' => e = .returned (.bool (decide (n = 0))) ∧ Fr W w') := h_ (fun W h => zero01_any ⟨o,n,s,l,a⟩ (.slice b0 len cap) W)
 have CIn : Hid (∀ W,Fr w W → Calls prog 253 #[.string s] W fun e w' => e = .returned (.bool (isNm s)) ∧ Fr W w') := h_ (fun W h => RisName_any s W)
 have CP : Hid (∀ W,Fr w W → ∀ ks kv,IV W kv ks → Calls prog 254 #[.slice b0 len cap,kv] W fun e w' => e = .returned (.bool (hasK P ks)) ∧ Fr W w') := h_ (fun W h ks kv hk => by rw [hP]; exact parts_any l _ W ks kv (hlt.fr h) hk (hq.fr h))
 obtain ⟨R,hR⟩ : ∃ r,r = (nodeR .const o n s P) := ⟨_,rfl⟩
 rw [← hR]
 have HPL : Hid (P.length = len) := h_ (by rw [hP,hlen,okL_len])
 have hn1 := h_ hn64
 clear hlt hq hP hlen hcap hcm hs hn64
 have G := h_ (FB.new w (.int .i64 o) (.int .i64 n) (.string s) (.slice b0 len cap) (.int .i64 a))
 by_cases g : o = 63
 ·subst g
  replace hR : R = (named n s && hasK P [.expr]) := by first | exact hR | (rw [hR]; first | rfl | simp [nodeR,constR])
  rcases Bool.eq_false_or_eq_true (decide (n = 0)) with hv34 | hv34 <;> (rw [hv34] at CZ01; try rw [hv34] at hR)
  rcases Bool.eq_false_or_eq_true (isNm s) with hv34 | hv34 <;> (rw [hv34] at CIn; try rw [hv34] at hR)
  all_goals
   try simp [HPL.out,named,someK,hasK_nil, *] at hR
   have HR := h_ hR
   clear hR
   try clear h5
   go_enter func210,ntmps210
   go_wp2_with fail
   repeat
    first
     | ((with_reducible refine (CZ01.out _ ?_).mono ?_); first | exact G.out.1 | exact (G.out.al _).1)
     | ((with_reducible refine (CIn.out _ ?_).mono ?_); first | exact G.out.1 | exact (G.out.al _).1)
     | (go_at_call 254; refine (CP.out _ (by first | exact G.out.1 | exact (G.out.al _).1) [.expr] _ (IV.one _ _ .expr _ (by simp) rfl)).mono ?_)
    rintro e w1 ⟨rfl,hf⟩
    first | replace G := h_ (G.out.st hf) | replace G := h_ ((G.out.al _).st hf)
    obtain ⟨k0,k1,k2,k3,k4⟩ := G.out.2.cells
    clear hf
    go_wp2_with fail
   go_ret
   rw [HR.out]
   exact ⟨rfl,(by first | exact G.out.1 | exact (G.out.al _).1)⟩
 have g63 := g
 clear g
 have z63 := nz g63
 replace hR : R = (false) := by first | (rw [hR]; simp [nodeR,constR,g63]; done) | (rw [hR]; rfl)
 clear g63
 all_goals
  try simp [HPL.out,named,someK,hasK_nil, *] at hR
  have HR := h_ hR
  clear hR
  try clear h5
  go_enter func210,ntmps210
  go_wp2_with fail
  go_ret
  rw [HR.out]
  exact ⟨rfl,(by first | exact G.out.1 | exact (G.out.al _).1)⟩
theorem formed_item (t : Nd) (lt : Value) (w : World) (hlt : LN w lt t.l) (hs : t.s.size ≤ 2000000) (hn64 : wf64 t.n) (hq : RQ w t.l) :
 Calls prog 210 #[ndV t lt,.int .i64 3] w fun e w' => e = .returned (.bool (nodeR .item t.op t.n t.s (okL t.l))) ∧ Fr w w' := by
 obtain ⟨o,n,s,l,a⟩ := t
 have hlt : LN w lt l := hlt
 have hs : s.size ≤ 2000000 := hs
 have hn64 : wf64 n := hn64
 have hq : RQ w l := hq
 show Calls _ _ #[.agg #[.int .i64 o,.int .i64 n,.string s,lt,.int .i64 a],.int .i64 3] w fun e w' => e = .returned (.bool (nodeR .item o n s (okL l))) ∧ Fr w w'
 obtain ⟨b0,cap,rfl,hcap,hcm,_⟩ := hlt.form
 obtain ⟨len,hlen⟩ : ∃ x,x = l.length := ⟨_,rfl⟩
 rw [← hlen] at hlt ⊢
 obtain ⟨P,hP⟩ : ∃ x,x = okL l := ⟨_,rfl⟩
 rw [← hP]
 have CZ10 : Hid (∀ W,Fr w W → Calls prog 252 #[.agg #[.int .i64 o,.int .i64 n,.string s,.slice b0 len cap,.int .i64 a],.bool true,.bool false] W fun e w' => e = .returned (.bool (empS s)) ∧ Fr W w') := h_ (fun W h => zero10_any ⟨o,n,s,l,a⟩ (.slice b0 len cap) W)
 have CZ01 : Hid (∀ W,Fr w W → Calls prog 252 #[.agg #[.int .i64 o,.int .i64 n,.string s,.slice b0 len cap,.int .i64 a],.bool false,.bool true] W fun e w' => e = .returned (.bool (decide (n = 0))) ∧ Fr W w') := h_ (fun W h => zero01_any ⟨o,n,s,l,a⟩ (.slice b0 len cap) W)
 have CIn : Hid (∀ W,Fr w W → Calls prog 253 #[.string s] W fun e w' => e = .returned (.bool (isNm s)) ∧ Fr W w') := h_ (fun W h => RisName_any s W)
 have CP : Hid (∀ W,Fr w W → ∀ ks kv,IV W kv ks → Calls prog 254 #[.slice b0 len cap,kv] W fun e w' => e = .returned (.bool (hasK P ks)) ∧ Fr W w') := h_ (fun W h ks kv hk => by rw [hP]; exact parts_any l _ W ks kv (hlt.fr h) hk (hq.fr h))
 have CFC : Hid (∀ W,Fr w W → Calls prog 251 #[.agg #[.int .i64 o,.int .i64 n,.string s,.slice b0 len cap,.int .i64 a]] W fun e w' => e = .returned (.bool (cmdR o n s P)) ∧ Fr W w') := h_ (fun W h => by rw [hP]; exact formedCommand_of ⟨o,n,s,l,a⟩ _ W (hlt.fr h) hs hn64 (hq.fr h))
 have HCM : Hid (len ≤ 9223372036854775807) := h_ (by unfold maxLen at hcm; omega)
 have HCAP : Hid (len ≤ cap) := h_ (by rw [hlen]; exact hcap)
 have CA1 : Hid (∀ W,Fr w W → Calls prog 145 #[.slice b0 (len / 2) cap,.int .i64 6] W fun e w' => e = .returned (.bool (allK (P.take (len / 2)) .name)) ∧ Fr W w') := h_ (fun W h => by
  rw [hlen] at hlt ⊢
  rw [hP,okL_take]
  exact all_any .name rfl (l.take (l.length / 2)) _ W ((hlt.fr h).take_ _ (by omega)) ((hq.fr h).sub fun t ht => List.mem_of_mem_take ht))
 have CA2 : Hid (0 < len → ∃ b off,b0 = some ⟨b,off,none⟩ ∧ ∀ W,Fr w W → Calls prog 145 #[.slice (some ⟨b,off + len / 2 * 5,none⟩) (len - len / 2) (cap - len / 2),.int .i64 1] W fun e w' => e = .returned (.bool (allK (P.drop (len / 2)) .expr)) ∧ Fr W w') := h_ (fun h0 => by
  rw [hlen] at h0 hlt ⊢
  obtain ⟨t,ht⟩ : ∃ t,l[0]? = some t := ⟨_,List.getElem?_eq_getElem (by omega)⟩
  obtain ⟨b,off,lv,rfl,_⟩ := hlt.at_ ht
  refine ⟨b,off,rfl,fun W h => ?_⟩
  rw [hP,okL_drop]
  exact all_any .expr rfl (l.drop (l.length / 2)) _ W ((hlt.fr h).drop_ _ (by omega)) ((hq.fr h).sub fun t ht => List.mem_of_mem_drop ht))
 obtain ⟨R,hR⟩ : ∃ r,r = (nodeR .item o n s P) := ⟨_,rfl⟩
 rw [← hR]
 have HPL : Hid (P.length = len) := h_ (by rw [hP,hlen,okL_len])
 have hn1 := h_ hn64
 clear hlt hq hP hlen hcap hcm hs hn64
 have G := h_ (FB.new w (.int .i64 o) (.int .i64 n) (.string s) (.slice b0 len cap) (.int .i64 a))
 by_cases g : o = 54
 ·subst g
  replace hR : R = (empS s && (decide (1 ≤ n) && decide ((P.length : Int) = 2 * n) && allK (P.take (len / 2)) .name && allK (P.drop (len / 2)) .expr)) := by first | exact hR | (rw [hR]; first | rfl | simp [nodeR,itemR,pairs_alt,HPL.out])
  obtain ⟨h,hh⟩ : ∃ x,x = len / 2 := ⟨_,rfl⟩
  rw [← hh] at CA1 CA2 hR
  have HH := h_ hh
  clear hh
  rcases Bool.eq_false_or_eq_true (empS s) with hv35 | hv35 <;> (rw [hv35] at CZ10; try rw [hv35] at hR)
  rcases c_or (p := 1 ≤ n) (a := (decide ((1 : Int) ≤ n) = true) ∧ (decide (n ≥ (1 : Int)) = true)) (b := (decide ((1 : Int) ≤ n) = false) ∧ (decide (n ≥ (1 : Int)) = false)) (fun h4 => ⟨decide_eq_true h4,decide_eq_true h4⟩) (fun h4 => ⟨decide_eq_false h4,decide_eq_false h4⟩) with ⟨h4,e4,e4b⟩ | ⟨h4,e4,e4b⟩
  rcases c_or (p := (len : Int) = 2 * n) (a := ((len : Int) == wrap64 (2 * n)) = true) (b := ((len : Int) == wrap64 (2 * n)) = false) (fun h5 => by have hx := two_eq h4 hn1.out HCM.out; rw [decide_eq_true h5,IntWalk.i64_left] at hx; exact hx) (fun h5 => by have hx := two_eq h4 hn1.out HCM.out; rw [decide_eq_false h5,IntWalk.i64_left] at hx; exact hx) with ⟨h5,e5⟩ | ⟨h5,e5⟩
  simp [HPL.out,h4,h5] at hR
  have hnh : n = (h : Int) := by have := HH.out; omega
  have h1h : 1 ≤ h := by omega
  have h2h : len = 2 * h := by omega
  subst hnh
  have hlc : len ≤ cap := HCAP.out
  obtain ⟨b,off,rfl,hC2⟩ := CA2.out (by omega)
  have HC2 := h_ hC2
  have f1 : (h : Int) ≤ cap := by omega
  have f2 : (h : Int) ≤ len := by omega
  have f3 : ¬ cap = h := by omega
  have f4 : (0 : Int) ≤ h := by omega
  clear hC2 h5 h2h hlc
  rcases Bool.eq_false_or_eq_true (allK (P.take h) .name) with hvp | hvp <;> (rw [hvp] at CA1; (try rw [hvp] at hR))
  all_goals
   try simp [HPL.out, *] at hR
   have HR := h_ hR
   clear hR
   try clear h5
   go_enter func210,ntmps210
   go_wp2_with fail
   repeat
    first
     | (go_at_call 145; (with_reducible show Calls _ _ #[_,.int .i64 6] _ _); refine (CA1.out _ (by first | exact G.out.1 | exact (G.out.al _).1)).mono ?_)
     | (go_at_call 145; (with_reducible show Calls _ _ #[_,.int .i64 1] _ _); refine (HC2.out _ (by first | exact G.out.1 | exact (G.out.al _).1)).mono ?_)
     | ((with_reducible refine (CZ10.out _ ?_).mono ?_); first | exact G.out.1 | exact (G.out.al _).1)
    rintro e w1 ⟨rfl,hf⟩
    first | replace G := h_ (G.out.st hf) | replace G := h_ ((G.out.al _).st hf)
    obtain ⟨k0,k1,k2,k3,k4⟩ := G.out.2.cells
    clear hf
    go_wp2_with fail
   go_ret
   rw [HR.out]
   exact ⟨rfl,(by first | exact G.out.1 | exact (G.out.al _).1)⟩
 have g54 := g
 clear g
 have z54 := nz g54
 by_cases g : o = 55
 ·subst g
  replace hR : R = (named n s && hasK P [.expr]) := by first | exact hR | (rw [hR]; first | rfl | simp [nodeR,itemR,pairs_alt,HPL.out])
  rcases Bool.eq_false_or_eq_true (decide (n = 0)) with hv37 | hv37 <;> (rw [hv37] at CZ01; try rw [hv37] at hR)
  rcases Bool.eq_false_or_eq_true (isNm s) with hv37 | hv37 <;> (rw [hv37] at CIn; try rw [hv37] at hR)
  all_goals
   try simp [HPL.out,named,someK,hasK_nil, *] at hR
   have HR := h_ hR
   clear hR
   try clear h5
   go_enter func210,ntmps210
   go_wp2_with fail
   repeat
    first
     | ((with_reducible refine (CZ01.out _ ?_).mono ?_); first | exact G.out.1 | exact (G.out.al _).1)
     | ((with_reducible refine (CIn.out _ ?_).mono ?_); first | exact G.out.1 | exact (G.out.al _).1)
     | (go_at_call 254; refine (CP.out _ (by first | exact G.out.1 | exact (G.out.al _).1) [.expr] _ (IV.one _ _ .expr _ (by simp) rfl)).mono ?_)
    rintro e w1 ⟨rfl,hf⟩
    first | replace G := h_ (G.out.st hf) | replace G := h_ ((G.out.al _).st hf)
    obtain ⟨k0,k1,k2,k3,k4⟩ := G.out.2.cells
    clear hf
    go_wp2_with fail
   go_ret
   rw [HR.out]
   exact ⟨rfl,(by first | exact G.out.1 | exact (G.out.al _).1)⟩
 have g55 := g
 clear g
 have z55 := nz g55
 replace hR : R = (cmdR o n s P) := by first | (rw [hR]; simp [nodeR,itemR,pairs_alt,HPL.out,g54,g55]; done) | (rw [hR]; rfl)
 clear g54 g55
 all_goals
  try simp [HPL.out,named,someK,hasK_nil, *] at hR
  have HR := h_ hR
  clear hR
  try clear h5
  go_enter func210,ntmps210
  go_wp2_with fail
  repeat
   first
    | ((with_reducible refine (CFC.out _ ?_).mono ?_); first | exact G.out.1 | exact (G.out.al _).1)
   rintro e w1 ⟨rfl,hf⟩
   first | replace G := h_ (G.out.st hf) | replace G := h_ ((G.out.al _).st hf)
   obtain ⟨k0,k1,k2,k3,k4⟩ := G.out.2.cells
   clear hf
   go_wp2_with fail
  go_ret
  rw [HR.out]
  exact ⟨rfl,(by first | exact G.out.1 | exact (G.out.al _).1)⟩
theorem formed_any : ∀ (m : Nat),m ≤ 2000000 → ∀ (t : Nd),t.bulk ≤ m → wfN t → ∀ (p : Pr),p.ref = true → ∀ (lt : Value) (w : World),LN w lt t.l →
 Calls prog 210 #[ndV t lt,.int .i64 p.num] w fun e w' => e = .returned (.bool (okP t p)) ∧ Fr w w' := by
 intro m
 induction m using Nat.strongRecOn with
 | _ m ih =>
  intro hm t ht hwf p hp lt w hlt
  have hbe := t.bulk_eq
  have hs : t.s.size ≤ 2000000 := by omega
  have hq : RQ w t.l := by
   intro W hW u hu lu hlu q hqr
   have hub := bulks_mem hu
   exact ih u.bulk (by omega) (by omega) u (Nat.le_refl _) (hlt.wf u hu) q hqr lu W hlu
  rw [okP_eq]
  cases p with
  | expr => exact formed_expr t lt w hlt hs hwf.n hq
  | name => exact formed_name t lt w hlt hs hwf.n hq
  | call => cases hp
  | block => exact formed_block t lt w hlt hs hwf.n hq
  | item => exact formed_item t lt w hlt hs hwf.n hq
  | cmd => exact formed_cmd t lt w hlt hs hwf.n hq
  | rep => exact formed_rep t lt w hlt hs hwf.n hq
  | const => exact formed_const t lt w hlt hs hwf.n hq
  | decl => exact formed_decl t lt w hlt hs hwf.n hq
  | few => cases hp
theorem RQ_all (w : World) (l : List Nd) (hb : bulks l ≤ 2000000) (hw : ∀ t ∈ l,wfN t) : RQ w l := by
 intro W hW t ht lt hlt p hp
 have := bulks_mem ht
 exact formed_any t.bulk (by omega) t (Nat.le_refl _) (hw t ht) p hp lt W hlt
def mostN (o : Int) (len : Nat) : Nat := if o = 54 ∨ o = 30 then 16 else if o = 7 ∨ o = 64 then 9 else if o = 16 then 100 else len
mutual
def grN : Nd → Bool
 | ⟨o,_,_,l,_⟩ => decide (mostN o l.length < l.length) || grL l
def grL : List Nd → Bool
 | [] => false
 | t :: r => grN t || grL r
end
theorem grN_eq (t : Nd) : grN t = (decide (mostN t.op t.l.length < t.l.length) || grL t.l) := by
 obtain ⟨o,n,s,l,a⟩ := t
 rw [grN]; rfl
theorem grL_drop {l : List Nd} {j : Nat} {t : Nd} (ht : l[j]? = some t) : grL (l.drop j) = (grN t || grL (l.drop (j + 1))) := by
 rw [drop1 ht,grL]
theorem great_any : ∀ (m : Nat),m ≤ 2000000 → ∀ (l : List Nd),bulks l ≤ m → ∀ (v : Value) (w : World),LN w v l →
 Calls prog 146 #[v] w fun e w' => e = .returned (.bool (grL l)) ∧ Fr w w' := by
 intro m
 induction m using Nat.strongRecOn with
 | _ m ih =>
  intro hm2 l hl v w hv
  have IH := h_ ih
  have HV := h_ hv
  have HB := h_ hl
  obtain ⟨a,cap,rfl,hc,hm,_⟩ := hv.form
  unfold maxLen at hm
  obtain ⟨n,hn⟩ : ∃ n,n = l.length := ⟨_,rfl⟩
  have HN := h_ hn
  rw [← hn] at hc HV ⊢
  obtain ⟨D,hD⟩ : ∃ d,d = grL l := ⟨_,rfl⟩
  have HD := h_ hD
  rw [← hD]
  clear hn hv hD ih hl
  go_enter func146,ntmps146
  go_wp2_with fail
  go_loopw [3] (fun i wr => ∃ j : Nat,j ≤ n ∧ i = .int .i64 j ∧ Hid (D = grL (l.drop j)) ∧ Fr w wr) (fun i _ => n - (intOf i).toNat)
  case atStart => exact ⟨0,Nat.zero_le _,rfl,h_ (by rw [HD.out]; rfl),Fr.refl _⟩
  case round =>
   obtain ⟨j,hj,rfl,HJ,hfr⟩ := hrel
   by_cases hlt : j < n
   ·obtain ⟨t,ht⟩ : ∃ t,l[j]? = some t := ⟨_,List.getElem?_eq_getElem (by rw [← HN.out]; exact hlt)⟩
    have hstep := grL_drop ht
    rw [grN_eq] at hstep
    have htb := bulks_mem (List.mem_of_getElem? ht)
    have hbe := t.bulk_eq
    have hbl := HB.out
    obtain ⟨b,off,lv,rfl,hc5,hln,_⟩ := (HV.out.fr hfr).at_ ht
    obtain ⟨x0,x1,x2,x3,x4⟩ := hc5
    obtain ⟨la,lc,rfl,_,hlm,_⟩ := hln.form
    unfold maxLen at hlm
    obtain ⟨D1,hD1⟩ : ∃ d,d = grL t.l := ⟨_,rfl⟩
    have HL := h_ hln
    have HC : Hid (∀ W,Fr wr W → Calls prog 146 #[.slice la t.l.length lc] W fun e w' => e = .returned (.bool D1) ∧ Fr W w') := h_ (fun W hW => by
     rw [hD1]; exact IH.out (bulks t.l) (by omega) (by omega) t.l (Nat.le_refl _) _ W (HL.out.fr hW))
    rw [← hD1] at hstep
    obtain ⟨ll,hll⟩ : ∃ x : Nat,x = t.l.length := ⟨_,rfl⟩
    rw [← hll] at x3 HC hstep
    obtain ⟨q0,hq0,q1,hq1,q2,hq2,q4,hq4⟩ := qs_ t
    rw [← hq0] at x0 hstep
    rw [← hq1] at x1
    rw [← hq2] at x2
    rw [← hq4] at x4
    have hll9 : ll ≤ 9223372036854775807 := by have := bulks_len t.l; omega
    have HB0 := h_ (Nb.new wr (.int .i64 q0) (.int .i64 q1) (.string q2) (.slice la ll lc) (.int .i64 q4))
    clear hln ht hD1 hll hq0 hq1 hq2 hq4 htb hbe hbl hlm
    by_cases g54 : q0 = 54
    ·subst g54
     by_cases hk : 16 < ll
     ·have f1 : decide ((16 : Int) < (ll : Int)) = true := decide_eq_true (by omega)
      have f2 : decide ((ll : Int) > 16) = true := decide_eq_true (by omega)
      have HT : Hid (D = true) := h_ (by rw [HJ.out,hstep]; simp [mostN,hk])
      clear hstep
      go_wp2_with fail
      go_ret
      rw [HT.out]
      exact ⟨rfl,Fr.trans hfr (by repeat' first | exact Fr.refl _ | refine Fr.alloc ?_ _)⟩
     ·have f1 : decide ((16 : Int) < (ll : Int)) = false := decide_eq_false (by omega)
      have f2 : decide ((ll : Int) > 16) = false := decide_eq_false (by omega)
      have HST : Hid (grL (l.drop j) = (D1 || grL (l.drop (j + 1)))) := h_ (by rw [hstep]; simp [mostN,hk])
      clear hstep
      cases D1 with
      | true =>
       have HT : Hid (D = true) := h_ (by rw [HJ.out,HST.out]; rfl)
       go_wp2_with fail
       refine (HC.out _ (by repeat' first | exact Fr.refl _ | refine Fr.alloc ?_ _)).mono ?_
       rintro e w1 ⟨rfl,hf1⟩
       have hfin := hfr.trans (Fr.trans (by repeat' first | exact Fr.refl _ | refine Fr.alloc ?_ _) hf1)
       go_wp2_with fail
       go_ret
       rw [HT.out]
       exact ⟨rfl,hfin⟩
      | false =>
       have HJ2 : Hid (D = grL (l.drop (j + 1))) := h_ (by rw [HJ.out,HST.out,Bool.false_or])
       go_wp2_with fail
       refine (HC.out _ (by repeat' first | exact Fr.refl _ | refine Fr.alloc ?_ _)).mono ?_
       rintro e w1 ⟨rfl,hf1⟩
       have hfin := hfr.trans (Fr.trans (by repeat' first | exact Fr.refl _ | refine Fr.alloc ?_ _) hf1)
       go_wp2_with fail
       go_roundw
       case rel => exact ⟨j + 1,by omega,by go_num,HJ2,hfin⟩
       case measure => simp [intOf]; omega
    have z54 : (q0 == 54) = false := by rw [beq_eq_false_iff_ne]; exact g54
    by_cases g30 : q0 = 30
    ·subst g30
     by_cases hk : 16 < ll
     ·have f1 : decide ((16 : Int) < (ll : Int)) = true := decide_eq_true (by omega)
      have f2 : decide ((ll : Int) > 16) = true := decide_eq_true (by omega)
      have HT : Hid (D = true) := h_ (by rw [HJ.out,hstep]; simp [mostN,hk])
      clear hstep
      go_wp2_with fail
      go_ret
      rw [HT.out]
      exact ⟨rfl,Fr.trans hfr (by repeat' first | exact Fr.refl _ | refine Fr.alloc ?_ _)⟩
     ·have f1 : decide ((16 : Int) < (ll : Int)) = false := decide_eq_false (by omega)
      have f2 : decide ((ll : Int) > 16) = false := decide_eq_false (by omega)
      have HST : Hid (grL (l.drop j) = (D1 || grL (l.drop (j + 1)))) := h_ (by rw [hstep]; simp [mostN,hk])
      clear hstep
      cases D1 with
      | true =>
       have HT : Hid (D = true) := h_ (by rw [HJ.out,HST.out]; rfl)
       go_wp2_with fail
       refine (HC.out _ (by repeat' first | exact Fr.refl _ | refine Fr.alloc ?_ _)).mono ?_
       rintro e w1 ⟨rfl,hf1⟩
       have hfin := hfr.trans (Fr.trans (by repeat' first | exact Fr.refl _ | refine Fr.alloc ?_ _) hf1)
       go_wp2_with fail
       go_ret
       rw [HT.out]
       exact ⟨rfl,hfin⟩
      | false =>
       have HJ2 : Hid (D = grL (l.drop (j + 1))) := h_ (by rw [HJ.out,HST.out,Bool.false_or])
       go_wp2_with fail
       refine (HC.out _ (by repeat' first | exact Fr.refl _ | refine Fr.alloc ?_ _)).mono ?_
       rintro e w1 ⟨rfl,hf1⟩
       have hfin := hfr.trans (Fr.trans (by repeat' first | exact Fr.refl _ | refine Fr.alloc ?_ _) hf1)
       go_wp2_with fail
       go_roundw
       case rel => exact ⟨j + 1,by omega,by go_num,HJ2,hfin⟩
       case measure => simp [intOf]; omega
    have z30 : (q0 == 30) = false := by rw [beq_eq_false_iff_ne]; exact g30
    by_cases g7 : q0 = 7
    ·subst g7
     by_cases hk : 9 < ll
     ·have f1 : decide ((9 : Int) < (ll : Int)) = true := decide_eq_true (by omega)
      have f2 : decide ((ll : Int) > 9) = true := decide_eq_true (by omega)
      have HT : Hid (D = true) := h_ (by rw [HJ.out,hstep]; simp [mostN,hk])
      clear hstep
      go_wp2_with fail
      go_ret
      rw [HT.out]
      exact ⟨rfl,Fr.trans hfr (by repeat' first | exact Fr.refl _ | refine Fr.alloc ?_ _)⟩
     ·have f1 : decide ((9 : Int) < (ll : Int)) = false := decide_eq_false (by omega)
      have f2 : decide ((ll : Int) > 9) = false := decide_eq_false (by omega)
      have HST : Hid (grL (l.drop j) = (D1 || grL (l.drop (j + 1)))) := h_ (by rw [hstep]; simp [mostN,hk])
      clear hstep
      cases D1 with
      | true =>
       have HT : Hid (D = true) := h_ (by rw [HJ.out,HST.out]; rfl)
       go_wp2_with fail
       refine (HC.out _ (by repeat' first | exact Fr.refl _ | refine Fr.alloc ?_ _)).mono ?_
       rintro e w1 ⟨rfl,hf1⟩
       have hfin := hfr.trans (Fr.trans (by repeat' first | exact Fr.refl _ | refine Fr.alloc ?_ _) hf1)
       go_wp2_with fail
       go_ret
       rw [HT.out]
       exact ⟨rfl,hfin⟩
      | false =>
       have HJ2 : Hid (D = grL (l.drop (j + 1))) := h_ (by rw [HJ.out,HST.out,Bool.false_or])
       go_wp2_with fail
       refine (HC.out _ (by repeat' first | exact Fr.refl _ | refine Fr.alloc ?_ _)).mono ?_
       rintro e w1 ⟨rfl,hf1⟩
       have hfin := hfr.trans (Fr.trans (by repeat' first | exact Fr.refl _ | refine Fr.alloc ?_ _) hf1)
       go_wp2_with fail
       go_roundw
       case rel => exact ⟨j + 1,by omega,by go_num,HJ2,hfin⟩
       case measure => simp [intOf]; omega
    have z7 : (q0 == 7) = false := by rw [beq_eq_false_iff_ne]; exact g7
    by_cases g64 : q0 = 64
    ·subst g64
     by_cases hk : 9 < ll
     ·have f1 : decide ((9 : Int) < (ll : Int)) = true := decide_eq_true (by omega)
      have f2 : decide ((ll : Int) > 9) = true := decide_eq_true (by omega)
      have HT : Hid (D = true) := h_ (by rw [HJ.out,hstep]; simp [mostN,hk])
      clear hstep
      go_wp2_with fail
      go_ret
      rw [HT.out]
      exact ⟨rfl,Fr.trans hfr (by repeat' first | exact Fr.refl _ | refine Fr.alloc ?_ _)⟩
     ·have f1 : decide ((9 : Int) < (ll : Int)) = false := decide_eq_false (by omega)
      have f2 : decide ((ll : Int) > 9) = false := decide_eq_false (by omega)
      have HST : Hid (grL (l.drop j) = (D1 || grL (l.drop (j + 1)))) := h_ (by rw [hstep]; simp [mostN,hk])
      clear hstep
      cases D1 with
      | true =>
       have HT : Hid (D = true) := h_ (by rw [HJ.out,HST.out]; rfl)
       go_wp2_with fail
       refine (HC.out _ (by repeat' first | exact Fr.refl _ | refine Fr.alloc ?_ _)).mono ?_
       rintro e w1 ⟨rfl,hf1⟩
       have hfin := hfr.trans (Fr.trans (by repeat' first | exact Fr.refl _ | refine Fr.alloc ?_ _) hf1)
       go_wp2_with fail
       go_ret
       rw [HT.out]
       exact ⟨rfl,hfin⟩
      | false =>
       have HJ2 : Hid (D = grL (l.drop (j + 1))) := h_ (by rw [HJ.out,HST.out,Bool.false_or])
       go_wp2_with fail
       refine (HC.out _ (by repeat' first | exact Fr.refl _ | refine Fr.alloc ?_ _)).mono ?_
       rintro e w1 ⟨rfl,hf1⟩
       have hfin := hfr.trans (Fr.trans (by repeat' first | exact Fr.refl _ | refine Fr.alloc ?_ _) hf1)
       go_wp2_with fail
       go_roundw
       case rel => exact ⟨j + 1,by omega,by go_num,HJ2,hfin⟩
       case measure => simp [intOf]; omega
    have z64 : (q0 == 64) = false := by rw [beq_eq_false_iff_ne]; exact g64
    by_cases g16 : q0 = 16
    ·subst g16
     by_cases hk : 100 < ll
     ·have f1 : decide ((100 : Int) < (ll : Int)) = true := decide_eq_true (by omega)
      have f2 : decide ((ll : Int) > 100) = true := decide_eq_true (by omega)
      have HT : Hid (D = true) := h_ (by rw [HJ.out,hstep]; simp [mostN,hk])
      clear hstep
      go_wp2_with fail
      go_ret
      rw [HT.out]
      exact ⟨rfl,Fr.trans hfr (by repeat' first | exact Fr.refl _ | refine Fr.alloc ?_ _)⟩
     ·have f1 : decide ((100 : Int) < (ll : Int)) = false := decide_eq_false (by omega)
      have f2 : decide ((ll : Int) > 100) = false := decide_eq_false (by omega)
      have HST : Hid (grL (l.drop j) = (D1 || grL (l.drop (j + 1)))) := h_ (by rw [hstep]; simp [mostN,hk])
      clear hstep
      cases D1 with
      | true =>
       have HT : Hid (D = true) := h_ (by rw [HJ.out,HST.out]; rfl)
       go_wp2_with fail
       refine (HC.out _ (by repeat' first | exact Fr.refl _ | refine Fr.alloc ?_ _)).mono ?_
       rintro e w1 ⟨rfl,hf1⟩
       have hfin := hfr.trans (Fr.trans (by repeat' first | exact Fr.refl _ | refine Fr.alloc ?_ _) hf1)
       go_wp2_with fail
       go_ret
       rw [HT.out]
       exact ⟨rfl,hfin⟩
      | false =>
       have HJ2 : Hid (D = grL (l.drop (j + 1))) := h_ (by rw [HJ.out,HST.out,Bool.false_or])
       go_wp2_with fail
       refine (HC.out _ (by repeat' first | exact Fr.refl _ | refine Fr.alloc ?_ _)).mono ?_
       rintro e w1 ⟨rfl,hf1⟩
       have hfin := hfr.trans (Fr.trans (by repeat' first | exact Fr.refl _ | refine Fr.alloc ?_ _) hf1)
       go_wp2_with fail
       go_roundw
       case rel => exact ⟨j + 1,by omega,by go_num,HJ2,hfin⟩
       case measure => simp [intOf]; omega
    have z16 : (q0 == 16) = false := by rw [beq_eq_false_iff_ne]; exact g16
    replace hstep : grL (l.drop j) = (decide (ll < ll) || D1 || grL (l.drop (j + 1))) := by rw [hstep]; simp [mostN,g54,g30,g7,g64,g16]
    clear g54 g30 g7 g64 g16
    have hk : ¬ ll < ll := Nat.lt_irrefl _
    have f1 : decide (((ll : Int) : Int) < (ll : Int)) = false := decide_eq_false (by omega)
    have f2 : decide ((ll : Int) > (ll : Int)) = false := decide_eq_false (by omega)
    have HST : Hid (grL (l.drop j) = (D1 || grL (l.drop (j + 1)))) := h_ (by rw [hstep]; simp [mostN,hk])
    clear hstep
    cases D1 with
    | true =>
     have HT : Hid (D = true) := h_ (by rw [HJ.out,HST.out]; rfl)
     go_wp2_with fail
     refine (HC.out _ (by repeat' first | exact Fr.refl _ | refine Fr.alloc ?_ _)).mono ?_
     rintro e w1 ⟨rfl,hf1⟩
     have hfin := hfr.trans (Fr.trans (by repeat' first | exact Fr.refl _ | refine Fr.alloc ?_ _) hf1)
     go_wp2_with fail
     go_ret
     rw [HT.out]
     exact ⟨rfl,hfin⟩
    | false =>
     have HJ2 : Hid (D = grL (l.drop (j + 1))) := h_ (by rw [HJ.out,HST.out,Bool.false_or])
     go_wp2_with fail
     refine (HC.out _ (by repeat' first | exact Fr.refl _ | refine Fr.alloc ?_ _)).mono ?_
     rintro e w1 ⟨rfl,hf1⟩
     have hfin := hfr.trans (Fr.trans (by repeat' first | exact Fr.refl _ | refine Fr.alloc ?_ _) hf1)
     go_wp2_with fail
     go_roundw
     case rel => exact ⟨j + 1,by omega,by go_num,HJ2,hfin⟩
     case measure => simp [intOf]; omega
   ·obtain rfl : j = n := by omega
    have HR : Hid (D = false) := h_ (by rw [HJ.out,List.drop_eq_nil_of_le (by rw [← HN.out]; exact Nat.le_refl _),grL])
    go_wp2_with fail
    go_ret
    rw [HR.out]
    exact ⟨rfl,hfr⟩
noncomputable def rchk (l : List Nd) (p : Pr) : Nat := if allK (okL l) p = false then 3 else if grL l = true then 2 else if 20000 < cntL l 0 20000 then 2 else if deepL 40 l = true then 31 else 0
theorem check_any (p : Pr) (hp : p.ref = true) (l : List Nd) (v : Value) (w : World) (hv : LN w v l) (hb : bulks l ≤ 2000000) :
 Calls prog 69 #[v,.int .i64 p.num] w fun e w' => e = .returned (.int .i64 (rchk l p : Nat)) ∧ Fr w w' := by
 have hq := RQ_all w l hb hv.wf
 have CA := h_ (fun W (h : Fr w W) => all_any p hp l v W (hv.fr h) (hq.fr h))
 have CG := h_ (fun W (h : Fr w W) => great_any (bulks l) hb l (Nat.le_refl _) v W (hv.fr h))
 have CN := h_ (fun W (h : Fr w W) => Nodes_any (bulks l) (by omega) l (Nat.le_refl _) v 20000 W (by omega) (hv.fr h))
 have CD := h_ (fun W (h : Fr w W) => Deep_any 40 (by omega) l v W (hv.fr h))
 obtain ⟨a,cap,rfl,hc,hm,_⟩ := hv.form
 obtain ⟨n,hn⟩ : ∃ n,n = l.length := ⟨_,rfl⟩
 obtain ⟨R,hR⟩ : ∃ r,r = rchk l p := ⟨_,rfl⟩
 rw [← hR]
 unfold rchk at hR
 obtain ⟨D0,hD0⟩ : ∃ d,d = allK (okL l) p := ⟨_,rfl⟩
 obtain ⟨D1,hD1⟩ : ∃ d,d = grL l := ⟨_,rfl⟩
 obtain ⟨S,hS⟩ : ∃ d,d = cntL l 0 20000 := ⟨_,rfl⟩
 obtain ⟨D2,hD2⟩ : ∃ d,d = deepL 40 l := ⟨_,rfl⟩
 obtain ⟨pn,hpn⟩ : ∃ x,x = p.num := ⟨_,rfl⟩
 rw [← hD0] at CA hR
 rw [← hD1] at CG hR
 rw [← hS] at CN hR
 rw [← hD2] at CD hR
 rw [← hpn] at CA ⊢
 rw [← hn] at CA CG CN CD ⊢
 have CN' : Hid (∀ W,Fr w W → Calls prog 62 #[.slice a n cap,.int .i64 20000] W fun e w' => e = .returned (.int .i64 (S : Nat)) ∧ Fr W w') := CN
 have CD' : Hid (∀ W,Fr w W → Calls prog 44 #[.slice a n cap,.int .i64 40] W fun e w' => e = .returned (.bool D2) ∧ Fr W w') := CD
 clear hv hq hb hD0 hD1 hS hD2 hn hm hc hpn CN CD
 cases D0 with
 | false =>
  have HR : Hid (R = 3) := h_ (by rw [hR]; simp)
  clear hR
  go_enter func69,ntmps69
  go_wp2_with fail
  refine (CA.out _ (Fr.refl _)).mono ?_
  rintro e w1 ⟨rfl,hf1⟩
  go_wp2_with fail
  go_ret
  rw [HR.out]
  exact ⟨rfl,hf1⟩
 | true =>
  cases D1 with
  | true =>
   have HR : Hid (R = 2) := h_ (by rw [hR]; simp)
   clear hR
   go_enter func69,ntmps69
   go_wp2_with fail
   refine (CA.out _ (Fr.refl _)).mono ?_
   rintro e w1 ⟨rfl,hf1⟩
   have HG1 : Hid (Fr w w1) := h_ (Fr.trans (Fr.refl _) hf1)
   clear hf1
   go_wp2_with fail
   refine (CG.out _ HG1.out).mono ?_
   rintro e w2 ⟨rfl,hf2⟩
   have HG2 : Hid (Fr w w2) := h_ (Fr.trans HG1.out hf2)
   clear hf2
   go_wp2_with fail
   go_ret
   rw [HR.out]
   exact ⟨rfl,HG2.out⟩
  | false =>
   by_cases h3 : 20000 < S
   ·have e3 : decide ((20000 : Int) < (S : Int)) = true := decide_eq_true (by omega)
    have e3b : decide ((S : Int) > 20000) = true := decide_eq_true (by omega)
    have HR : Hid (R = 2) := h_ (by rw [hR]; simp [h3])
    clear hR
    go_enter func69,ntmps69
    go_wp2_with fail
    refine (CA.out _ (Fr.refl _)).mono ?_
    rintro e w1 ⟨rfl,hf1⟩
    have HG1 : Hid (Fr w w1) := h_ (Fr.trans (Fr.refl _) hf1)
    clear hf1
    go_wp2_with fail
    refine (CG.out _ HG1.out).mono ?_
    rintro e w2 ⟨rfl,hf2⟩
    have HG2 : Hid (Fr w w2) := h_ (Fr.trans HG1.out hf2)
    clear hf2
    go_wp2_with fail
    refine (CN'.out _ HG2.out).mono ?_
    rintro e w3 ⟨rfl,hf3⟩
    have HG3 : Hid (Fr w w3) := h_ (Fr.trans HG2.out hf3)
    clear hf3
    go_wp2_with fail
    go_ret
    rw [HR.out]
    exact ⟨rfl,HG3.out⟩
   ·have e3 : decide ((20000 : Int) < (S : Int)) = false := decide_eq_false (by omega)
    have e3b : decide ((S : Int) > 20000) = false := decide_eq_false (by omega)
    cases D2 with
    | true =>
     have HR : Hid (R = 31) := h_ (by rw [hR]; simp [h3])
     clear hR
     go_enter func69,ntmps69
     go_wp2_with fail
     refine (CA.out _ (Fr.refl _)).mono ?_
     rintro e w1 ⟨rfl,hf1⟩
     have HG1 : Hid (Fr w w1) := h_ (Fr.trans (Fr.refl _) hf1)
     clear hf1
     go_wp2_with fail
     refine (CG.out _ HG1.out).mono ?_
     rintro e w2 ⟨rfl,hf2⟩
     have HG2 : Hid (Fr w w2) := h_ (Fr.trans HG1.out hf2)
     clear hf2
     go_wp2_with fail
     refine (CN'.out _ HG2.out).mono ?_
     rintro e w3 ⟨rfl,hf3⟩
     have HG3 : Hid (Fr w w3) := h_ (Fr.trans HG2.out hf3)
     clear hf3
     go_wp2_with fail
     refine (CD'.out _ HG3.out).mono ?_
     rintro e w4 ⟨rfl,hf4⟩
     have HG4 : Hid (Fr w w4) := h_ (Fr.trans HG3.out hf4)
     clear hf4
     go_wp2_with fail
     go_ret
     rw [HR.out]
     exact ⟨rfl,HG4.out⟩
    | false =>
     have HR : Hid (R = 0) := h_ (by rw [hR]; simp [h3])
     clear hR
     go_enter func69,ntmps69
     go_wp2_with fail
     refine (CA.out _ (Fr.refl _)).mono ?_
     rintro e w1 ⟨rfl,hf1⟩
     have HG1 : Hid (Fr w w1) := h_ (Fr.trans (Fr.refl _) hf1)
     clear hf1
     go_wp2_with fail
     refine (CG.out _ HG1.out).mono ?_
     rintro e w2 ⟨rfl,hf2⟩
     have HG2 : Hid (Fr w w2) := h_ (Fr.trans HG1.out hf2)
     clear hf2
     go_wp2_with fail
     refine (CN'.out _ HG2.out).mono ?_
     rintro e w3 ⟨rfl,hf3⟩
     have HG3 : Hid (Fr w w3) := h_ (Fr.trans HG2.out hf3)
     clear hf3
     go_wp2_with fail
     refine (CD'.out _ HG3.out).mono ?_
     rintro e w4 ⟨rfl,hf4⟩
     have HG4 : Hid (Fr w w4) := h_ (Fr.trans HG3.out hf4)
     clear hf4
     go_wp2_with fail
     go_ret
     rw [HR.out]
     exact ⟨rfl,HG4.out⟩
theorem RCheckExpr_any (t : Nd) (lt : Value) (w : World) (hlt : LN w lt t.l) (hw : wfN t) (hb : t.bulk ≤ 2000000) :
 Calls prog 25 #[ndV t lt] w fun e w' => e = .returned (.int .i64 (rchk [t] .expr : Nat)) ∧ Fr w w' := by
 have CL : Hid (∀ W,Fr w W → ∀ B,B = W.heap.size → Calls prog 69 #[.slice (some ⟨B,0,none⟩) 1 1,.int .i64 1] (W.alloc (.cells #[.int .i64 t.op,.int .i64 t.n,.string t.s,lt,.int .i64 t.a] 32)) fun e w' => e = .returned (.int .i64 (rchk [t] .expr : Nat)) ∧ Fr (W.alloc (.cells #[.int .i64 t.op,.int .i64 t.n,.string t.s,lt,.int .i64 t.a] 32)) w') := h_ (fun W h B hB => check_any .expr rfl [t] _ (W.alloc (.cells #[.int .i64 t.op,.int .i64 t.n,.string t.s,lt,.int .i64 t.a] 32)) (LN.one hB hw (hlt.fr h)) (by rw [bulks,bulks]; omega))
 obtain ⟨a,cap,rfl,hc,hm,_⟩ := hlt.form
 obtain ⟨n,hn⟩ : ∃ n,n = t.l.length := ⟨_,rfl⟩
 obtain ⟨R,hR⟩ : ∃ r,r = rchk [t] .expr := ⟨_,rfl⟩
 rw [← hR] at CL ⊢
 rw [← hn] at CL ⊢
 unfold ndV
 obtain ⟨q0,hq0,q1,hq1,q2,hq2,q4,hq4⟩ := qs_ t
 rw [← hq0,← hq1,← hq2,← hq4] at CL
 rw [← hq0,← hq1,← hq2,← hq4]
 clear hq0 hq1 hq2 hq4 hn hm hc hlt hw hb hR
 go_enter func25,ntmps25
 go_wp2_with fail
 refine (CL.out _ (by repeat' first | exact Fr.refl _ | refine Fr.alloc ?_ _) _ (by simp)).mono ?_
 rintro e w1 ⟨rfl,hf1⟩
 have hfin : Fr w w1 := Fr.trans (by repeat' first | exact Fr.refl _ | refine Fr.alloc ?_ _) hf1
 go_wp2_with fail
 go_ret
 exact ⟨rfl,hfin⟩
theorem RCheck_any (s : ByteArray) (l : List Nd) (v : Value) (w : World) (hs : s.size ≤ 2000000) (hv : LN w v l) (hb : bulks l ≤ 2000000) :
 Calls prog 23 #[.agg #[.string s,v]] w fun e w' => e = .returned (.int .i64 ((if qtb s = false then 3 else rchk l .decl : Nat) : Nat)) ∧ Fr w w' := by
 have CQ := h_ (fun W => quotes_any s hs W)
 have CL : Hid (∀ W,Fr w W → Calls prog 69 #[v,.int .i64 8] W fun e w' => e = .returned (.int .i64 (rchk l .decl : Nat)) ∧ Fr W w') := h_ (fun W (h : Fr w W) => check_any .decl rfl l v W (hv.fr h) hb)
 obtain ⟨a,cap,rfl,hc,hm,_⟩ := hv.form
 obtain ⟨n,hn⟩ : ∃ n,n = l.length := ⟨_,rfl⟩
 obtain ⟨D0,hD0⟩ : ∃ d,d = qtb s := ⟨_,rfl⟩
 obtain ⟨L,hL⟩ : ∃ d,d = rchk l .decl := ⟨_,rfl⟩
 rw [← hD0] at CQ ⊢
 rw [← hL] at CL ⊢
 rw [← hn] at CL ⊢
 clear hv hb hD0 hL hn hm hc hs
 have HS0 : Hid (SecB (w.alloc (.cells #[.string s,.slice a n cap] 24)) w.heap.size (.string s) (.slice a n cap)) := h_ (SecB.new w _ _)
 cases D0 with
 | false =>
  rw [if_pos rfl]
  go_enter func23,ntmps23
  go_wp2_with fail
  refine (CQ.out _).mono ?_
  rintro e w1 ⟨rfl,hf1⟩
  have hfin : Fr w w1 := Fr.trans (by repeat' first | exact Fr.refl _ | refine Fr.alloc ?_ _) hf1
  go_wp2_with fail
  go_ret
  exact ⟨rfl,hfin⟩
 | true =>
  rw [if_neg (by decide)]
  go_enter func23,ntmps23
  go_wp2_with fail
  refine (CQ.out _).mono ?_
  rintro e w1 ⟨rfl,hf1⟩
  have HG1 : Hid (Fr w w1) := h_ (Fr.trans (by repeat' first | exact Fr.refl _ | refine Fr.alloc ?_ _) hf1)
  have HS1 := h_ (HS0.out.fr hf1)
  obtain ⟨k0,k1⟩ := HS1.out.cells
  clear hf1
  go_wp2_with fail
  refine (CL.out _ HG1.out).mono ?_
  rintro e w2 ⟨rfl,hf2⟩
  have hfin : Fr w w2 := HG1.out.trans hf2
  go_wp2_with fail
  go_ret
  exact ⟨rfl,hfin⟩
/-! Both sides say the same. -/
theorem cntL_nds : ∀ (m : Nat) (l : List Nd),bulks l ≤ m → ∀ (n k : Nat),(n + ndsL l ≤ k → cntL l n k = n + ndsL l) ∧ (k < n + ndsL l → k < cntL l n k ∨ k < n) := by
 intro m
 induction m using Nat.strongRecOn with
 | _ m ih =>
  intro l hl
  induction l with
  | nil => intro n k; rw [cntL,ndsL]; omega
  | cons t r ihr =>
   intro n k
   rw [bulks] at hl
   have hbe := t.bulk_eq
   have h1 := ih (bulks t.l) (by omega) t.l (Nat.le_refl _) 0 (k - n)
   rw [cntL,ndsL,ndsN_eq,cntN_eq]
   by_cases hnk : n ≤ k
   ·rw [if_pos hnk]
    have h2 := ihr (by omega) (n + 1 + cntL t.l 0 (k - n)) k
    have h3 := cntL_lo r (n + 1 + cntL t.l 0 (k - n)) k
    omega
   ·rw [if_neg hnk]; omega
theorem cnt_iff (l : List Nd) : 20000 < cntL l 0 20000 ↔ 20000 < ndsL l := by
 have h := cntL_nds _ l (Nat.le_refl _) 0 20000
 omega
theorem deepL_lvl : ∀ (k : Nat) (l : List Nd),deepL k l = decide (k < lvlL l) := by
 intro k
 induction k with
 | zero =>
  intro l
  rw [deepL]
  induction l with
  | nil => rw [lvlL]; rfl
  | cons t r _ => rw [lvlL,lvlN_eq]; simp; omega
 | succ k ih =>
  intro l
  rw [deepL]
  induction l with
  | nil => rw [lvlL]; rfl
  | cons t r ihr =>
   rw [List.any_cons,ihr,ih,lvlL,lvlN_eq,Bool.eq_iff_iff]
   simp
   omega
theorem dp_deep (l : List Nd) : dpL l = deepL 40 l := by
 rw [deepL]
 unfold dpL
 congr 1
 funext t
 rw [deepL_lvl,Bool.eq_iff_iff]
 simp
 omega
def Good (ps : PL) : Prop := ∀ f ∈ ps,∃ q : Pr,q ≠ .few ∧ f q = true
theorem allK_good {ps : PL} {k : Pr} (hk : k ≠ .few) (h : allK ps k = true) : Good ps := fun f hf => ⟨k,hk,by unfold allK at h; exact List.all_eq_true.1 h f hf⟩
theorem hasK_good : ∀ {ps : PL} {ks : List Pr},(∀ k ∈ ks,k ≠ .few) → hasK ps ks = true → Good ps
 | [],_,_,_ => fun f hf => by cases hf
 | f :: r,[],_,h => by
  rw [hasK] at h
  ·cases h
  all_goals simp
 | f :: r,k :: q,hk,h => by
  rw [hasK,Bool.and_eq_true] at h
  intro g hg
  rcases List.mem_cons.1 hg with rfl | hg
  ·exact ⟨k,hk k (by simp),h.1⟩
  ·exact hasK_good (fun k hk' => hk k (by simp [hk'])) h.2 g hg
theorem pairs_good {n : Int} {ps : PL} {k : Pr} (hk : k ≠ .few) (h : pairsK n ps k = true) : Good ps ∧ (ps.length : Int) = 2 * n := by
 rw [pairs_alt] at h
 simp only [Bool.and_eq_true,decide_eq_true_eq] at h
 refine ⟨fun f hf => ?_,h.1.1.2⟩
 rw [← List.take_append_drop (ps.length / 2) ps,List.mem_append] at hf
 rcases hf with hf | hf
 ·exact allK_good hk h.1.2 f hf
 ·exact allK_good (by simp) h.2 f hf
theorem proc_good {n : Int} {s : ByteArray} {ps : PL} (h : procK n s ps = true) : Good ps := by
 unfold procK at h
 simp only [Bool.and_eq_true,decide_eq_true_eq] at h
 obtain ⟨⟨⟨_,h0⟩,h1⟩,h2⟩ := h
 have hl : ∃ q : Pr,q ≠ .few ∧ lastK ps q = true := by
  split at h2
  ·exact ⟨.expr,by simp,h2⟩
  ·split at h2
   ·exact ⟨.cmd,by simp,h2⟩
   ·cases h2
 obtain ⟨q,hq,h2⟩ := hl
 intro f hf
 rw [← List.take_append_drop (ps.length - 1) ps,List.mem_append] at hf
 rcases hf with hf | hf
 ·exact allK_good (by simp) h1 f hf
 ·obtain ⟨x,hx⟩ : ∃ x,ps[ps.length - 1]? = some x := ⟨_,List.getElem?_eq_getElem (by omega)⟩
  rw [List.drop_eq_getElem_cons (by omega),show ps.length - 1 + 1 = ps.length by omega,List.drop_length] at hf
  simp at hf
  subst hf
  unfold lastK at h2
  rw [List.getElem?_eq_getElem (by omega)] at h2
  exact ⟨q,hq,h2⟩
def Fine (o n : Int) (ps : PL) : Prop := Good ps ∧ (o = 54 ∨ o = 30 → (ps.length : Int) = 2 * n)
theorem plain_fine {o n : Int} {ps : PL} (h : plainR o ps = true) : Fine o n ps := by
 unfold plainR at h
 split at h
 ·exact ⟨hasK_good (by simp) h,by omega⟩
 split at h
 ·unfold someK at h; rw [Bool.and_eq_true] at h; exact ⟨allK_good (by simp) h.2,by omega⟩
 split at h
 ·exact ⟨hasK_good (by simp) h,by omega⟩
 split at h
 ·exact ⟨hasK_good (by simp) h,by omega⟩
 split at h
 ·exact ⟨hasK_good (by simp) h,by omega⟩
 split at h
 ·exact ⟨hasK_good (by simp) h,by omega⟩
 ·cases h
theorem name_fine {o n : Int} {s : ByteArray} {ps : PL} (h : nameR o n s ps = true) : Fine o n ps := by
 unfold nameR at h
 simp only [Bool.and_eq_true,decide_eq_true_eq] at h
 exact ⟨hasK_good (by simp) h.2,by omega⟩
theorem expr_fine {o n : Int} {s : ByteArray} {ps : PL} (h : exprR o n s ps = true) : Fine o n ps := by
 unfold exprR at h
 split at h
 ·rw [Bool.and_eq_true] at h; exact ⟨hasK_good (by simp) h.2,by omega⟩
 split at h
 ·rw [Bool.and_eq_true] at h; exact ⟨hasK_good (by simp) h.2,by omega⟩
 split at h
 ·exact name_fine h
 split at h
 ·rw [Bool.and_eq_true] at h; exact ⟨hasK_good (by simp) h.2,by omega⟩
 split at h
 ·rw [Bool.and_eq_true] at h; exact ⟨hasK_good (by simp) h.2,by omega⟩
 ·rw [Bool.and_eq_true] at h; exact plain_fine h.2
theorem block_fine {o n : Int} {s : ByteArray} {ps : PL} (h : blockR o n s ps = true) : Fine o n ps := by
 unfold blockR someK at h
 simp only [Bool.and_eq_true,decide_eq_true_eq] at h
 exact ⟨allK_good (by simp) h.2.2,by omega⟩
theorem rep_fine {o n : Int} {s : ByteArray} {ps : PL} (h : repR o n s ps = true) : Fine o n ps := by
 unfold repR at h
 split at h
 ·rw [Bool.and_eq_true] at h; have := pairs_good (by simp) h.2; exact ⟨this.1,fun _ => this.2⟩
 split at h
 ·rw [Bool.and_eq_true] at h; exact ⟨hasK_good (by simp) h.2,by omega⟩
 split at h
 ·exact block_fine h
 split at h
 ·rw [Bool.and_eq_true] at h; exact ⟨hasK_good (by simp) h.2,by omega⟩
 split at h
 ·rw [Bool.and_eq_true] at h; exact ⟨hasK_good (by simp) h.2,by omega⟩
 split at h
 ·rw [Bool.and_eq_true] at h; exact ⟨hasK_good (by simp) h.2,by omega⟩
 split at h
 ·rw [Bool.and_eq_true] at h; exact ⟨hasK_good (by simp) h.2,by omega⟩
 split at h
 ·rw [Bool.and_eq_true] at h; exact ⟨hasK_good (by simp) h.2,by omega⟩
 ·cases h
theorem for_good {n : Int} {s : ByteArray} {ps : PL} (h : forR n s ps = true) : Good ps := by
 unfold forR at h
 rw [Bool.and_eq_true] at h
 obtain ⟨_,h⟩ := h
 split at h
 ·exact hasK_good (by simp) h
 split at h
 ·exact hasK_good (by simp) h
 ·cases h
theorem cmd_fine {o n : Int} {s : ByteArray} {ps : PL} (h : cmdR o n s ps = true) : Fine o n ps := by
 unfold cmdR at h
 split at h
 ·exact ⟨for_good h,by omega⟩
 split at h
 ·rw [Bool.and_eq_true] at h; exact ⟨hasK_good (by simp) h.2,by omega⟩
 split at h
 ·rw [Bool.and_eq_true] at h; exact ⟨hasK_good (by simp) h.2,by omega⟩
 split at h
 ·rw [Bool.and_eq_true] at h; exact ⟨hasK_good (by simp) h.2,by omega⟩
 split at h
 ·rw [Bool.and_eq_true] at h; exact ⟨hasK_good (by simp) h.2,by omega⟩
 split at h
 ·rw [Bool.and_eq_true] at h; exact ⟨hasK_good (by simp) h.2,by omega⟩
 split at h
 ·rw [Bool.and_eq_true] at h; exact ⟨hasK_good (by simp) h.2,by omega⟩
 ·exact rep_fine h
theorem node_fine {p : Pr} (hp : p ≠ .few) {o n : Int} {s : ByteArray} {ps : PL} (h : nodeR p o n s ps = true) : Fine o n ps := by
 cases p with
 | expr => exact expr_fine h
 | name => exact name_fine h
 | call =>
  have h : (decide (o = 7) && exprR o n s ps) = true := h
  rw [Bool.and_eq_true] at h
  exact expr_fine h.2
 | block => exact block_fine h
 | item =>
  have h : itemR o n s ps = true := h
  unfold itemR at h
  split at h
  ·rw [Bool.and_eq_true] at h; have := pairs_good (by simp) h.2; exact ⟨this.1,fun _ => this.2⟩
  split at h
  ·rw [Bool.and_eq_true] at h; exact ⟨hasK_good (by simp) h.2,by omega⟩
  ·exact cmd_fine h
 | cmd => exact cmd_fine h
 | rep => exact rep_fine h
 | const =>
  have h : (decide (o = 63) && named n s && hasK ps [.expr]) = true := h
  simp only [Bool.and_eq_true,decide_eq_true_eq] at h
  exact ⟨hasK_good (by simp) h.2,by omega⟩
 | decl =>
  have h : declR o n s ps = true := h
  unfold declR at h
  split at h
  ·rw [Bool.and_eq_true] at h; exact ⟨allK_good (by simp) h.2,by omega⟩
  split at h
  ·exact ⟨proc_good h,by omega⟩
  ·cases h
 | few => exact absurd rfl hp
theorem few_gr : ∀ (m : Nat) (t : Nd),t.bulk ≤ m → ∀ p : Pr,p ≠ .few → okP t p = true → okP t .few = !grN t := by
 intro m
 induction m using Nat.strongRecOn with
 | _ m ih =>
  intro t ht p hp h
  rw [okP_eq] at h
  obtain ⟨hg,hl⟩ := node_fine hp h
  have hbe := t.bulk_eq
  rw [okL_len] at hl
  have hparts : ∀ q : List Nd,(∀ u ∈ q,u ∈ t.l) → allK (okL q) .few = !grL q := by
   intro q
   induction q with
   | nil => intro _; rw [okL,grL]; rfl
   | cons u r ihr =>
    intro hsub
    have hu : u ∈ t.l := hsub u (by simp)
    have hub := bulks_mem hu
    obtain ⟨k,hk,hok⟩ := hg (okP u) (by rw [okL_map]; exact List.mem_map.2 ⟨u,hu,rfl⟩)
    rw [okL,grL]
    show (okP u .few && allK (okL r) .few) = _
    rw [ih u.bulk (by omega) u (Nat.le_refl _) k hk hok,ihr (fun x hx => hsub x (by simp [hx]))]
    cases grN u <;> simp
  rw [okP_eq,grN_eq]
  show fewR _ _ _ = _
  unfold fewR mostN
  rw [hparts t.l (fun _ h => h),okL_len,Bool.not_or]
  congr 1
  by_cases h7 : t.op = 7 ∨ t.op = 64
  ·rw [if_pos h7,if_neg (show ¬ (t.op = 54 ∨ t.op = 30) by omega),if_pos h7,Bool.eq_iff_iff]; simp
  ·rw [if_neg h7]
   by_cases h54 : t.op = 54 ∨ t.op = 30
   ·rw [if_pos h54,if_pos h54,Bool.eq_iff_iff]
    have := hl h54
    simp
    omega
   ·rw [if_neg h54,if_neg h54,if_neg h7]
    by_cases h16 : t.op = 16
    ·rw [if_pos h16,if_pos h16,Bool.eq_iff_iff]; simp
    ·rw [if_neg h16,if_neg h16]; simp
theorem few_all {l : List Nd} {p : Pr} (hp : p ≠ .few) (h : allK (okL l) p = true) : allK (okL l) .few = !grL l := by
 induction l with
 | nil => rw [okL,grL]; rfl
 | cons u r ih =>
  rw [okL] at h ⊢
  have h : (okP u p && allK (okL r) p) = true := h
  rw [Bool.and_eq_true] at h
  rw [grL]
  show (okP u .few && allK (okL r) .few) = _
  rw [few_gr _ u (Nat.le_refl _) p hp h.1,ih h.2]
  cases grN u <;> simp
theorem lim_same {l : List Nd} {p : Pr} (hp : p ≠ .few) : (if allK (okL l) p = false then 3 else limE l) = rchk l p := by
 unfold rchk
 cases h : allK (okL l) p with
 | false => rfl
 | true =>
  simp only [Bool.true_eq_false,if_false]
  unfold limE
  rw [few_all hp h,dp_deep]
  by_cases hc : 20000 < ndsL l
  ·have hc2 := (cnt_iff l).2 hc
   cases grL l <;> simp [hc,hc2]
  ·have hc2 : ¬ 20000 < cntL l 0 20000 := fun h => hc ((cnt_iff l).1 h)
   cases grL l <;> simp [hc,hc2]
theorem chkE_same (s : ByteArray) (l : List Nd) : chkE s l = if qtb s = false then 3 else rchk l .decl := by
 unfold chkE
 rw [← lim_same (by simp)]
theorem chkN_same (t : Nd) (p : Pr) (hp : p ≠ .few) : chkN t p = rchk [t] p := by
 unfold chkN
 rw [← lim_same hp]
 rw [show allK (okL [t]) p = okP t p by rw [okL,okL]; simp [allK]]
end Go.Proofs.YtbaelbafhdjlnaaGreatDoor
