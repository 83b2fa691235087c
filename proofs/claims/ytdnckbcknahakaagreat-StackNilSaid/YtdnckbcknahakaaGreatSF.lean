/- The small code's machine: its first step; its given procedure. -/
import Derived.Test.YtdnckbcknahakaaGreatSE
import Derived.Lib.Builder
import Derived.Shelf.Strings.Builder1
import Derived.Maps.AppendAt
import Derived.Test.YtdnckbcknahakaaGreatCL
namespace Go.Proofs.YtdnckbcknahakaaGreat
open Go.RowKit
set_option linter.unusedVariables false
set_option linter.unusedSimpArgs false

theorem Kc.d {L : Lay} {i : Nat} (h : Kc L.b L.mb L.cb i) : Kd L i := h.elim Or.inl (fun h => h.elim (fun e => Or.inr (Or.inl e)) (fun e => Or.inr (Or.inr (Or.inl e))))
theorem LayOk.bgc {L : Lay} (k : LayOk L) : ¬ Kc L.b L.mb L.cb L.bg := fun h => h.elim (fun e => k.b3 e.symm) (fun h => h.elim (fun e => k.b5 e.symm) (fun e => k.b6 e.symm))
set_option maxRecDepth 100000 in
set_option maxHeartbeats 4000000 in
theorem start_d (L : Lay) (oa ob : Value) (st : Int) (en : Bool) (f fc fb : Nat → Value) (w : World) (k : LayOk L) (s : Sta w L) (h : Dyn w L (mkS L 8000 0 0 oa ob st en) f fc fb) (h1 : f 1 = .int .i64 ((32000 + 1 : Nat) : Int)) :
    Calls Tryz.prog 65 #[.pointer (some ⟨L.b, 0, none⟩)] w (RetD L (mkS L 8000 0 0 oa ob st en) (upd (upd f 8000 (.int .i64 8000)) 8001 (.int .i64 (-1))) (upd fc 0 (.bool true)) fb (.int .i64 0) w) := by
  have CP := Lib.hid (fun W (x : Fr w W) => proc_yes L.pb L.eb 2 2 L.qb 2 L.rc _ _ _ _ 1 W (s.p.fr x) (by omega) (by omega) (by omega))
  have CE := Lib.hid (fun W (x : Fr w W) => enter_first L.pb L.eb 2 2 L.qb 2 L.rc _ _ _ _ (mkS L 8000 0 0 oa ob st en) L.b L.rb L.cb 1 1 8000 6 0 15999 _ _ _ _ _ _ _ _ L.fq (fun i => if i < 2 then .int .i64 0 else .int .i64 0) fc f W (s.p.fr x) (h.m.fr x) rfl rfl rfl (s.r.fr x) (s.q.fr x) k.fq ⟨_, s.e.fr x, rfl, fun i hi => by
    match i, hi with
    | 0, _ => rfl
    | 1, _ => rfl⟩ rfl (h.c.fr x) (h.f.fr x) (by omega) k.rc (by omega) (by omega) (by omega) (by omega) (by omega) (by omega) (by omega) (by omega) k.b1 k.b2 k.b4 (fun e => k.p (Or.inr (Or.inl e))) (fun e => k.p (Or.inl e)) (fun e => k.e (Or.inr (Or.inl e))) (fun e => k.e (Or.inl e)))
  obtain ⟨k0, k1, k2, k3, k4, k5, k6, k7⟩ := h.m.cells
  simp only [mkS] at k0 k1 k2 k3 k4 k5 k6 k7
  have c1 := h.f.cell (show 1 < 32000 by omega)
  rw [h1] at c1
  have HG := Lib.hid h.g
  have HM0 := Lib.hid h.m
  have K := Lib.hid k
  obtain ⟨V, hV⟩ : ∃ V : Nat, V = 32000 + 1 := ⟨_, rfl⟩
  rw [← hV] at c1 CP
  clear h h1 s hV k
  go_enter Tryz.func65, Tryz.ntmps65
  go_wp2_with fail
  go_quiet ((go_at_call 93; exact Calls.quiet_of ((CP.out _ ((Fr.refl _).drewN _)).mono fun _ _ ⟨x1, m, x2⟩ => ⟨x1, m, x2⟩)))
  rename_i nq
  have HF1 : Hid (Fr w (w.drewN nq)) := Lib.hid ((Fr.refl w).drewN nq)
  obtain ⟨w1, hw1⟩ : ∃ y, y = w.drewN nq := ⟨_, rfl⟩
  rw [← hw1] at HF1 ⊢
  have HM : Hid (MaR w1 L.b (mkS L 8000 0 0 oa ob st en)) := Lib.hid (by rw [hw1]; exact Blk.fr (HM0.out) ((Fr.refl w).drewN nq))
  clear hw1 k0 k1 k2 k3 k4 k5 k6 k7 c1
  obtain ⟨k0, k1, k2, k3, k4, k5, k6, k7⟩ := HM.out.cells
  simp only [mkS] at k0 k1 k2 k3 k4 k5 k6 k7
  go_wp2_with fail
  go_still_tail 12, (by kernel_rfl)
  change wpList _ _ _ _ _ w1.drew
  go_wp2_with (go_at_call 94; refine (CE.out _ (HF1.out.drew)).mono ?_; rintro e w2 ⟨rfl, hm2, hf2, hc2, hx2⟩)
  have HX2 : Hid (Ex (Kd L) w w2) := Lib.hid ((Fr.ex HF1.out.drew).trans (hx2.mono (fun i hi => Kc.d hi)))
  have HD2 : Hid (Dyn w2 L _ _ _ fb) := Lib.hid ⟨hm2, hf2, hc2, (HG.out.fr HF1.out.drew).ex hx2 K.out.bgc⟩
  clear hm2 hf2 hc2 hx2
  go_wp2_with fail
  go_ret
  exact ⟨rfl, HD2.out, HX2.out⟩
set_option maxRecDepth 100000 in
set_option maxHeartbeats 2000000 in
theorem blen_nil (b : Nat) (w : World) (h12 : w.cell? ⟨b, 12, none⟩ = some (.slice none 0 0)) :
    Calls Tryz.prog 83 #[.pointer (some ⟨b, 11, none⟩)] w fun e w' => e = .returned (.int .i64 0) ∧ w' = w := by
  go_enter Tryz.func83, Tryz.ntmps83
  go_wp2
  go_ret
  exact ⟨rfl, rfl⟩
theorem bld_size : (Tryz.prog.info? 72).map (fun j => j.size) = some 2 := by kernel_rfl
set_option maxRecDepth 100000 in
set_option maxHeartbeats 2000000 in
theorem bcheck_nil (b : Nat) (cs : Array Value) (w : World) (hb : Blk w b 74 cs) (hs : cs.size = 22) (h11 : cs[11]? = some (.pointer none)) :
    Calls Tryz.prog 120 #[.pointer (some ⟨b, 11, none⟩)] w fun e w' => e = .returned (.tuple #[]) ∧ w' = w.setCell ⟨b, 11, none⟩ (.pointer (some ⟨b, 11, none⟩)) := by
  obtain ⟨j, hj, hjs⟩ := Option.map_eq_some_iff.1 bld_size
  have hsh : w.shape? b = some (74, 22) := by
    unfold Blk at hb
    unfold World.shape?
    rw [hb]
    simp only [hs]
  have hl : liesAt Tryz.prog Tryz.prog.depth 74 (22 / Tryz.prog.cellsOf 74) 11 72 1 = true := by kernel_rfl
  have h0 := hb.cell h11
  have hz := hb.free 11
  have HH := Lib.hid (And.intro hsh (And.intro hl (And.intro hj hjs)))
  clear hb hs h11 hsh hl hj hjs
  go_enter Tryz.func120, Tryz.ntmps120
  go_wp2
  rw [Lib.run_to_unsafe w ⟨b, 11, none⟩ Tryz.underlying69 Tryz.underlying186 HH.out.2.2.1 (by rw [HH.out.2.2.2]; decide) HH.out.1 (show 11 < 22 by omega)]
  simp only [Result.andThen]
  rw [Oper.upon_value]
  go_wp2
  rw [run_callFunc_extern Tryz.func137 (by kernel_rfl) (by kernel_rfl) (by kernel_rfl) (e := Extern.AbiNoEscape.same) (by kernel_rfl)]
  rw [Lib.run_noEscape]
  simp only [Result.andThen]
  rw [Oper.upon_value]
  go_wp2
  rw [Lib.run_from_unsafe w ⟨b, 11, none⟩ Tryz.underlying186 Tryz.underlying69 HH.out.2.2.1 HH.out.1 HH.out.2.1]
  simp only [Result.andThen]
  rw [Oper.upon_value]
  go_wp2
  go_end0
  exact ⟨rfl, rfl⟩
theorem byt_info : (Tryz.prog.info? 5).map (fun i => (i.zero, i.size, i.bytes)) = some (some (.int .u8 0), 1, 1) := by kernel_rfl
theorem Ex.own {X : Nat → Prop} {w w' : World} (h : Ex X w w') {base : Nat} {T : TypeId} {z : Nat} {v : Value} {n : Nat} {xs : List Value} (hx : ∀ k, v.ownBlock = some k → ¬ X k) (k : w.ownsRow base T z v n xs) : w'.ownsRow base T z v n xs := by
  refine ⟨k.1, ?_⟩
  rcases k.2 with hn | ⟨g, cap, cur, rfl, hb, hgg, rest⟩
  · exact .inl hn
  · refine .inr ⟨g, cap, cur, rfl, hb, ?_, rest⟩
    rw [h.block g (Array.getElem?_eq_some_iff.1 hgg).1 (hx g rfl)]
    exact hgg
theorem own_sl8 {w : World} {base : Nat} {T : TypeId} {z n : Nat} {v : Value} {xs : List Value} (h : w.ownsRow base T z v n xs) : ∃ a c, v = .slice a n c := by
  rcases h.2 with ⟨rfl, rfl⟩ | ⟨g, cap, cur, rfl, _⟩
  · exact ⟨none, 0, rfl⟩
  · exact ⟨_, _, rfl⟩
theorem one_new8 (w : World) (v : Value) (T : TypeId) : ∀ j u, ([v] : List Value)[j]? = some u → (w.alloc (.cells #[v] T)).cell? ((⟨w.heap.size, 0, none⟩ : Addr).add j) = some u := by
  intro j u hu
  match j, hu with
  | 0, hu =>
    obtain rfl : _ = u := Option.some.inj hu
    exact (Blk.new w #[v] T).cell rfl
set_option maxRecDepth 100000 in
set_option maxHeartbeats 4000000 in
theorem wbyte_d (L : Lay) (F D pl st : Int) (en : Bool) (f fc fb : Nat → Value) (w : World) (k : LayOk L) (h : Dyn w L (mkS L F D pl (.pointer none) (.slice none 0 0) st en) f fc fb) :
    Calls Tryz.prog 84 #[.pointer (some ⟨L.b, 11, none⟩), .int .u8 65] w fun e w' => e = .returned .nilIface ∧ (∃ ob, Dyn w' L (mkS L F D pl (.pointer (some ⟨L.b, 11, none⟩)) ob st en) f fc fb ∧ w'.ownsRow w.heap.size 5 1 ob 1 [.int .u8 65]) ∧ Ex (Kd L) w w' := by
  have CB := Lib.hid (bcheck_nil L.b _ w h.m rfl rfl)
  obtain ⟨w1, hw1⟩ : ∃ y, y = w.setCell ⟨L.b, 11, none⟩ (.pointer (some ⟨L.b, 11, none⟩)) := ⟨_, rfl⟩
  rw [← hw1] at CB
  have HM1 : Hid (MaR w1 L.b (mkS L F D pl (.pointer (some ⟨L.b, 11, none⟩)) (.slice none 0 0) st en)) := Lib.hid (by rw [hw1]; exact Blk.set h.m 11 _ rfl)
  have HD1 : Hid (Dyn w1 L (mkS L F D pl (.pointer (some ⟨L.b, 11, none⟩)) (.slice none 0 0) st en) f fc fb) := Lib.hid ⟨HM1.out, by rw [hw1]; exact h.f.far (fun e => k.b1 e.symm) _, by rw [hw1]; exact h.c.far (fun e => k.b2 e.symm) _, by rw [hw1]; exact h.g.far (fun e => k.b3 e.symm) _⟩
  have HX1 : Hid (Ex (Kd L) w w1) := Lib.hid (by rw [hw1]; exact (Ex.refl _ _).set (Or.inl rfl) _)
  have HS1 : Hid (w.heap.size ≤ w1.heap.size) := Lib.hid HX1.out.size
  have c12 : w1.cell? ⟨L.b, 12, none⟩ = some (.slice none 0 0) := Blk.cell HM1.out rfl
  have HLT := Lib.hid (Blk.lt HM1.out)
  have HLW := Lib.hid (Blk.lt h.m)
  have K := Lib.hid k
  obtain ⟨i1, hj0, hy0, hy1, hy2⟩ := info_at byt_info
  have HIO := Lib.hid (And.intro hj0 (And.intro hy0 (And.intro hy1 hy2)))
  clear hj0 hy0 hy1 hy2 h hw1 k
  go_enter Tryz.func84, Tryz.ntmps84
  go_wp2_with fail
  refine (CB.out).mono ?_
  rintro e w2 ⟨rfl, h2⟩
  obtain rfl : w1 = w2 := h2.symm
  go_wp2_with (with_reducible refine stop_append_a ?_)
  unfold StopA
  have hoa : (w1.alloc (.cells #[.int .u8 65] 5)).ownsRow w.heap.size 5 1 (.slice none 0 0) 0 [] := World.ownsRow_nil _ _ _ _
  refine wpList_append_own_at _ rfl (.tmp 11) (.tmp 13) 70 rfl w.heap.size 5 i1 _ 1 1 Tryz.underlying70 HIO.out.1 HIO.out.2.1 HIO.out.2.2.1 HIO.out.2.2.2 rfl (by omega) _ 0 [] (by rfl) hoa ⟨w1.heap.size, 0, none⟩ 1 1 [.int .u8 65] (by rfl) (by rfl) (one_new8 w1 _ _) (fun u hu => by simp only [List.mem_cons, List.not_mem_nil, or_false] at hu; subst hu; rfl) (by unfold maxLen; omega) (by omega) (by have := HS1.out; simp only [World.alloc, Array.size_push]; omega) fun v6 w6 hown6 hg6 _ hb6 => ?_
  have HF6 : Hid (Fr w1 w6) := Lib.hid (own_fr6 (w0 := w1) (T := 5) (z := 1) ((Fr.refl w1).alloc _) (World.ownsRow_nil _ w1.heap.size _ _) hg6)
  have HM6 : Hid (MaR w6 L.b _) := Lib.hid (HM1.out.fr HF6.out)
  have HD6 := Lib.hid (HD1.out.fr HF6.out)
  obtain ⟨a6, c6, rfl⟩ := own_sl8 hown6
  have HO6 := Lib.hid hown6
  clear hown6 hg6 hb6 hoa c12
  have g12 := Blk.free HM6.out 12
  have c12 : w6.cell? ⟨L.b, 12, none⟩ = some (.slice none 0 0) := Blk.cell HM6.out rfl
  go_wp2_with fail
  go_ret
  refine ⟨rfl, ⟨.slice a6 1 c6, ⟨Blk.set HM6.out 12 _ rfl, HD6.out.f.far (fun e => K.out.b1 e.symm) _, HD6.out.c.far (fun e => K.out.b2 e.symm) _, HD6.out.g.far (fun e => K.out.b3 e.symm) _⟩, ?_⟩, (HX1.out.fr HF6.out).set (Or.inl rfl) _⟩
  exact Ex.own (X := fun k => k = L.b) ((Ex.refl (fun k => k = L.b) w6).set (p := ⟨L.b, 12, none⟩) rfl _) (fun i hi e => by have h1 := (HO6.out.lt i hi).1; have h2 := HLW.out; have e : i = L.b := e; omega) HO6.out
end Go.Proofs.YtdnckbcknahakaaGreat
