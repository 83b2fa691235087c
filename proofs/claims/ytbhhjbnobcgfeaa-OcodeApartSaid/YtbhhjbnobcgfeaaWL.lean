/- The law: a code without one of its procedures. -/
import Derived.Test.YtbhhjbnobcgfeaaWH
import Derived.Test.YtbhhjbnobcgfeaaAG
import Derived.Test.YtbhhjbnobcgfeaaWK
import Derived.Test.YtbhhjbnobcgfeaaWM
import Derived.Test.YtbhhjbnobcgfeaaWR
import Derived.Deep.RegionWith
namespace Go.Proofs.Ytbhhjbnobcgfeaa
open Go.RowKit
set_option linter.unusedVariables false
set_option linter.unusedSimpArgs false

theorem one_new (w : World) (v : Value) (T : TypeId) : ∀ j u, ([v] : List Value)[j]? = some u → (w.alloc (.cells #[v] T)).cell? ((⟨w.heap.size, 0, none⟩ : Addr).add j) = some u := by
  intro j u hu
  have h : (w.alloc (.cells #[v] T)).heap[w.heap.size]? = some (.cells #[v] T (0, 0)) := by simp only [World.alloc, Array.getElem?_push_size]
  match j, hu with
  | 0, hu =>
    obtain rfl : _ = u := Option.some.inj hu
    rw [ap_add]
    obtain ⟨W, hW⟩ : ∃ W, W = w.alloc (.cells #[v] T) := ⟨_, rfl⟩
    rw [← hW] at h ⊢
    simp [World.cell?, h]
theorem rowN_map : ∀ (n : Nat) (L : List Int), L.length = n → rowN (clI_cs L) n = L.map (fun x => Value.int .i64 x)
  | 0, L, h => by obtain rfl : L = [] := List.eq_nil_of_length_eq_zero h; rfl
  | n + 1, L, h => by
    obtain ⟨M, x, rfl⟩ : ∃ M x, L = M ++ [x] := ⟨L.dropLast, L.getLast (by intro e; rw [e] at h; simp at h), (List.dropLast_concat_getLast _).symm⟩
    have hM : M.length = n := by simpa using h
    have := clI_more M x
    rw [show n + 1 = (M ++ [x]).length by simp [hM], ← this, hM, rowN_map n M hM]
    simp
theorem up_split (f : Nat → Int) (P np : Nat) (h1 : 1 ≤ P) (h2 : P ≤ np) : (List.range (np - 1)).map (fun k => f (upN P k)) = (List.range (P - 1)).map f ++ (List.range (np - P)).map (fun k => f (P + k)) := by
  apply List.ext_getElem
  · simp; omega
  · intro i a b
    simp only [List.length_map, List.length_range] at a
    rw [List.getElem_append]
    by_cases h : i < P - 1
    · rw [dif_pos (by simpa using h)]
      simp only [List.getElem_map, List.getElem_range]
      unfold upN
      rw [if_pos (by omega)]
    · rw [dif_neg (by simpa using h)]
      simp only [List.getElem_map, List.getElem_range, List.length_map, List.length_range]
      unfold upN
      rw [if_neg (by omega)]
      congr 1
      omega
theorem step_append_row {P : Program} {w : World} {ops : Array Oper} {o : Oper} {a : Act} {K : Act → World → Prop} {Q : Exit → Act → World → Prop} {E : Prop} (hgd : Region.wanted o (yielded ops a.tmps) = true) (s x : Operand) (t : TypeId)
    (ho : o.op = .call { callee := .builtin .append, args := #[s, x], argTypes := #[t, t] })
    (base : Nat) (e : TypeId) (i : TypeInfo) (z : Value) (size bytes : Nat) (ht : P.underlying t = some (.slice e)) (hi : P.info? e = some i) (hz : i.zero = some z)
    (hsize : i.size = size) (hby : i.bytes = bytes) (hzs : z.cells.size = size) (hsz : 0 < size) (v : Value) (n : Nat) (xs : List Value) (hs : a.eval s = v) (hown : w.ownsRow base e size v n xs)
    (xa : Option Addr) (m c : Nat) (news : List Value) (hx : a.eval x = .slice xa m c) (hm0 : xa = none → m = 0) (hl : news.length = m * size) (hnews : ∀ ad, xa = some ad → ∀ j u, news[j]? = some u → w.cell? (ad.add j) = some u) (h1 : ∀ u ∈ news, u.oneCell' = true)
    (h63 : n + m ≤ maxLen) (hbytes : (n + m) * bytes ≤ 140737488355328) (hbase : base ≤ w.heap.size)
    (h : ∀ v' w', w'.ownsRow base e size v' (n + m) (xs ++ news) → w.grownBy w' v.ownBlock → K (a.put o.dst v') w') :
    if Region.wanted o (yielded ops a.tmps) = true then Oper.wp P o a w K Q else E := by
  rw [if_pos hgd]
  obtain ⟨v', w', r1, r2, r3⟩ := run_append_row (P := P) base t o.type e i z size bytes ht hi hz hsize hby hzs hsz v n xs hown xa m c news hm0 hl hnews h1 h63 hbytes hbase
  unfold Oper.wp execOp
  simp only [ho, resolve, invoke, builtin, Sem.run_bind, Sem.run_pure, Result.andThen_ok, List.map_toArray, List.map_cons, List.map_nil, hs, hx, r1]
  exact h _ _ r2 r3
theorem hvC_dlen {c : Cod} (hv : hvC c = false) : c.data.length ≤ 2000000 := by
  have h2 : hvGo c.name.size c.data ≤ 2000 := by
    simp only [hvC, Bool.or_eq_false_iff, decide_eq_false_iff_not] at hv
    omega
  have := hvGo_len _ _ h2
  omega
theorem tmod_in {k n : Int} (hk : ¬ k < 0) (hn : ¬ n < 2) : ∃ P : Nat, k.tmod n + 1 = (P : Int) ∧ 1 ≤ P ∧ (P : Int) ≤ n := by
  rw [Int.tmod_eq_emod_of_nonneg (by omega)]
  have h1 := Int.emod_nonneg k (show n ≠ 0 by omega)
  have h2 := Int.emod_lt_of_pos k (show 0 < n by omega)
  exact ⟨(k % n + 1).toNat, by omega, by omega, by omega⟩
set_option maxRecDepth 100000 in
set_option maxHeartbeats 20000000 in
theorem apart_walk (c : Cod) (dv ov gv : Value) (kk : Int) (w : World) (hc : CodW w c dv ov gv) (hw : wfC c) (hkw : wf64 kk) :
    Calls Try.prog 9 #[codV c dv ov gv, .int .i64 kk] w fun e w' => e = .returned (.bool true) ∧ Fr w w' := by
  have CH := Lib.hid (fun W (h : Fr w W) => heavy_any c dv ov gv W (hc.fr h) hw)
  have HSM : Hid (hvC c = false → c.name.size ≤ 2000000 ∧ (∀ x ∈ c.data, x.t.size ≤ 2000000) ∧ c.gl.length ≤ 2000000 ∧ ∀ x ∈ c.data, x.ws.length ≤ 2000000) := Lib.hid (fun hv => by
    have h1 := hvC_small hv
    have h2 : hvGo c.name.size c.data ≤ 2000 := by
      simp only [hvC, Bool.or_eq_false_iff, decide_eq_false_iff_not] at hv
      omega
    refine ⟨by omega, fun x hx => by have := h1.2.1 x hx; omega, by omega, fun x hx => by have := hvGo_ws _ _ h2 x hx; omega⟩)
  have CD := Lib.hid (fun W (h : Fr w W) (hv : hvC c = false) => Depths_any c dv ov gv W (hc.fr h) hw (HSM.out hv).1 (HSM.out hv).2.1)
  have CR := Lib.hid (fun W (h : Fr w W) (hv : hvC c = false) => Room_any c dv ov gv W (hc.fr h) hw (HSM.out hv).1 (HSM.out hv).2.1)
  have CN := Lib.hid (fun W (h : Fr w W) (p : Int) (hp : wf64 p) (hv : hvC c = false) (h1 : 1 ≤ c.procs) => wo_any c p dv ov gv W (hc.fr h) hw h1 hp (by have := hvC_small hv; omega) (HSM.out hv).2.2.1 (hvC_dlen hv) (HSM.out hv).2.2.2)
  have HWF := Lib.hid hw
  obtain ⟨R, hR⟩ : ∃ y, y = hvC c := ⟨_, rfl⟩
  rw [← hR] at CH CD CR CN HSM
  obtain ⟨nm, da, ld, dc, oa, lo, oc, ga, lg, gc, pr, lb, hA, hlo⟩ := cod_val hc
  rw [hA] at CH CD CR CN ⊢
  have HLO := Lib.hid hlo
  have HPRC : Hid (pr = c.procs) := Lib.hid (by unfold codV at hA; injection hA with hA; have := congrArg (fun a => a[4]?) hA; simpa using this.symm)
  have HOV : Hid (OpsV w (.slice oa lo oc) c.ops) := Lib.hid (by
    have hov : ov = .slice oa lo oc := by
      unfold codV at hA; injection hA with hA; have := congrArg (fun a => a[2]?) hA; simpa using this
    rw [← hov]; exact hc.o)
  obtain ⟨w0, hw0⟩ : ∃ w0, w0 = w.alloc (.cells #[.string nm, .slice da ld dc, .slice oa lo oc, .slice ga lg gc, .int .i64 pr, .int .i64 lb] 26) := ⟨_, rfl⟩
  have HF0 : Hid (Fr w w0) := Lib.hid (by rw [hw0]; exact (Fr.refl w).alloc _)
  have HCB : Hid (CdR w0 w.heap.size (.string nm) (.slice da ld dc) (.slice oa lo oc) (.slice ga lg gc) (.int .i64 pr) (.int .i64 lb)) := Lib.hid (by rw [hw0]; exact CdR.new w _ _ _ _ _ _)
  have HW0 := Lib.hid hw0
  obtain ⟨k0, k1, k2, k3, k4, k5⟩ := HCB.out.cells
  rw [hw0] at k0 k1 k2 k3 k4 k5
  clear hc hw hw0 hR hA hlo
  go_enter Try.func9, Try.ntmps9
  go_wp2_with fail
  try rw [← HW0.out]
  clear k0 k1 k2 k3 k4 k5
  refine (CH.out _ HF0.out).mono ?_
  rintro e w1 ⟨rfl, hf1⟩
  have HF1 : Hid (Fr w w1) := Lib.hid (HF0.out.trans hf1)
  have HC1 := Lib.hid (HCB.out.fr hf1)
  clear hf1
  cases R with
  | true =>
    go_wp2_with fail
    refine (awake_any _).mono ?_
    rintro e wz ⟨rfl, hfz⟩
    have HFZ : Hid (Fr w wz) := Lib.hid (HF1.out.trans hfz)
    go_wp2_with fail
    go_ret
    exact ⟨rfl, HFZ.out⟩
  | false =>
    have CD2 := Lib.hid (fun W h => CD.out W h rfl)
    have CR2 := Lib.hid (fun W h => CR.out W h rfl)
    have CN2 := Lib.hid (fun W h p hp h1 => CN.out W h p hp rfl h1)
    have HSM2 := Lib.hid (HSM.out rfl)
    clear CD CR CN HSM
    by_cases hk0 : kk < 0
    · have z1 : decide (kk < 0) = true := decide_eq_true hk0
      go_wp2_with fail
      refine (awake_any _).mono ?_
      rintro e wz ⟨rfl, hfz⟩
      have HFZ : Hid (Fr w wz) := Lib.hid (HF1.out.trans hfz)
      go_wp2_with fail
      go_ret
      exact ⟨rfl, HFZ.out⟩
    · have z1 : decide (kk < 0) = false := decide_eq_false hk0
      have HK0 := Lib.hid hk0
      clear hk0
      obtain ⟨k0, k1, k2, k3, k4, k5⟩ := HC1.out.cells
      go_wp2_with fail
      refine (CD2.out _ HF1.out).mono ?_
      rintro e w2 ⟨hP, hf2⟩
      have HF2 : Hid (Fr w w2) := Lib.hid (HF1.out.trans hf2)
      have HC2 := Lib.hid (HC1.out.fr hf2)
      clear k0 k1 k2 k3 k4 k5 hf2
      obtain ⟨k0, k1, k2, k3, k4, k5⟩ := HC2.out.cells
      by_cases h0 : exE c = 0
      · obtain ⟨g2, rfl, _, hrow2⟩ := hP.1 h0
        have HROW2 := Lib.hid hrow2
        have H0 := Lib.hid h0
        clear hP h0 hrow2
        by_cases hpp : pr < 2
        · have z2 : decide (pr < 2) = true := decide_eq_true hpp
          go_wp2_with fail
          refine (awake_any _).mono ?_
          rintro e wz ⟨rfl, hfz⟩
          have HFZ : Hid (Fr w wz) := Lib.hid (HF2.out.trans hfz)
          go_wp2_with fail
          go_ret
          exact ⟨rfl, HFZ.out⟩
        · have z2 : decide (pr < 2) = false := decide_eq_false hpp
          have HPP := Lib.hid hpp
          have z3 : (pr == 0) = false := nz6 (by omega)
          have z4 : ¬ pr = 0 := by omega
          obtain ⟨P, hP, hP1, hP2⟩ := tmod_in (k := kk) (n := pr) (by have := HK0.out; omega) hpp
          have hpw : wf64 pr := by rw [HPRC.out]; exact HWF.out.procs
          have z5 : wrap64 (kk.tmod pr + 1) = (P : Int) := by rw [hP]; exact IntWalk.wrap64_in _ (by unfold wf64 at hpw; omega)
          have HPI : Hid (1 ≤ P ∧ (P : Int) ≤ pr ∧ wf64 pr) := Lib.hid ⟨hP1, hP2, hpw⟩
          clear hpp hP hP1 hP2 hpw
          go_wp2_with fail
          have HPC : Hid (1 ≤ c.procs) := Lib.hid (by rw [← HPRC.out]; have := HPI.out; omega)
          have HPW : Hid (wf64 (P : Int)) := Lib.hid (by have h := HPI.out; have h3 := h.2.2; unfold wf64 at h3 ⊢; omega)
          obtain ⟨D, hD⟩ : ∃ y, y = cutC c (P : Int) := ⟨_, rfl⟩
          have HD0 : Hid (exE D = 0) := Lib.hid (by rw [hD]; have h := HPI.out; exact cut_ok H0.out (by omega) (by rw [← HPRC.out]; exact h.2.1) (by rw [← HPRC.out]; have := HPP.out; omega))
          have HDW : Hid (wfC D) := Lib.hid (by rw [hD]; exact cutC_wf HWF.out HPW.out HPC.out)
          have HSD : Hid (D.name.size ≤ 2000000 ∧ ∀ x ∈ D.data, x.t.size ≤ 2000000) := Lib.hid (by rw [hD]; exact ⟨HSM2.out.1, HSM2.out.2.1⟩)
          have CN4 := Lib.hid (fun W h => CN2.out W h (P : Int) HPW.out HPC.out)
          rw [← hD] at CN4
          have HDD := Lib.hid hD
          clear hD k0 k1 k2 k3 k4 k5
          refine (CN4.out _ HF2.out).mono ?_
          rintro e w3 ⟨dv3, ov3, rfl, hc3, hf3⟩
          have HF3 : Hid (Fr w w3) := Lib.hid (HF2.out.trans hf3)
          have HC3 := Lib.hid (HC2.out.fr hf3)
          have CD3 := Lib.hid (fun W (h : Fr w3 W) => Depths_any D dv3 ov3 _ W (hc3.fr h) HDW.out HSD.out.1 HSD.out.2)
          obtain ⟨nm3, da3, ld3, dc3, oa3, lo3, oc3, ga3, lg3, gc3, pr3, lb3, hA3, hlo3⟩ := cod_val hc3
          rw [hA3] at CD3 ⊢
          have HR3 := Lib.hid (hf3.row HROW2.out)
          clear hc3 hA3 hlo3 hf3
          go_wp2_with fail
          refine (CD3.out _ (Fr.refl _)).mono ?_
          rintro e w4 ⟨hP4, hf4⟩
          obtain ⟨g4, rfl, _, hrow4⟩ := hP4.1 HD0.out
          have HROW4 := Lib.hid hrow4
          have HF4 : Hid (Fr w w4) := Lib.hid (HF3.out.trans hf4)
          have HC4 := Lib.hid (HC3.out.fr hf4)
          have HR4 := Lib.hid (hf4.row HR3.out)
          clear hP4 hrow4 hf4
          obtain ⟨k0, k1, k2, k3, k4, k5⟩ := HC4.out.cells
          go_wp2_with fail
          refine (CR2.out _ HF4.out).mono ?_
          rintro e w5 ⟨hP5, hf5⟩
          obtain ⟨g5, rfl, _, hrow5⟩ := hP5.1 H0.out
          have HROW5 := Lib.hid hrow5
          have HF5 : Hid (Fr w w5) := Lib.hid (HF4.out.trans hf5)
          have HC5 := Lib.hid (HC4.out.fr hf5)
          have HR5 := Lib.hid (hf5.row HR4.out)
          have HQ5 := Lib.hid (hf5.row HROW4.out)
          clear hP5 hrow5 hf5 k0 k1 k2 k3 k4 k5
          obtain ⟨k0, k1, k2, k3, k4, k5⟩ := HC5.out.cells
          go_wp2_with fail
          refine (CN4.out _ HF5.out).mono ?_
          rintro e w6 ⟨dv6, ov6, rfl, hc6, hf6⟩
          have HF6 : Hid (Fr w w6) := Lib.hid (HF5.out.trans hf6)
          have HC6 := Lib.hid (HC5.out.fr hf6)
          have CR6 := Lib.hid (fun W (h : Fr w6 W) => Room_any D dv6 ov6 _ W (hc6.fr h) HDW.out HSD.out.1 HSD.out.2)
          obtain ⟨nm6, da6, ld6, dc6, oa6, lo6, oc6, ga6, lg6, gc6, pr6, lb6, hA6, hlo6⟩ := cod_val hc6
          rw [hA6] at CR6 ⊢
          have HR6 := Lib.hid (hf6.row HR5.out)
          have HQ6 := Lib.hid (hf6.row HQ5.out)
          have HM6 := Lib.hid (hf6.row HROW5.out)
          clear hc6 hA6 hlo6 hf6 k0 k1 k2 k3 k4 k5
          go_wp2_with fail
          refine (CR6.out _ (Fr.refl _)).mono ?_
          rintro e w7 ⟨hP7, hf7⟩
          obtain ⟨g7, rfl, _, hrow7⟩ := hP7.1 HD0.out
          have HROW7 := Lib.hid hrow7
          have HF7 : Hid (Fr w w7) := Lib.hid (HF6.out.trans hf7)
          have HC7 := Lib.hid (HC6.out.fr hf7)
          have HR7 := Lib.hid (hf7.row HR6.out)
          have HQ7 := Lib.hid (hf7.row HQ6.out)
          have HM7 := Lib.hid (hf7.row HM6.out)
          clear hP7 hrow7 hf7
          go_wp2_with fail
          obtain ⟨l, hl⟩ : ∃ y, y = c.ops := ⟨_, rfl⟩
          have HL := Lib.hid hl
          have HN : Hid (lo = l.length) := Lib.hid (by rw [hl]; exact HLO.out)
          have HLM : Hid (lo ≤ 40000) := Lib.hid (by have := (lim_ok (ex_lim H0.out).1).1; rw [HLO.out]; exact this)
          have HOL : Hid (OpsV w (.slice oa lo oc) l) := Lib.hid (by rw [hl]; exact HOV.out)
          obtain ⟨dl, hdl⟩ : ∃ y, y = depL 0 c.ops := ⟨_, rfl⟩
          have HDL := Lib.hid hdl
          have HDN : Hid (dl.length = lo) := Lib.hid (by rw [hdl, depL_len, HLO.out])
          have HRD : Hid (w7.rowIs g2 3 lo (fun j => .int .i64 (dl[j]?.getD 0))) := Lib.hid (by rw [hdl, HLO.out]; exact HR7.out)
          have HS7 : Hid (w.heap.size < w7.heap.size) := Lib.hid (by exact HC7.out.lt)
          rw [← HLO.out]
          clear hl hdl
          obtain ⟨i1, hj0, hy0, hy1, hy2⟩ := info_at clI_info
          have HIO := Lib.hid (And.intro hj0 (And.intro hy0 (And.intro hy1 hy2)))
          clear hj0 hy0 hy1 hy2
          go_loopw [14, 15, 16] (fun wt q i wr => ∃ (j : Nat), j ≤ lo ∧ i = .int .i64 j ∧ q = .int .i64 (curP 0 (l.take j)) ∧ Hid (wr.ownsRow w7.heap.size 3 1 wt (cutG (P : Int) 0 (l.take j) (dl.take j)).length (rowN (clI_cs (cutG (P : Int) 0 (l.take j) (dl.take j))) (cutG (P : Int) 0 (l.take j) (dl.take j)).length)) ∧ Hid (Fr w7 wr)) (fun _ _ i _ => lo - (intOf i).toNat)
          case atStart => exact ⟨0, Nat.zero_le _, rfl, rfl, Lib.hid (World.ownsRow_nil _ _ _ _), Lib.hid (Fr.refl _)⟩
          case round =>
            obtain ⟨j, hj, rfl, rfl, HROW, HFR⟩ := hrel
            obtain ⟨k0, k1, k2, k3, k4, k5⟩ := (HC7.out.fr HFR.out).cells
            by_cases hlt : j < lo
            · obtain ⟨x, hx⟩ : ∃ x, l[j]? = some x := ⟨_, List.getElem?_eq_getElem (by rw [← HN.out]; exact hlt)⟩
              obtain ⟨dj, hdj⟩ : ∃ x, dl[j]? = some x := ⟨_, List.getElem?_eq_getElem (by rw [HDN.out]; exact hlt)⟩
              have hd0 := (HFR.out.row HRD.out).cell hlt
              rw [hdj] at hd0
              simp only [Option.getD_some] at hd0
              obtain ⟨b2, off2, e2, hcell⟩ := HOL.out.at_ hx
              subst e2
              have hq := HF7.out.trans HFR.out
              have e1 := hq.cell hcell.op
              have e2 := hq.cell hcell.n
              have htk : l.take (j + 1) = l.take j ++ [x] := by rw [List.take_add_one, hx]; rfl
              have hdk : dl.take (j + 1) = dl.take j ++ [dj] := by rw [List.take_add_one, hdj]; rfl
              obtain ⟨q, hqq⟩ : ∃ y, y = curP 0 (l.take j) := ⟨_, rfl⟩
              obtain ⟨G, hG⟩ : ∃ y, y = cutG (P : Int) 0 (l.take j) (dl.take j) := ⟨_, rfl⟩
              have HQ : Hid (curP 0 (l.take (j + 1)) = if x.op = 24 then x.n else q) := Lib.hid (by rw [htk, curP_more, hqq])
              have HGU : Hid (cutG (P : Int) 0 (l.take (j + 1)) (dl.take (j + 1)) = G ++ (if (if x.op = 24 then x.n else q) = (P : Int) then [] else [dj])) := Lib.hid (by
                rw [htk, hdk, cutG_more _ _ _ _ _ _ (by rw [List.length_take, List.length_take, HDN.out, ← HN.out]), hG]; congr 1; rw [curP_more, hqq])
              rw [← hG] at HROW
              rw [← hqq]
              have HGL : Hid (G.length ≤ lo) := Lib.hid (by rw [hG]; exact Nat.le_trans (cutG_lenle _ _ _ _) (by rw [List.length_take, HDN.out]; omega))
              obtain ⟨ra, rc, rfl⟩ := own_val HROW.out
              obtain ⟨rn, hrn⟩ : ∃ y, y = G.length := ⟨_, rfl⟩
              have HRN := Lib.hid hrn
              rw [← hrn] at HROW HGL ⊢
              obtain ⟨xo, hxo⟩ : ∃ y, y = x.op := ⟨_, rfl⟩
              obtain ⟨xn, hxn⟩ : ∃ y, y = x.n := ⟨_, rfl⟩
              rw [← hxo] at e1 HQ HGU
              rw [← hxn] at e2 HQ HGU
              clear hx hcell hq htk hdk hqq hG hrn hxo hxn hdj
              have pj0 : (0 : Int) ≤ (j : Int) := Int.natCast_nonneg _
              have pj1 : (j : Int) < (lo : Int) := by omega
              have hlm := HLM.out
              by_cases h24 : xo = 24
              · have z1 : (xo == 24) = true := beq_iff_eq.2 h24
                rw [if_pos h24] at HQ HGU
                clear h24
                by_cases hp1 : xn = (P : Int)
                · have z2 : (xn != (P : Int)) = false := by rw [hp1]; simp
                  rw [if_pos hp1] at HGU
                  clear hp1
                  go_wp2_with fail
                  go_roundw
                  case rel =>
                    exact ⟨j + 1, by omega, by go_num, by rw [HQ.out], Lib.hid (by rw [HGU.out, List.append_nil, ← HRN.out]; exact HROW.out), HFR⟩
                  case measure => simp [intOf]; omega
                · have z2 : (xn != (P : Int)) = true := by rw [bne_iff_ne]; exact hp1
                  rw [if_neg hp1] at HGU
                  clear hp1
                  go_wp2_with (with_reducible refine stop_append_a ?_)
                  unfold StopA
                  have hfa : Fr w7 (wr.alloc (.cells #[.int .i64 dj] 3)) := HFR.out.alloc _
                  have hoa := Ex.own (X := fun _ => False) (((Fr.refl wr).alloc (.cells #[.int .i64 dj] 3)).ex) (fun _ _ h => h) HROW.out
                  have hlo3 : rn ≤ 40000 := Nat.le_trans HGL.out HLM.out
                  refine wpList_append_own_at _ rfl (.tmp 100) (.tmp 105) 32 rfl w7.heap.size 3 i1 _ 1 8 Try.underlying32 HIO.out.1 HIO.out.2.1 HIO.out.2.2.1 HIO.out.2.2.2 rfl (by omega) _ rn (rowN (clI_cs G) rn) (by rfl) hoa ⟨wr.heap.size, 0, none⟩ 1 1 [.int .i64 dj] (by rfl) (by rfl) (one_new wr _ _) (fun u hu => by simp only [List.mem_cons, List.not_mem_nil, or_false] at hu; subst hu; rfl) (by unfold maxLen; omega) (by omega) (by have := HFR.out.size; rw [size_al]; omega) fun v6 w6 hown6 hg6 _ hb6 => ?_
                  have HF6 : Hid (Fr w7 w6) := Lib.hid (own_fr6 (w0 := w7) hfa hoa hg6)
                  have HO6 : Hid (w6.ownsRow w7.heap.size 3 1 v6 (G ++ [dj]).length (rowN (clI_cs (G ++ [dj])) (G ++ [dj]).length)) := Lib.hid (by rw [← clI_more G dj, show (G ++ [dj]).length = G.length + 1 by simp, ← HRN.out]; exact hown6)
                  clear hown6 hg6 hb6 hfa hoa hlo3
                  go_wp2_with fail
                  go_roundw
                  case rel =>
                    exact ⟨j + 1, by omega, by go_num, by rw [HQ.out], Lib.hid (by rw [HGU.out]; exact HO6.out), HF6⟩
                  case measure => simp [intOf]; omega
              · have z1 : (xo == 24) = false := nz6 h24
                rw [if_neg h24] at HQ HGU
                clear h24
                by_cases hp1 : q = (P : Int)
                · have z2 : (q != (P : Int)) = false := by rw [hp1]; simp
                  rw [if_pos hp1] at HGU
                  clear hp1
                  go_wp2_with fail
                  go_roundw
                  case rel =>
                    exact ⟨j + 1, by omega, by go_num, by rw [HQ.out], Lib.hid (by rw [HGU.out, List.append_nil, ← HRN.out]; exact HROW.out), HFR⟩
                  case measure => simp [intOf]; omega
                · have z2 : (q != (P : Int)) = true := by rw [bne_iff_ne]; exact hp1
                  rw [if_neg hp1] at HGU
                  clear hp1
                  go_wp2_with (with_reducible refine stop_append_a ?_)
                  unfold StopA
                  have hfa : Fr w7 (wr.alloc (.cells #[.int .i64 dj] 3)) := HFR.out.alloc _
                  have hoa := Ex.own (X := fun _ => False) (((Fr.refl wr).alloc (.cells #[.int .i64 dj] 3)).ex) (fun _ _ h => h) HROW.out
                  have hlo3 : rn ≤ 40000 := Nat.le_trans HGL.out HLM.out
                  refine wpList_append_own_at _ rfl (.tmp 100) (.tmp 105) 32 rfl w7.heap.size 3 i1 _ 1 8 Try.underlying32 HIO.out.1 HIO.out.2.1 HIO.out.2.2.1 HIO.out.2.2.2 rfl (by omega) _ rn (rowN (clI_cs G) rn) (by rfl) hoa ⟨wr.heap.size, 0, none⟩ 1 1 [.int .i64 dj] (by rfl) (by rfl) (one_new wr _ _) (fun u hu => by simp only [List.mem_cons, List.not_mem_nil, or_false] at hu; subst hu; rfl) (by unfold maxLen; omega) (by omega) (by have := HFR.out.size; rw [size_al]; omega) fun v6 w6 hown6 hg6 _ hb6 => ?_
                  have HF6 : Hid (Fr w7 w6) := Lib.hid (own_fr6 (w0 := w7) hfa hoa hg6)
                  have HO6 : Hid (w6.ownsRow w7.heap.size 3 1 v6 (G ++ [dj]).length (rowN (clI_cs (G ++ [dj])) (G ++ [dj]).length)) := Lib.hid (by rw [← clI_more G dj, show (G ++ [dj]).length = G.length + 1 by simp, ← HRN.out]; exact hown6)
                  clear hown6 hg6 hb6 hfa hoa hlo3
                  go_wp2_with fail
                  go_roundw
                  case rel =>
                    exact ⟨j + 1, by omega, by go_num, by rw [HQ.out], Lib.hid (by rw [HGU.out]; exact HO6.out), HF6⟩
                  case measure => simp [intOf]; omega
            · have hjl : lo = j := by omega
              subst hjl
              have pj1 : ¬ (lo : Int) < (lo : Int) := by omega
              have ht1 : l.take lo = l := List.take_of_length_le (by rw [HN.out]; exact Nat.le_refl _)
              have ht2 : dl.take lo = dl := List.take_of_length_le (by rw [HDN.out]; exact Nat.le_refl _)
              rw [ht1, ht2] at HROW
              obtain ⟨G, hG⟩ : ∃ y, y = cutG (P : Int) 0 l dl := ⟨_, rfl⟩
              rw [← hG] at HROW
              have HGD : Hid (depL 0 D.ops = G) := Lib.hid (by rw [hG, HL.out, HDL.out, HDD.out]; exact depL_cut _ _ _ _ _ (fun _ => rfl))
              have HWI : Hid (IntsV wr u14 G) := Lib.hid (clI_sl HROW.out)
              have hnd : D.ops.length ≤ 40000 := by
                rw [HDD.out]
                exact Nat.le_trans (cutL_lenle _ _ _) (by rw [← HLO.out]; exact HLM.out)
              have HIM : Hid (IntsV wr (.slice (some ⟨g4, 0, none⟩) D.ops.length D.ops.length) (depL 0 D.ops)) := Lib.hid (row_ints (HFR.out.row HQ7.out) (depL_len _ _) (by unfold maxLen; omega))
              have hgl : G.length ≤ 40000 := by rw [← HGD.out, depL_len]; exact hnd
              have CE1 := Lib.hid (fun W (h : Fr wr W) => EqInts_any _ _ _ _ W (HIM.out.fr' h) (HWI.out.fr' h) (by rw [depL_len]; omega) (by omega))
              rw [(eqI_iff _ _).2 HGD.out] at CE1
              have hpi := HPI.out
              have hpm : c.procs ≤ 200 := (lim_ok (ex_lim H0.out).1).2.2.1
              obtain ⟨np, hnp⟩ : ∃ y, y = c.procs.toNat := ⟨_, rfl⟩
              have hnp2 : (np : Int) = pr := by rw [hnp, HPRC.out]; have := HPC.out; omega
              have HNP : Hid (P ≤ np ∧ 1 ≤ P ∧ np ≤ 200) := Lib.hid (by refine ⟨by omega, hpi.1, by rw [HPRC.out] at hnp2; omega⟩)
              have HM := Lib.hid (HFR.out.row HM7.out)
              rw [← hnp] at HM ⊢
              obtain ⟨nq, hnq⟩ : ∃ y, y = D.procs.toNat := ⟨_, rfl⟩
              have HQR := Lib.hid (HFR.out.row HROW7.out)
              rw [← hnq] at HQR ⊢
              have HNQ : Hid (nq = np - 1) := Lib.hid (by rw [hnq, HDD.out]; show (c.procs - 1).toNat = np - 1; rw [hnp]; have := HPC.out; omega)
              have HRM : Hid (∀ k, rmL D.ops k = rmL c.ops (upN P k)) := Lib.hid (fun k => by rw [HDD.out]; exact rmL_cut H0.out P hpi.1 k)
              obtain ⟨f, hf⟩ : ∃ y, y = rmL c.ops := ⟨_, rfl⟩
              obtain ⟨fq, hfq⟩ : ∃ y, y = rmL D.ops := ⟨_, rfl⟩
              rw [← hf] at HM HRM
              rw [← hfq] at HQR HRM
              have n1 : ((lo : Int) == (lo : Int)) = true := beq_self_eq_true _
              have n2 : ((np : Int) == pr) = true := by rw [hnp2]; exact beq_self_eq_true _
              have n3 : ((np : Int) != pr) = false := by rw [bne, n2]; rfl
              have n4 : ((lo : Int) != (lo : Int)) = false := by rw [bne, n1]; rfl
              obtain ⟨Q1, hQ1⟩ : ∃ y : Nat, y = P - 1 := ⟨_, rfl⟩
              have HQ1 := Lib.hid hQ1
              have zp : IntKind.i64.wrap ((P : Int) - 1) = (Q1 : Int) := by rw [IntWalk.i64_in _ (by have := HNP.out; omega)]; have := HNP.out; omega
              have zp2 : wrap64 ((P : Int) - 1) = (Q1 : Int) := by rw [IntWalk.wrap64_in _ (by have := HNP.out; omega)]; have := HNP.out; omega
              obtain ⟨xa, hxa⟩ : ∃ y : Option Addr, y = (if np = P then some ⟨g5, 0, none⟩ else some ⟨g5, P, none⟩) := ⟨_, rfl⟩
              have HXA := Lib.hid hxa
              obtain ⟨m2, hm2⟩ : ∃ y : Nat, y = np - P := ⟨_, rfl⟩
              have HM2 := Lib.hid hm2
              have HQN : Hid (Q1 ≤ np) := Lib.hid (by have := HNP.out; omega)
              have hs1 : ∀ W, (Instr.slice 32 (.slice (some ⟨g5, 0, none⟩) np np) none (some (.int .i64 (Q1 : Int))) none).run Try.prog W = .ok (.slice (some ⟨g5, 0, none⟩) Q1 np) W := by
                intro W
                have h := run_slice_h (P := Try.prog) (w := W) 32 (some ⟨g5, 0, none⟩) np np Try.underlying32 .i64 (Q1 : Int) (by omega) (by have := HQN.out; omega)
                rw [h]
                have hz : (sizeOf (Try.prog.elem 32)).run Try.prog W = .ok 1 W := by kernel_rfl
                rw [hz]
                simp [Result.andThen, sliced, Addr.add]
              have hs2 : ∀ W, (Instr.slice 32 (.slice (some ⟨g5, 0, none⟩) np np) (some (.int .i64 (P : Int))) none none).run Try.prog W = .ok (.slice xa m2 m2) W := by
                intro W
                have h := run_slice_l (P := Try.prog) (w := W) 32 (some ⟨g5, 0, none⟩) np np Try.underlying32 .i64 (P : Int) (by omega) (by have := HNP.out; omega)
                rw [h]
                have hz : (sizeOf (Try.prog.elem 32)).run Try.prog W = .ok 1 W := by kernel_rfl
                rw [hz, HXA.out, HM2.out]
                have hp0 : ¬ P = 0 := by have := HNP.out; omega
                by_cases e : np = P <;> simp [Result.andThen, sliced, Addr.add, e, hp0]
              have HS1 := Lib.hid hs1
              have HS2 := Lib.hid hs2
              clear hs1 hs2 hxa hm2 hQ1 hf hfq hnq hnp2 hnp hpm hpi hgl hnd ht1 ht2 hG
              go_wp2_with fail
              clear k0 k1 k2 k3 k4 k5
              refine wp_region_any (by kernel_rfl) ?_
              change wpAny _ _ _ _ _ _ _ (World.drew _)
              refine wpAny_take (i := 0) (v := ?_) rfl (by kernel_rfl) (by kernel_rfl) (by kernel_rfl) (fun _ _ _ h => h) (Or.inl ⟨by rfl, ?_⟩) ?_
              rotate_left
              · intro W'
                go_simp
                try with_reducible rfl
              try simp only [Act.put, List.getElem_toArray, List.getElem_cons_zero, List.getElem_cons_succ, List.setIfInBounds_toArray, List.set_cons_zero, List.set_cons_succ]
              refine wpAny_take (i := 1) (v := ?_) rfl (by kernel_rfl) (by kernel_rfl) (by kernel_rfl) (fun _ _ _ h => h) (Or.inl ⟨by rfl, ?_⟩) ?_
              rotate_left
              · intro W'
                go_simp
                try with_reducible rfl
              try simp only [Act.put, List.getElem_toArray, List.getElem_cons_zero, List.getElem_cons_succ, List.setIfInBounds_toArray, List.set_cons_zero, List.set_cons_succ]
              refine wpAny_ready (rs := [2]) (by kernel_rfl) (by simp) (AllReady.cons rfl (fun K hK => ?_) AllReady.nil)
              go_simp
              refine (CE1.out _ ((Fr.refl wr).drew)).mono ?_
              rintro e wA ⟨rfl, hfA⟩
              have HFA : Hid (Fr wr wA) := Lib.hid (((Fr.refl wr).drew).trans hfA)
              clear hfA
              refine hK _ _ ?_
              clear hK K
              try simp only [Act.put, List.getElem_toArray, List.getElem_cons_zero, List.getElem_cons_succ, List.setIfInBounds_toArray, List.set_cons_zero, List.set_cons_succ]
              refine wpAny_take (i := 3) (v := ?_) rfl (by kernel_rfl) (by kernel_rfl) (by kernel_rfl) (fun _ _ _ h => h) (Or.inl ⟨by rfl, ?_⟩) ?_
              rotate_left
              · intro W'
                go_simp
                try with_reducible rfl
              try simp only [Act.put, List.getElem_toArray, List.getElem_cons_zero, List.getElem_cons_succ, List.setIfInBounds_toArray, List.set_cons_zero, List.set_cons_succ]
              refine wpAny_take (i := 4) (v := ?_) rfl (by kernel_rfl) (by kernel_rfl) (by kernel_rfl) (fun _ _ _ h => h) (Or.inl ⟨by rfl, ?_⟩) ?_
              rotate_left
              · intro W'
                go_simp
                try with_reducible rfl
              try simp only [Act.put, List.getElem_toArray, List.getElem_cons_zero, List.getElem_cons_succ, List.setIfInBounds_toArray, List.set_cons_zero, List.set_cons_succ]
              refine wpAny_take (i := 5) (v := ?_) rfl (by kernel_rfl) (by kernel_rfl) (by kernel_rfl) (fun _ _ _ h => h) (Or.inl ⟨by rfl, ?_⟩) ?_
              rotate_left
              · intro W'
                go_simp
                try with_reducible rfl
              try simp only [Act.put, List.getElem_toArray, List.getElem_cons_zero, List.getElem_cons_succ, List.setIfInBounds_toArray, List.set_cons_zero, List.set_cons_succ]
              refine wpAny_take (i := 6) (v := ?_) rfl (by kernel_rfl) (by kernel_rfl) (by kernel_rfl) (fun _ _ _ h => h) (Or.inl ⟨by rfl, ?_⟩) ?_
              rotate_left
              · intro W'
                go_simp
                try with_reducible rfl
              try simp only [Act.put, List.getElem_toArray, List.getElem_cons_zero, List.getElem_cons_succ, List.setIfInBounds_toArray, List.set_cons_zero, List.set_cons_succ]
              refine wpAny_take (i := 7) (v := ?_) rfl (by kernel_rfl) (by kernel_rfl) (by kernel_rfl) (fun _ _ _ h => h) (Or.inl ⟨by rfl, ?_⟩) ?_
              rotate_left
              · intro W'
                go_simp
                try with_reducible rfl
              try simp only [Act.put, List.getElem_toArray, List.getElem_cons_zero, List.getElem_cons_succ, List.setIfInBounds_toArray, List.set_cons_zero, List.set_cons_succ]
              have hs1 := HS1.out
              refine wpAny_take (i := 8) (v := ?_) rfl (by kernel_rfl) (by kernel_rfl) (by kernel_rfl) (fun _ _ _ h => h) (Or.inl ⟨by rfl, ?_⟩) ?_
              rotate_left
              · intro W'
                go_simp
                try with_reducible rfl
              try simp only [Act.put, List.getElem_toArray, List.getElem_cons_zero, List.getElem_cons_succ, List.setIfInBounds_toArray, List.set_cons_zero, List.set_cons_succ]
              clear hs1
              refine wpAny_take (i := 10) (v := ?_) rfl (by kernel_rfl) (by kernel_rfl) (by kernel_rfl) (fun _ _ _ h => h) (Or.inl ⟨by rfl, ?_⟩) ?_
              rotate_left
              · intro W'
                go_simp
                try with_reducible rfl
              try simp only [Act.put, List.getElem_toArray, List.getElem_cons_zero, List.getElem_cons_succ, List.setIfInBounds_toArray, List.set_cons_zero, List.set_cons_succ]
              refine wpAny_take (i := 11) (v := ?_) rfl (by kernel_rfl) (by kernel_rfl) (by kernel_rfl) (fun _ _ _ h => h) (Or.inl ⟨by rfl, ?_⟩) ?_
              rotate_left
              · intro W'
                go_simp
                try with_reducible rfl
              try simp only [Act.put, List.getElem_toArray, List.getElem_cons_zero, List.getElem_cons_succ, List.setIfInBounds_toArray, List.set_cons_zero, List.set_cons_succ]
              have hs2 := HS2.out
              refine wpAny_take (i := 12) (v := ?_) rfl (by kernel_rfl) (by kernel_rfl) (by kernel_rfl) (fun _ _ _ h => h) (Or.inl ⟨by rfl, ?_⟩) ?_
              rotate_left
              · intro W'
                go_simp
                try with_reducible rfl
              try simp only [Act.put, List.getElem_toArray, List.getElem_cons_zero, List.getElem_cons_succ, List.setIfInBounds_toArray, List.set_cons_zero, List.set_cons_succ]
              clear hs2
              refine wpAny_ready (rs := [9]) (by kernel_rfl) (by simp) (AllReady.cons rfl (fun K hK => ?_) AllReady.nil)
              refine step_append_row (by rfl) (.const (.slice none 0 0)) (.tmp 128) 32 rfl wA.heap.size 3 i1 _ 1 8 Try.underlying32 HIO.out.1 HIO.out.2.1 HIO.out.2.2.1 HIO.out.2.2.2 rfl (by omega) (.slice none 0 0) 0 [] (by rfl) (World.ownsRow_nil _ _ _ _) (some ⟨g5, 0, none⟩) Q1 np ((List.range Q1).map (fun k => .int .i64 (f k))) (by rfl) (fun e => by cases e) (by simp) (fun ad he j u hu => ?_) (fun u hu => ?_) (by have h1 := HNP.out; have h2 := HQN.out; unfold maxLen; omega) (by have h1 := HNP.out; have h2 := HQN.out; omega) (Nat.le_refl _) fun vX wX hownX hgX => ?_
              · cases he
                obtain ⟨hj, rfl⟩ := List.getElem?_eq_some_iff.1 hu
                simp only [List.length_map, List.length_range] at hj
                rw [ap_add, Nat.zero_add]
                simp only [List.getElem_map, List.getElem_range]
                exact (HFA.out.row HM.out).cell (by have := HQN.out; omega)
              · obtain ⟨k, _, rfl⟩ := List.mem_map.1 hu
                rfl
              have HFX : Hid (Fr wA wX) := Lib.hid (own_fr6 (Fr.refl wA) (World.ownsRow_nil wA wA.heap.size 3 1) hgX)
              have HOX := Lib.hid hownX
              clear hownX hgX
              refine hK _ _ ?_
              clear hK K
              try simp only [Act.put, List.getElem_toArray, List.getElem_cons_zero, List.getElem_cons_succ, List.setIfInBounds_toArray, List.set_cons_zero, List.set_cons_succ]
              refine wpAny_ready (rs := [13]) (by kernel_rfl) (by simp) (AllReady.cons rfl (fun K hK => ?_) AllReady.nil)
              refine step_append_row (by rfl) (.tmp 129) (.tmp 132) 32 rfl wA.heap.size 3 i1 _ 1 8 Try.underlying32 HIO.out.1 HIO.out.2.1 HIO.out.2.2.1 HIO.out.2.2.2 rfl (by omega) vX (0 + Q1) ([] ++ (List.range Q1).map (fun k => .int .i64 (f k))) (by rfl) HOX.out xa m2 m2 ((List.range m2).map (fun k => .int .i64 (f (P + k)))) (by rfl) (fun e => by rw [HXA.out] at e; split at e <;> cases e) (by simp) (fun ad he j u hu => ?_) (fun u hu => ?_) (by have h1 := HNP.out; have h2 := HQN.out; have h3 := HM2.out; unfold maxLen; omega) (by have h1 := HNP.out; have h2 := HQN.out; have h3 := HM2.out; omega) HFX.out.size fun vY wY hownY hgY => ?_
              · obtain ⟨hj, rfl⟩ := List.getElem?_eq_some_iff.1 hu
                simp only [List.length_map, List.length_range] at hj
                rw [HXA.out, if_neg (by have := HM2.out; omega)] at he
                cases he
                rw [ap_add]
                simp only [List.getElem_map, List.getElem_range]
                exact ((HFA.out.trans HFX.out).row HM.out).cell (by have h1 := HM2.out; have h2 := HNP.out; omega)
              · obtain ⟨k, _, rfl⟩ := List.mem_map.1 hu
                rfl
              have HFY : Hid (Fr wA wY) := Lib.hid (own_fr6 HFX.out HOX.out hgY)
              have HIY : Hid (IntsV wY vY ((List.range nq).map fq)) := Lib.hid (by
                have hl : ((List.range nq).map fq).length = 0 + Q1 + m2 := by
                  rw [List.length_map, List.length_range]; have h1 := HNQ.out; have h2 := HM2.out; have h3 := HQ1.out; have h4 := HNP.out; omega
                have hq : ([] ++ (List.range Q1).map (fun k => Value.int .i64 (f k))) ++ (List.range m2).map (fun k => Value.int .i64 (f (P + k))) = rowN (clI_cs ((List.range nq).map fq)) ((List.range nq).map fq).length := by
                  rw [rowN_map _ _ rfl, show (fq : Nat → Int) = fun k => f (upN P k) from funext HRM.out, HNQ.out, up_split f P np HNP.out.2.1 HNP.out.1, HM2.out, HQ1.out]
                  simp
                  rfl
                rw [hq, ← hl] at hownY
                exact clI_sl hownY)
              have HIQ : Hid (IntsV wY (.slice (some ⟨g7, 0, none⟩) nq nq) ((List.range nq).map fq)) := Lib.hid (row_intsR ((HFA.out.trans HFY.out).row HQR.out) (by have h1 := HNQ.out; have h2 := HNP.out; unfold maxLen; omega))
              have CE2 := Lib.hid (EqInts_any _ _ _ _ wY HIQ.out HIY.out (by rw [List.length_map, List.length_range]; have h1 := HNQ.out; have h2 := HNP.out; omega) (by rw [List.length_map, List.length_range]; have h1 := HNQ.out; have h2 := HNP.out; omega))
              rw [(eqI_iff _ _).2 rfl] at CE2
              clear hownY hgY
              refine hK _ _ ?_
              clear hK K
              try simp only [Act.put, List.getElem_toArray, List.getElem_cons_zero, List.getElem_cons_succ, List.setIfInBounds_toArray, List.set_cons_zero, List.set_cons_succ]
              refine wpAny_ready (rs := [14]) (by kernel_rfl) (by simp) (AllReady.cons rfl (fun K hK => ?_) AllReady.nil)
              go_simp
              refine (CE2.out).mono ?_
              rintro e wB ⟨rfl, hfB⟩
              have HFB : Hid (Fr wA wB) := Lib.hid (HFY.out.trans hfB)
              clear hfB
              refine hK _ _ ?_
              clear hK K
              try simp only [Act.put, List.getElem_toArray, List.getElem_cons_zero, List.getElem_cons_succ, List.setIfInBounds_toArray, List.set_cons_zero, List.set_cons_succ]
              refine wpAny_take (i := 15) (v := ?_) rfl (by kernel_rfl) (by kernel_rfl) (by kernel_rfl) (fun _ _ _ h => h) (Or.inl ⟨by rfl, ?_⟩) ?_
              rotate_left
              · intro W'
                go_simp
                try with_reducible rfl
              try simp only [Act.put, List.getElem_toArray, List.getElem_cons_zero, List.getElem_cons_succ, List.setIfInBounds_toArray, List.set_cons_zero, List.set_cons_succ]
              refine wpAny_take (i := 16) (v := ?_) rfl (by kernel_rfl) (by kernel_rfl) (by kernel_rfl) (fun _ _ _ h => h) (Or.inl ⟨by rfl, ?_⟩) ?_
              rotate_left
              · intro W'
                go_simp
                try with_reducible rfl
              try simp only [Act.put, List.getElem_toArray, List.getElem_cons_zero, List.getElem_cons_succ, List.setIfInBounds_toArray, List.set_cons_zero, List.set_cons_succ]
              refine wpAny_ready (rs := [17]) (by kernel_rfl) (by simp) (AllReady.cons rfl (fun K hK => ?_) AllReady.nil)
              go_simp
              refine (awake_any _).mono ?_
              rintro e wC ⟨rfl, hfC⟩
              have HFC : Hid (Fr w wC) := Lib.hid ((HF7.out.trans HFR.out).trans (HFA.out.trans (HFB.out.trans hfC)))
              clear hfC
              refine hK _ _ ?_
              clear hK K
              try simp only [Act.put, List.getElem_toArray, List.getElem_cons_zero, List.getElem_cons_succ, List.setIfInBounds_toArray, List.set_cons_zero, List.set_cons_succ]
              refine wpAny_take (i := 18) (v := ?_) rfl (by kernel_rfl) (by kernel_rfl) (by kernel_rfl) (fun _ _ _ h => h) (Or.inl ⟨by rfl, ?_⟩) ?_
              rotate_left
              · intro W'
                go_simp
                try with_reducible rfl
              try simp only [Act.put, List.getElem_toArray, List.getElem_cons_zero, List.getElem_cons_succ, List.setIfInBounds_toArray, List.set_cons_zero, List.set_cons_succ]
              refine wpAny_take (i := 19) (v := ?_) rfl (by kernel_rfl) (by kernel_rfl) (by kernel_rfl) (fun _ _ _ h => h) (Or.inl ⟨by rfl, ?_⟩) ?_
              rotate_left
              · intro W'
                go_simp
                try with_reducible rfl
              try simp only [Act.put, List.getElem_toArray, List.getElem_cons_zero, List.getElem_cons_succ, List.setIfInBounds_toArray, List.set_cons_zero, List.set_cons_succ]
              refine wpAny_done (by kernel_rfl) ?_ _
              go_wp2_with fail
              go_ret
              exact ⟨rfl, HFC.out⟩
      · have hr := hP.2 h0
        obtain ⟨x, hx⟩ : ∃ y, y = exE c := ⟨_, rfl⟩
        rw [← hx] at hr h0
        subst hr
        have z2 : ((x : Int) == 0) = false := nz6 (by omega)
        have z3 : ((x : Int) != 0) = true := by simp [bne, z2]
        clear hP h0 hx
        go_wp2_with fail
        refine (awake_any _).mono ?_
        rintro e wz ⟨rfl, hfz⟩
        have HFZ : Hid (Fr w wz) := Lib.hid (HF2.out.trans hfz)
        go_wp2_with fail
        go_ret
        exact ⟨rfl, HFZ.out⟩
end Go.Proofs.Ytbhhjbnobcgfeaa
