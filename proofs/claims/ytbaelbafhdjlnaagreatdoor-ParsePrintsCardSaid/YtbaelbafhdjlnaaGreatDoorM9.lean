/- A part of the proof that the law ParsePrints holds for every input. -/
import Derived.Test.YtbaelbafhdjlnaaGreatDoorRows
import Derived.Test.YtbaelbafhdjlnaaGreatDoorM2
import Derived.Test.YtbaelbafhdjlnaaGreatDoorM7
import Derived.Test.YtbaelbafhdjlnaaGreatDoorM3
import Derived.LaidLaws
import Derived.LaidHandle
import Derived.Handed
import Derived.Stop.LaidErr
import Derived.ProofKit
import Derived.OpenShut
import Derived.Carry
import Derived.ChangeMaps5
import Derived.SizedLaws
import Derived.Test.YtbaelbafhdjlnaaGreatDoorM4
import Derived.Lib.SmallJoins
import Derived.ChangeSame
import Derived.WideShapes
namespace Go.Proofs.YtbaelbafhdjlnaaGreatDoor
open Go.RowKit Go.ChangeShapes Go.WideShapes Go.ChangeAt _root_.Go.Proofs.Tryz
set_option linter.unusedVariables false
set_option linter.unusedSimpArgs false
set_option maxRecDepth 100000
set_option maxHeartbeats 2000000
abbrev laid6 : List (String × DataW Unit) := [("math/bits.deBruijn32tab",Rows.laid_math_bits_deBruijn32tab),("math/bits.deBruijn64tab",Rows.laid_math_bits_deBruijn64tab),("internal/strconv.uint64pow10",Rows.laid_internal_strconv_uint64pow10),("strconv.ErrRange",Rows.laid_strconv_ErrRange),("strconv.ErrSyntax",Rows.laid_strconv_ErrSyntax),("bluebell/parse.operators",Rows.laid_bluebell_parse_operators)]
theorem errAt : prog.globalNamed "strconv.ErrRange" = some 2 := by kernel_rfl
theorem errType : (prog.globals[2]?).map (·.type) = some 185 := by kernel_rfl
theorem opAt : prog.globalNamed "bluebell/parse.operators" = some 0 := by kernel_rfl
theorem opType : (prog.globals[0]?).map (·.type) = some 177 := by kernel_rfl
theorem cellsOp : prog.cellsOf 154 = 4 := by kernel_rfl
def opDat (x : Opr) : DataW Unit := .agg [.lit (.string x.t.data.toList),.lit (.int .i64 x.op),.lit (.int .i64 x.n),.lit (.int .i64 x.l)]
theorem laid_ops : (Rows.laid_bluebell_parse_operators : DataW Unit) = .slice (opTab.map opDat) [] := by rfl
theorem ov_of_trod {enc : TypeId × Value → Unit} {W : World} {base : Nat} {sp : Nat → Bool} {hd : Bool} {fuel : Nat} {v : Value} {p : List MemPlace} (h : DataW.trod enc prog W base sp hd fuel 177 [v] = some (Rows.laid_bluebell_parse_operators,p)) (hc : W.cell? ⟨0,0,none⟩ = some v) : Ov W := by
 rw [laid_ops] at h
 rcases DataW.trod_slice underlying177 h with ⟨_,h2⟩ | ⟨a,len,cap,elems,rest,n,rfl,h1,h2,hb,hl,hm,hlen,hel,_,_⟩
 ·simp at h2
 ·simp only [Prod.mk.injEq,DataW.slice.injEq] at h2
  obtain ⟨⟨hE,_⟩,_⟩ := h2
  obtain rfl : v = .slice (some a) len cap := by simpa using h1
  have hl20 : len = 20 := by
   have h3 := congrArg List.length hE
   rw [List.length_map,List.length_map,opTab_len] at h3
   omega
  subst hl20
  rw [cellsOp] at hel
  have hcell : ∀ (i : Nat) (x : Opr),opTab[i]? = some x → W.cell? (a.add (i * 4)) = some (.string x.t) ∧ W.cell? ((a.add (i * 4)).add 1) = some (.int .i64 x.op) ∧ W.cell? ((a.add (i * 4)).add 2) = some (.int .i64 x.n) ∧ W.cell? ((a.add (i * 4)).add 3) = some (.int .i64 x.l) := by
   intro i x hx
   have hi : i < 20 := by have := (List.getElem?_eq_some_iff.1 hx).1; rw [opTab_len] at this; exact this
   obtain ⟨e,he⟩ : ∃ e,elems[i]? = some e := ⟨_,List.getElem?_eq_getElem (by omega)⟩
   have hed : e.1 = opDat x := by
    have h3 : (opTab.map opDat)[i]? = (elems.map (·.1))[i]? := by rw [hE]
    rw [List.getElem?_map,List.getElem?_map,hx,he] at h3
    simpa using h3.symm
   have h0 := hel i hi
   rw [he] at h0
   obtain ⟨cs',h3,h4⟩ := Option.bind_eq_some_iff.1 h0
   obtain ⟨_,hln,hcc⟩ := World.cells?_some h3
   obtain ⟨xs,m,rfl,he2,hl4,hlen4,hf⟩ := DataW.trod_struct underlying154 h4
   rw [he2] at hed
   rw [cellsOp] at hl4
   match xs,hlen4,cs',hl4,hed,hcc,hf with
   | [y0,y1,y2,y3],_,[v0,v1,v2,v3],_,hed,hcc,hf =>
    have g0 := hf 0 _ rfl
    have g1 := hf 1 _ rfl
    have g2 := hf 2 _ rfl
    have g3 := hf 3 _ rfl
    simp [ncellsInt,ncellsStr] at g0 g1 g2 g3
    obtain ⟨s0,q0,r0,w0⟩ := DataW.trod_string underlying9 g0
    obtain ⟨z1,q1,r1,w1⟩ := DataW.trod_int underlying3 g1
    obtain ⟨z2,q2,r2,w2⟩ := DataW.trod_int underlying3 g2
    obtain ⟨z3,q3,r3,w3⟩ := DataW.trod_int underlying3 g3
    simp only [List.cons.injEq,and_true] at q0 q1 q2 q3
    subst q0 q1 q2 q3
    simp only [opDat,List.map_cons,List.map_nil,r0,r1,r2,r3,DataW.agg.injEq,List.cons.injEq,DataW.lit.injEq,Lit.string.injEq,Lit.int.injEq,and_true,true_and] at hed
    obtain ⟨es,e1,e2,e3⟩ := hed
    have es' : s0 = x.t := by
     obtain ⟨d0⟩ := s0
     obtain ⟨xt,_,_,_⟩ := x
     obtain ⟨d1⟩ := xt
     simp only at es
     rw [Array.toList_inj.1 es]
    subst es' e1 e2 e3
    have c0 := hcc 0 (by omega)
    have c1 := hcc 1 (by omega)
    have c2 := hcc 2 (by omega)
    have c3 := hcc 3 (by omega)
    exact ⟨by simpa [Addr.add] using c0,by simpa using c1,by simpa using c2,by simpa using c3⟩
  have hx0 : opTab[0]? = some ⟨⟨#[120,111,114]⟩,12,10,1⟩ := rfl
  obtain ⟨b,off,spot⟩ := a
  cases spot with
  | some y =>
   have h0 := (hcell 0 _ hx0).1
   simp only [Addr.add,Nat.zero_mul,if_true,World.cell?] at h0
   split at h0 <;> simp at h0
  | none =>
   refine ⟨b,off,cap,hc,hl,fun i x hx => ?_⟩
   obtain ⟨c0,c1,c2,c3⟩ := hcell i x hx
   rw [ap_add] at c0
   rw [ap_add,ap_add] at c1 c2 c3
   exact ⟨c0,c1,c2,c3⟩
theorem ov_of_laid {W : World} (h : laidMetH prog laid6 W) : Ov W := by
 have h' : laidMet prog laid6 W := h
 obtain ⟨ps,⟨g0,t0,cs0,f0,p0,q0,hg0,ht0,hv0,hd0,⟨g1,t1,cs1,f1,p1,q1,hg1,ht1,hv1,hd1,⟨g2,t2,cs2,f2,p2,q2,hg2,ht2,hv2,hd2,⟨g3,t3,cs3,f3,p3,q3,hg3,ht3,hv3,hd3,⟨g4,t4,cs4,f4,p4,q4,hg4,ht4,hv4,hd4,⟨g5,t5,cs5,f5,p5,q5,hg5,ht5,hv5,hd5,_,_⟩,_⟩,_⟩,_⟩,_⟩,_⟩,_,_⟩ := h'
 obtain rfl := Option.some.inj (opAt.symm.trans hg5)
 obtain rfl := Option.some.inj (opType.symm.trans ht5)
 have hl : ∃ v,cs5.toList = [v] := by
  rcases DataW.trod_slice underlying177 hd5 with ⟨h1,_⟩ | ⟨a,len,cap,elems,rest,n,_,h1,_⟩ <;> exact ⟨_,h1⟩
 obtain ⟨v,hv⟩ := hl
 obtain ⟨l5⟩ := cs5
 have hl5 : l5 = [v] := hv
 subst hl5
 exact ov_of_trod hd5 (by simpa using World.var?_cell opAt hv5 0)
theorem ev_of_laid {W : World} (h : laidMetH prog laid6 W) : Ev W := by
 have h' : laidMet prog laid6 W := h
 obtain ⟨ps,⟨g0,t0,cs0,f0,p0,q0,hg0,ht0,hv0,hd0,⟨g1,t1,cs1,f1,p1,q1,hg1,ht1,hv1,hd1,⟨g2,t2,cs2,f2,p2,q2,hg2,ht2,hv2,hd2,⟨g3,t3,cs3,f3,p3,q3,hg3,ht3,hv3,hd3,_,_⟩,_⟩,_⟩,_⟩,_,_⟩ := h'
 obtain rfl := Option.some.inj (errAt.symm.trans hg3)
 obtain rfl := Option.some.inj (errType.symm.trans ht3)
 obtain ⟨f',u,v,hcs,_,_⟩ := iface_of_trod underlying185 hd3
 obtain ⟨l3⟩ := cs3
 have hl : l3 = [.iface u v] := hcs
 subst hl
 exact ⟨_,by simpa using World.var?_cell errAt hv3 0,Or.inr ⟨u,v,rfl⟩⟩
theorem gDb : prog.globalNamed "math/bits.deBruijn64tab" = some 5 := by kernel_rfl
theorem gDbType : (prog.globals[5]?).map (·.type) = some 221 := by kernel_rfl
theorem gPow : prog.globalNamed "internal/strconv.uint64pow10" = some 3 := by kernel_rfl
theorem gPowType : (prog.globals[3]?).map (·.type) = some 215 := by kernel_rfl
theorem cells_u8 : prog.cellsOf 5 = 1 := by kernel_rfl
theorem cells_u64 : prog.cellsOf 183 = 1 := by kernel_rfl
theorem cells_t64 : prog.cellsOf 221 = 64 := by kernel_rfl
theorem cells_t20 : prog.cellsOf 215 = 20 := by kernel_rfl
theorem nv_of_laid {W : World} (h : laidMetH prog laid6 W) : Nv W := by
 have h1 : laidMet prog laid6 W := h
 have h2 := h1.tail
 have h3 := h2.tail
 refine ⟨ev_of_laid h,?_,?_⟩
 ·exact Lib.tabIs_of_head gPow gPowType underlying215 underlying183 cells_u64 cells_t20 h3
 ·exact (Lib.tabIs_of_head (zs := [0,1,56,2,57,49,28,3,61,58,42,50,38,29,17,4,62,47,59,36,45,43,51,22,53,39,33,30,24,18,12,5,63,55,48,27,60,41,37,16,46,35,44,21,52,32,23,11,54,26,40,15,34,20,31,10,25,14,19,9,13,8,7,6]) gDb gDbType underlying221 underlying5 cells_u8 cells_t64 h2).cell gDb 15 (by decide)
noncomputable def low : Nat := (World.holding prog default ⟨#[],#[],[]⟩).heap.size
noncomputable def laidWorld (os : Os) : World :=
 let w0 := World.holding prog os ⟨#[.cells #[.string ⟨#[118,97,108,117,101,32,111,117,116,32,111,102,32,114,97,110,103,101]⟩] 213,.cells #[.string ⟨#[105,110,118,97,108,105,100,32,115,121,110,116,97,120]⟩] 213,.cells #[.string ⟨#[120,111,114]⟩,.int .i64 12,.int .i64 10,.int .i64 1,.string ⟨#[101,113,118]⟩,.int .i64 12,.int .i64 11,.int .i64 1,.string ⟨#[124]⟩,.int .i64 12,.int .i64 9,.int .i64 2,.string ⟨#[38]⟩,.int .i64 12,.int .i64 8,.int .i64 3,.string ⟨#[61]⟩,.int .i64 12,.int .i64 12,.int .i64 5,.string ⟨#[126,61]⟩,.int .i64 12,.int .i64 13,.int .i64 5,.string ⟨#[60]⟩,.int .i64 12,.int .i64 14,.int .i64 5,.string ⟨#[60,61]⟩,.int .i64 12,.int .i64 15,.int .i64 5,.string ⟨#[62]⟩,.int .i64 12,.int .i64 16,.int .i64 5,.string ⟨#[62,61]⟩,.int .i64 12,.int .i64 17,.int .i64 5,.string ⟨#[60,60]⟩,.int .i64 12,.int .i64 6,.int .i64 6,.string ⟨#[62,62]⟩,.int .i64 12,.int .i64 7,.int .i64 6,.string ⟨#[43]⟩,.int .i64 12,.int .i64 4,.int .i64 7,.string ⟨#[45]⟩,.int .i64 12,.int .i64 5,.int .i64 7,.string ⟨#[42]⟩,.int .i64 12,.int .i64 1,.int .i64 8,.string ⟨#[47]⟩,.int .i64 12,.int .i64 2,.int .i64 8,.string ⟨#[114,101,109]⟩,.int .i64 12,.int .i64 3,.int .i64 8,.string ⟨#[33]⟩,.int .i64 8,.int .i64 0,.int .i64 9,.string ⟨#[37]⟩,.int .i64 9,.int .i64 0,.int .i64 9,.string ⟨#[111,102]⟩,.int .i64 17,.int .i64 0,.int .i64 9] 154],#[],[]⟩
 { w0 with heap := (((((w0.heap.modify 4 fun
  | .cells _ t frozen => .cells #[.int .u8 0,.int .u8 1,.int .u8 28,.int .u8 2,.int .u8 29,.int .u8 14,.int .u8 24,.int .u8 3,.int .u8 30,.int .u8 22,.int .u8 20,.int .u8 15,.int .u8 25,.int .u8 17,.int .u8 4,.int .u8 8,.int .u8 31,.int .u8 27,.int .u8 13,.int .u8 23,.int .u8 21,.int .u8 19,.int .u8 16,.int .u8 7,.int .u8 26,.int .u8 12,.int .u8 18,.int .u8 6,.int .u8 11,.int .u8 5,.int .u8 10,.int .u8 9] t frozen
  | o => o).modify 5 fun
  | .cells _ t frozen => .cells #[.int .u8 0,.int .u8 1,.int .u8 56,.int .u8 2,.int .u8 57,.int .u8 49,.int .u8 28,.int .u8 3,.int .u8 61,.int .u8 58,.int .u8 42,.int .u8 50,.int .u8 38,.int .u8 29,.int .u8 17,.int .u8 4,.int .u8 62,.int .u8 47,.int .u8 59,.int .u8 36,.int .u8 45,.int .u8 43,.int .u8 51,.int .u8 22,.int .u8 53,.int .u8 39,.int .u8 33,.int .u8 30,.int .u8 24,.int .u8 18,.int .u8 12,.int .u8 5,.int .u8 63,.int .u8 55,.int .u8 48,.int .u8 27,.int .u8 60,.int .u8 41,.int .u8 37,.int .u8 16,.int .u8 46,.int .u8 35,.int .u8 44,.int .u8 21,.int .u8 52,.int .u8 32,.int .u8 23,.int .u8 11,.int .u8 54,.int .u8 26,.int .u8 40,.int .u8 15,.int .u8 34,.int .u8 20,.int .u8 31,.int .u8 10,.int .u8 25,.int .u8 14,.int .u8 19,.int .u8 9,.int .u8 13,.int .u8 8,.int .u8 7,.int .u8 6] t frozen
  | o => o).modify 3 fun
  | .cells _ t frozen => .cells #[.int .u64 1,.int .u64 10,.int .u64 100,.int .u64 1000,.int .u64 10000,.int .u64 100000,.int .u64 1000000,.int .u64 10000000,.int .u64 100000000,.int .u64 1000000000,.int .u64 10000000000,.int .u64 100000000000,.int .u64 1000000000000,.int .u64 10000000000000,.int .u64 100000000000000,.int .u64 1000000000000000,.int .u64 10000000000000000,.int .u64 100000000000000000,.int .u64 1000000000000000000,.int .u64 10000000000000000000] t frozen
  | o => o).modify 2 fun
  | .cells _ t frozen => .cells #[.iface 211 (.pointer (some ⟨low,0,none⟩))] t frozen
  | o => o).modify 1 fun
  | .cells _ t frozen => .cells #[.iface 211 (.pointer (some ⟨low + 1,0,none⟩))] t frozen
  | o => o).modify 0 fun
  | .cells _ t frozen => .cells #[.slice (some ⟨low + 2,0,none⟩) 20 20] t frozen
  | o => o }
theorem laidWorld_met (os : Os) (args : Array Value) : laidMetH prog laid6 ((laidWorld os).forCall (fun _ _ => 0) ⟨#[],args,[]⟩).memory :=
 show laidMet prog laid6 _ from laidMet_of_run' 8 (by kernel_rfl) (by kernel_rfl)
theorem own : ownKnob prog.godebug = none := by kernel_rfl
theorem laidOut : laidOutB prog = true := by kernel_rfl
section
variable {H : Type} {enc : TypeId × Value → H} {P : Program}
theorem trodAll_below (hl : laidOutB P = true) {W W' : World} (hb : Fr W W') : ∀ (ts : List TypeId) (vs : List Value) (ds : List (DataW H)) (p : List MemPlace),
 (∀ t ∈ ts,P.readableRec t = true ∧ t < P.types.size) → DataW.TrodAll enc P W 0 (fun _ => true) true ts vs ds p → (∀ x ∈ p,x.block < W.heap.size) →
 DataW.TrodAll enc P W' 0 (fun b => decide (b < W.heap.size)) true ts vs ds p := by
 intro ts
 induction ts with
 | nil =>
  intro vs ds p _ h _
  obtain ⟨rfl,rfl,rfl⟩ := trodAll_nil h
  exact trodAll_mk0
 | cons t ts ih =>
  intro vs ds p hr h hp
  obtain ⟨v,vs',d,ds',q,q',rfl,rfl,rfl,h1,h2⟩ := trodAll_cons h
  obtain ⟨r1,r2⟩ := hr t (by simp)
  exact trodAll_cons_mk (Below.trod hl r1 r2 h1 hb (fun x hx => hp x (by simp [hx]))) (ih _ _ _ (fun u hu => hr u (by simp [hu])) h2 (fun x hx => hp x (by simp [hx])))
theorem post_law (hl : laidOutB P = true) {f : Func} {s : ChangeSpec} {fresh handsOn : Bool} {W W' : World} {args : Array Value} {v : Value} {ds : List (DataW H)} {p : List MemPlace}
 (hts : ∀ t ∈ f.params.toList,P.readableRec t = true ∧ t < P.types.size) (hv0 : s.vars = [])
 (hW : DataW.Whole enc P f.params.toList s.vars false W args.toList ds [] p) (hA : DataW.TrodAll enc P W 0 (fun _ => true) true f.params.toList args.toList ds p) (hb : Fr W W')
 (hres : ∀ (b : Nat) (sp : Nat → Bool) (hd : Bool),DataW.TrodAll enc P W' b sp hd f.resultTypes.toList (v.resultList f.resultTypes.size) (s.fn H (ds ++ [])).results [])
 (hargs : (s.fn H (ds ++ [])).args = ds) (hvars : (s.fn H (ds ++ [])).vars = []) :
 s.post enc P f false fresh handsOn false W args v W' :=
 ⟨ds,[],p,[],p,[],hW,hres _ _ _,by rw [hargs]; exact trodAll_below hl hb _ _ _ _ hts hA (fun x hx => hW.lt x hx),by rw [hvars,hv0]; exact rfl,
  World.keptBut_mono (fun _ hp => ⟨hp,Or.inr (Or.inl hp)⟩) (Below.frame hb _),fun h => Bool.noConfusion h⟩
end
theorem cellsSect : prog.cellsOf 24 = 2 := by kernel_rfl
def Wok {H : Type} (t : TypeId) (d : DataW H) : Prop := ∀ n ∈ d.weights prog t,n ≤ reachBytes
theorem weights_mem_all {H : Type} {e : TypeId} : ∀ {ds : List (DataW H)} {d : DataW H},d ∈ ds → ∀ n ∈ d.weights prog e,n ∈ DataW.weightsAll prog e ds
 | x :: r,d,h,n,hn => by
  simp only [DataW.weightsAll,List.mem_append]
  cases List.mem_cons.1 h with
  | inl q => subst q; exact Or.inl hn
  | inr q => exact Or.inr (weights_mem_all q n hn)
theorem Wok.elem {H : Type} {elems spare : List (DataW H)} (h : Wok 22 (DataW.slice elems spare)) {d : DataW H} (hd : d ∈ elems) : Wok 32 d := fun n hn => h n (by
 simp only [DataW.weights,underlying22,List.mem_cons,List.mem_append]
 exact Or.inr (Or.inl (weights_mem_all hd n hn)))
theorem Wok.part {H : Type} {t : TypeId} {fs : Array Field} {ts : List TypeId} (hu : prog.underlying t = some (.struct fs)) (hts : fs.toList.map (·.type) = ts) {parts : List (DataW H)} (h : Wok t (DataW.agg parts)) {j : Nat} {e : TypeId} {d : DataW H} (he : ts[j]? = some e) (hd : parts[j]? = some d) : Wok e d := fun n hn => h n (by
 simp only [DataW.weights,hu,hts]
 exact DataW.weights_mem_each he hd n hn)
theorem Wok.str {H : Type} {t : TypeId} {s : ByteArray} (h : Wok t (DataW.lit (H := H) (.string s.data.toList))) : s.size ≤ 140737488351232 := by
 have h1 := h s.data.toList.length (by simp [DataW.weights])
 unfold reachBytes at h1
 have e : s.data.toList.length = s.size := by rw [Array.length_toList]; rfl
 omega
section
variable {H : Type} {enc : TypeId × Value → H} {W : World} {base b0 : Nat} {sp : Nat → Bool} {hd : Bool}
theorem open_cells_w {fuel : Nat} {cs : List Value} {x : DataW H × List MemPlace} (h : DataW.trod enc prog W base sp hd fuel 32 cs = some x) (hw : Wok 32 x.1) :
 ∃ (op n : Int) (s : ByteArray) (lv : Value) (a : Int) (m : Nat) (y : DataW H × List MemPlace),cs = [.int .i64 op,.int .i64 n,.string s,lv,.int .i64 a] ∧ m < fuel ∧ DataW.trod enc prog W base sp hd m 22 [lv] = some y ∧
  wf64 op ∧ wf64 n ∧ wf64 a ∧ s.size ≤ 140737488351232 ∧ Wok 22 y.1 := by
 obtain ⟨xs,n,rfl,rfl,hl,hlen,hf⟩ := DataW.trod_struct underlying32 h
 rw [cellsNode] at hl
 match xs,hlen,cs,hl with
 | [y0,y1,y2,y3,y4],_,[v0,v1,v2,v3,v4],_ =>
  have g0 := hf 0 _ rfl
  have g1 := hf 1 _ rfl
  have g2 := hf 2 _ rfl
  have g3 := hf 3 _ rfl
  have g4 := hf 4 _ rfl
  simp [ncellsInt,ncellsStr,cellsSl] at g0 g1 g2 g3 g4
  obtain ⟨z0,q0,r0,w0⟩ := DataW.trod_int underlying3 g0
  obtain ⟨z1,q1,r1,w1⟩ := DataW.trod_int underlying3 g1
  obtain ⟨s2,q2,r2,w2⟩ := DataW.trod_string underlying9 g2
  obtain ⟨z4,q4,r4,w4⟩ := DataW.trod_int underlying3 g4
  simp only [List.cons.injEq,and_true] at q0 q1 q2 q4
  subst q0 q1 q2 q4
  have k2 : Wok 9 y2.1 := hw.part underlying32 rfl (j := 2) rfl rfl
  rw [r2] at k2
  exact ⟨z0,z1,s2,v3,z4,n,y3,rfl,by omega,g3,wf64_of w0,wf64_of w1,wf64_of w4,k2.str,hw.part underlying32 rfl (j := 3) rfl rfl⟩
theorem open_nodes_w : ∀ (fuel : Nat) (cs : List Value) (x : DataW H × List MemPlace),DataW.trod enc prog W base sp hd fuel 22 cs = some x → Wok 22 x.1 →
 ∃ (v : Value) (l : List Nd),cs = [v] ∧ LN W v l := by
 intro fuel
 induction fuel using Nat.strongRecOn with
 | _ fuel ih =>
  intro cs x h hB
  rcases DataW.trod_slice underlying22 h with ⟨rfl,rfl⟩ | ⟨a,len,cap,elems,rest,n,rfl,rfl,rfl,hb,hl,hm,hlen,hel,_,_⟩
  ·exact ⟨_,[],rfl,LN.nil W⟩
  ·rw [cellsNode] at hel
   have hel' : ∀ i,i < len → ∃ q : Nd × Value,(W.cell? (a.add (i * 5)) = some (.int .i64 q.1.op) ∧ W.cell? ((a.add (i * 5)).add 1) = some (.int .i64 q.1.n) ∧ W.cell? ((a.add (i * 5)).add 2) = some (.string q.1.s) ∧ W.cell? ((a.add (i * 5)).add 3) = some q.2 ∧ W.cell? ((a.add (i * 5)).add 4) = some (.int .i64 q.1.a)) ∧ LN W q.2 q.1.l ∧ wfN q.1 := by
    intro i hi
    obtain ⟨e,he⟩ : ∃ e,elems[i]? = some e := ⟨_,List.getElem?_eq_getElem (by omega)⟩
    have h0 := hel i hi
    rw [he] at h0
    obtain ⟨cs',h1,h2⟩ := Option.bind_eq_some_iff.1 h0
    obtain ⟨_,hln,hcell⟩ := World.cells?_some h1
    have hed : Wok 32 e.1 := hB.elem (List.mem_map.2 ⟨e,List.mem_of_getElem? he,rfl⟩)
    obtain ⟨op,nn,s,lv,at_,m,y,rfl,hmn,hy,w0,w1,w4,hs,hbk⟩ := open_cells_w h2 hed
    obtain ⟨v,l,hv,hln⟩ := ih m (by omega) [lv] y hy hbk
    obtain rfl : lv = v := by simpa using hv
    have e0 := hcell 0 (by omega)
    have e1 := hcell 1 (by omega)
    have e2 := hcell 2 (by omega)
    have e3 := hcell 3 (by omega)
    have e4 := hcell 4 (by omega)
    exact ⟨(⟨op,nn,s,l,at_⟩,lv),⟨by simpa [Addr.add,Nd.op] using e0,by simpa [Nd.n] using e1,by simpa [Nd.s] using e2,by simpa using e3,by simpa [Nd.a] using e4⟩,hln,⟨w0,w1,w4,hs⟩⟩
   obtain ⟨q,hq⟩ := Deep.choose_lt hel'
   have hLl : ((List.range len).map fun i => (q i).1).length = len := by simp
   have hget : ∀ (i : Nat) (t : Nd),((List.range len).map fun i => (q i).1)[i]? = some t → i < len ∧ t = (q i).1 := fun i t ht => by
    rw [List.getElem?_map] at ht
    obtain ⟨j,hj,rfl⟩ := Option.map_eq_some_iff.1 ht
    obtain ⟨hjl,rfl⟩ := List.getElem?_eq_some_iff.1 hj
    rw [List.length_range] at hjl
    exact ⟨hjl,by rw [List.getElem_range]⟩
   refine ⟨_,(List.range len).map fun i => (q i).1,rfl,?_⟩
   have hmk := LN.mk (w := W) (some a) cap ((List.range len).map fun i => (q i).1) (fun i => (q i).2) (by rw [hLl]; exact hl) hm (fun h => by cases h) (fun hp => by
    rw [hLl] at hp
    obtain ⟨⟨h0,_⟩,_⟩ := hq 0 hp
    obtain ⟨b,off,spot⟩ := a
    cases spot with
    | some x =>
     simp only [Addr.add,Nat.zero_mul,if_true,World.cell?] at h0
     split at h0 <;> simp at h0
    | none =>
     refine ⟨b,off,rfl,fun i t ht => ?_⟩
     obtain ⟨hi,rfl⟩ := hget i t ht
     obtain ⟨⟨h0,h1,h2,h3,h4⟩,_⟩ := hq i hi
     rw [ap_add] at h0
     rw [ap_add,ap_add] at h1 h2 h3 h4
     exact ⟨h0,h1,h2,h3,h4⟩)
    (fun t ht => by
     obtain ⟨i,hi⟩ := List.getElem?_of_mem ht
     obtain ⟨hil,rfl⟩ := hget i t hi
     exact (hq i hil).2.2)
    (fun i t ht => by
     obtain ⟨hil,rfl⟩ := hget i t ht
     exact (hq i hil).2.1)
   rw [hLl] at hmk
   exact hmk
theorem open_sect {v : Value} {d : DataW H} {p : List MemPlace} (hval : Value.okWide prog W .any b0 24 v) (h : DataW.Trod enc prog W base sp hd 24 v d p) (hk : Wok 24 d) :
 ∃ (s : ByteArray) (sv : Value) (l : List Nd),v = .agg #[.string s,sv] ∧ LN W sv l ∧ s.size ≤ 140737488351232 := by
 obtain ⟨cs,rfl,hsz⟩ := okWide_struct underlying24 hval
 have hc : ∃ c0 c1,cs = #[c0,c1] := by
  obtain ⟨cl⟩ := cs
  have h2 : cl.length = 2 := hsz.trans cellsSect
  match cl,h2 with
  | [c0,c1],_ => exact ⟨c0,c1,rfl⟩
 obtain ⟨c0,c1,rfl⟩ := hc
 obtain ⟨fuel,hf⟩ := h
 obtain ⟨y0,y1,n,hx,_,g0,g1⟩ := trod_struct2 underlying24 hf
 simp [ncellsStr,cellsSl,Value.cells] at g0 g1
 obtain ⟨s2,q2,r2,w2⟩ := DataW.trod_string underlying9 g0
 simp only [List.cons.injEq,and_true] at q2
 subst q2
 simp only [Prod.mk.injEq] at hx
 obtain ⟨rfl,_⟩ := hx
 have k0 : Wok 9 y0.1 := hk.part underlying24 rfl (j := 0) rfl rfl
 have k1 : Wok 22 y1.1 := hk.part underlying24 rfl (j := 1) rfl rfl
 rw [r2] at k0
 obtain ⟨v1,l,hv,hln⟩ := open_nodes_w n [c1] y1 g1 k1
 obtain rfl : c1 = v1 := by simpa using hv
 exact ⟨s2,c1,l,rfl,hln,k0.str⟩
theorem open_node {v : Value} {d : DataW H} {p : List MemPlace} (hval : Value.okWide prog W .any b0 32 v) (h : DataW.Trod enc prog W base sp hd 32 v d p) (hk : Wok 32 d) :
 ∃ (t : Nd) (lt : Value),v = ndV t lt ∧ wfN t ∧ LN W lt t.l := by
 obtain ⟨cs,rfl,hsz⟩ := okWide_struct underlying32 hval
 obtain ⟨fuel,hf⟩ := h
 obtain ⟨op,n,s,lv,a,m,y,hcs,hmf,hy,w0,w1,w4,hs,hbk⟩ := open_cells_w hf hk
 obtain ⟨v1,l,hv,hln⟩ := open_nodes_w m [lv] y hy hbk
 obtain rfl : lv = v1 := by simpa using hv
 obtain ⟨cl⟩ := cs
 have hcl : cl = [.int .i64 op,.int .i64 n,.string s,lv,.int .i64 a] := by simpa [Value.cells] using hcs
 subst hcl
 exact ⟨⟨op,n,s,l,a⟩,lv,rfl,⟨w0,w1,w4,hs⟩,hln⟩
end
theorem cntL_ex : ∀ (l : List Nd) (n k : Nat),cntL l n k ≤ k → cntL l n k = n + ndsL l
 | [],n,k,h => by rw [cntL,ndsL]; omega
 | ⟨o,nn,s,l',a⟩ :: r,n,k,h => by
  rw [cntL] at h ⊢
  by_cases hn : n ≤ k
  ·rw [if_pos hn] at h ⊢
   have h1 := cntL_lo r (n + 1 + cntN ⟨o,nn,s,l',a⟩ (k - n)) k
   have h2 : cntN ⟨o,nn,s,l',a⟩ (k - n) = cntL l' 0 (k - n) := by rw [cntN]
   have h3 := cntL_ex l' 0 (k - n) (by omega)
   rw [cntL_ex r _ k h,h2,h3,ndsL,ndsN]
   omega
  ·rw [if_neg hn] at h
   omega
theorem txL_ex : ∀ (l : List Nd) (n k : Nat),txL l n k ≤ k → txL l n k + ndsL l = n + bulks l
 | [],n,k,h => by rw [txL,ndsL,bulks]
 | ⟨o,nn,s,l',a⟩ :: r,n,k,h => by
  rw [txL] at h ⊢
  by_cases hn : n ≤ k
  ·rw [if_pos hn] at h ⊢
   show txL r (if n + s.size ≤ k then n + s.size + txN ⟨o,nn,s,l',a⟩ (k - (n + s.size)) else n + s.size) k + _ = _
   have h' : txL r (if n + s.size ≤ k then n + s.size + txN ⟨o,nn,s,l',a⟩ (k - (n + s.size)) else n + s.size) k ≤ k := h
   by_cases hs : n + s.size ≤ k
   ·rw [if_pos hs] at h' ⊢
    have h1 := txL_lo r (n + s.size + txN ⟨o,nn,s,l',a⟩ (k - (n + s.size))) k
    have h2 : txN ⟨o,nn,s,l',a⟩ (k - (n + s.size)) = txC (txL l' 0 (k - (n + s.size))) (k - (n + s.size)) := by rw [txN]
    have h4 : txL l' 0 (k - (n + s.size)) ≤ k - (n + s.size) := by
     unfold txC at h2
     split at h2 <;> omega
    have h3 := txL_ex l' 0 (k - (n + s.size)) h4
    have h5 : txC (txL l' 0 (k - (n + s.size))) (k - (n + s.size)) = txL l' 0 (k - (n + s.size)) := by unfold txC; rw [if_neg (by omega)]
    have h6 := txL_ex r _ k h'
    rw [ndsL,ndsN,bulks,Nd.bulk]
    rw [h2,h5] at h6 ⊢
    omega
   ·rw [if_neg hs] at h'
    have h1 := txL_lo r (n + s.size) k
    omega
  ·rw [if_neg hn] at h
   omega
theorem hvL_small {l : List Nd} (h : hvL l 400 = false) : bulks l ≤ 2000000 := by
 unfold hvL at h
 simp only [Bool.or_eq_false_iff,decide_eq_false_iff_not] at h
 have h1 := cntL_ex l 0 400 (by omega)
 have h2 : txL l 0 20000 ≤ 20000 := by
  have h3 := h.2
  unfold txC at h3
  split at h3 <;> omega
 have h3 := txL_ex l 0 20000 h2
 omega
end Go.Proofs.YtbaelbafhdjlnaaGreatDoor
