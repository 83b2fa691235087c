/- New of the small code. -/
import Derived.Test.YtdnckbcknahakaaGreatSW
import Derived.Test.YtdnckbcknahakaaGreatSX
import Derived.Test.YtdnckbcknahakaaGreatSO
namespace Go.Proofs.YtdnckbcknahakaaGreat
open Go.RowKit
set_option linter.unusedVariables false
set_option linter.unusedSimpArgs false

theorem run_alloc_of {P : Program} (W : World) (t : TypeId) (z : Value) (h : (P.info? t).bind (·.zero) = some z) : (Instr.alloc t true (.tuple #[])).run P W = .ok (.pointer (some ⟨W.heap.size, 0, none⟩)) (W.alloc (.cells z.cells t)) := by
  cases hi : P.info? t with
  | none => rw [hi] at h; cases h
  | some i =>
    rw [hi] at h
    have hz : i.zero = some z := h
    simp [Instr.alloc, typeInfo, zeroValue, hi, hz, newVar, newRow]
set_option maxRecDepth 100000000 in
theorem mem_zero : Tryz.zeroCells88 = Array.replicate 32000 (.int .i64 0) := by kernel_rfl
theorem mem_arr (W : World) : Arr (W.alloc (.cells Tryz.zeroCells88 88)) W.heap.size 88 32000 (fun _ => .int .i64 0) :=
  ⟨_, Blk.new _ _ _, by rw [mem_zero]; exact Array.size_replicate, fun i hi => by rw [mem_zero, Array.getElem?_replicate, if_pos hi]⟩
theorem Blk.apart {w : World} {b b' : Nat} {T T' : TypeId} {c : Array Value} {n : Nat} {f : Nat → Value} (h : Blk w b T c) (h' : Arr w b' T' n f) (hT : T ≠ T') : b ≠ b' := by
  obtain ⟨C, h1, _⟩ := h'
  exact h.inj h1 hT
/-- What New hands back. -/
structure NwP (w w' : World) (nb : Nat) (L : Lay) (f fc : Nat → Value) : Prop where
  np : w'.cell? ⟨nb, 0, none⟩ = some (.pointer (some ⟨L.b, 0, none⟩))
  ok : LayOk L
  st : Sta w' L
  d : RunQ L w'.heap.size f fc w' 0
  f1 : f 1 = .int .i64 ((32000 + 1 : Nat) : Int)
  f3 : f 3 = .int .i64 32503
  kd : ∀ i, Kd L i → i < w'.heap.size
  lo : ∀ i, Kd L i → w.heap.size ≤ i
  nk : ¬ Kd L nb
  fr : Fr w w'
set_option maxRecDepth 100000 in
set_option maxHeartbeats 40000000 in
theorem New_8 (ib gb : Nat) (w : World) (h : C8 w ib gb) : Calls Tryz.prog 16 #[cv8 ib gb, (.agg #[.int .i64 16, .bool false]), .string ⟨#[]⟩] w fun e w' => ∃ nb L f fc, e = .returned (.tuple #[.pointer (some ⟨nb, 0, none⟩), .int .i64 0]) ∧ NwP w w' nb L f fc := by
  have HC := Lib.hid h
  have CP := Lib.hid (fun W (x : Fr w W) => newP_any ib gb W (h.fr x))
  clear h
  unfold cv8 at CP ⊢
  go_enter Tryz.func16, Tryz.ntmps16
  go_wp2_with (first
    | (go_at_call 29; refine (CP.out _ (((Fr.refl w).alloc _).alloc _)).mono ?_; rintro e wa ⟨ab, pb, op, oc, pa, eb, qb, rc, fq, rfl, hfa, hp, ho, he, hq, hrc, hfq, l1, l2, l3, l4⟩; have HFA : Hid (Fr w wa) := Lib.hid ((((Fr.refl w).alloc _).alloc _).trans hfa); have HAC : Hid (Blk wa w.heap.size 43 #[.string ⟨#[]⟩, .slice none 0 0, .slice (some ⟨ib, 0, none⟩) 7 7, .slice (some ⟨gb, 0, none⟩) 1 1, .int .i64 1, .int .i64 0]) := Lib.hid (Blk.fr (Blk.fr (Blk.new w _ _) ((Fr.refl _).alloc _)) hfa); have HP := Lib.hid hp; have HO := Lib.hid ho; have HE := Lib.hid he; have HQ := Lib.hid hq; have HRC := Lib.hid (And.intro hrc hfq); have HLO := Lib.hid (And.intro l1 (And.intro l2 (And.intro l3 l4))); clear hfa hp ho he hq hrc hfq l1 l2 l3 l4; have c0 : (wa.alloc (.cells Tryz.zeroCells88 88)).cell? ⟨w.heap.size, 0, none⟩ = some (.string ⟨#[]⟩) := (HAC.out.fr ((Fr.refl wa).alloc _)).cell rfl; have c1 : (wa.alloc (.cells Tryz.zeroCells88 88)).cell? ⟨w.heap.size, 1, none⟩ = some (.slice none 0 0) := (HAC.out.fr ((Fr.refl wa).alloc _)).cell rfl; have c2 : (wa.alloc (.cells Tryz.zeroCells88 88)).cell? ⟨w.heap.size, 2, none⟩ = some (.slice (some ⟨ib, 0, none⟩) 7 7) := (HAC.out.fr ((Fr.refl wa).alloc _)).cell rfl; have c3 : (wa.alloc (.cells Tryz.zeroCells88 88)).cell? ⟨w.heap.size, 3, none⟩ = some (.slice (some ⟨gb, 0, none⟩) 1 1) := (HAC.out.fr ((Fr.refl wa).alloc _)).cell rfl; have c4 : (wa.alloc (.cells Tryz.zeroCells88 88)).cell? ⟨w.heap.size, 4, none⟩ = some (.int .i64 1) := (HAC.out.fr ((Fr.refl wa).alloc _)).cell rfl; have c5 : (wa.alloc (.cells Tryz.zeroCells88 88)).cell? ⟨w.heap.size, 5, none⟩ = some (.int .i64 0) := (HAC.out.fr ((Fr.refl wa).alloc _)).cell rfl; skip)
    | fail)
  have hw0 : Fr w (wa.alloc (.cells Tryz.zeroCells88 88)) := HFA.out.alloc _
  have hsz : w.heap.size ≤ wa.heap.size := HFA.out.size
  have HSZ := Lib.hid hsz
  refine (fill_any wa.heap.size ib gb _ (wa.alloc (.cells Tryz.zeroCells88 88)) (HC.out.fr hw0) ⟨_, mem_arr wa⟩ (by have := HC.out.o.lt; omega) (by have := HC.out.g.lt; omega)).mono ?_
  rintro e wb ⟨rfl, hfi⟩
  have HFI := Lib.hid hfi
  have HMS : Hid (wa.heap.size < wb.heap.size) := Lib.hid (by obtain ⟨f, hf, _⟩ := hfi.f; exact hf.lt)
  have HFB : Hid (Fr w wb) := Lib.hid (hfi.x.below hw0 (fun k e => by have e : k = wa.heap.size := e; omega))
  have hxx := hfi.x
  have hfr : Fr wa (wa.alloc (.cells Tryz.zeroCells88 88)) := (Fr.refl wa).alloc _
  have HPL : Hid (pb < wa.heap.size ∧ qb < wa.heap.size ∧ eb < wa.heap.size ∧ op < wa.heap.size) := Lib.hid ⟨HP.out.lt, HQ.out.lt, HE.out.lt, HO.out.lt⟩
  have hnm : ∀ k, k < wa.heap.size → ¬ (fun k => k = wa.heap.size) k := fun k h e => by have e : k = wa.heap.size := e; omega
  have HP2 : Hid (Blk wb pb 92 (pgC ab op oc pa eb qb rc)) := Lib.hid ((HP.out.fr hfr).ex hxx (hnm _ HPL.out.1))
  have HQ2 := Lib.hid ((HQ.out.fr hfr).ex hxx (hnm _ HPL.out.2.1))
  have HE2 := Lib.hid ((HE.out.fr hfr).ex hxx (hnm _ HPL.out.2.2.1))
  have HO2 := Lib.hid ((HO.out.fr hfr).ex hxx (hnm _ HPL.out.2.2.2))
  clear hw0 hsz hfi hxx hfr hnm c0 c1 c2 c3 c4 c5
  go_wp2_with fail
  refine (newM_any pb wa.heap.size op oc eb _ _ _ wb HP2.out).mono ?_
  rintro e wc ⟨b, g2, rb, mp, bg, cb, rfl, hN⟩
  have HN := Lib.hid hN
  clear hN
  go_wp2_with fail
  go_ret2
  obtain ⟨f, hf, hf3, hf1⟩ := HFI.out.f
  have N := HN.out
  have h1 := HPL.out
  have h2 := HMS.out
  have h3 := HSZ.out
  have kz : Fr wb (wc.alloc (.cells #[.pointer (some ⟨b, 0, none⟩)] 77)) := N.fr.alloc _
  have kc : Fr wc (wc.alloc (.cells #[.pointer (some ⟨b, 0, none⟩)] 77)) := (Fr.refl _).alloc _
  have l1 := N.lo
  have l2 : b < wc.heap.size := Blk.lt N.m
  have l3 := N.mg.lt
  have l4 := N.mc.lt
  have l5 := N.fr.size
  have l6 : wc.heap.size ≤ (wc.alloc (.cells #[.pointer (some ⟨b, 0, none⟩)] 77)).heap.size := kc.size
  have l7 := N.ne
  refine ⟨wc.heap.size, ⟨pb, qb, eb, op, oc, rb, g2, b, wa.heap.size, cb, bg, rc, fq, _, _, _⟩, f, fun _ => .bool false, rfl, (Blk.new _ _ _).cell rfl, ⟨?_, ?_, ?_, ?_, ?_, ?_, ?_, ?_, ?_, ?_, ?_, ?_, HRC.out.1, HRC.out.2⟩, ⟨HP2.out.fr kz, HQ2.out.fr kz, HE2.out.fr kz, HO2.out.fr kz, N.r.fr kc, N.g.fr kc⟩, ⟨Blk.fr N.m kc, hf.fr kz, N.mc.fr kc, N.mg.fr kc⟩, hf1 (by omega), hf3 (by omega), ?_, ?_, ?_, HFB.out.trans kz⟩
  all_goals (try unfold Kd)
  all_goals (try dsimp only)
  all_goals (try omega)
end Go.Proofs.YtdnckbcknahakaaGreat
