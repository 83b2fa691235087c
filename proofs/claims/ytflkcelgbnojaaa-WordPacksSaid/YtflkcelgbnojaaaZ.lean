/- The last step from a walk to a row, where of the world it is known that what was there is as it was. -/
import Derived.Test.YtflkcelgbnojaaaY
import Derived.ProofKit
import Derived.OpenShut
namespace Go.Proofs.Ytflkcelgbnojaaa
open Go.ChangeShapes Go.WideShapes Go.ChangeAt Go.RowKit

theorem own : ownKnob Try.prog.godebug = none := by kernel_rfl

section
variable {H : Type} {enc : TypeId × Value → H} {P : Program}
/-- A law's answer, behind a call that has left all that was there as it was. -/
theorem post_fr {f : Func} {s : ChangeSpec} {apart fresh handsOn : Bool} {W W' : World} {args : Array Value} {v : Value} {ds gs : List (DataW H)} {pa pv : List MemPlace}
    (hW : DataW.Whole enc P f.params.toList s.vars apart W args.toList ds gs (pa ++ pv)) (hb : Fr W W')
    (hres : ∀ (b : Nat) (sp : Nat → Bool) (hd : Bool), DataW.TrodAll enc P W' b sp hd f.resultTypes.toList (v.resultList f.resultTypes.size) (s.fn H (ds ++ gs)).results [])
    (hargs : ∀ sp : Nat → Bool, (∀ p ∈ pa ++ pv, sp p.block = true) → DataW.TrodAll enc P W' 0 sp true f.params.toList args.toList (s.fn H (ds ++ gs)).args pa)
    (hvars : ∀ sp : Nat → Bool, (∀ p ∈ pa ++ pv, sp p.block = true) → DataW.TrodVars enc P W' sp s.vars (s.fn H (ds ++ gs)).vars pv) :
    s.post enc P f apart fresh handsOn false W args v W' :=
  have held : ∀ p ∈ pa ++ pv, decide (p.block < W.heap.size) = true := fun p hp => decide_eq_true (hW.lt p hp)
  ⟨ds, gs, pa ++ pv, [], pa, pv, hW, hres _ _ _, hargs _ held, hvars _ held,
    World.keptBut_mono (fun _ hp => ⟨hp, Or.inr (List.mem_append.1 hp)⟩) (Below.frame hb _), fun h => Bool.noConfusion h⟩
end
end Go.Proofs.Ytflkcelgbnojaaa
