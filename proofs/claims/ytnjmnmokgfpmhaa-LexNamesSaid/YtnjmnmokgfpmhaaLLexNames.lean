/- Which texts are names, and the lists of keys and signs, are as the document's own answers give them: for every text, with no condition. -/
import Derived.Test.YtnjmnmokgfpmhaaE
import Derived.ProofKit
import Derived.OpenShut
import Derived.Carry
import Derived.ChangeMaps5
namespace Go.Proofs.Ytnjmnmokgfpmhaa.lexNames
open Go.ChangeShapes Go.WideShapes Go.ChangeAt Go.RowKit
set_option linter.unusedVariables false

theorem own : ownKnob Try.prog.godebug = none := by kernel_rfl
theorem laidOut : laidOutB Try.prog = true := by kernel_rfl
section
variable {H : Type} {enc : TypeId × Value → H} {P : Program}
theorem trodAll_below (hl : laidOutB P = true) {W W' : World} (hb : Fr W W') : ∀ (ts : List TypeId) (vs : List Value) (ds : List (DataW H)) (p : List MemPlace),
    (∀ t ∈ ts, P.readableRec t = true ∧ t < P.types.size) → DataW.TrodAll enc P W 0 (fun _ => true) true ts vs ds p → (∀ x ∈ p, x.block < W.heap.size) →
    DataW.TrodAll enc P W' 0 (fun b => decide (b < W.heap.size)) true ts vs ds p := by
  intro ts
  induction ts with
  | nil =>
    intro vs ds p _ h _
    obtain ⟨rfl, rfl, rfl⟩ := trodAll_nil h
    exact trodAll_mk0
  | cons t ts ih =>
    intro vs ds p hr h hp
    obtain ⟨v, vs', d, ds', q, q', rfl, rfl, rfl, h1, h2⟩ := trodAll_cons h
    obtain ⟨r1, r2⟩ := hr t (by simp)
    exact trodAll_cons_mk (Below.trod hl r1 r2 h1 hb (fun x hx => hp x (by simp [hx]))) (ih _ _ _ (fun u hu => hr u (by simp [hu])) h2 (fun x hx => hp x (by simp [hx])))
/-- A law's answer, whatever its arguments, behind a call that has left all that was there as it was. -/
theorem post_law (hl : laidOutB P = true) {f : Func} {s : ChangeSpec} {fresh handsOn : Bool} {W W' : World} {args : Array Value} {v : Value} {ds : List (DataW H)} {p : List MemPlace}
    (hts : ∀ t ∈ f.params.toList, P.readableRec t = true ∧ t < P.types.size) (hv0 : s.vars = [])
    (hW : DataW.Whole enc P f.params.toList s.vars false W args.toList ds [] p) (hA : DataW.TrodAll enc P W 0 (fun _ => true) true f.params.toList args.toList ds p) (hb : Fr W W')
    (hres : ∀ (b : Nat) (sp : Nat → Bool) (hd : Bool), DataW.TrodAll enc P W' b sp hd f.resultTypes.toList (v.resultList f.resultTypes.size) (s.fn H (ds ++ [])).results [])
    (hargs : (s.fn H (ds ++ [])).args = ds) (hvars : (s.fn H (ds ++ [])).vars = []) :
    s.post enc P f false fresh handsOn false W args v W' :=
  ⟨ds, [], p, [], p, [], hW, hres _ _ _, by rw [hargs]; exact trodAll_below hl hb _ _ _ _ hts hA (fun x hx => hW.lt x hx), by rw [hvars, hv0]; exact rfl,
    World.keptBut_mono (fun _ hp => ⟨hp, Or.inr (Or.inl hp)⟩) (Below.frame hb _), fun h => Bool.noConfusion h⟩
end

set_option maxHeartbeats 1000000 in
theorem walk (s : ByteArray) (W : World) :
    Calls Try.prog 3 #[.string s] W fun e w' => e = .returned (.bool true) ∧ Fr W w' := by
  obtain ⟨r, hr⟩ : ∃ r, r = isNm s := ⟨_, rfl⟩
  have HN := Lib.hid hr
  clear hr
  cases r
  all_goals
    go_enter Try.func3, Try.ntmps3
    go_wp2_with fail
    refine (Keys_any _).mono ?_
    rintro e w1 ⟨g1, rfl, hr1, hf1⟩
    have H1 := Lib.hid hr1
    clear hr1
    go_wp2_with fail
    refine (RKeys_any _).mono ?_
    rintro e w2 ⟨g2, rfl, hr2, hf2⟩
    have H2 := Lib.hid hr2
    clear hr2
    go_wp2_with fail
    refine (eqStrings_same _ g1 g2 43 43 43 (by omega) keyB (fun i hi => by rw [Nat.zero_add]; exact (hf2.row H1.out).cell hi) (fun i hi => by rw [Nat.zero_add]; exact H2.out.cell hi)).mono ?_
    rintro e w3 ⟨rfl, hf3⟩
    go_wp2_with fail
    refine (Signs_any _).mono ?_
    rintro e w4 ⟨g4, rfl, hr4, hf4⟩
    have H4 := Lib.hid hr4
    clear hr4
    go_wp2_with fail
    refine (RSigns_any _).mono ?_
    rintro e w5 ⟨g5, rfl, hr5, hf5⟩
    have H5 := Lib.hid hr5
    clear hr5
    go_wp2_with fail
    refine (eqStrings_same _ g4 g5 28 28 28 (by omega) sgnB (fun i hi => by rw [Nat.zero_add]; exact (hf5.row H4.out).cell hi) (fun i hi => by rw [Nat.zero_add]; exact H5.out.cell hi)).mono ?_
    rintro e w6 ⟨rfl, hf6⟩
    go_wp2_with fail
    refine (IsName_any _ _).mono ?_
    rintro e w7 ⟨rfl, hf7⟩
    rw [← HN.out]
    go_wp2_with fail
    refine (RIsName_any _ _).mono ?_
    rintro e w8 ⟨rfl, hf8⟩
    rw [← HN.out]
    go_wp2_with fail
    go_ret
    exact ⟨rfl, ((((((hf1.trans hf2).trans hf3).trans hf4).trans hf5).trans hf6).trans hf7).trans hf8⟩
theorem open_str {H : Type} {enc : TypeId × Value → H} {W : World} {base : Nat} {v : Value} {d : DataW H} {p : List MemPlace} (hval : Value.okWide Try.prog W .any base 9 v) (h : DataW.Trod enc Try.prog W 0 (fun _ => true) true 9 v d p) :
    ∃ s : ByteArray, v = .string s := by
  obtain ⟨s, rfl, _⟩ := Go.ChangeMaps.open_string Try.underlying9 hval h
  exact ⟨s, rfl⟩
set_option maxRecDepth 100000 in
theorem lifted (os : Os) (started : os.Started) (H : Type) (enc : TypeId × Value → H) :
    ReturnsInHanded {} Try.checked os 3 .any (Rows.lexNamesSpec.pre6 enc Try.prog Try.f3 Rows.lexNamesRow.domain false) (Rows.lexNamesSpec.post enc Try.prog Try.f3 false true false false) := by
  refine returnsInHanded_of_change (C := Try.checked) own started (by kernel_rfl) Try.func3
    (ChangeSpec.witness6 (enc := enc) (C := Try.checked) false ⟨#[], #[.string ⟨#[]⟩], []⟩ 8 (by kernel_rfl) (by kernel_rfl) (by kernel_rfl) (by kernel_rfl)) ?_
  intro W base args ds gs before hval0 hW hcnd _
  have hval : ∀ (j : Nat) t v, Try.f3.params[j]? = some t → args[j]? = some v → Value.okWide Try.prog W .any base t v := hval0
  have hW' := hW
  obtain ⟨p, q, hA0, hV, rfl, hfz, hnd⟩ := hW
  obtain ⟨rfl, rfl⟩ := trodVars_none hV
  simp only [List.append_nil] at hW'
  have hA : DataW.TrodAll enc Try.prog W 0 (fun _ => true) true Try.f3.params.toList args.toList ds p := hA0
  have hA1 := hA
  rw [Try.params3] at hA hval
  obtain ⟨v0, vs0, d0, ds0, p0, q0, hargs, rfl, rfl, h0, r0⟩ := trodAll_cons hA
  obtain ⟨rfl, rfl, rfl⟩ := trodAll_nil r0
  obtain rfl : args = #[v0] := by cases args; simp_all
  obtain ⟨s, rfl⟩ := open_str (hval 0 9 v0 rfl rfl) h0
  clear hA0 hval0
  refine (walk s W).mono fun e W' ⟨he, hg⟩ => ?_
  subst he
  exact ⟨_, rfl, post_law laidOut (by rw [Try.params3]; intro t ht; simp only [List.mem_cons, List.not_mem_nil, or_false] at ht; rcases ht with rfl; exact ⟨by kernel_rfl, of_decide_eq_true (by kernel_rfl)⟩) rfl hW' hA1 hg (fun _ _ _ => (trodAll_cons_mk (shut_bool Try.underlying4 _) trodAll_mk0)) rfl rfl⟩

theorem proved : Rows.LexNamesSaid :=
  OpenClaim.holds_of_wide 3 Try.f3 rfl rfl rfl rfl rfl rfl rfl ⟨rfl, rfl, rfl, rfl, rfl⟩ rfl rfl rfl rfl rfl (by kernel_rfl) Try.func3 (by kernel_rfl)
    (of_decide_eq_true (by kernel_rfl)) (by unfold Func.isWrapper; first | (rw [if_pos (by decide +kernel)]; kernel_rfl) | (rw [if_neg (by decide +kernel)]; exact ⟨rfl, rfl⟩))
    (fun os started H enc _ => lifted os started H enc)
#print axioms proved
end Go.Proofs.Ytnjmnmokgfpmhaa.lexNames
