/- A region in any order, by what each operation leaves. -/
import Derived.Test.YtdnckbcknahakaaGreatSE
import Derived.Orders
namespace Go.Proofs.YtdnckbcknahakaaGreat
open Go.RowKit
set_option linter.unusedVariables false
set_option linter.unusedSimpArgs false

section
variable {P : Program} {ops : Array Oper} {Q : Exit → Act → World → Prop} {md : Region.Mode}
def unl (n : Nat) (l : Array Bool) : List Nat := (List.range n).filter fun i => !l.getD i true
theorem unl_set {n : Nat} {l : Array Bool} {i : Nat} (h : i ∈ unl n l) : (unl n (l.setIfInBounds i true)).length < (unl n l).length := by
  have hs : unl n (l.setIfInBounds i true) = (unl n l).filter (fun j => j != i) := by
    unfold unl
    rw [List.filter_filter]
    apply List.filter_congr
    intro j hj
    by_cases hij : i = j
    · subst hij
      by_cases hlt : i < l.size
      · simp [hlt]
      · simp [hlt]
    · rw [getD_set_ne true hij]
      have : (j != i) = true := by simp [Ne.symm hij]
      simp [this]
  rw [hs]
  refine Nat.lt_of_le_of_ne (List.length_filter_le _ _) fun he => ?_
  have := (List.length_filter_eq_length_iff.1 he) i h
  simp at this
theorem wpAny_inv (Inv : Array Bool → Act → World → Prop) (hend : ∀ l a w, Inv l a w → Region.ready md ops l = [] → Q .normal a w)
    (hstep : ∀ l a w i, Inv l a w → i ∈ Region.ready md ops l → wpOp P ops Q i (Inv (l.setIfInBounds i true)) a w) :
    ∀ (fuel : Nat) (l : Array Bool) (a : Act) (w : World), (unl ops.size l).length ≤ fuel → Inv l a w → wpAny P md ops Q fuel l a w := by
  have hsub : ∀ {l : Array Bool} {i : Nat}, i ∈ Region.ready md ops l → i ∈ unl ops.size l := by
    intro l i h
    simp only [Region.ready, List.mem_filter, Bool.and_eq_true] at h
    exact List.mem_filter.2 ⟨h.1, h.2.1⟩
  intro fuel
  induction fuel with
  | zero =>
    intro l a w hf hI
    have h0 : Region.ready md ops l = [] := by
      cases hr : Region.ready md ops l with
      | nil => rfl
      | cons i rs =>
        have := hsub (show i ∈ Region.ready md ops l by rw [hr]; exact List.mem_cons_self ..)
        rw [List.eq_nil_of_length_eq_zero (Nat.le_zero.1 hf)] at this
        cases this
    exact ⟨h0, hend l a w hI h0⟩
  | succ fuel ih =>
    intro l a w hf hI
    refine ⟨fun h0 => hend l a w hI h0, fun i hi => wpOp_mono (fun a' w' h => ih _ a' w' ?_ h) (hstep l a w i hI hi)⟩
    have := unl_set (hsub hi)
    omega
/-- What is in no slot of the region is as it was. -/
structure Keep (slot : Nat → Nat) (n : Nat) (a0 a : Act) : Prop where
  size : a.tmps.size = a0.tmps.size
  defers : a.defers = a0.defers
  else_ : ∀ k, (∀ i, i < n → slot i ≠ k) → a.tmps[k]? = a0.tmps[k]?
theorem Keep.put {slot : Nat → Nat} {n : Nat} {a0 a : Act} (h : Keep slot n a0 a) {i : Nat} (hi : i < n) (v : Value) : Keep slot n a0 (a.put (some (slot i)) v) :=
  ⟨by simp [Act.put, h.size], h.defers, fun k hk => by
    simp only [Act.put]
    rw [Array.getElem?_setIfInBounds_ne (hk i hi)]
    exact h.else_ k hk⟩
theorem wpAny_vals (slot : Nat → Nat) (R : Nat → Value → World → Prop) (a0 : Act) (w0 : World) (hsize : ∀ i, i < ops.size → slot i < a0.tmps.size)
    (hinj : ∀ i j, i < ops.size → j < ops.size → slot i = slot j → i = j) (hR : ∀ i v w w', R i v w → Fr w w' → R i v w')
    (hbefore : ∀ i o, ops[i]? = some o → ∀ e ∈ o.after, Region.binds md e = true → e.on < i)
    (hstep : ∀ i, i < ops.size → ∀ a w, Keep slot ops.size a0 a → Fr w0 w → (∀ o, ops[i]? = some o → ∀ e ∈ o.after, Region.binds md e = true → ∃ v, a.tmps[slot e.on]? = some v ∧ R e.on v w) →
      wpOp P ops Q i (fun a' w' => ∃ v, a' = a.put (some (slot i)) v ∧ Fr w w' ∧ R i v w') a w)
    (hend : ∀ a w, Keep slot ops.size a0 a → Fr w0 w → (∀ i, i < ops.size → ∃ v, a.tmps[slot i]? = some v ∧ R i v w) → Q .normal a w) :
    wpAny P md ops Q ops.size (Array.replicate ops.size false) a0 w0 := by
  refine wpAny_inv (fun l a w => Keep slot ops.size a0 a ∧ Fr w0 w ∧ l.size = ops.size ∧ ∀ i, i < ops.size → l.getD i false = true → ∃ v, a.tmps[slot i]? = some v ∧ R i v w) ?_ ?_ _ _ _ _ ?_ ⟨⟨rfl, rfl, fun _ _ => rfl⟩, Fr.refl _, by simp, fun i hi h => by simp [hi] at h⟩
  · rintro l a w ⟨hk, hf, hl, hv⟩ h0
    refine hend a w hk hf fun i hi => hv i hi ?_
    clear hv
    induction i using Nat.strongRecOn with
    | ind i ih =>
      cases hli : l.getD i false with
      | true => rfl
      | false =>
        exfalso
        have : i ∈ Region.ready md ops l := by
          rw [mem_ready]
          refine ⟨?_, ops[i], by simp [hi], fun e he hb => ?_⟩
          · have h2 : i < l.size := by omega
            simp [h2] at hli ⊢
            exact hli
          · have hlt := hbefore i ops[i] (by simp [hi]) e he hb
            exact ih e.on hlt (by omega)
        rw [h0] at this
        cases this
  · rintro l a w i ⟨hk, hf, hl, hv⟩ hi
    obtain ⟨hun, o, ho, hall⟩ := mem_ready.1 hi
    have hi' : i < ops.size := (Array.getElem?_eq_some_iff.1 ho).1
    refine wpOp_mono ?_ (hstep i hi' a w hk hf fun o' ho' e he hb => ?_)
    · rintro a' w' ⟨v, rfl, hfr, hr⟩
      refine ⟨hk.put hi' v, hf.trans hfr, by simp [hl], fun j hj hlj => ?_⟩
      by_cases hij : i = j
      · subst hij
        exact ⟨v, by simp [Act.put, hk.size, hsize i hi'], hr⟩
      · rw [getD_set_ne false hij] at hlj
        obtain ⟨x, hx, hrx⟩ := hv j hj hlj
        refine ⟨x, ?_, hR j x w w' hrx hfr⟩
        simp only [Act.put]
        rw [Array.getElem?_setIfInBounds_ne (fun h => hij (hinj i j hi' hj h))]
        exact hx
    · rw [ho] at ho'
      obtain rfl := Option.some.inj ho'
      have := hall e he hb
      have hlt : e.on < i := hbefore i o ho e he hb
      exact hv e.on (by omega) this
  · unfold unl
    refine Nat.le_trans (List.length_filter_le _ _) (by simp)
theorem wpOp_of {slot : Nat → Nat} {R : Nat → Value → World → Prop} {i : Nat} {o : Oper} {a : Act} {w : World} (ho : ops[i]? = some o)
    (h : ∀ K : Act → World → Prop, (∀ a' w' v, a' = a.put (some (slot i)) v → Fr w w' → R i v w' → K a' w') → if Region.wanted o (yielded ops a.tmps) = true then Oper.wp P o a w K Q else K (a.put o.dst undef) w) :
    wpOp P ops Q i (fun a' w' => ∃ v, a' = a.put (some (slot i)) v ∧ Fr w w' ∧ R i v w') a w := by
  have h1 := h (fun a' w' => ∃ v, a' = a.put (some (slot i)) v ∧ Fr w w' ∧ R i v w') (fun a' w' v h1 h2 h3 => ⟨v, h1, h2, h3⟩)
  unfold wpOp
  simp only [ho]
  split
  · rename_i hw; simp only [hw, if_true] at h1; exact .inl h1
  · rename_i hw; simp only [hw] at h1; exact h1
theorem before_of (h : ((List.range ops.size).all fun i => match ops[i]? with | some o => o.after.all (fun e => decide (e.on < i)) | none => true) = true) :
    ∀ i o, ops[i]? = some o → ∀ e ∈ o.after, Region.binds md e = true → e.on < i := by
  intro i o ho e he _
  rw [List.all_eq_true] at h
  have h1 := h i (List.mem_range.2 (Array.getElem?_eq_some_iff.1 ho).1)
  rw [ho] at h1
  exact of_decide_eq_true (Array.all_eq_true_iff_forall_mem.1 h1 e he)
theorem cons_of {l : List Value} {n : Nat} (h : l.length = n + 1) : ∃ x t, l = x :: t ∧ t.length = n := by
  cases l with
  | nil => cases h
  | cons x t => exact ⟨x, t, rfl, by simpa using h⟩
end
end Go.Proofs.YtdnckbcknahakaaGreat
