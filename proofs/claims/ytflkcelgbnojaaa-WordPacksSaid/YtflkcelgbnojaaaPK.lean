/- Packing, bytes and words, by both, for every input, errors included. -/
import Derived.Test.YtflkcelgbnojaaaRP
import Derived.Test.YtflkcelgbnojaaaEB
namespace Go.Proofs.Ytflkcelgbnojaaa
open Go.RowKit
set_option linter.unusedVariables false

def szN (n : Int) : Nat := (szI n).toNat
theorem szN_eq {n : Int} (hn : OkB n) : ((szN n : Nat) : Int) = szI n := Int.toNat_of_nonneg (by have := szI_bd hn; omega)
/-- What is wrong with a string that should be packed; how many words, and which. -/
def pkE (k : Nat) (n : Int) : Int := if okB n then (if 255 < k then 2 else 0) else 3
def pkL (k : Nat) (n : Int) : Nat := if pkE k n = 0 then (k + szN n) / szN n else 0
def pkF (t : ByteArray) (n : Int) (big : Bool) (j : Nat) : Int := nrm (wv (pβ t) n big ((t.size + szN n) / szN n * szN n) j) n
theorem pkL_le {k : Nat} {n : Int} : pkL k n ≤ 1000 := by
  unfold pkL pkE
  by_cases h : okB n = true
  · have hs := szI_bd (okB_yes h)
    have := szN_eq (okB_yes h)
    by_cases h2 : 255 < k
    · rw [if_pos h, if_pos h2, if_neg (by decide)]; omega
    · rw [if_pos h, if_neg h2, if_pos rfl]
      refine Nat.le_trans (Nat.div_le_self _ _) (by omega)
  · rw [if_neg h, if_neg (by decide)]; omega
theorem Pack_all (t : ByteArray) (ht : t.size ≤ 1000000) (n : Int) (big : Bool) (w : World) :
    Calls Try.prog 31 #[.string t, .agg #[.int .i64 n, .bool big]] w fun e w' => ∃ v : Value, e = .returned (.tuple #[v, .int .i64 (pkE t.size n)]) ∧ SlV w' v (pkL t.size n) (fun j => .int .i64 (pkF t n big j)) ∧ Fr w w' := by
  unfold pkL pkE
  rcases Bool.eq_false_or_eq_true (okB n) with h | h
  · have H := Lib.hid (okB_yes h)
    rw [if_pos h]
    by_cases h2 : 255 < t.size
    · rw [if_pos h2, if_neg (by decide)]
      have HOK := Lib.hid h
      have hd : decide ((255 : Int) < t.size) = true := decide_eq_true (by omega)
      clear h
      go_enter Try.func31, Try.ntmps31
      go_wp2_with fail
      refine (Valid_any _ _ _).mono ?_; rintro e w1 ⟨rfl, hf⟩
      rw [HOK.out]
      go_wp2_with fail
      go_ret2
      exact ⟨_, rfl, SlV.nil _ _, ((Fr.refl w).alloc _).trans hf⟩
    · rw [if_neg h2, if_pos rfl]
      exact (Pack_any H.out (szN_eq H.out) big t (by omega) w).mono fun e w' ⟨g, m, hm, he, _, hr, hf⟩ => ⟨_, he, by subst hm; exact SlV.row hr, hf⟩
  · rw [h, if_neg (by decide), if_neg (by decide)]
    have HOK := Lib.hid h
    clear h
    go_enter Try.func31, Try.ntmps31
    go_wp2_with fail
    refine (Valid_any _ _ _).mono ?_; rintro e w1 ⟨rfl, hf⟩
    rw [HOK.out]
    go_wp2_with fail
    go_ret2
    exact ⟨_, rfl, SlV.nil _ _, ((Fr.refl w).alloc _).trans hf⟩
theorem RPack_all (t : ByteArray) (ht : t.size ≤ 1000000) (n : Int) (big : Bool) (w : World) :
    Calls Try.prog 32 #[.string t, .agg #[.int .i64 n, .bool big]] w fun e w' => ∃ v : Value, e = .returned (.tuple #[v, .int .i64 (pkE t.size n)]) ∧ SlV w' v (pkL t.size n) (fun j => .int .i64 (pkF t n big j)) ∧ Fr w w' := by
  unfold pkL pkE
  rcases Bool.eq_false_or_eq_true (okB n) with h | h
  · have H := Lib.hid (okB_yes h)
    rw [if_pos h]
    by_cases h2 : 255 < t.size
    · rw [if_pos h2, if_neg (by decide)]
      have HOK := Lib.hid h
      have hd : decide ((255 : Int) < t.size) = true := decide_eq_true (by omega)
      clear h
      go_enter Try.func32, Try.ntmps32
      go_wp2_with fail
      refine (rValid_any _ _ _).mono ?_; rintro e w1 ⟨rfl, hf⟩
      rw [HOK.out]
      go_wp2_with fail
      go_ret2
      exact ⟨_, rfl, SlV.nil _ _, ((Fr.refl w).alloc _).trans hf⟩
    · rw [if_neg h2, if_pos rfl]
      exact RPack_at H.out (szN n) (szN_eq H.out) big t (by omega) _ rfl w
  · rw [h, if_neg (by decide), if_neg (by decide)]
    have HOK := Lib.hid h
    clear h
    go_enter Try.func32, Try.ntmps32
    go_wp2_with fail
    refine (rValid_any _ _ _).mono ?_; rintro e w1 ⟨rfl, hf⟩
    rw [HOK.out]
    go_wp2_with fail
    go_ret2
    exact ⟨_, rfl, SlV.nil _ _, ((Fr.refl w).alloc _).trans hf⟩
def byE (n : Int) : Int := if okB n then 0 else 3
def byL (L : Nat) (n : Int) : Nat := if okB n then L * szN n else 0
theorem Bytes_all {v : Value} {L : Nat} (f : Nat → Int) (n : Int) (big : Bool) (w : World) (hL : L ≤ 1000) (hv : SlV w v L (fun i => .int .i64 (f i))) :
    Calls Try.prog 35 #[v, .agg #[.int .i64 n, .bool big]] w fun e w' => ∃ v' : Value, e = .returned (.tuple #[v', .int .i64 (byE n)]) ∧ SlV w' v' (byL L n) (fun j => .int .u8 (bf f n big j)) ∧ Fr w w' := by
  unfold byL byE
  rcases Bool.eq_false_or_eq_true (okB n) with h | h
  · rw [if_pos h, if_pos h]
    obtain ⟨a, cap, rfl, hr⟩ := hv
    have hn := okB_yes h
    exact (Bytes_at hn big a L cap (L * szN n) f w (by rw [← szN_eq hn, Int.natCast_mul]) (by omega) hr).mono fun e w' ⟨g, he, _, hr, hf⟩ => ⟨_, he, SlV.row hr, hf⟩
  · rw [h, if_neg (by decide), if_neg (by decide)]
    exact (Bytes_no v n big h w).mono fun e w' ⟨he, hf⟩ => ⟨_, he, SlV.nil _ _, hf⟩
theorem RBytes_all {v : Value} {L : Nat} (f : Nat → Int) (n : Int) (big : Bool) (w : World) (hL : L ≤ 1000) (hv : SlV w v L (fun i => .int .i64 (f i))) :
    Calls Try.prog 36 #[v, .agg #[.int .i64 n, .bool big]] w fun e w' => ∃ v' : Value, e = .returned (.tuple #[v', .int .i64 (byE n)]) ∧ SlV w' v' (byL L n) (fun j => .int .u8 (bf f n big j)) ∧ Fr w w' := by
  unfold byL byE
  rcases Bool.eq_false_or_eq_true (okB n) with h | h
  · rw [if_pos h, if_pos h]
    obtain ⟨a, cap, rfl, hr⟩ := hv
    have hn := okB_yes h
    rw [Nat.mul_comm]
    exact RBytes_at hn (szN n) (szN_eq hn) big a L cap f w hL ⟨a, cap, rfl, hr⟩
  · rw [h, if_neg (by decide), if_neg (by decide)]
    have HOK := Lib.hid h
    clear h
    go_enter Try.func36, Try.ntmps36
    go_wp2_with fail
    refine (rValid_any _ _ _).mono ?_; rintro e w1 ⟨rfl, hf⟩
    rw [HOK.out]
    go_wp2_with fail
    go_ret2
    exact ⟨_, rfl, SlV.nil _ _, ((Fr.refl w).alloc _).trans hf⟩
theorem RWords_all {v : Value} {L : Nat} (β : Nat → Nat) (n : Int) (big : Bool) (w : World) (hL : L ≤ 1000000) (hβ : ∀ i, β i < 256) (hv : SlV w v L (fun i => .int .u8 (β i))) :
    Calls Try.prog 39 #[v, .agg #[.int .i64 n, .bool big]] w fun e w' =>
      ∃ (v' : Value) (m : Nat), e = .returned (.tuple #[v', .int .i64 (wdE L n)]) ∧ (m : Int) = (if wdE L n = 0 then (L : Int) / szI n else 0) ∧ SlV w' v' m (fun j => .int .i64 (nrm (wv β n big L j) n)) ∧ Fr w w' := by
  have HV := Lib.hid hv
  obtain ⟨a, cap, rfl, _⟩ := hv
  rcases Bool.eq_false_or_eq_true (okB n) with h | h
  · have hn := okB_yes h
    have H := Lib.hid hn
    have hs := szN_eq hn
    have hb := szI_bd hn
    by_cases hm : (L : Int) % szI n = 0
    · have he : wdE L n = 0 := by unfold wdE; rw [if_pos h, if_pos hm]
      rw [he, if_pos rfl]
      have hdiv : L = L / szN n * szN n := by
        have h1 := Nat.div_add_mod L (szN n)
        have h2 : L % szN n = 0 := by
          rw [← hs, ← Int.natCast_emod] at hm; omega
        rw [Nat.mul_comm] at h1; omega
      exact (RWords_at hn (szN n) hs big a L cap (L / szN n) β w hL hdiv hβ HV.out).mono fun e w' ⟨v', h1, h2, h3⟩ => ⟨v', _, h1, by rw [← hs, Int.natCast_ediv], h2, h3⟩
    · have he : wdE L n = 3 := by unfold wdE; rw [if_pos h, if_neg hm]
      rw [he, if_neg (by decide)]
      have ht : decide ((0 : Int) < (L : Int) % szI n) = true := decide_eq_true (by have := Int.emod_nonneg (L : Int) (b := szI n) (by omega); omega)
      have ht2 : decide ((0 : Int) < (L : Int).tmod (szI n)) = true := decide_eq_true (by rw [Int.tmod_eq_emod_of_nonneg (by omega)]; have := Int.emod_nonneg (L : Int) (b := szI n) (by omega); omega)
      have HOK := Lib.hid h
      obtain ⟨s1, s2⟩ := hb
      have hs0 : ¬ szI n = 0 := by omega
      clear h hm he hn hs
      go_enter Try.func39, Try.ntmps39
      go_wp2_with fail
      refine (rValid_any _ _ _).mono ?_; rintro e w1 ⟨rfl, hf⟩
      rw [HOK.out]
      obtain ⟨c0, c1⟩ := Bx.fr (b := w.heap.size) (Bx.new _ _ _ _) hf
      go_wp2_with fail
      refine (rsize_any H.out _ _).mono ?_; rintro e w2 ⟨rfl, hf2⟩
      go_wp2_with fail
      go_ret2
      exact ⟨_, 0, rfl, rfl, SlV.nil _ _, (((Fr.refl w).alloc _).trans hf).trans hf2⟩
  · have he : wdE L n = 3 := by unfold wdE; rw [h]; rfl
    rw [he, if_neg (by decide)]
    have HOK := Lib.hid h
    clear h he
    go_enter Try.func39, Try.ntmps39
    go_wp2_with fail
    refine (rValid_any _ _ _).mono ?_; rintro e w1 ⟨rfl, hf⟩
    rw [HOK.out]
    go_wp2_with fail
    go_ret2
    exact ⟨_, 0, rfl, rfl, SlV.nil _ _, ((Fr.refl w).alloc _).trans hf⟩
end Go.Proofs.Ytflkcelgbnojaaa
