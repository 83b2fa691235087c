/- A word of a text that ends with the text or ahead of a blank: numbers and strings, as they are written, are told as these. Nothing here speaks of a program. -/
import Derived.Test.YtkkapgidddfdoaaDoorNB
import Derived.Test.YtkkapgidddfdoaaDoorY
namespace Go.Proofs.YtkkapgidddfdoaaDoor
open Go.RowKit
set_option linter.unusedVariables false

structure At (s : ByteArray) (a : Nat) (w : ByteArray) : Prop where
  lt : a + w.size ≤ s.size
  at_ : ∀ i, i < w.size → bt s (a + i) = bt w i
  en : a + w.size = s.size ∨ bt s (a + w.size) = 32
theorem At.out {s : ByteArray} {a : Nat} {w : ByteArray} (h : At s a w) {p : Nat → Bool} (hp : p 32 = false) : run p s (a + w.size) = a + w.size := by
  rcases h.en with e | e
  · exact run_end (by omega)
  · exact run_out (by rw [e]; exact hp)
theorem run_span {p : Nat → Bool} {s : ByteArray} : ∀ m a, a + m ≤ s.size → (∀ i, i < m → p (bt s (a + i)) = true) → run p s (a + m) = a + m → run p s a = a + m := by
  intro m
  induction m with
  | zero => intro a _ _ h; exact h
  | succ m ih =>
    intro a ha hp hr
    rw [run_inside (by omega) (by have := hp 0 (by omega); rwa [Nat.add_zero] at this)]
    have := ih (a + 1) (by omega) (fun i hi => by have := hp (i + 1) (by omega); rwa [show a + (i + 1) = a + 1 + i by omega] at this) (by rw [show a + 1 + m = a + (m + 1) by omega]; exact hr)
    rw [this]; omega
theorem bt_ofL (l : List Nat) (i : Nat) (hi : i < l.length) (h : l[i] < 256) : bt (ofL l) i = l[i] := by
  unfold bt ofL strOfNums
  simp [hi]
  omega
theorem At.ex {s : ByteArray} {a : Nat} {w : ByteArray} (h : At s a w) : s.extract a (a + w.size) = w := by
  refine bt_ext (by rw [ext_size _ _ _ h.lt]; omega) (fun i hi => ?_)
  rw [ext_size _ _ _ h.lt] at hi
  rw [ext_bt _ _ _ _ h.lt hi, h.at_ i (by omega)]
/-- The digits of a number, as a list of numbers. -/
theorem dec_lt10 {n : Nat} (h : n < 10) : dec n = ofL [48 + n] := by
  unfold dec
  rw [Lib.decDigits_one h]
  rfl
theorem dec_bt : ∀ n i, i < (dec n).size → 48 ≤ bt (dec n) i ∧ bt (dec n) i ≤ 57 := by
  intro n
  induction n using Nat.strongRecOn with
  | ind n ih =>
    intro i hi
    by_cases h : n < 10
    · rw [dec_lt10 h] at hi ⊢
      rw [ofL_size] at hi
      obtain rfl : i = 0 := by simpa using hi
      rw [bt_ofL _ _ (by simp) (by simp; omega)]
      simp; omega
    · have hd : Lib.decDigits n = Lib.decDigits (n / 10) ++ [UInt8.ofNat (48 + n % 10)] := by rw [Lib.decDigits, dif_neg h]
      unfold dec bt at *
      have hs : i < (Lib.decDigits n).length := by simpa [ByteArray.size] using hi
      rw [hd] at hs ⊢
      rw [List.length_append, List.length_singleton] at hs
      by_cases hl : i < (Lib.decDigits (n / 10)).length
      · have := ih (n / 10) (by omega) i (by simpa [ByteArray.size] using hl)
        simp only [Array.getD_eq_getD_getElem?, List.getElem?_toArray, List.getElem?_append_left hl] at this ⊢
        exact this
      · simp only [Array.getD_eq_getD_getElem?, List.getElem?_toArray]
        rw [List.getElem?_append_right (by omega), show i - (Lib.decDigits (n / 10)).length = 0 by omega]
        simp
        omega
theorem dec_size (n : Nat) : (dec n).size = (Lib.decDigits n).length := by unfold dec; simp [ByteArray.size]
theorem dec_pos (n : Nat) : 1 ≤ (dec n).size := by
  rw [dec_size, Lib.decDigits]
  split <;> simp
theorem dec_short : ∀ k n, 1 ≤ k → n < 10 ^ k → (dec n).size ≤ k := by
  intro k
  induction k with
  | zero => intro n h; omega
  | succ k ih =>
    intro n _ hn
    rw [dec_size, Lib.decDigits]
    split
    · simp
    · rename_i h
      rw [List.length_append, List.length_singleton, ← dec_size]
      by_cases hk : k = 0
      · subst hk; omega
      · have := ih (n / 10) (by omega) (by rw [Nat.div_lt_iff_lt_mul (by decide), ← Nat.pow_succ]; exact hn)
        omega
theorem dec_val (s : ByteArray) (a : Nat) : ∀ n, (∀ i, i < (dec n).size → bt s (a + i) = bt (dec n) i) → val 10 s a (dec n).size = n := by
  intro n
  induction n using Nat.strongRecOn with
  | ind n ih =>
    intro hb
    by_cases h : n < 10
    · rw [dec_lt10 h] at hb ⊢
      rw [ofL_size] at hb ⊢
      show val 10 s a 1 = n
      have := hb 0 (by simp)
      rw [bt_ofL _ _ (by simp) (by simp; omega)] at this
      rw [val, val, this]
      show 0 * 10 + dig (48 + n) = n
      unfold dig
      rw [if_pos (by omega)]; omega
    · have hd : Lib.decDigits n = Lib.decDigits (n / 10) ++ [UInt8.ofNat (48 + n % 10)] := by rw [Lib.decDigits, dif_neg h]
      have hs : (dec n).size = (dec (n / 10)).size + 1 := by rw [dec_size, dec_size, hd, List.length_append, List.length_singleton]
      have h1 : ∀ i, i < (dec (n / 10)).size → bt (dec n) i = bt (dec (n / 10)) i := fun i hi => by
        unfold dec bt
        rw [dec_size] at hi
        rw [hd]
        simp only [Array.getD_eq_getD_getElem?, List.getElem?_toArray, List.getElem?_append_left hi]
      have h2 : bt (dec n) (dec (n / 10)).size = 48 + n % 10 := by
        rw [dec_size]
        unfold dec bt
        rw [hd]
        simp only [Array.getD_eq_getD_getElem?, List.getElem?_toArray]
        rw [List.getElem?_append_right (Nat.le_refl _), Nat.sub_self]
        simp
        omega
      have h3 := ih (n / 10) (by omega) (fun i hi => by rw [hb i (by omega), h1 i hi])
      rw [hs, val, h3, hb _ (by omega), h2]
      unfold dig
      rw [if_pos (by omega)]
      omega
theorem hx_lt {d : Nat} (h : d < 16) : hx d < 256 := by unfold hx; split <;> omega
theorem hx_hex {d : Nat} (h : d < 16) : hexc (hx d) = true := by
  have : d = 0 ∨ d = 1 ∨ d = 2 ∨ d = 3 ∨ d = 4 ∨ d = 5 ∨ d = 6 ∨ d = 7 ∨ d = 8 ∨ d = 9 ∨ d = 10 ∨ d = 11 ∨ d = 12 ∨ d = 13 ∨ d = 14 ∨ d = 15 := by omega
  rcases this with rfl | rfl | rfl | rfl | rfl | rfl | rfl | rfl | rfl | rfl | rfl | rfl | rfl | rfl | rfl | rfl <;> rfl
theorem hx_dig {d : Nat} (h : d < 16) : dig (hx d) = d := by
  have : d = 0 ∨ d = 1 ∨ d = 2 ∨ d = 3 ∨ d = 4 ∨ d = 5 ∨ d = 6 ∨ d = 7 ∨ d = 8 ∨ d = 9 ∨ d = 10 ∨ d = 11 ∨ d = 12 ∨ d = 13 ∨ d = 14 ∨ d = 15 := by omega
  rcases this with rfl | rfl | rfl | rfl | rfl | rfl | rfl | rfl | rfl | rfl | rfl | rfl | rfl | rfl | rfl | rfl <;> rfl
theorem hex_bt (v i : Nat) (hi : i < 8) : bt (ofL (hex8 v)) i = hx (v / 16 ^ (7 - i) % 16) := by
  have hl : i < (hex8 v).length := by simpa [hex8] using hi
  have he : (hex8 v)[i] = hx (v / 16 ^ (7 - i) % 16) := by simp [hex8]
  rw [bt_ofL _ _ hl (by rw [he]; exact hx_lt (by omega)), he]
/-- What stands in front of no comment and is no blank. -/
def First (s : ByteArray) (a : Nat) : Prop := blank (bt s a) = false ∧ slash s a = false
theorem First.of {s : ByteArray} {a : Nat} (h1 : bt s a ≠ 32) (h2 : bt s a ≠ 9) (h3 : bt s a ≠ 10) (h4 : bt s a ≠ 47) : First s a :=
  ⟨decide_eq_false (by omega), decide_eq_false (fun h => h4 h.2.1)⟩
theorem num_tok {s : ByteArray} {a : Nat} {n : Int} (h0 : (num n).e = 0) (h : At s a (num n).t) :
    tokAt s a = ⟨2, nul, n, a + (num n).t.size, 0⟩ ∧ First s a ∧ 1 ≤ (num n).t.size ∧ (num n).t.size ≤ 10 := by
  unfold num at h0 h ⊢
  by_cases h1 : n < -2147483648 ∨ 2147483647 < n
  · rw [if_pos h1] at h0; simp at h0
  rw [if_neg h1] at h0 h ⊢
  by_cases hp : 0 ≤ n
  · rw [if_pos hp] at h0 h ⊢
    obtain ⟨m, rfl⟩ : ∃ m : Nat, n = m := ⟨n.toNat, by omega⟩
    rw [Int.toNat_natCast] at h ⊢
    simp only at h ⊢
    have hpos := dec_pos m
    have hsh := dec_short 10 m (by decide) (by omega)
    have hb : ∀ i, i < (dec m).size → digit (bt s (a + i)) = true := fun i hi => by
      rw [h.at_ i hi]
      have := dec_bt m i hi
      exact digit_yes this.1 this.2
    have hr := run_span (p := digit) (s := s) (dec m).size a h.lt hb (h.out rfl)
    have hv := dec_val s a m h.at_
    have h0 := dec_bt m 0 (by omega)
    rw [← h.at_ 0 (by omega), Nat.add_zero] at h0
    refine ⟨?_, First.of (by omega) (by omega) (by omega) (by omega), hpos, hsh⟩
    unfold tokAt
    rw [if_neg (by rw [small_no (by omega)]; decide), if_pos (digit_yes h0.1 h0.2)]
    unfold numT
    rw [hr, Nat.add_sub_cancel_left, hv, if_neg (by omega)]
  · rw [if_neg hp] at h0 h ⊢
    simp only at h ⊢
    obtain ⟨v, hv⟩ : ∃ v : Nat, v = (n + 4294967296).toNat := ⟨_, rfl⟩
    rw [← hv] at h ⊢
    have hsz : ((⟨#[35]⟩ : ByteArray) ++ ofL (hex8 v)).size = 9 := by rw [ByteArray.size_append, ofL_size]; rfl
    have hb0 : bt s a = 35 := by
      have := h.at_ 0 (by omega)
      rw [Nat.add_zero] at this
      rw [this]
      rfl
    have hb : ∀ i, i < 8 → bt s (a + 1 + i) = hx (v / 16 ^ (7 - i) % 16) := fun i hi => by
      have := h.at_ (1 + i) (by omega)
      rw [show a + (1 + i) = a + 1 + i by omega] at this
      rw [this, ← hex_bt v i hi]
      unfold bt
      congr 1
      simp only [ByteArray.data_append, Array.getD_eq_getD_getElem?]
      rw [Array.getElem?_append_right (by simp)]
      simp
    have hlt := h.lt
    have hout := h.out (p := hexc) rfl
    rw [hsz] at hlt hout ⊢
    have hr : run hexc s (a + 1) = a + 9 := by
      have := run_span (p := hexc) (s := s) 8 (a + 1) (by omega) (fun i hi => by rw [hb i hi]; exact hx_hex (by omega)) (by rw [show a + 1 + 8 = a + 9 by omega]; exact hout)
      rw [this]
    have hval : val 16 s (a + 1) 8 = v := by
      have e : ∀ i, i < 8 → dig (bt s (a + 1 + i)) = v / 16 ^ (7 - i) % 16 := fun i hi => by rw [hb i hi, hx_dig (by omega)]
      have e0 := e 0 (by omega)
      have e1 := e 1 (by omega)
      have e2 := e 2 (by omega)
      have e3 := e 3 (by omega)
      have e4 := e 4 (by omega)
      have e5 := e 5 (by omega)
      have e6 := e 6 (by omega)
      have e7 := e 7 (by omega)
      simp only [val, e0, e1, e2, e3, e4, e5, e6, e7]
      omega
    refine ⟨?_, First.of (by omega) (by omega) (by omega) (by omega), by omega, by omega⟩
    unfold tokAt
    rw [hb0, if_neg (by decide), if_neg (by decide), if_pos rfl]
    unfold hexT
    rw [hr, if_neg (by omega), show a + 9 - (a + 1) = 8 by omega, hval, if_neg (by omega)]
    unfold sg
    rw [if_pos (by omega)]
    congr 1
    omega
/-- The list of a text's bytes from a place on. -/
def tl (t : ByteArray) (k : Nat) : List Nat := (List.range (t.size - k)).map fun i => bt t (k + i)
theorem tl_end (t : ByteArray) : tl t t.size = [] := by unfold tl; rw [Nat.sub_self]; rfl
theorem tl_step (t : ByteArray) (k : Nat) (h : k < t.size) : tl t k = bt t k :: tl t (k + 1) := by
  unfold tl
  rw [show t.size - k = (t.size - (k + 1)) + 1 by omega, List.range_succ_eq_map, List.map_cons, List.map_map]
  congr 1
  apply List.map_congr_left
  intro i _
  show bt t (k + (i + 1)) = _
  congr 1
  omega
theorem tl_all (t : ByteArray) : ofL (tl t 0) = t := by
  refine bt_ext (by rw [ofL_size]; simp [tl]) (fun i hi => ?_)
  rw [ofL_size] at hi
  have e : (tl t 0)[i] = bt t i := by simp [tl]
  rw [bt_ofL _ _ hi (by rw [e]; exact bt_lt _ _), e]
theorem qk_pre (t : ByteArray) (k : Nat) : ∀ m, k ≤ m → qk t k <+: qk t m := by
  intro m
  induction m with
  | zero => intro h; obtain rfl : k = 0 := (by omega); exact List.prefix_rfl
  | succ m ih =>
    intro h
    by_cases e : k = m + 1
    · rw [e]; exact List.prefix_rfl
    · rw [qk]
      exact (ih (by omega)).trans (List.prefix_append _ _)
theorem eo_esc {c : Nat} (h : eOk c = true) : esc (eo c) = c ∧ escOk (eo c) = true ∧ eo c < 256 := by
  have := of_decide_eq_true h
  rcases this with rfl | rfl | rfl | rfl <;> exact ⟨rfl, rfl, by decide⟩
theorem qk_at {t : ByteArray} {k : Nat} (hk : k < t.size) {j : Nat} (hj : j < (eq1 (bt t k)).length) : ∃ h : (qk t k).length + j < (qk t t.size ++ [34]).length, (qk t t.size ++ [34])[(qk t k).length + j] = (eq1 (bt t k))[j] := by
  have hp := (qk_pre t (k + 1) t.size (by omega)).trans (List.prefix_append _ [34])
  obtain ⟨r, hr⟩ := hp
  have hl : (qk t k).length + j < (qk t (k + 1)).length := by rw [qk, List.length_append]; omega
  refine ⟨by rw [← hr, List.length_append]; omega, ?_⟩
  simp only [← hr]
  rw [List.getElem_append_left hl]
  simp only [qk]
  rw [List.getElem_append_right (by omega)]
  congr 1
  omega
theorem str_go {s t : ByteArray} {a : Nat} (hall : ∀ i, i < t.size → okq (bt t i) = true) (h : At s a (ofL (qk t t.size ++ [34]))) :
    ∀ n k, n = t.size - k → k ≤ t.size → strO s (a + (qk t k).length) = some (tl t k, a + (qk t t.size).length) := by
  have hsz : (ofL (qk t t.size ++ [34])).size = (qk t t.size).length + 1 := by rw [ofL_size, List.length_append]; rfl
  have hlt := h.lt
  rw [hsz] at hlt
  have hle : ∀ k, k ≤ t.size → (qk t k).length ≤ (qk t t.size).length := fun k hk => (qk_pre t k t.size hk).length_le
  intro n
  induction n with
  | zero =>
    intro k hn hk
    obtain rfl : k = t.size := by omega
    have hb : bt s (a + (qk t t.size).length) = 34 := by
      rw [h.at_ _ (by omega), bt_ofL _ _ (by simp) (by simp)]
      simp
    rw [strO_end (decide_eq_true ⟨by omega, hb⟩), tl_end]
  | succ n ih =>
    intro k hn hk
    have hkl : k < t.size := by omega
    have hih := ih (k + 1) (by omega) (by omega)
    have hl1 := hle (k + 1) (by omega)
    rw [tl_step t k hkl]
    obtain ⟨c, hc⟩ : ∃ c, c = bt t k := ⟨_, rfl⟩
    have hc256 : c < 256 := by rw [hc]; exact bt_lt _ _
    have hok := hall k hkl
    have hq : qk t (k + 1) = qk t k ++ eq1 (bt t k) := rfl
    have hb : ∀ j (hj : j < (eq1 (bt t k)).length), (eq1 (bt t k))[j] < 256 → bt s (a + (qk t k).length + j) = (eq1 (bt t k))[j] := fun j hj hv => by
      obtain ⟨h1, h2⟩ := qk_at hkl hj
      rw [show a + (qk t k).length + j = a + ((qk t k).length + j) by omega, h.at_ _ (by rw [ofL_size]; exact h1), bt_ofL _ _ h1 (by rw [h2]; exact hv), h2]
    rw [hq, List.length_append] at hl1 hih
    rw [← hc] at hok hb hl1 hih ⊢
    cases he : eOk c with
    | true =>
      obtain ⟨e1, e2, e3⟩ := eo_esc he
      have hq1 : eq1 c = [42, eo c] := by unfold eq1; rw [if_pos he]
      rw [hq1] at hl1 hih
      have hb0 : bt s (a + (qk t k).length) = 42 := by
        have := hb 0 (by rw [hq1]; simp) (by simp [hq1])
        simpa [hq1] using this
      have hb1 : bt s (a + (qk t k).length + 1) = eo c := by
        have := hb 1 (by rw [hq1]; simp) (by simp [hq1]; exact e3)
        simpa [hq1] using this
      have hl2 : ([42, eo c] : List Nat).length = 2 := rfl
      rw [hl2] at hl1 hih
      have hins : ins s (a + (qk t k).length) 34 = ⟨c, a + (qk t k).length + 2, true⟩ := by
        unfold ins
        rw [if_neg (by omega), if_pos hb0, if_neg (by omega), hb1, e1, e2]
      rw [strO_step (decide_eq_false (by omega)) (by rw [hins]), hins]
      simp only
      rw [show a + (qk t k).length + 2 = a + ((qk t k).length + 2) by omega, hih]
      rfl
    | false =>
      have hpl : plain c = true := by
        unfold okq at hok; rw [he] at hok; simpa using hok
      have hne : c ≠ 42 ∧ c ≠ 34 := by
        have := of_decide_eq_false he; omega
      have hq1 : eq1 c = [c] := by unfold eq1; rw [if_neg (by rw [he]; decide)]
      rw [hq1] at hl1 hih
      have hb0 : bt s (a + (qk t k).length) = c := by
        have := hb 0 (by rw [hq1]; simp) (by simp [hq1]; exact hc256)
        simpa [hq1] using this
      have hl2 : ([c] : List Nat).length = 1 := rfl
      rw [hl2] at hl1 hih
      have hins : ins s (a + (qk t k).length) 34 = ⟨c, a + (qk t k).length + 1, true⟩ := by
        unfold ins
        rw [if_neg (by omega), if_neg (by omega), hb0, hpl]
        simp [hne.2]
      rw [strO_step (decide_eq_false (by omega)) (by rw [hins]), hins]
      simp only
      rw [show a + (qk t k).length + 1 = a + ((qk t k).length + 1) by omega, hih]
      rfl
theorem quo_tok {s t : ByteArray} {a : Nat} (h0 : (quo t).e = 0) (h : At s a (quo t).t) :
    tokAt s a = ⟨3, t, 0, a + (quo t).t.size, 0⟩ ∧ First s a ∧ 1 ≤ (quo t).t.size ∧ (quo t).t.size ≤ 202 := by
  have hr : run okq t 0 = t.size := by
    have := run_bd okq t _ 0 rfl (Nat.zero_le _)
    unfold quo at h0
    by_cases hc : run okq t 0 < t.size
    · rw [if_pos hc] at h0; simp at h0
    · omega
  have h100 : ¬ 100 < t.size := by
    intro hc
    unfold quo at h0
    rw [if_neg (by omega), if_pos hc] at h0
    simp at h0
  have hq : (quo t).t = ofL (qk t t.size ++ [34]) := by unfold quo; rw [if_neg (by omega), if_neg h100]
  rw [hq] at h ⊢
  have hall : ∀ i, i < t.size → okq (bt t i) = true := fun i hi => (run_all okq t _ 0 rfl (Nat.zero_le _)).1 hr i (Nat.zero_le _) hi
  have hgo := str_go hall h _ 0 rfl (Nat.zero_le _)
  have hsz : (ofL (qk t t.size ++ [34])).size = (qk t t.size).length + 1 := by rw [ofL_size, List.length_append]; rfl
  have hlen := qk_len t t.size
  have hb0 : bt s a = 34 := by
    have := h.at_ 0 (by omega)
    rw [Nat.add_zero] at this
    obtain ⟨r, hr⟩ := qk_pre t 0 t.size (Nat.zero_le _)
    have e : (qk t t.size ++ [34])[0]'(by simp) = 34 := by
      simp only [← hr]
      rfl
    rw [this, bt_ofL _ _ (by simp) (by rw [e]; decide), e]
  refine ⟨?_, First.of (by omega) (by omega) (by omega) (by omega), by omega, by omega⟩
  unfold tokAt
  rw [hb0, if_neg (by decide), if_neg (by decide), if_neg (by decide), if_neg (by decide), if_pos rfl]
  unfold strT
  have h1 : (qk t 0).length = 1 := rfl
  rw [h1] at hgo
  rw [hgo]
  have hl : (tl t 0).length = t.size := by simp [tl]
  simp only
  rw [if_neg (by omega), tl_all, hsz]
  rfl
/-- A text that is one word. -/
theorem scan_one {s : ByteArray} {k : Nat} {t : ByteArray} {n : Int} (h : tokAt s 0 = ⟨k, t, n, s.size, 0⟩) (hf : First s 0) (h1 : 1 ≤ s.size) (h4 : s.size ≤ 40000) :
    scan s = ⟨[⟨k, t, n, 0⟩, ⟨0, nul, 0, s.size⟩], 0, 0⟩ := by
  unfold scan
  rw [if_neg (by omega), skp_self hf.1 hf.2, scG_step (by omega) (by rw [h]) (by simp), h]
  have he : skp s s.size = s.size := by
    have e := run_end (p := blank) (s := s) (i := s.size) (Nat.le_refl _)
    rw [skp_stop (by rw [e]; exact decide_eq_false (by omega)), e]
  rw [show skp s (Tk.e ⟨k, t, n, s.size, 0⟩) = s.size from he, scG_end (by omega) (by simp)]
  rfl
theorem At.self (s : ByteArray) : At s 0 s := ⟨by omega, fun i _ => by rw [Nat.zero_add], Or.inl (Nat.zero_add _)⟩
theorem scan_num {n : Int} (h0 : (num n).e = 0) : scan (num n).t = ⟨[⟨2, nul, n, 0⟩, ⟨0, nul, 0, (num n).t.size⟩], 0, 0⟩ := by
  obtain ⟨h1, h2, h3, h4⟩ := num_tok h0 (At.self _)
  exact scan_one (by rw [h1, Nat.zero_add]) h2 h3 (by omega)
theorem scan_quo {t : ByteArray} (h0 : (quo t).e = 0) : scan (quo t).t = ⟨[⟨3, t, 0, 0⟩, ⟨0, nul, 0, (quo t).t.size⟩], 0, 0⟩ := by
  obtain ⟨h1, h2, h3, h4⟩ := quo_tok h0 (At.self _)
  exact scan_one (by rw [h1, Nat.zero_add]) h2 h3 (by omega)
end Go.Proofs.YtkkapgidddfdoaaDoor
